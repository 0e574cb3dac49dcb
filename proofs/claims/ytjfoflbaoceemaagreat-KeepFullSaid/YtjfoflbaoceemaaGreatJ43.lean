/- . -/
import Derived.Test.YtjfoflbaoceemaaGreatJ41
import Derived.Test.YtjfoflbaoceemaaGreatJ42
import Derived.Test.YtjfoflbaoceemaaGreatJ08
set_option maxRecDepth 4000
namespace Go.Proofs.YtjfoflbaoceemaaGreat
open Go.RowKit
theorem ob_done {low : Bool} {r' r : Rd} {ys1 : List Rw} {ys2 ys3 : List Mg} (hs : Sim low r' r) (hv4 : (cntR rowR (headR r)).bad = false → ys1.map id = cntL rowV rowR (headR r)) (hv5 : (cntR Rd.msgR (cntR rowR (headR r))).bad = false → ys2.map id = cntL Rd.msg Rd.msgR (cntR rowR (headR r)))
    (hv6 : (cntR Rd.msgR (cntR Rd.msgR (cntR rowR (headR r)))).bad = false → ys3.map id = cntL Rd.msg Rd.msgR (cntR Rd.msgR (cntR rowR (headR r)))) (hb : (deadR r).bad = false) : (⟨⟨r'.text.1.toArray⟩, r'.text.2.int.1, r'.text.2.int.2.int.1, ys1, ys2, ys3⟩ : Ob) = obV r := by
  have h3 := dead_ok hb
  have h2 := msgs_ok h3
  have h1 := rows_ok h2
  have h0 : r.bad = false := by
    cases e : r.bad
    · rfl
    · rw [headR_sticky r e] at h1; cases h1
  obtain ⟨_, rfl⟩ := hs.eq h0
  have e1 := hv4 h2
  have e2 := hv5 h3
  have e3 := hv6 hb
  rw [List.map_id] at e1 e2 e3
  rw [e1, e2, e3]
  rfl
theorem cells_six {w : World} {g : Nat} {T : TypeId} {a b c d e f : Value} (h : Blk w g T #[a, b, c, d, e, f]) : w.cell? ⟨g, 0, none⟩ = some a ∧ w.cell? ⟨g, 1, none⟩ = some b ∧ w.cell? ⟨g, 2, none⟩ = some c ∧ w.cell? ⟨g, 3, none⟩ = some d ∧ w.cell? ⟨g, 4, none⟩ = some e ∧ w.cell? ⟨g, 5, none⟩ = some f :=
  ⟨h.cell 0, h.cell 1, h.cell 2, h.cell 3, h.cell 4, h.cell 5⟩
theorem cg_six {w wk : World} {T : TypeId} {cs : Array Value} {G g B : Nat} {low : Bool} {r : Rd} (h : RY w T cs G g B low r wk) (a b c d e f : Value) : CG G g ((((((wk.setCell ⟨w.heap.size, 0, none⟩ a).setCell ⟨w.heap.size, 1, none⟩ b).setCell ⟨w.heap.size, 2, none⟩ c).setCell ⟨w.heap.size, 3, none⟩ d).setCell ⟨w.heap.size, 4, none⟩ e).setCell ⟨w.heap.size, 5, none⟩ f) :=
  (h.done (below_six (Below.refl _ _) (Nat.le_refl _) a b c d e f)).1.cells.1
set_option maxHeartbeats 8000000 in
theorem object_ok : ElemOk 128 Oc.val Oc.o OcK obV deadR := by
  intro W G g B low r' r h hs
  have H0 := ShutL2.mk (RY.first h 77 #[.string ⟨#[]⟩, .int .i64 0, .int .i64 0, .slice none 0 0, .slice none 0 0, .slice none 0 0]).drew
  have HS := ShutL2.mk hs
  have HSH := ShutL2.mk (hs.map (s := headR) headR_sticky)
  have HG := ShutL2.mk (got_head r')
  have hS0 : ShutL2 (CG G g (W.alloc (.cells #[.string ⟨#[]⟩, .int .i64 0, .int .i64 0, .slice none 0 0, .slice none 0 0, .slice none 0 0] 77)).drew) := ⟨H0.out.rx.cells.1⟩
  clear h hs
  go_enter Tryz.func128, Tryz.ntmps128
  go_wp2_with fail
  refine wp_region_noPanic ?_
  refine wp_region_held_drew (S := fun W : World => CG G g W) (by kernel_rfl) hS0.out (fun _ => ?_)
  refine wpAnyH_take (i := 0) (oi := { dst := some 3, op := Op.move (Operand.tmp 0), type := 180, pos := "read.go:29", after := #[], guard := none }) (v := .pointer (some ⟨G, 0, none⟩)) rfl (by kernel_rfl) (by kernel_rfl) (by kernel_rfl) (fun _ _ _ h => h) (Or.inl ⟨by rfl, ?_⟩) hS0.out ?_
  · intro W hSw; clear hSw; go_simp
  try simp only [Act.put, zA1, zA2, zA3]
  refine wpAnyH_take (i := 1) (oi := { dst := some 4, op := Op.nilCheck (Operand.tmp 3), type := 0, pos := "read.go:29", after := #[{ on := 0, ground := Ground.data }], guard := none }) (v := .pointer (some ⟨G, 0, none⟩)) rfl (by kernel_rfl) (by kernel_rfl) (by kernel_rfl) (fun _ _ _ h => h) (Or.inl ⟨by rfl, ?_⟩) hS0.out ?_
  · intro W hSw; clear hSw; go_simp
  try simp only [Act.put, zA1, zA2, zA3]
  refine wpAnyH_take (i := 2) (oi := { dst := some 5, op := Op.fieldAddr 184 (Operand.tmp 4) 0, type := 0, pos := "read.go:29", after := #[{ on := 1, ground := Ground.data }], guard := none }) (v := .pointer (some ⟨G, 0, none⟩)) rfl (by kernel_rfl) (by kernel_rfl) (by kernel_rfl) (fun _ _ _ h => h) (Or.inl ⟨by rfl, ?_⟩) hS0.out ?_
  · intro W hSw; clear hSw; go_simp
  try simp only [Act.put, zA1, zA2, zA3]
  refine wpAnyH_take (i := 3) (oi := { dst := some 6, op := Op.load 181 (Operand.tmp 5), type := 181, pos := "read.go:29", after := #[{ on := 2, ground := Ground.data }], guard := none }) (v := .pointer (some ⟨g, 0, none⟩)) rfl (by kernel_rfl) (by kernel_rfl) (by kernel_rfl) (fun _ _ _ h => h) (Or.inl ⟨by rfl, ?_⟩) hS0.out ?_
  · intro W hSw; have hc : W.cell? ⟨G, 0, none⟩ = some (.pointer (some ⟨g, 0, none⟩)) := hSw; clear hSw; go_simp
  try simp only [Act.put, zA1, zA2, zA3]
  refine wpAnyH_take (i := 5) (oi := { dst := some 8, op := Op.move (Operand.tmp 0), type := 180, pos := "read.go:29", after := #[], guard := none }) (v := .pointer (some ⟨G, 0, none⟩)) rfl (by kernel_rfl) (by kernel_rfl) (by kernel_rfl) (fun _ _ _ h => h) (Or.inl ⟨by rfl, ?_⟩) hS0.out ?_
  · intro W hSw; clear hSw; go_simp
  try simp only [Act.put, zA1, zA2, zA3]
  refine wpAnyH_take (i := 6) (oi := { dst := some 9, op := Op.nilCheck (Operand.tmp 8), type := 0, pos := "read.go:29", after := #[{ on := 5, ground := Ground.data }], guard := none }) (v := .pointer (some ⟨G, 0, none⟩)) rfl (by kernel_rfl) (by kernel_rfl) (by kernel_rfl) (fun _ _ _ h => h) (Or.inl ⟨by rfl, ?_⟩) hS0.out ?_
  · intro W hSw; clear hSw; go_simp
  try simp only [Act.put, zA1, zA2, zA3]
  refine wpAnyH_take (i := 7) (oi := { dst := some 10, op := Op.fieldAddr 184 (Operand.tmp 9) 0, type := 0, pos := "read.go:29", after := #[{ on := 6, ground := Ground.data }], guard := none }) (v := .pointer (some ⟨G, 0, none⟩)) rfl (by kernel_rfl) (by kernel_rfl) (by kernel_rfl) (fun _ _ _ h => h) (Or.inl ⟨by rfl, ?_⟩) hS0.out ?_
  · intro W hSw; clear hSw; go_simp
  try simp only [Act.put, zA1, zA2, zA3]
  refine wpAnyH_take (i := 8) (oi := { dst := some 11, op := Op.load 181 (Operand.tmp 10), type := 181, pos := "read.go:29", after := #[{ on := 7, ground := Ground.data }], guard := none }) (v := .pointer (some ⟨g, 0, none⟩)) rfl (by kernel_rfl) (by kernel_rfl) (by kernel_rfl) (fun _ _ _ h => h) (Or.inl ⟨by rfl, ?_⟩) hS0.out ?_
  · intro W hSw; have hc : W.cell? ⟨G, 0, none⟩ = some (.pointer (some ⟨g, 0, none⟩)) := hSw; clear hSw; go_simp
  try simp only [Act.put, zA1, zA2, zA3]
  refine wpAnyH_take (i := 10) (oi := { dst := some 13, op := Op.move (Operand.tmp 0), type := 180, pos := "read.go:29", after := #[], guard := none }) (v := .pointer (some ⟨G, 0, none⟩)) rfl (by kernel_rfl) (by kernel_rfl) (by kernel_rfl) (fun _ _ _ h => h) (Or.inl ⟨by rfl, ?_⟩) hS0.out ?_
  · intro W hSw; clear hSw; go_simp
  try simp only [Act.put, zA1, zA2, zA3]
  refine wpAnyH_take (i := 11) (oi := { dst := some 14, op := Op.nilCheck (Operand.tmp 13), type := 0, pos := "read.go:29", after := #[{ on := 10, ground := Ground.data }], guard := none }) (v := .pointer (some ⟨G, 0, none⟩)) rfl (by kernel_rfl) (by kernel_rfl) (by kernel_rfl) (fun _ _ _ h => h) (Or.inl ⟨by rfl, ?_⟩) hS0.out ?_
  · intro W hSw; clear hSw; go_simp
  try simp only [Act.put, zA1, zA2, zA3]
  refine wpAnyH_take (i := 12) (oi := { dst := some 15, op := Op.fieldAddr 184 (Operand.tmp 14) 0, type := 0, pos := "read.go:29", after := #[{ on := 11, ground := Ground.data }], guard := none }) (v := .pointer (some ⟨G, 0, none⟩)) rfl (by kernel_rfl) (by kernel_rfl) (by kernel_rfl) (fun _ _ _ h => h) (Or.inl ⟨by rfl, ?_⟩) hS0.out ?_
  · intro W hSw; clear hSw; go_simp
  try simp only [Act.put, zA1, zA2, zA3]
  refine wpAnyH_take (i := 13) (oi := { dst := some 16, op := Op.load 181 (Operand.tmp 15), type := 181, pos := "read.go:29", after := #[{ on := 12, ground := Ground.data }], guard := none }) (v := .pointer (some ⟨g, 0, none⟩)) rfl (by kernel_rfl) (by kernel_rfl) (by kernel_rfl) (fun _ _ _ h => h) (Or.inl ⟨by rfl, ?_⟩) hS0.out ?_
  · intro W hSw; have hc : W.cell? ⟨G, 0, none⟩ = some (.pointer (some ⟨g, 0, none⟩)) := hSw; clear hSw; go_simp
  try simp only [Act.put, zA1, zA2, zA3]
  refine wpAnyH_take (i := 15) (oi := { dst := some 18, op := Op.move (Operand.tmp 0), type := 180, pos := "read.go:29", after := #[], guard := none }) (v := .pointer (some ⟨G, 0, none⟩)) rfl (by kernel_rfl) (by kernel_rfl) (by kernel_rfl) (fun _ _ _ h => h) (Or.inl ⟨by rfl, ?_⟩) hS0.out ?_
  · intro W hSw; clear hSw; go_simp
  try simp only [Act.put, zA1, zA2, zA3]
  refine wpAnyH_take (i := 16) (oi := { dst := some 19, op := Op.move (Operand.tmp 0), type := 180, pos := "read.go:29", after := #[], guard := none }) (v := .pointer (some ⟨G, 0, none⟩)) rfl (by kernel_rfl) (by kernel_rfl) (by kernel_rfl) (fun _ _ _ h => h) (Or.inl ⟨by rfl, ?_⟩) hS0.out ?_
  · intro W hSw; clear hSw; go_simp
  try simp only [Act.put, zA1, zA2, zA3]
  refine wpAnyH_take (i := 17) (oi := { dst := some 20, op := Op.makeFunc (Fn.func 179) #[Operand.tmp 19] #[], type := 230, pos := "read.go:29", after := #[{ on := 16, ground := Ground.data }], guard := none }) (v := .func (.func 179) #[.pointer (some ⟨G, 0, none⟩)] #[]) rfl (by kernel_rfl) (by kernel_rfl) (by kernel_rfl) (fun _ _ _ h => h) (Or.inl ⟨by rfl, ?_⟩) hS0.out ?_
  · intro W hSw; clear hSw; simp [go_sem, Instr.makeFunc]
  try simp only [Act.put, zA1, zA2, zA3]
  refine wpAnyH_take (i := 19) (oi := { dst := some 22, op := Op.move (Operand.tmp 0), type := 180, pos := "read.go:29", after := #[], guard := none }) (v := .pointer (some ⟨G, 0, none⟩)) rfl (by kernel_rfl) (by kernel_rfl) (by kernel_rfl) (fun _ _ _ h => h) (Or.inl ⟨by rfl, ?_⟩) hS0.out ?_
  · intro W hSw; clear hSw; go_simp
  try simp only [Act.put, zA1, zA2, zA3]
  refine wpAnyH_take (i := 20) (oi := { dst := some 23, op := Op.move (Operand.tmp 0), type := 180, pos := "read.go:29", after := #[], guard := none }) (v := .pointer (some ⟨G, 0, none⟩)) rfl (by kernel_rfl) (by kernel_rfl) (by kernel_rfl) (fun _ _ _ h => h) (Or.inl ⟨by rfl, ?_⟩) hS0.out ?_
  · intro W hSw; clear hSw; go_simp
  try simp only [Act.put, zA1, zA2, zA3]
  refine wpAnyH_take (i := 21) (oi := { dst := some 24, op := Op.makeFunc (Fn.func 181) #[Operand.tmp 23] #[], type := 232, pos := "read.go:29", after := #[{ on := 20, ground := Ground.data }], guard := none }) (v := .func (.func 181) #[.pointer (some ⟨G, 0, none⟩)] #[]) rfl (by kernel_rfl) (by kernel_rfl) (by kernel_rfl) (fun _ _ _ h => h) (Or.inl ⟨by rfl, ?_⟩) hS0.out ?_
  · intro W hSw; clear hSw; simp [go_sem, Instr.makeFunc]
  try simp only [Act.put, zA1, zA2, zA3]
  refine wpAnyH_take (i := 23) (oi := { dst := some 26, op := Op.move (Operand.tmp 0), type := 180, pos := "read.go:29", after := #[], guard := none }) (v := .pointer (some ⟨G, 0, none⟩)) rfl (by kernel_rfl) (by kernel_rfl) (by kernel_rfl) (fun _ _ _ h => h) (Or.inl ⟨by rfl, ?_⟩) hS0.out ?_
  · intro W hSw; clear hSw; go_simp
  try simp only [Act.put, zA1, zA2, zA3]
  refine wpAnyH_take (i := 24) (oi := { dst := some 27, op := Op.move (Operand.tmp 0), type := 180, pos := "read.go:29", after := #[], guard := none }) (v := .pointer (some ⟨G, 0, none⟩)) rfl (by kernel_rfl) (by kernel_rfl) (by kernel_rfl) (fun _ _ _ h => h) (Or.inl ⟨by rfl, ?_⟩) hS0.out ?_
  · intro W hSw; clear hSw; go_simp
  try simp only [Act.put, zA1, zA2, zA3]
  refine wpAnyH_take (i := 25) (oi := { dst := some 28, op := Op.makeFunc (Fn.func 181) #[Operand.tmp 27] #[], type := 232, pos := "read.go:29", after := #[{ on := 24, ground := Ground.data }], guard := none }) (v := .func (.func 181) #[.pointer (some ⟨G, 0, none⟩)] #[]) rfl (by kernel_rfl) (by kernel_rfl) (by kernel_rfl) (fun _ _ _ h => h) (Or.inl ⟨by rfl, ?_⟩) hS0.out ?_
  · intro W hSw; clear hSw; simp [go_sem, Instr.makeFunc]
  try simp only [Act.put, zA1, zA2, zA3]
  refine wpAnyH_1 (i := 4) (by kernel_rfl) (wpOp_call (o := { dst := some 7, op := Op.call { callee := Callee.value (Operand.func 177), args := #[Operand.tmp 6], argTypes := #[181] }, type := 9, pos := "read.go:30", after := #[{ on := 3, ground := Ground.data }], guard := none }) (f := 177) rfl (by rfl) (by go_simp) ((rdText _ _ _ _ H0.out.rx.rd).mono ?_))
  rintro e w1 ⟨rfl, hr1, hk1⟩
  have H1 := ShutL2.mk (H0.out.read hr1 hk1 (got_text _).le)
  have hS1 : ShutL2 (CG G g w1) := ⟨H1.out.rx.cells.1⟩
  clear hr1 hk1
  refine ⟨_, rfl, hS1.out, ?_⟩
  try simp only [Act.put, zA1, zA2, zA3]
  refine wpAnyH_1 (i := 9) (by kernel_rfl) (wpOp_call (o := { dst := some 12, op := Op.call { callee := Callee.value (Operand.func 126), args := #[Operand.tmp 11], argTypes := #[181] }, type := 3, pos := "read.go:31", after := #[{ on := 8, ground := Ground.data }, { on := 4, ground := Ground.chain }], guard := none }) (f := 126) rfl (by rfl) (by go_simp) ((rdInt _ _ _ _ H1.out.rx.rd).mono ?_))
  rintro e w2 ⟨rfl, hr2, hk2⟩
  have H2 := ShutL2.mk (H1.out.read hr2 hk2 (got_int _).le)
  have hS2 : ShutL2 (CG G g w2) := ⟨H2.out.rx.cells.1⟩
  clear hr2 hk2
  refine ⟨_, rfl, hS2.out, ?_⟩
  try simp only [Act.put, zA1, zA2, zA3]
  refine wpAnyH_1 (i := 14) (by kernel_rfl) (wpOp_call (o := { dst := some 17, op := Op.call { callee := Callee.value (Operand.func 126), args := #[Operand.tmp 16], argTypes := #[181] }, type := 3, pos := "read.go:32", after := #[{ on := 13, ground := Ground.data }, { on := 9, ground := Ground.chain }], guard := none }) (f := 126) rfl (by rfl) (by go_simp) ((rdInt _ _ _ _ H2.out.rx.rd).mono ?_))
  rintro e w3 ⟨rfl, hr3, hk3⟩
  have H3 := ShutL2.mk (H2.out.read hr3 hk3 (got_int _).le)
  have hS3 : ShutL2 (CG G g w3) := ⟨H3.out.rx.cells.1⟩
  clear hr3 hk3
  refine ⟨_, rfl, hS3.out, ?_⟩
  try simp only [Act.put, zA1, zA2, zA3]
  refine wpAnyH_1 (i := 18) (by kernel_rfl) (wpOp_call (o := { dst := some 21, op := Op.call { callee := Callee.value (Operand.func 178), args := #[Operand.tmp 18, Operand.tmp 20], argTypes := #[180, 230] }, type := 74, pos := "read.go:33", after := #[{ on := 15, ground := Ground.data }, { on := 17, ground := Ground.data }, { on := 14, ground := Ground.chain }], guard := none }) (f := 178) rfl (by rfl) (by go_simp) ((list_r row_ok H3.out.rx HSH.out).mono ?_))
  rintro e w4 ⟨⟨sa4, sn4, sc4⟩, ys4, lw4, r4, rfl, hsl4, -, hx4, hs4, hv4, hk4, hg4⟩
  have H4 := ShutL2.mk (H3.out.call hk4 hx4)
  have hS4 : ShutL2 (CG G g w4) := ⟨H4.out.rx.cells.1⟩
  have HS4 := ShutL2.mk hs4
  have HV4 := ShutL2.mk hv4
  have HSL4 := ShutL2.mk hsl4
  have HK4 := ShutL2.mk hk4
  have HG4 := ShutL2.mk hg4
  clear hsl4 hx4 hs4 hv4 hk4 hg4
  refine ⟨_, rfl, hS4.out, ?_⟩
  try simp only [Act.put, zA1, zA2, zA3]
  refine wpAnyH_1 (i := 22) (by kernel_rfl) (wpOp_call (o := { dst := some 25, op := Op.call { callee := Callee.value (Operand.func 180), args := #[Operand.tmp 22, Operand.tmp 24], argTypes := #[180, 232] }, type := 75, pos := "read.go:34", after := #[{ on := 19, ground := Ground.data }, { on := 21, ground := Ground.data }, { on := 18, ground := Ground.chain }], guard := none }) (f := 180) rfl (by rfl) (by go_simp) ((list_m msg_ok H4.out.rx HS4.out).mono ?_))
  rintro e w5 ⟨⟨sa5, sn5, sc5⟩, ys5, lw5, r5, rfl, hsl5, -, hx5, hs5, hv5, hk5, hg5⟩
  have H5 := ShutL2.mk (H4.out.call hk5 hx5)
  have hS5 : ShutL2 (CG G g w5) := ⟨H5.out.rx.cells.1⟩
  have HS5 := ShutL2.mk hs5
  have HV5 := ShutL2.mk hv5
  have HSL5 := ShutL2.mk hsl5
  have HK5 := ShutL2.mk hk5
  have HG5 := ShutL2.mk hg5
  clear hsl5 hx5 hs5 hv5 hk5 hg5
  refine ⟨_, rfl, hS5.out, ?_⟩
  try simp only [Act.put, zA1, zA2, zA3]
  refine wpAnyH_1 (i := 26) (by kernel_rfl) (wpOp_call (o := { dst := some 29, op := Op.call { callee := Callee.value (Operand.func 180), args := #[Operand.tmp 26, Operand.tmp 28], argTypes := #[180, 232] }, type := 75, pos := "read.go:35", after := #[{ on := 23, ground := Ground.data }, { on := 25, ground := Ground.data }, { on := 22, ground := Ground.chain }], guard := none }) (f := 180) rfl (by rfl) (by go_simp) ((list_m msg_ok H5.out.rx HS5.out).mono ?_))
  rintro e w6 ⟨⟨sa6, sn6, sc6⟩, ys6, lw6, r6, rfl, hsl6, -, hx6, hs6, hv6, hk6, hg6⟩
  have H6 := ShutL2.mk (H5.out.call hk6 hx6)
  have hS6 : ShutL2 (CG G g w6) := ⟨H6.out.rx.cells.1⟩
  have HS6 := ShutL2.mk hs6
  have HV6 := ShutL2.mk hv6
  have HSL6 := ShutL2.mk hsl6
  have HK6 := ShutL2.mk hk6
  have HG6 := ShutL2.mk hg6
  clear hsl6 hx6 hs6 hv6 hk6 hg6
  refine ⟨_, rfl, hS6.out, ?_⟩
  try simp only [Act.put, zA1, zA2, zA3]
  refine wpAnyH_take (i := 27) (oi := { dst := some 30, op := Op.build 77 #[(0, Operand.tmp 7), (1, Operand.tmp 12), (2, Operand.tmp 17), (3, Operand.tmp 21), (4, Operand.tmp 25), (5, Operand.tmp 29)], type := 77, pos := "read.go:29", after := #[{ on := 4, ground := Ground.data }, { on := 9, ground := Ground.data }, { on := 14, ground := Ground.data }, { on := 18, ground := Ground.data }, { on := 22, ground := Ground.data }, { on := 26, ground := Ground.data }], guard := none }) (v := .agg #[.string ⟨r'.text.1.toArray⟩, .int .i64 r'.text.2.int.1, .int .i64 r'.text.2.int.2.int.1, .slice sa4 sn4 sc4, .slice sa5 sn5 sc5, .slice sa6 sn6 sc6]) rfl (by kernel_rfl) (by kernel_rfl) (by kernel_rfl) (fun _ _ _ h => h) (Or.inl ⟨by rfl, ?_⟩) hS6.out ?_
  · intro W hSw; clear hSw; go_simp
  try simp only [Act.put, zA1, zA2, zA3]
  have f0 := H6.out.res.frozen 0
  have f1 := H6.out.res.frozen 1
  have f2 := H6.out.res.frozen 2
  have f3 := H6.out.res.frozen 3
  have f4 := H6.out.res.frozen 4
  have f5 := H6.out.res.frozen 5
  obtain ⟨q0, q1, q2, q3, q4, q5⟩ := cells_six H6.out.res
  refine wpAnyH_ready (rs := [28]) (by kernel_rfl) (by simp) ?_
  refine AllReadyH.cons (o := { dst := none, op := Op.store 77 (Operand.tmp 2) (Operand.tmp 30), type := 0, pos := "read.go:29", after := #[{ on := 27, ground := Ground.data }, { on := 26, ground := Ground.chain }, { on := 0, ground := Ground.phase }, { on := 1, ground := Ground.phase }, { on := 2, ground := Ground.phase }, { on := 3, ground := Ground.phase }, { on := 4, ground := Ground.phase }, { on := 5, ground := Ground.phase }, { on := 6, ground := Ground.phase }, { on := 7, ground := Ground.phase }, { on := 8, ground := Ground.phase }, { on := 9, ground := Ground.phase }, { on := 10, ground := Ground.phase }, { on := 11, ground := Ground.phase }, { on := 12, ground := Ground.phase }, { on := 13, ground := Ground.phase }, { on := 14, ground := Ground.phase }, { on := 15, ground := Ground.phase }, { on := 16, ground := Ground.phase }, { on := 17, ground := Ground.phase }, { on := 18, ground := Ground.phase }, { on := 19, ground := Ground.phase }, { on := 20, ground := Ground.phase }, { on := 21, ground := Ground.phase }, { on := 22, ground := Ground.phase }, { on := 23, ground := Ground.phase }, { on := 24, ground := Ground.phase }, { on := 25, ground := Ground.phase }, { on := 26, ground := Ground.phase }, { on := 27, ground := Ground.phase }], guard := none }) rfl (fun K hK => ?_) AllReadyH.nil
  go_simp
  refine hK.out _ _ ?_ (fun hHeld => ?_)
  · exact cg_six H6.out _ _ _ _ _ _
  clear hK K hHeld
  try simp only [Act.put, zA1, zA2, zA3]
  refine wpAnyH_done (by kernel_rfl) ?_ _
  refine NoPanic.normal ?_
  go_wp2_with fail
  have hb2 := blk_store6 (a' := (.string ⟨r'.text.1.toArray⟩)) (b' := (.int .i64 r'.text.2.int.1)) (c' := (.int .i64 r'.text.2.int.2.int.1)) (d' := (.slice sa4 sn4 sc4)) (e' := (.slice sa5 sn5 sc5)) (f' := (.slice sa6 sn6 sc6)) H6.out.res
  have t0 := hb2.cell 0
  have t1 := hb2.cell 1
  have t2 := hb2.cell 2
  have t3 := hb2.cell 3
  have t4 := hb2.cell 4
  have t5 := hb2.cell 5
  have hd := H6.out.done (below_six (Below.refl _ _) (Nat.le_refl _) (.string ⟨r'.text.1.toArray⟩) (.int .i64 r'.text.2.int.1) (.int .i64 r'.text.2.int.2.int.1) (.slice sa4 sn4 sc4) (.slice sa5 sn5 sc5) (.slice sa6 sn6 sc6))
  have HD := ShutL2.mk hd
  have hk6 := keep_six w6 W.heap.size (.string ⟨r'.text.1.toArray⟩) (.int .i64 r'.text.2.int.1) (.int .i64 r'.text.2.int.2.int.1) (.slice sa4 sn4 sc4) (.slice sa5 sn5 sc5) (.slice sa6 sn6 sc6)
  have hlt := H6.out.lt
  have hgG := H6.out.rx.lt
  have hw3 : W.heap.size < w3.heap.size := H3.out.res.lt
  have hw4 : W.heap.size < w4.heap.size := H4.out.res.lt
  have hw5 : W.heap.size < w5.heap.size := H5.out.res.lt
  have a4 := (((HSL4.out.more (K' := fun i => W.heap.size < i) fun i _ hi => by omega).keep HK5.out fun i o _ hi => ⟨by omega, by omega⟩).keep HK6.out fun i o _ hi => ⟨by omega, by omega⟩).keep hk6 fun i o _ hi => by show i ≠ W.heap.size; omega
  have a5 := ((HSL5.out.more (K' := fun i => W.heap.size < i) fun i _ hi => by omega).keep HK6.out fun i o _ hi => ⟨by omega, by omega⟩).keep hk6 fun i o _ hi => by show i ≠ W.heap.size; omega
  have a6 := (HSL6.out.more (K' := fun i => W.heap.size < i) fun i _ hi => by omega).keep hk6 fun i o _ hi => by show i ≠ W.heap.size; omega
  have A4 := ShutL2.mk (a4.more (K' := fun i => W.heap.size ≤ i) fun i _ hi => by omega)
  have A5 := ShutL2.mk (a5.more (K' := fun i => W.heap.size ≤ i) fun i _ hi => by omega)
  have A6 := ShutL2.mk (a6.more (K' := fun i => W.heap.size ≤ i) fun i _ hi => by omega)
  have HGG := ShutL2.mk ((((HG.out.trans HG4.out).trans HG5.out).trans HG6.out).weak (m := 1) (by omega))
  clear hb2 hd hk6 a4 a5 a6
  refine bodyPost_ret (v := .agg #[.string ⟨r'.text.1.toArray⟩, .int .i64 r'.text.2.int.1, .int .i64 r'.text.2.int.2.int.1, .slice sa4 sn4 sc4, .slice sa5 sn5 sc5, .slice sa6 sn6 sc6]) (by simp [results, Tryz.results128, go_sem, t0, t1, t2, t3, t4, t5]) rfl ?_
  exact ⟨⟨⟨⟨r'.text.1.toArray⟩, r'.text.2.int.1, r'.text.2.int.2.int.1, ys4, ys5, ys6⟩, ⟨sa4, sn4, sc4⟩, ⟨sa5, sn5, sc5⟩, ⟨sa6, sn6, sc6⟩⟩, lw6, r6, rfl, HD.out.1, HS6.out, ob_done HS.out HV4.out HV5.out HV6.out, ⟨A4.out, A5.out, A6.out⟩, HD.out.2, HGG.out⟩
end Go.Proofs.YtjfoflbaoceemaaGreat
