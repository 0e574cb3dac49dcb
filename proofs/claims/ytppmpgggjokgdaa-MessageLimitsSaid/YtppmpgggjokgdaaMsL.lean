/- MessageLimits, walked. -/
import Derived.Test.YtppmpgggjokgdaaMsA
import Derived.Test.YtppmpgggjokgdaaBytMk
import Derived.Test.YtppmpgggjokgdaaBSplit
import Derived.Test.YtppmpgggjokgdaaBRefFlag
import Derived.Test.YtppmpgggjokgdaaOrderH
set_option maxRecDepth 4000
namespace Go.Proofs.Ytppmpgggjokgdaa
open Go Go.RowKit
theorem exec_valM {P : Program} {o : Oper} {a : Act} {x : Sem Value} {w w' : World} {v : Value} (h : execOp a.eval o = (do pure (.value (← x)))) (hx : x.run P w = .ok v w') : (execOp a.eval o).run P w = .ok (.value v) w' := by
  rw [h]; simp [hx]
theorem rb_made {w : World} {g n : Nat} {xs : List UInt8} (h : Blk w g 5 (cellsB xs).toArray) (hn : xs.length = n) : RB w (Nat.succ g) (some ⟨g, 0, none⟩) n xs := by
  subst hn
  exact blk_rb h (Nat.lt_succ_self _)
/-- the seven messages -/
def msgL (a b c d e : Int) (za zb : ByteArray) : List Mg :=
  [⟨a, 0, 0, false, ⟨#[]⟩, ⟨#[]⟩⟩, ⟨b, 0, 0, false, ⟨#[]⟩, ⟨#[]⟩⟩, ⟨1, c, 0, false, ⟨#[]⟩, ⟨#[]⟩⟩, ⟨1, d, 0, false, ⟨#[]⟩, ⟨#[]⟩⟩, ⟨1, 0, e, false, ⟨#[]⟩, ⟨#[]⟩⟩, ⟨1, 0, 0, false, za, ⟨#[]⟩⟩, ⟨1, 0, 0, false, ⟨#[]⟩, zb⟩]
abbrev cellsL (a b c d e : Int) (za zb : ByteArray) : Array Value :=
  #[.int .i64 a, .int .i64 0, .int .i64 0, .bool false, .string ⟨#[]⟩, .string ⟨#[]⟩, .int .i64 b, .int .i64 0, .int .i64 0, .bool false, .string ⟨#[]⟩, .string ⟨#[]⟩,
    .int .i64 1, .int .i64 c, .int .i64 0, .bool false, .string ⟨#[]⟩, .string ⟨#[]⟩, .int .i64 1, .int .i64 d, .int .i64 0, .bool false, .string ⟨#[]⟩, .string ⟨#[]⟩,
    .int .i64 1, .int .i64 0, .int .i64 e, .bool false, .string ⟨#[]⟩, .string ⟨#[]⟩, .int .i64 1, .int .i64 0, .int .i64 0, .bool false, .string za, .string ⟨#[]⟩, .int .i64 1, .int .i64 0, .int .i64 0, .bool false, .string ⟨#[]⟩, .string zb]
theorem msgL_right0 (za zb : ByteArray) (ha : za.size = 40) (hb : zb.size = 100) : ∀ m ∈ msgL 1099511627776 1 1000 (-1000) 1000 za zb, m.right = true := by
  intro m hm
  simp only [msgL, List.mem_cons, List.not_mem_nil, or_false] at hm
  have he : (⟨#[]⟩ : ByteArray).size = 0 := rfl
  rcases hm with rfl | rfl | rfl | rfl | rfl | rfl | rfl <;> simp [Mg.right, idB, priB, retryB, corrB, bodyB, he, ha, hb]
theorem msgL_right1 (za zb : ByteArray) (ha : za.size = 41) (hb : zb.size = 101) : ∀ m ∈ msgL 1099511627777 0 1001 (-1001) 1001 za zb, m.right = false := by
  intro m hm
  simp only [msgL, List.mem_cons, List.not_mem_nil, or_false] at hm
  rcases hm with rfl | rfl | rfl | rfl | rfl | rfl | rfl <;> simp [Mg.right, idB, priB, retryB, corrB, bodyB, ha, hb]
theorem cellsL_at {a b c d e : Int} {za zb : ByteArray} {W : World} {g : Nat} (h : Blk W g 23 (cellsL a b c d e za zb)) (q : Nat) (hq : q < 7) :
    ∃ m ∈ msgL a b c d e za zb, W.cell? ⟨g, q * 6, none⟩ = some (.int .i64 m.id) ∧ W.cell? ⟨g, q * 6 + 1, none⟩ = some (.int .i64 m.pri) ∧ W.cell? ⟨g, q * 6 + 2, none⟩ = some (.int .i64 m.retry) ∧
      W.cell? ⟨g, q * 6 + 3, none⟩ = some (.bool m.claimed) ∧ W.cell? ⟨g, q * 6 + 4, none⟩ = some (.string m.corr) ∧ W.cell? ⟨g, q * 6 + 5, none⟩ = some (.string m.body) := by
  simp only [h.cell]
  match q, hq with
  | 0, _ => exact ⟨_, .head _, rfl, rfl, rfl, rfl, rfl, rfl⟩
  | 1, _ => exact ⟨_, .tail _ (.head _), rfl, rfl, rfl, rfl, rfl, rfl⟩
  | 2, _ => exact ⟨_, .tail _ (.tail _ (.head _)), rfl, rfl, rfl, rfl, rfl, rfl⟩
  | 3, _ => exact ⟨_, .tail _ (.tail _ (.tail _ (.head _))), rfl, rfl, rfl, rfl, rfl, rfl⟩
  | 4, _ => exact ⟨_, .tail _ (.tail _ (.tail _ (.tail _ (.head _)))), rfl, rfl, rfl, rfl, rfl, rfl⟩
  | 5, _ => exact ⟨_, .tail _ (.tail _ (.tail _ (.tail _ (.tail _ (.head _))))), rfl, rfl, rfl, rfl, rfl, rfl⟩
  | 6, _ => exact ⟨_, .tail _ (.tail _ (.tail _ (.tail _ (.tail _ (.tail _ (.head _)))))), rfl, rfl, rfl, rfl, rfl, rfl⟩
set_option maxHeartbeats 2000000 in
theorem limits_false (q : Nat) (hq : q < 7) (w : World) : Calls Try.prog 6 #[.int .i64 (q : Int), .bool false] w fun e w' => e = .returned (.bool true) ∧ Below w.heap.size w w' := by
  obtain ⟨za, hza⟩ : ∃ z : List UInt8, z = List.replicate 40 0 := ⟨_, rfl⟩
  obtain ⟨zb, hzb⟩ : ∃ z : List UInt8, z = List.replicate 100 0 := ⟨_, rfl⟩
  have hma : ∀ W : World, (Instr.makeSlice 28 (.int .i64 40) (.int .i64 40)).run Try.prog W = .ok (.slice (some ⟨W.heap.size, 0, none⟩) 40 40) (W.alloc (.cells (cellsB (List.replicate 40 0)).toArray 5)) := fun W => made5 40 (by omega) W
  have hmb : ∀ W : World, (Instr.makeSlice 28 (.int .i64 100) (.int .i64 100)).run Try.prog W = .ok (.slice (some ⟨W.heap.size, 0, none⟩) 100 100) (W.alloc (.cells (cellsB (List.replicate 100 0)).toArray 5)) := fun W => made5 100 (by omega) W
  rw [← hza] at hma
  rw [← hzb] at hmb
  have HMA := Lib.hid hma
  have HMB := Lib.hid hmb
  have hla : za.length = 40 := by rw [hza]; exact List.length_replicate
  have hlb : zb.length = 100 := by rw [hzb]; exact List.length_replicate
  have HLza := Lib.hid hla
  have HLzb := Lib.hid hlb
  have HRI := Lib.hid (msgL_right0 ⟨za.toArray⟩ ⟨zb.toArray⟩ (by show za.toArray.size = _; rw [List.size_toArray]; exact hla) (by show zb.toArray.size = _; rw [List.size_toArray]; exact hlb))
  clear hma hmb hza hzb hla hlb
  go_enter Try.func6, Try.ntmps6
  go_wp2_with fail
  refine (alive_ _).mono ?_
  rintro e w1 ⟨rfl, hb1⟩
  have HB1 := Lib.hid hb1
  have HD1 := Lib.hid ((Below.refl w1.heap.size w1).drew)
  clear hb1
  go_wp2_with fail
  refine wp_region_noPanic ?_
  refine wp_region_held_drew (S := fun W => Below w1.heap.size w1 W) (by kernel_rfl) ((Below.refl _ w1).drew) (fun _ => ?_)
  refine wpAnyH_take (i := 0) (oi := { dst := some 21, op := Op.move (Operand.tmp 6), type := 3, pos := "law.go:65", after := #[], guard := none }) (v := .int .i64 0) rfl (by kernel_rfl) (by kernel_rfl) (by kernel_rfl) (fun _ _ _ h => h) (Or.inl ⟨by rfl, ?_⟩) ((Below.refl _ w1).drew) ?_
  · intro W hSw; clear hSw; go_simp
  try simp only [Act.put, List.setIfInBounds_toArray, List.set_cons_zero, List.set_cons_succ]
  refine wpAnyH_take (i := 1) (oi := { dst := some 22, op := Op.binOp BinOp.add 3 (Operand.const (Value.int IntKind.i64 1099511627776)) (Operand.tmp 21) 3, type := 3, pos := "law.go:65", after := #[{ on := 0, ground := Ground.data }], guard := none }) (v := .int .i64 1099511627776) rfl (by kernel_rfl) (by kernel_rfl) (by kernel_rfl) (fun _ _ _ h => h) (Or.inl ⟨by rfl, ?_⟩) ((Below.refl _ w1).drew) ?_
  · intro W hSw; clear hSw; go_simp; exact IntWalk.i64_in _ (by omega)
  try simp only [Act.put, List.setIfInBounds_toArray, List.set_cons_zero, List.set_cons_succ]
  refine wpAnyH_take (i := 2) (oi := { dst := some 23, op := Op.build 23 #[(0, Operand.tmp 22)], type := 23, pos := "law.go:65", after := #[{ on := 1, ground := Ground.data }], guard := none }) (v := .agg #[.int .i64 1099511627776, .int .i64 0, .int .i64 0, .bool false, .string ⟨#[]⟩, .string ⟨#[]⟩]) rfl (by kernel_rfl) (by kernel_rfl) (by kernel_rfl) (fun _ _ _ h => h) (Or.inl ⟨by rfl, ?_⟩) ((Below.refl _ w1).drew) ?_
  · intro W hSw; clear hSw; go_simp
  try simp only [Act.put, List.setIfInBounds_toArray, List.set_cons_zero, List.set_cons_succ]
  refine wpAnyH_take (i := 3) (oi := { dst := some 24, op := Op.move (Operand.tmp 6), type := 3, pos := "law.go:65", after := #[], guard := none }) (v := .int .i64 0) rfl (by kernel_rfl) (by kernel_rfl) (by kernel_rfl) (fun _ _ _ h => h) (Or.inl ⟨by rfl, ?_⟩) ((Below.refl _ w1).drew) ?_
  · intro W hSw; clear hSw; go_simp
  try simp only [Act.put, List.setIfInBounds_toArray, List.set_cons_zero, List.set_cons_succ]
  refine wpAnyH_take (i := 4) (oi := { dst := some 25, op := Op.binOp BinOp.sub 3 (Operand.const (Value.int IntKind.i64 1)) (Operand.tmp 24) 3, type := 3, pos := "law.go:65", after := #[{ on := 3, ground := Ground.data }], guard := none }) (v := .int .i64 1) rfl (by kernel_rfl) (by kernel_rfl) (by kernel_rfl) (fun _ _ _ h => h) (Or.inl ⟨by rfl, ?_⟩) ((Below.refl _ w1).drew) ?_
  · intro W hSw; clear hSw; go_simp; exact IntWalk.i64_in _ (by omega)
  try simp only [Act.put, List.setIfInBounds_toArray, List.set_cons_zero, List.set_cons_succ]
  refine wpAnyH_take (i := 5) (oi := { dst := some 26, op := Op.build 23 #[(0, Operand.tmp 25)], type := 23, pos := "law.go:65", after := #[{ on := 4, ground := Ground.data }], guard := none }) (v := .agg #[.int .i64 1, .int .i64 0, .int .i64 0, .bool false, .string ⟨#[]⟩, .string ⟨#[]⟩]) rfl (by kernel_rfl) (by kernel_rfl) (by kernel_rfl) (fun _ _ _ h => h) (Or.inl ⟨by rfl, ?_⟩) ((Below.refl _ w1).drew) ?_
  · intro W hSw; clear hSw; go_simp
  try simp only [Act.put, List.setIfInBounds_toArray, List.set_cons_zero, List.set_cons_succ]
  refine wpAnyH_take (i := 6) (oi := { dst := some 27, op := Op.move (Operand.tmp 6), type := 3, pos := "law.go:65", after := #[], guard := none }) (v := .int .i64 0) rfl (by kernel_rfl) (by kernel_rfl) (by kernel_rfl) (fun _ _ _ h => h) (Or.inl ⟨by rfl, ?_⟩) ((Below.refl _ w1).drew) ?_
  · intro W hSw; clear hSw; go_simp
  try simp only [Act.put, List.setIfInBounds_toArray, List.set_cons_zero, List.set_cons_succ]
  refine wpAnyH_take (i := 7) (oi := { dst := some 28, op := Op.binOp BinOp.add 3 (Operand.const (Value.int IntKind.i64 1000)) (Operand.tmp 27) 3, type := 3, pos := "law.go:65", after := #[{ on := 6, ground := Ground.data }], guard := none }) (v := .int .i64 1000) rfl (by kernel_rfl) (by kernel_rfl) (by kernel_rfl) (fun _ _ _ h => h) (Or.inl ⟨by rfl, ?_⟩) ((Below.refl _ w1).drew) ?_
  · intro W hSw; clear hSw; go_simp; exact IntWalk.i64_in _ (by omega)
  try simp only [Act.put, List.setIfInBounds_toArray, List.set_cons_zero, List.set_cons_succ]
  refine wpAnyH_take (i := 8) (oi := { dst := some 29, op := Op.build 23 #[(0, Operand.const (Value.int IntKind.i64 1)), (1, Operand.tmp 28)], type := 23, pos := "law.go:65", after := #[{ on := 7, ground := Ground.data }], guard := none }) (v := .agg #[.int .i64 1, .int .i64 1000, .int .i64 0, .bool false, .string ⟨#[]⟩, .string ⟨#[]⟩]) rfl (by kernel_rfl) (by kernel_rfl) (by kernel_rfl) (fun _ _ _ h => h) (Or.inl ⟨by rfl, ?_⟩) ((Below.refl _ w1).drew) ?_
  · intro W hSw; clear hSw; go_simp
  try simp only [Act.put, List.setIfInBounds_toArray, List.set_cons_zero, List.set_cons_succ]
  refine wpAnyH_take (i := 9) (oi := { dst := some 30, op := Op.move (Operand.tmp 6), type := 3, pos := "law.go:65", after := #[], guard := none }) (v := .int .i64 0) rfl (by kernel_rfl) (by kernel_rfl) (by kernel_rfl) (fun _ _ _ h => h) (Or.inl ⟨by rfl, ?_⟩) ((Below.refl _ w1).drew) ?_
  · intro W hSw; clear hSw; go_simp
  try simp only [Act.put, List.setIfInBounds_toArray, List.set_cons_zero, List.set_cons_succ]
  refine wpAnyH_take (i := 10) (oi := { dst := some 31, op := Op.binOp BinOp.sub 3 (Operand.const (Value.int IntKind.i64 (-1000))) (Operand.tmp 30) 3, type := 3, pos := "law.go:65", after := #[{ on := 9, ground := Ground.data }], guard := none }) (v := .int .i64 (-1000)) rfl (by kernel_rfl) (by kernel_rfl) (by kernel_rfl) (fun _ _ _ h => h) (Or.inl ⟨by rfl, ?_⟩) ((Below.refl _ w1).drew) ?_
  · intro W hSw; clear hSw; go_simp; exact IntWalk.i64_in _ (by omega)
  try simp only [Act.put, List.setIfInBounds_toArray, List.set_cons_zero, List.set_cons_succ]
  refine wpAnyH_take (i := 11) (oi := { dst := some 32, op := Op.build 23 #[(0, Operand.const (Value.int IntKind.i64 1)), (1, Operand.tmp 31)], type := 23, pos := "law.go:65", after := #[{ on := 10, ground := Ground.data }], guard := none }) (v := .agg #[.int .i64 1, .int .i64 (-1000), .int .i64 0, .bool false, .string ⟨#[]⟩, .string ⟨#[]⟩]) rfl (by kernel_rfl) (by kernel_rfl) (by kernel_rfl) (fun _ _ _ h => h) (Or.inl ⟨by rfl, ?_⟩) ((Below.refl _ w1).drew) ?_
  · intro W hSw; clear hSw; go_simp
  try simp only [Act.put, List.setIfInBounds_toArray, List.set_cons_zero, List.set_cons_succ]
  refine wpAnyH_take (i := 12) (oi := { dst := some 33, op := Op.move (Operand.tmp 6), type := 3, pos := "law.go:65", after := #[], guard := none }) (v := .int .i64 0) rfl (by kernel_rfl) (by kernel_rfl) (by kernel_rfl) (fun _ _ _ h => h) (Or.inl ⟨by rfl, ?_⟩) ((Below.refl _ w1).drew) ?_
  · intro W hSw; clear hSw; go_simp
  try simp only [Act.put, List.setIfInBounds_toArray, List.set_cons_zero, List.set_cons_succ]
  refine wpAnyH_take (i := 13) (oi := { dst := some 34, op := Op.binOp BinOp.add 3 (Operand.const (Value.int IntKind.i64 1000)) (Operand.tmp 33) 3, type := 3, pos := "law.go:65", after := #[{ on := 12, ground := Ground.data }], guard := none }) (v := .int .i64 1000) rfl (by kernel_rfl) (by kernel_rfl) (by kernel_rfl) (fun _ _ _ h => h) (Or.inl ⟨by rfl, ?_⟩) ((Below.refl _ w1).drew) ?_
  · intro W hSw; clear hSw; go_simp; exact IntWalk.i64_in _ (by omega)
  try simp only [Act.put, List.setIfInBounds_toArray, List.set_cons_zero, List.set_cons_succ]
  refine wpAnyH_take (i := 14) (oi := { dst := some 35, op := Op.build 23 #[(0, Operand.const (Value.int IntKind.i64 1)), (2, Operand.tmp 34)], type := 23, pos := "law.go:65", after := #[{ on := 13, ground := Ground.data }], guard := none }) (v := .agg #[.int .i64 1, .int .i64 0, .int .i64 1000, .bool false, .string ⟨#[]⟩, .string ⟨#[]⟩]) rfl (by kernel_rfl) (by kernel_rfl) (by kernel_rfl) (fun _ _ _ h => h) (Or.inl ⟨by rfl, ?_⟩) ((Below.refl _ w1).drew) ?_
  · intro W hSw; clear hSw; go_simp
  try simp only [Act.put, List.setIfInBounds_toArray, List.set_cons_zero, List.set_cons_succ]
  refine wpAnyH_take (i := 15) (oi := { dst := some 36, op := Op.move (Operand.tmp 6), type := 3, pos := "law.go:65", after := #[], guard := none }) (v := .int .i64 0) rfl (by kernel_rfl) (by kernel_rfl) (by kernel_rfl) (fun _ _ _ h => h) (Or.inl ⟨by rfl, ?_⟩) ((Below.refl _ w1).drew) ?_
  · intro W hSw; clear hSw; go_simp
  try simp only [Act.put, List.setIfInBounds_toArray, List.set_cons_zero, List.set_cons_succ]
  refine wpAnyH_take (i := 16) (oi := { dst := some 37, op := Op.binOp BinOp.add 3 (Operand.const (Value.int IntKind.i64 40)) (Operand.tmp 36) 3, type := 3, pos := "law.go:65", after := #[{ on := 15, ground := Ground.data }], guard := none }) (v := .int .i64 40) rfl (by kernel_rfl) (by kernel_rfl) (by kernel_rfl) (fun _ _ _ h => h) (Or.inl ⟨by rfl, ?_⟩) ((Below.refl _ w1).drew) ?_
  · intro W hSw; clear hSw; go_simp; exact IntWalk.i64_in _ (by omega)
  try simp only [Act.put, List.setIfInBounds_toArray, List.set_cons_zero, List.set_cons_succ]
  refine wpAnyH_take (i := 20) (oi := { dst := some 41, op := Op.move (Operand.tmp 6), type := 3, pos := "law.go:65", after := #[], guard := none }) (v := .int .i64 0) rfl (by kernel_rfl) (by kernel_rfl) (by kernel_rfl) (fun _ _ _ h => h) (Or.inl ⟨by rfl, ?_⟩) ((Below.refl _ w1).drew) ?_
  · intro W hSw; clear hSw; go_simp
  try simp only [Act.put, List.setIfInBounds_toArray, List.set_cons_zero, List.set_cons_succ]
  refine wpAnyH_take (i := 21) (oi := { dst := some 42, op := Op.binOp BinOp.add 3 (Operand.const (Value.int IntKind.i64 100)) (Operand.tmp 41) 3, type := 3, pos := "law.go:65", after := #[{ on := 20, ground := Ground.data }], guard := none }) (v := .int .i64 100) rfl (by kernel_rfl) (by kernel_rfl) (by kernel_rfl) (fun _ _ _ h => h) (Or.inl ⟨by rfl, ?_⟩) ((Below.refl _ w1).drew) ?_
  · intro W hSw; clear hSw; go_simp; exact IntWalk.i64_in _ (by omega)
  try simp only [Act.put, List.setIfInBounds_toArray, List.set_cons_zero, List.set_cons_succ]
  refine wpAnyH_2 (i := 17) (j := 22) (by kernel_rfl) ?_ ?_
  · refine (wpOp_value (o := { dst := some 38, op := Op.makeSlice 28 (Operand.tmp 37) (Operand.tmp 37), type := 28, pos := "law.go:65", after := #[{ on := 16, ground := Ground.data }, { on := 16, ground := Ground.data }], guard := none }) (v := .slice (some ⟨w1.drew.heap.size, 0, none⟩) 40 40) (w' := w1.drew.alloc (.cells (cellsB za).toArray 5)) rfl (by rfl) (exec_valM rfl (HMA.out w1.drew)) ?_)
    have HBwa := Lib.hid (alloc_below w1.drew (.cells (cellsB za).toArray 5))
    have HXwa := Lib.hid (Blk.new w1.drew 5 (cellsB za).toArray)
    generalize hwwa : w1.drew.alloc (.cells (cellsB za).toArray 5) = wa at *
    clear hwwa
    refine ⟨HD1.out.trans HBwa.out, ?_⟩
    try simp only [Act.put, List.setIfInBounds_toArray, List.set_cons_zero, List.set_cons_succ]
    refine wpAnyH_more (S' := fun W => Below wa.heap.size wa W) (fun W h => HD1.out.trans (HBwa.out.trans (h.mono HBwa.out.size))) _ _ _ _ ?_
    refine wpAnyH_take (i := 18) (oi := { dst := some 39, op := Op.convert 28 9 (Operand.tmp 38), type := 9, pos := "law.go:65", after := #[{ on := 17, ground := Ground.data }], guard := none }) (v := .string ⟨za.toArray⟩) rfl (by kernel_rfl) (by kernel_rfl) (by kernel_rfl) (fun _ _ _ h => h) (Or.inl ⟨by rfl, ?_⟩) (Below.refl _ _) ?_
    · intro W hSw; exact exec_valM rfl (convert_row za W _ (Nat.succ w1.drew.heap.size) 40 40 ((rb_made HXwa.out HLza.out).below (hSw.mono (Nat.succ_le_of_lt HXwa.out.lt))))
    try simp only [Act.put, List.setIfInBounds_toArray, List.set_cons_zero, List.set_cons_succ]
    refine wpAnyH_take (i := 19) (oi := { dst := some 40, op := Op.build 23 #[(0, Operand.const (Value.int IntKind.i64 1)), (4, Operand.tmp 39)], type := 23, pos := "law.go:65", after := #[{ on := 18, ground := Ground.data }], guard := none }) (v := .agg #[.int .i64 1, .int .i64 0, .int .i64 0, .bool false, .string ⟨za.toArray⟩, .string ⟨#[]⟩]) rfl (by kernel_rfl) (by kernel_rfl) (by kernel_rfl) (fun _ _ _ h => h) (Or.inl ⟨by rfl, ?_⟩) (Below.refl _ _) ?_
    · intro W hSw; clear hSw; go_simp
    try simp only [Act.put, List.setIfInBounds_toArray, List.set_cons_zero, List.set_cons_succ]
    refine wpAnyH_1 (i := 22) (by kernel_rfl) (wpOp_value (o := { dst := some 43, op := Op.makeSlice 28 (Operand.tmp 42) (Operand.tmp 42), type := 28, pos := "law.go:65", after := #[{ on := 21, ground := Ground.data }, { on := 21, ground := Ground.data }], guard := none }) (v := .slice (some ⟨wa.heap.size, 0, none⟩) 100 100) (w' := wa.alloc (.cells (cellsB zb).toArray 5)) rfl (by rfl) (exec_valM rfl (HMB.out wa)) ?_)
    have HBwb := Lib.hid (alloc_below wa (.cells (cellsB zb).toArray 5))
    have HXwb := Lib.hid (Blk.new wa 5 (cellsB zb).toArray)
    generalize hwwb : wa.alloc (.cells (cellsB zb).toArray 5) = wb at *
    clear hwwb
    refine ⟨HBwb.out, ?_⟩
    try simp only [Act.put, List.setIfInBounds_toArray, List.set_cons_zero, List.set_cons_succ]
    refine wpAnyH_more (S' := fun W => Below wb.heap.size wb W) (fun W h => HBwb.out.trans (h.mono HBwb.out.size)) _ _ _ _ ?_
    refine wpAnyH_take (i := 23) (oi := { dst := some 44, op := Op.convert 28 9 (Operand.tmp 43), type := 9, pos := "law.go:65", after := #[{ on := 22, ground := Ground.data }], guard := none }) (v := .string ⟨zb.toArray⟩) rfl (by kernel_rfl) (by kernel_rfl) (by kernel_rfl) (fun _ _ _ h => h) (Or.inl ⟨by rfl, ?_⟩) (Below.refl _ _) ?_
    · intro W hSw; exact exec_valM rfl (convert_row zb W _ (Nat.succ wa.heap.size) 100 100 ((rb_made HXwb.out HLzb.out).below (hSw.mono (Nat.succ_le_of_lt HXwb.out.lt))))
    try simp only [Act.put, List.setIfInBounds_toArray, List.set_cons_zero, List.set_cons_succ]
    refine wpAnyH_take (i := 24) (oi := { dst := some 45, op := Op.build 23 #[(0, Operand.const (Value.int IntKind.i64 1)), (5, Operand.tmp 44)], type := 23, pos := "law.go:65", after := #[{ on := 23, ground := Ground.data }], guard := none }) (v := .agg #[.int .i64 1, .int .i64 0, .int .i64 0, .bool false, .string ⟨#[]⟩, .string ⟨zb.toArray⟩]) rfl (by kernel_rfl) (by kernel_rfl) (by kernel_rfl) (fun _ _ _ h => h) (Or.inl ⟨by rfl, ?_⟩) (Below.refl _ _) ?_
    · intro W hSw; clear hSw; go_simp
    try simp only [Act.put, List.setIfInBounds_toArray, List.set_cons_zero, List.set_cons_succ]
    refine wpAnyH_1 (i := 25) (by kernel_rfl) (wpOp_value (o := { dst := some 46, op := Op.buildSlice 39 7 #[(0, Operand.tmp 23), (1, Operand.tmp 26), (2, Operand.tmp 29), (3, Operand.tmp 32), (4, Operand.tmp 35), (5, Operand.tmp 40), (6, Operand.tmp 45)], type := 39, pos := "law.go:65", after := #[{ on := 2, ground := Ground.data }, { on := 5, ground := Ground.data }, { on := 8, ground := Ground.data }, { on := 11, ground := Ground.data }, { on := 14, ground := Ground.data }, { on := 19, ground := Ground.data }, { on := 24, ground := Ground.data }], guard := none }) (v := .slice (some ⟨wb.heap.size, 0, none⟩) 7 7) (w' := wb.alloc (.cells (cellsL 1099511627776 1 1000 (-1000) 1000 ⟨za.toArray⟩ ⟨zb.toArray⟩) 23)) rfl (by rfl) (by go_simp) ?_)
    have HBE := Lib.hid ((HD1.out.trans (HBwa.out.trans (HBwb.out.mono HBwa.out.size))).trans ((alloc_below wb (.cells (cellsL 1099511627776 1 1000 (-1000) 1000 ⟨za.toArray⟩ ⟨zb.toArray⟩) 23)).mono (Nat.le_trans HBwa.out.size HBwb.out.size)))
    have HBL := Lib.hid (alloc_below wb (.cells (cellsL 1099511627776 1 1000 (-1000) 1000 ⟨za.toArray⟩ ⟨zb.toArray⟩) 23))
    have HXE := Lib.hid (Blk.new wb 23 (cellsL 1099511627776 1 1000 (-1000) 1000 ⟨za.toArray⟩ ⟨zb.toArray⟩))
    generalize hwE : wb.alloc (.cells (cellsL 1099511627776 1 1000 (-1000) 1000 ⟨za.toArray⟩ ⟨zb.toArray⟩) 23) = wE at *
    clear hwE
    refine ⟨HBL.out, ?_⟩
    try simp only [Act.put, List.setIfInBounds_toArray, List.set_cons_zero, List.set_cons_succ]
    refine wpAnyH_take (i := 26) (oi := { dst := some 7, op := Op.assign (Operand.tmp 46), type := 39, pos := "law.go:65", after := #[{ on := 25, ground := Ground.data }, { on := 0, ground := Ground.phase }, { on := 1, ground := Ground.phase }, { on := 2, ground := Ground.phase }, { on := 3, ground := Ground.phase }, { on := 4, ground := Ground.phase }, { on := 5, ground := Ground.phase }, { on := 6, ground := Ground.phase }, { on := 7, ground := Ground.phase }, { on := 8, ground := Ground.phase }, { on := 9, ground := Ground.phase }, { on := 10, ground := Ground.phase }, { on := 11, ground := Ground.phase }, { on := 12, ground := Ground.phase }, { on := 13, ground := Ground.phase }, { on := 14, ground := Ground.phase }, { on := 15, ground := Ground.phase }, { on := 16, ground := Ground.phase }, { on := 17, ground := Ground.phase }, { on := 18, ground := Ground.phase }, { on := 19, ground := Ground.phase }, { on := 20, ground := Ground.phase }, { on := 21, ground := Ground.phase }, { on := 22, ground := Ground.phase }, { on := 23, ground := Ground.phase }, { on := 24, ground := Ground.phase }, { on := 25, ground := Ground.phase }], guard := none }) (v := .slice (some ⟨wb.heap.size, 0, none⟩) 7 7) rfl (by kernel_rfl) (by kernel_rfl) (by kernel_rfl) (fun _ _ _ h => h) (Or.inl ⟨by rfl, ?_⟩) HBL.out ?_
    · intro W hSw; clear hSw; go_simp
    try simp only [Act.put, List.setIfInBounds_toArray, List.set_cons_zero, List.set_cons_succ]
    refine wpAnyH_done (by kernel_rfl) ?_ _
    refine NoPanic.normal ?_
    generalize wb.heap.size = gE at *
    obtain ⟨m, hm, q0, q1, q2, q3, q4, q5⟩ := cellsL_at HXE.out q hq
    have hr := HRI.out m hm
    have HR := Lib.hid hr
    obtain ⟨m0, m1, m2, m3, m4, m5⟩ := m
    simp only at q0 q1 q2 q3 q4 q5
    clear hm hr HXE
    go_wp2_with fail
    refine (right_ ⟨m0, m1, m2, m3, m4, m5⟩ wE).mono ?_
    rintro e w3 ⟨rfl, hb3⟩
    rw [HR.out]
    have HF := Lib.hid (HB1.out.trans ((HBE.out.trans (hb3.mono HBE.out.size)).mono HB1.out.size))
    clear hb3
    go_wp2_with fail
    go_ret
    exact ⟨rfl, HF.out⟩
  · refine (wpOp_value (o := { dst := some 43, op := Op.makeSlice 28 (Operand.tmp 42) (Operand.tmp 42), type := 28, pos := "law.go:65", after := #[{ on := 21, ground := Ground.data }, { on := 21, ground := Ground.data }], guard := none }) (v := .slice (some ⟨w1.drew.heap.size, 0, none⟩) 100 100) (w' := w1.drew.alloc (.cells (cellsB zb).toArray 5)) rfl (by rfl) (exec_valM rfl (HMB.out w1.drew)) ?_)
    have HBwa := Lib.hid (alloc_below w1.drew (.cells (cellsB zb).toArray 5))
    have HXwa := Lib.hid (Blk.new w1.drew 5 (cellsB zb).toArray)
    generalize hwwa : w1.drew.alloc (.cells (cellsB zb).toArray 5) = wa at *
    clear hwwa
    refine ⟨HD1.out.trans HBwa.out, ?_⟩
    try simp only [Act.put, List.setIfInBounds_toArray, List.set_cons_zero, List.set_cons_succ]
    refine wpAnyH_more (S' := fun W => Below wa.heap.size wa W) (fun W h => HD1.out.trans (HBwa.out.trans (h.mono HBwa.out.size))) _ _ _ _ ?_
    refine wpAnyH_take (i := 23) (oi := { dst := some 44, op := Op.convert 28 9 (Operand.tmp 43), type := 9, pos := "law.go:65", after := #[{ on := 22, ground := Ground.data }], guard := none }) (v := .string ⟨zb.toArray⟩) rfl (by kernel_rfl) (by kernel_rfl) (by kernel_rfl) (fun _ _ _ h => h) (Or.inl ⟨by rfl, ?_⟩) (Below.refl _ _) ?_
    · intro W hSw; exact exec_valM rfl (convert_row zb W _ (Nat.succ w1.drew.heap.size) 100 100 ((rb_made HXwa.out HLzb.out).below (hSw.mono (Nat.succ_le_of_lt HXwa.out.lt))))
    try simp only [Act.put, List.setIfInBounds_toArray, List.set_cons_zero, List.set_cons_succ]
    refine wpAnyH_take (i := 24) (oi := { dst := some 45, op := Op.build 23 #[(0, Operand.const (Value.int IntKind.i64 1)), (5, Operand.tmp 44)], type := 23, pos := "law.go:65", after := #[{ on := 23, ground := Ground.data }], guard := none }) (v := .agg #[.int .i64 1, .int .i64 0, .int .i64 0, .bool false, .string ⟨#[]⟩, .string ⟨zb.toArray⟩]) rfl (by kernel_rfl) (by kernel_rfl) (by kernel_rfl) (fun _ _ _ h => h) (Or.inl ⟨by rfl, ?_⟩) (Below.refl _ _) ?_
    · intro W hSw; clear hSw; go_simp
    try simp only [Act.put, List.setIfInBounds_toArray, List.set_cons_zero, List.set_cons_succ]
    refine wpAnyH_1 (i := 17) (by kernel_rfl) (wpOp_value (o := { dst := some 38, op := Op.makeSlice 28 (Operand.tmp 37) (Operand.tmp 37), type := 28, pos := "law.go:65", after := #[{ on := 16, ground := Ground.data }, { on := 16, ground := Ground.data }], guard := none }) (v := .slice (some ⟨wa.heap.size, 0, none⟩) 40 40) (w' := wa.alloc (.cells (cellsB za).toArray 5)) rfl (by rfl) (exec_valM rfl (HMA.out wa)) ?_)
    have HBwb := Lib.hid (alloc_below wa (.cells (cellsB za).toArray 5))
    have HXwb := Lib.hid (Blk.new wa 5 (cellsB za).toArray)
    generalize hwwb : wa.alloc (.cells (cellsB za).toArray 5) = wb at *
    clear hwwb
    refine ⟨HBwb.out, ?_⟩
    try simp only [Act.put, List.setIfInBounds_toArray, List.set_cons_zero, List.set_cons_succ]
    refine wpAnyH_more (S' := fun W => Below wb.heap.size wb W) (fun W h => HBwb.out.trans (h.mono HBwb.out.size)) _ _ _ _ ?_
    refine wpAnyH_take (i := 18) (oi := { dst := some 39, op := Op.convert 28 9 (Operand.tmp 38), type := 9, pos := "law.go:65", after := #[{ on := 17, ground := Ground.data }], guard := none }) (v := .string ⟨za.toArray⟩) rfl (by kernel_rfl) (by kernel_rfl) (by kernel_rfl) (fun _ _ _ h => h) (Or.inl ⟨by rfl, ?_⟩) (Below.refl _ _) ?_
    · intro W hSw; exact exec_valM rfl (convert_row za W _ (Nat.succ wa.heap.size) 40 40 ((rb_made HXwb.out HLza.out).below (hSw.mono (Nat.succ_le_of_lt HXwb.out.lt))))
    try simp only [Act.put, List.setIfInBounds_toArray, List.set_cons_zero, List.set_cons_succ]
    refine wpAnyH_take (i := 19) (oi := { dst := some 40, op := Op.build 23 #[(0, Operand.const (Value.int IntKind.i64 1)), (4, Operand.tmp 39)], type := 23, pos := "law.go:65", after := #[{ on := 18, ground := Ground.data }], guard := none }) (v := .agg #[.int .i64 1, .int .i64 0, .int .i64 0, .bool false, .string ⟨za.toArray⟩, .string ⟨#[]⟩]) rfl (by kernel_rfl) (by kernel_rfl) (by kernel_rfl) (fun _ _ _ h => h) (Or.inl ⟨by rfl, ?_⟩) (Below.refl _ _) ?_
    · intro W hSw; clear hSw; go_simp
    try simp only [Act.put, List.setIfInBounds_toArray, List.set_cons_zero, List.set_cons_succ]
    refine wpAnyH_1 (i := 25) (by kernel_rfl) (wpOp_value (o := { dst := some 46, op := Op.buildSlice 39 7 #[(0, Operand.tmp 23), (1, Operand.tmp 26), (2, Operand.tmp 29), (3, Operand.tmp 32), (4, Operand.tmp 35), (5, Operand.tmp 40), (6, Operand.tmp 45)], type := 39, pos := "law.go:65", after := #[{ on := 2, ground := Ground.data }, { on := 5, ground := Ground.data }, { on := 8, ground := Ground.data }, { on := 11, ground := Ground.data }, { on := 14, ground := Ground.data }, { on := 19, ground := Ground.data }, { on := 24, ground := Ground.data }], guard := none }) (v := .slice (some ⟨wb.heap.size, 0, none⟩) 7 7) (w' := wb.alloc (.cells (cellsL 1099511627776 1 1000 (-1000) 1000 ⟨za.toArray⟩ ⟨zb.toArray⟩) 23)) rfl (by rfl) (by go_simp) ?_)
    have HBE := Lib.hid ((HD1.out.trans (HBwa.out.trans (HBwb.out.mono HBwa.out.size))).trans ((alloc_below wb (.cells (cellsL 1099511627776 1 1000 (-1000) 1000 ⟨za.toArray⟩ ⟨zb.toArray⟩) 23)).mono (Nat.le_trans HBwa.out.size HBwb.out.size)))
    have HBL := Lib.hid (alloc_below wb (.cells (cellsL 1099511627776 1 1000 (-1000) 1000 ⟨za.toArray⟩ ⟨zb.toArray⟩) 23))
    have HXE := Lib.hid (Blk.new wb 23 (cellsL 1099511627776 1 1000 (-1000) 1000 ⟨za.toArray⟩ ⟨zb.toArray⟩))
    generalize hwE : wb.alloc (.cells (cellsL 1099511627776 1 1000 (-1000) 1000 ⟨za.toArray⟩ ⟨zb.toArray⟩) 23) = wE at *
    clear hwE
    refine ⟨HBL.out, ?_⟩
    try simp only [Act.put, List.setIfInBounds_toArray, List.set_cons_zero, List.set_cons_succ]
    refine wpAnyH_take (i := 26) (oi := { dst := some 7, op := Op.assign (Operand.tmp 46), type := 39, pos := "law.go:65", after := #[{ on := 25, ground := Ground.data }, { on := 0, ground := Ground.phase }, { on := 1, ground := Ground.phase }, { on := 2, ground := Ground.phase }, { on := 3, ground := Ground.phase }, { on := 4, ground := Ground.phase }, { on := 5, ground := Ground.phase }, { on := 6, ground := Ground.phase }, { on := 7, ground := Ground.phase }, { on := 8, ground := Ground.phase }, { on := 9, ground := Ground.phase }, { on := 10, ground := Ground.phase }, { on := 11, ground := Ground.phase }, { on := 12, ground := Ground.phase }, { on := 13, ground := Ground.phase }, { on := 14, ground := Ground.phase }, { on := 15, ground := Ground.phase }, { on := 16, ground := Ground.phase }, { on := 17, ground := Ground.phase }, { on := 18, ground := Ground.phase }, { on := 19, ground := Ground.phase }, { on := 20, ground := Ground.phase }, { on := 21, ground := Ground.phase }, { on := 22, ground := Ground.phase }, { on := 23, ground := Ground.phase }, { on := 24, ground := Ground.phase }, { on := 25, ground := Ground.phase }], guard := none }) (v := .slice (some ⟨wb.heap.size, 0, none⟩) 7 7) rfl (by kernel_rfl) (by kernel_rfl) (by kernel_rfl) (fun _ _ _ h => h) (Or.inl ⟨by rfl, ?_⟩) HBL.out ?_
    · intro W hSw; clear hSw; go_simp
    try simp only [Act.put, List.setIfInBounds_toArray, List.set_cons_zero, List.set_cons_succ]
    refine wpAnyH_done (by kernel_rfl) ?_ _
    refine NoPanic.normal ?_
    generalize wb.heap.size = gE at *
    obtain ⟨m, hm, q0, q1, q2, q3, q4, q5⟩ := cellsL_at HXE.out q hq
    have hr := HRI.out m hm
    have HR := Lib.hid hr
    obtain ⟨m0, m1, m2, m3, m4, m5⟩ := m
    simp only at q0 q1 q2 q3 q4 q5
    clear hm hr HXE
    go_wp2_with fail
    refine (right_ ⟨m0, m1, m2, m3, m4, m5⟩ wE).mono ?_
    rintro e w3 ⟨rfl, hb3⟩
    rw [HR.out]
    have HF := Lib.hid (HB1.out.trans ((HBE.out.trans (hb3.mono HBE.out.size)).mono HB1.out.size))
    clear hb3
    go_wp2_with fail
    go_ret
    exact ⟨rfl, HF.out⟩

set_option maxHeartbeats 2000000 in
theorem limits_true (q : Nat) (hq : q < 7) (w : World) : Calls Try.prog 6 #[.int .i64 (q : Int), .bool true] w fun e w' => e = .returned (.bool true) ∧ Below w.heap.size w w' := by
  obtain ⟨za, hza⟩ : ∃ z : List UInt8, z = List.replicate 41 0 := ⟨_, rfl⟩
  obtain ⟨zb, hzb⟩ : ∃ z : List UInt8, z = List.replicate 101 0 := ⟨_, rfl⟩
  have hma : ∀ W : World, (Instr.makeSlice 28 (.int .i64 41) (.int .i64 41)).run Try.prog W = .ok (.slice (some ⟨W.heap.size, 0, none⟩) 41 41) (W.alloc (.cells (cellsB (List.replicate 41 0)).toArray 5)) := fun W => made5 41 (by omega) W
  have hmb : ∀ W : World, (Instr.makeSlice 28 (.int .i64 101) (.int .i64 101)).run Try.prog W = .ok (.slice (some ⟨W.heap.size, 0, none⟩) 101 101) (W.alloc (.cells (cellsB (List.replicate 101 0)).toArray 5)) := fun W => made5 101 (by omega) W
  rw [← hza] at hma
  rw [← hzb] at hmb
  have HMA := Lib.hid hma
  have HMB := Lib.hid hmb
  have hla : za.length = 41 := by rw [hza]; exact List.length_replicate
  have hlb : zb.length = 101 := by rw [hzb]; exact List.length_replicate
  have HLza := Lib.hid hla
  have HLzb := Lib.hid hlb
  have HRI := Lib.hid (msgL_right1 ⟨za.toArray⟩ ⟨zb.toArray⟩ (by show za.toArray.size = _; rw [List.size_toArray]; exact hla) (by show zb.toArray.size = _; rw [List.size_toArray]; exact hlb))
  clear hma hmb hza hzb hla hlb
  go_enter Try.func6, Try.ntmps6
  go_wp2_with fail
  refine (alive_ _).mono ?_
  rintro e w1 ⟨rfl, hb1⟩
  have HB1 := Lib.hid hb1
  have HD1 := Lib.hid ((Below.refl w1.heap.size w1).drew)
  clear hb1
  go_wp2_with fail
  refine wp_region_noPanic ?_
  refine wp_region_held_drew (S := fun W => Below w1.heap.size w1 W) (by kernel_rfl) ((Below.refl _ w1).drew) (fun _ => ?_)
  refine wpAnyH_take (i := 0) (oi := { dst := some 21, op := Op.move (Operand.tmp 6), type := 3, pos := "law.go:65", after := #[], guard := none }) (v := .int .i64 1) rfl (by kernel_rfl) (by kernel_rfl) (by kernel_rfl) (fun _ _ _ h => h) (Or.inl ⟨by rfl, ?_⟩) ((Below.refl _ w1).drew) ?_
  · intro W hSw; clear hSw; go_simp
  try simp only [Act.put, List.setIfInBounds_toArray, List.set_cons_zero, List.set_cons_succ]
  refine wpAnyH_take (i := 1) (oi := { dst := some 22, op := Op.binOp BinOp.add 3 (Operand.const (Value.int IntKind.i64 1099511627776)) (Operand.tmp 21) 3, type := 3, pos := "law.go:65", after := #[{ on := 0, ground := Ground.data }], guard := none }) (v := .int .i64 1099511627777) rfl (by kernel_rfl) (by kernel_rfl) (by kernel_rfl) (fun _ _ _ h => h) (Or.inl ⟨by rfl, ?_⟩) ((Below.refl _ w1).drew) ?_
  · intro W hSw; clear hSw; go_simp; exact IntWalk.i64_in _ (by omega)
  try simp only [Act.put, List.setIfInBounds_toArray, List.set_cons_zero, List.set_cons_succ]
  refine wpAnyH_take (i := 2) (oi := { dst := some 23, op := Op.build 23 #[(0, Operand.tmp 22)], type := 23, pos := "law.go:65", after := #[{ on := 1, ground := Ground.data }], guard := none }) (v := .agg #[.int .i64 1099511627777, .int .i64 0, .int .i64 0, .bool false, .string ⟨#[]⟩, .string ⟨#[]⟩]) rfl (by kernel_rfl) (by kernel_rfl) (by kernel_rfl) (fun _ _ _ h => h) (Or.inl ⟨by rfl, ?_⟩) ((Below.refl _ w1).drew) ?_
  · intro W hSw; clear hSw; go_simp
  try simp only [Act.put, List.setIfInBounds_toArray, List.set_cons_zero, List.set_cons_succ]
  refine wpAnyH_take (i := 3) (oi := { dst := some 24, op := Op.move (Operand.tmp 6), type := 3, pos := "law.go:65", after := #[], guard := none }) (v := .int .i64 1) rfl (by kernel_rfl) (by kernel_rfl) (by kernel_rfl) (fun _ _ _ h => h) (Or.inl ⟨by rfl, ?_⟩) ((Below.refl _ w1).drew) ?_
  · intro W hSw; clear hSw; go_simp
  try simp only [Act.put, List.setIfInBounds_toArray, List.set_cons_zero, List.set_cons_succ]
  refine wpAnyH_take (i := 4) (oi := { dst := some 25, op := Op.binOp BinOp.sub 3 (Operand.const (Value.int IntKind.i64 1)) (Operand.tmp 24) 3, type := 3, pos := "law.go:65", after := #[{ on := 3, ground := Ground.data }], guard := none }) (v := .int .i64 0) rfl (by kernel_rfl) (by kernel_rfl) (by kernel_rfl) (fun _ _ _ h => h) (Or.inl ⟨by rfl, ?_⟩) ((Below.refl _ w1).drew) ?_
  · intro W hSw; clear hSw; go_simp; exact IntWalk.i64_in _ (by omega)
  try simp only [Act.put, List.setIfInBounds_toArray, List.set_cons_zero, List.set_cons_succ]
  refine wpAnyH_take (i := 5) (oi := { dst := some 26, op := Op.build 23 #[(0, Operand.tmp 25)], type := 23, pos := "law.go:65", after := #[{ on := 4, ground := Ground.data }], guard := none }) (v := .agg #[.int .i64 0, .int .i64 0, .int .i64 0, .bool false, .string ⟨#[]⟩, .string ⟨#[]⟩]) rfl (by kernel_rfl) (by kernel_rfl) (by kernel_rfl) (fun _ _ _ h => h) (Or.inl ⟨by rfl, ?_⟩) ((Below.refl _ w1).drew) ?_
  · intro W hSw; clear hSw; go_simp
  try simp only [Act.put, List.setIfInBounds_toArray, List.set_cons_zero, List.set_cons_succ]
  refine wpAnyH_take (i := 6) (oi := { dst := some 27, op := Op.move (Operand.tmp 6), type := 3, pos := "law.go:65", after := #[], guard := none }) (v := .int .i64 1) rfl (by kernel_rfl) (by kernel_rfl) (by kernel_rfl) (fun _ _ _ h => h) (Or.inl ⟨by rfl, ?_⟩) ((Below.refl _ w1).drew) ?_
  · intro W hSw; clear hSw; go_simp
  try simp only [Act.put, List.setIfInBounds_toArray, List.set_cons_zero, List.set_cons_succ]
  refine wpAnyH_take (i := 7) (oi := { dst := some 28, op := Op.binOp BinOp.add 3 (Operand.const (Value.int IntKind.i64 1000)) (Operand.tmp 27) 3, type := 3, pos := "law.go:65", after := #[{ on := 6, ground := Ground.data }], guard := none }) (v := .int .i64 1001) rfl (by kernel_rfl) (by kernel_rfl) (by kernel_rfl) (fun _ _ _ h => h) (Or.inl ⟨by rfl, ?_⟩) ((Below.refl _ w1).drew) ?_
  · intro W hSw; clear hSw; go_simp; exact IntWalk.i64_in _ (by omega)
  try simp only [Act.put, List.setIfInBounds_toArray, List.set_cons_zero, List.set_cons_succ]
  refine wpAnyH_take (i := 8) (oi := { dst := some 29, op := Op.build 23 #[(0, Operand.const (Value.int IntKind.i64 1)), (1, Operand.tmp 28)], type := 23, pos := "law.go:65", after := #[{ on := 7, ground := Ground.data }], guard := none }) (v := .agg #[.int .i64 1, .int .i64 1001, .int .i64 0, .bool false, .string ⟨#[]⟩, .string ⟨#[]⟩]) rfl (by kernel_rfl) (by kernel_rfl) (by kernel_rfl) (fun _ _ _ h => h) (Or.inl ⟨by rfl, ?_⟩) ((Below.refl _ w1).drew) ?_
  · intro W hSw; clear hSw; go_simp
  try simp only [Act.put, List.setIfInBounds_toArray, List.set_cons_zero, List.set_cons_succ]
  refine wpAnyH_take (i := 9) (oi := { dst := some 30, op := Op.move (Operand.tmp 6), type := 3, pos := "law.go:65", after := #[], guard := none }) (v := .int .i64 1) rfl (by kernel_rfl) (by kernel_rfl) (by kernel_rfl) (fun _ _ _ h => h) (Or.inl ⟨by rfl, ?_⟩) ((Below.refl _ w1).drew) ?_
  · intro W hSw; clear hSw; go_simp
  try simp only [Act.put, List.setIfInBounds_toArray, List.set_cons_zero, List.set_cons_succ]
  refine wpAnyH_take (i := 10) (oi := { dst := some 31, op := Op.binOp BinOp.sub 3 (Operand.const (Value.int IntKind.i64 (-1000))) (Operand.tmp 30) 3, type := 3, pos := "law.go:65", after := #[{ on := 9, ground := Ground.data }], guard := none }) (v := .int .i64 (-1001)) rfl (by kernel_rfl) (by kernel_rfl) (by kernel_rfl) (fun _ _ _ h => h) (Or.inl ⟨by rfl, ?_⟩) ((Below.refl _ w1).drew) ?_
  · intro W hSw; clear hSw; go_simp; exact IntWalk.i64_in _ (by omega)
  try simp only [Act.put, List.setIfInBounds_toArray, List.set_cons_zero, List.set_cons_succ]
  refine wpAnyH_take (i := 11) (oi := { dst := some 32, op := Op.build 23 #[(0, Operand.const (Value.int IntKind.i64 1)), (1, Operand.tmp 31)], type := 23, pos := "law.go:65", after := #[{ on := 10, ground := Ground.data }], guard := none }) (v := .agg #[.int .i64 1, .int .i64 (-1001), .int .i64 0, .bool false, .string ⟨#[]⟩, .string ⟨#[]⟩]) rfl (by kernel_rfl) (by kernel_rfl) (by kernel_rfl) (fun _ _ _ h => h) (Or.inl ⟨by rfl, ?_⟩) ((Below.refl _ w1).drew) ?_
  · intro W hSw; clear hSw; go_simp
  try simp only [Act.put, List.setIfInBounds_toArray, List.set_cons_zero, List.set_cons_succ]
  refine wpAnyH_take (i := 12) (oi := { dst := some 33, op := Op.move (Operand.tmp 6), type := 3, pos := "law.go:65", after := #[], guard := none }) (v := .int .i64 1) rfl (by kernel_rfl) (by kernel_rfl) (by kernel_rfl) (fun _ _ _ h => h) (Or.inl ⟨by rfl, ?_⟩) ((Below.refl _ w1).drew) ?_
  · intro W hSw; clear hSw; go_simp
  try simp only [Act.put, List.setIfInBounds_toArray, List.set_cons_zero, List.set_cons_succ]
  refine wpAnyH_take (i := 13) (oi := { dst := some 34, op := Op.binOp BinOp.add 3 (Operand.const (Value.int IntKind.i64 1000)) (Operand.tmp 33) 3, type := 3, pos := "law.go:65", after := #[{ on := 12, ground := Ground.data }], guard := none }) (v := .int .i64 1001) rfl (by kernel_rfl) (by kernel_rfl) (by kernel_rfl) (fun _ _ _ h => h) (Or.inl ⟨by rfl, ?_⟩) ((Below.refl _ w1).drew) ?_
  · intro W hSw; clear hSw; go_simp; exact IntWalk.i64_in _ (by omega)
  try simp only [Act.put, List.setIfInBounds_toArray, List.set_cons_zero, List.set_cons_succ]
  refine wpAnyH_take (i := 14) (oi := { dst := some 35, op := Op.build 23 #[(0, Operand.const (Value.int IntKind.i64 1)), (2, Operand.tmp 34)], type := 23, pos := "law.go:65", after := #[{ on := 13, ground := Ground.data }], guard := none }) (v := .agg #[.int .i64 1, .int .i64 0, .int .i64 1001, .bool false, .string ⟨#[]⟩, .string ⟨#[]⟩]) rfl (by kernel_rfl) (by kernel_rfl) (by kernel_rfl) (fun _ _ _ h => h) (Or.inl ⟨by rfl, ?_⟩) ((Below.refl _ w1).drew) ?_
  · intro W hSw; clear hSw; go_simp
  try simp only [Act.put, List.setIfInBounds_toArray, List.set_cons_zero, List.set_cons_succ]
  refine wpAnyH_take (i := 15) (oi := { dst := some 36, op := Op.move (Operand.tmp 6), type := 3, pos := "law.go:65", after := #[], guard := none }) (v := .int .i64 1) rfl (by kernel_rfl) (by kernel_rfl) (by kernel_rfl) (fun _ _ _ h => h) (Or.inl ⟨by rfl, ?_⟩) ((Below.refl _ w1).drew) ?_
  · intro W hSw; clear hSw; go_simp
  try simp only [Act.put, List.setIfInBounds_toArray, List.set_cons_zero, List.set_cons_succ]
  refine wpAnyH_take (i := 16) (oi := { dst := some 37, op := Op.binOp BinOp.add 3 (Operand.const (Value.int IntKind.i64 40)) (Operand.tmp 36) 3, type := 3, pos := "law.go:65", after := #[{ on := 15, ground := Ground.data }], guard := none }) (v := .int .i64 41) rfl (by kernel_rfl) (by kernel_rfl) (by kernel_rfl) (fun _ _ _ h => h) (Or.inl ⟨by rfl, ?_⟩) ((Below.refl _ w1).drew) ?_
  · intro W hSw; clear hSw; go_simp; exact IntWalk.i64_in _ (by omega)
  try simp only [Act.put, List.setIfInBounds_toArray, List.set_cons_zero, List.set_cons_succ]
  refine wpAnyH_take (i := 20) (oi := { dst := some 41, op := Op.move (Operand.tmp 6), type := 3, pos := "law.go:65", after := #[], guard := none }) (v := .int .i64 1) rfl (by kernel_rfl) (by kernel_rfl) (by kernel_rfl) (fun _ _ _ h => h) (Or.inl ⟨by rfl, ?_⟩) ((Below.refl _ w1).drew) ?_
  · intro W hSw; clear hSw; go_simp
  try simp only [Act.put, List.setIfInBounds_toArray, List.set_cons_zero, List.set_cons_succ]
  refine wpAnyH_take (i := 21) (oi := { dst := some 42, op := Op.binOp BinOp.add 3 (Operand.const (Value.int IntKind.i64 100)) (Operand.tmp 41) 3, type := 3, pos := "law.go:65", after := #[{ on := 20, ground := Ground.data }], guard := none }) (v := .int .i64 101) rfl (by kernel_rfl) (by kernel_rfl) (by kernel_rfl) (fun _ _ _ h => h) (Or.inl ⟨by rfl, ?_⟩) ((Below.refl _ w1).drew) ?_
  · intro W hSw; clear hSw; go_simp; exact IntWalk.i64_in _ (by omega)
  try simp only [Act.put, List.setIfInBounds_toArray, List.set_cons_zero, List.set_cons_succ]
  refine wpAnyH_2 (i := 17) (j := 22) (by kernel_rfl) ?_ ?_
  · refine (wpOp_value (o := { dst := some 38, op := Op.makeSlice 28 (Operand.tmp 37) (Operand.tmp 37), type := 28, pos := "law.go:65", after := #[{ on := 16, ground := Ground.data }, { on := 16, ground := Ground.data }], guard := none }) (v := .slice (some ⟨w1.drew.heap.size, 0, none⟩) 41 41) (w' := w1.drew.alloc (.cells (cellsB za).toArray 5)) rfl (by rfl) (exec_valM rfl (HMA.out w1.drew)) ?_)
    have HBwa := Lib.hid (alloc_below w1.drew (.cells (cellsB za).toArray 5))
    have HXwa := Lib.hid (Blk.new w1.drew 5 (cellsB za).toArray)
    generalize hwwa : w1.drew.alloc (.cells (cellsB za).toArray 5) = wa at *
    clear hwwa
    refine ⟨HD1.out.trans HBwa.out, ?_⟩
    try simp only [Act.put, List.setIfInBounds_toArray, List.set_cons_zero, List.set_cons_succ]
    refine wpAnyH_more (S' := fun W => Below wa.heap.size wa W) (fun W h => HD1.out.trans (HBwa.out.trans (h.mono HBwa.out.size))) _ _ _ _ ?_
    refine wpAnyH_take (i := 18) (oi := { dst := some 39, op := Op.convert 28 9 (Operand.tmp 38), type := 9, pos := "law.go:65", after := #[{ on := 17, ground := Ground.data }], guard := none }) (v := .string ⟨za.toArray⟩) rfl (by kernel_rfl) (by kernel_rfl) (by kernel_rfl) (fun _ _ _ h => h) (Or.inl ⟨by rfl, ?_⟩) (Below.refl _ _) ?_
    · intro W hSw; exact exec_valM rfl (convert_row za W _ (Nat.succ w1.drew.heap.size) 41 41 ((rb_made HXwa.out HLza.out).below (hSw.mono (Nat.succ_le_of_lt HXwa.out.lt))))
    try simp only [Act.put, List.setIfInBounds_toArray, List.set_cons_zero, List.set_cons_succ]
    refine wpAnyH_take (i := 19) (oi := { dst := some 40, op := Op.build 23 #[(0, Operand.const (Value.int IntKind.i64 1)), (4, Operand.tmp 39)], type := 23, pos := "law.go:65", after := #[{ on := 18, ground := Ground.data }], guard := none }) (v := .agg #[.int .i64 1, .int .i64 0, .int .i64 0, .bool false, .string ⟨za.toArray⟩, .string ⟨#[]⟩]) rfl (by kernel_rfl) (by kernel_rfl) (by kernel_rfl) (fun _ _ _ h => h) (Or.inl ⟨by rfl, ?_⟩) (Below.refl _ _) ?_
    · intro W hSw; clear hSw; go_simp
    try simp only [Act.put, List.setIfInBounds_toArray, List.set_cons_zero, List.set_cons_succ]
    refine wpAnyH_1 (i := 22) (by kernel_rfl) (wpOp_value (o := { dst := some 43, op := Op.makeSlice 28 (Operand.tmp 42) (Operand.tmp 42), type := 28, pos := "law.go:65", after := #[{ on := 21, ground := Ground.data }, { on := 21, ground := Ground.data }], guard := none }) (v := .slice (some ⟨wa.heap.size, 0, none⟩) 101 101) (w' := wa.alloc (.cells (cellsB zb).toArray 5)) rfl (by rfl) (exec_valM rfl (HMB.out wa)) ?_)
    have HBwb := Lib.hid (alloc_below wa (.cells (cellsB zb).toArray 5))
    have HXwb := Lib.hid (Blk.new wa 5 (cellsB zb).toArray)
    generalize hwwb : wa.alloc (.cells (cellsB zb).toArray 5) = wb at *
    clear hwwb
    refine ⟨HBwb.out, ?_⟩
    try simp only [Act.put, List.setIfInBounds_toArray, List.set_cons_zero, List.set_cons_succ]
    refine wpAnyH_more (S' := fun W => Below wb.heap.size wb W) (fun W h => HBwb.out.trans (h.mono HBwb.out.size)) _ _ _ _ ?_
    refine wpAnyH_take (i := 23) (oi := { dst := some 44, op := Op.convert 28 9 (Operand.tmp 43), type := 9, pos := "law.go:65", after := #[{ on := 22, ground := Ground.data }], guard := none }) (v := .string ⟨zb.toArray⟩) rfl (by kernel_rfl) (by kernel_rfl) (by kernel_rfl) (fun _ _ _ h => h) (Or.inl ⟨by rfl, ?_⟩) (Below.refl _ _) ?_
    · intro W hSw; exact exec_valM rfl (convert_row zb W _ (Nat.succ wa.heap.size) 101 101 ((rb_made HXwb.out HLzb.out).below (hSw.mono (Nat.succ_le_of_lt HXwb.out.lt))))
    try simp only [Act.put, List.setIfInBounds_toArray, List.set_cons_zero, List.set_cons_succ]
    refine wpAnyH_take (i := 24) (oi := { dst := some 45, op := Op.build 23 #[(0, Operand.const (Value.int IntKind.i64 1)), (5, Operand.tmp 44)], type := 23, pos := "law.go:65", after := #[{ on := 23, ground := Ground.data }], guard := none }) (v := .agg #[.int .i64 1, .int .i64 0, .int .i64 0, .bool false, .string ⟨#[]⟩, .string ⟨zb.toArray⟩]) rfl (by kernel_rfl) (by kernel_rfl) (by kernel_rfl) (fun _ _ _ h => h) (Or.inl ⟨by rfl, ?_⟩) (Below.refl _ _) ?_
    · intro W hSw; clear hSw; go_simp
    try simp only [Act.put, List.setIfInBounds_toArray, List.set_cons_zero, List.set_cons_succ]
    refine wpAnyH_1 (i := 25) (by kernel_rfl) (wpOp_value (o := { dst := some 46, op := Op.buildSlice 39 7 #[(0, Operand.tmp 23), (1, Operand.tmp 26), (2, Operand.tmp 29), (3, Operand.tmp 32), (4, Operand.tmp 35), (5, Operand.tmp 40), (6, Operand.tmp 45)], type := 39, pos := "law.go:65", after := #[{ on := 2, ground := Ground.data }, { on := 5, ground := Ground.data }, { on := 8, ground := Ground.data }, { on := 11, ground := Ground.data }, { on := 14, ground := Ground.data }, { on := 19, ground := Ground.data }, { on := 24, ground := Ground.data }], guard := none }) (v := .slice (some ⟨wb.heap.size, 0, none⟩) 7 7) (w' := wb.alloc (.cells (cellsL 1099511627777 0 1001 (-1001) 1001 ⟨za.toArray⟩ ⟨zb.toArray⟩) 23)) rfl (by rfl) (by go_simp) ?_)
    have HBE := Lib.hid ((HD1.out.trans (HBwa.out.trans (HBwb.out.mono HBwa.out.size))).trans ((alloc_below wb (.cells (cellsL 1099511627777 0 1001 (-1001) 1001 ⟨za.toArray⟩ ⟨zb.toArray⟩) 23)).mono (Nat.le_trans HBwa.out.size HBwb.out.size)))
    have HBL := Lib.hid (alloc_below wb (.cells (cellsL 1099511627777 0 1001 (-1001) 1001 ⟨za.toArray⟩ ⟨zb.toArray⟩) 23))
    have HXE := Lib.hid (Blk.new wb 23 (cellsL 1099511627777 0 1001 (-1001) 1001 ⟨za.toArray⟩ ⟨zb.toArray⟩))
    generalize hwE : wb.alloc (.cells (cellsL 1099511627777 0 1001 (-1001) 1001 ⟨za.toArray⟩ ⟨zb.toArray⟩) 23) = wE at *
    clear hwE
    refine ⟨HBL.out, ?_⟩
    try simp only [Act.put, List.setIfInBounds_toArray, List.set_cons_zero, List.set_cons_succ]
    refine wpAnyH_take (i := 26) (oi := { dst := some 7, op := Op.assign (Operand.tmp 46), type := 39, pos := "law.go:65", after := #[{ on := 25, ground := Ground.data }, { on := 0, ground := Ground.phase }, { on := 1, ground := Ground.phase }, { on := 2, ground := Ground.phase }, { on := 3, ground := Ground.phase }, { on := 4, ground := Ground.phase }, { on := 5, ground := Ground.phase }, { on := 6, ground := Ground.phase }, { on := 7, ground := Ground.phase }, { on := 8, ground := Ground.phase }, { on := 9, ground := Ground.phase }, { on := 10, ground := Ground.phase }, { on := 11, ground := Ground.phase }, { on := 12, ground := Ground.phase }, { on := 13, ground := Ground.phase }, { on := 14, ground := Ground.phase }, { on := 15, ground := Ground.phase }, { on := 16, ground := Ground.phase }, { on := 17, ground := Ground.phase }, { on := 18, ground := Ground.phase }, { on := 19, ground := Ground.phase }, { on := 20, ground := Ground.phase }, { on := 21, ground := Ground.phase }, { on := 22, ground := Ground.phase }, { on := 23, ground := Ground.phase }, { on := 24, ground := Ground.phase }, { on := 25, ground := Ground.phase }], guard := none }) (v := .slice (some ⟨wb.heap.size, 0, none⟩) 7 7) rfl (by kernel_rfl) (by kernel_rfl) (by kernel_rfl) (fun _ _ _ h => h) (Or.inl ⟨by rfl, ?_⟩) HBL.out ?_
    · intro W hSw; clear hSw; go_simp
    try simp only [Act.put, List.setIfInBounds_toArray, List.set_cons_zero, List.set_cons_succ]
    refine wpAnyH_done (by kernel_rfl) ?_ _
    refine NoPanic.normal ?_
    generalize wb.heap.size = gE at *
    obtain ⟨m, hm, q0, q1, q2, q3, q4, q5⟩ := cellsL_at HXE.out q hq
    have hr := HRI.out m hm
    have HR := Lib.hid hr
    obtain ⟨m0, m1, m2, m3, m4, m5⟩ := m
    simp only at q0 q1 q2 q3 q4 q5
    clear hm hr HXE
    go_wp2_with fail
    refine (right_ ⟨m0, m1, m2, m3, m4, m5⟩ wE).mono ?_
    rintro e w3 ⟨rfl, hb3⟩
    rw [HR.out]
    have HF := Lib.hid (HB1.out.trans ((HBE.out.trans (hb3.mono HBE.out.size)).mono HB1.out.size))
    clear hb3
    go_wp2_with fail
    go_ret
    exact ⟨rfl, HF.out⟩
  · refine (wpOp_value (o := { dst := some 43, op := Op.makeSlice 28 (Operand.tmp 42) (Operand.tmp 42), type := 28, pos := "law.go:65", after := #[{ on := 21, ground := Ground.data }, { on := 21, ground := Ground.data }], guard := none }) (v := .slice (some ⟨w1.drew.heap.size, 0, none⟩) 101 101) (w' := w1.drew.alloc (.cells (cellsB zb).toArray 5)) rfl (by rfl) (exec_valM rfl (HMB.out w1.drew)) ?_)
    have HBwa := Lib.hid (alloc_below w1.drew (.cells (cellsB zb).toArray 5))
    have HXwa := Lib.hid (Blk.new w1.drew 5 (cellsB zb).toArray)
    generalize hwwa : w1.drew.alloc (.cells (cellsB zb).toArray 5) = wa at *
    clear hwwa
    refine ⟨HD1.out.trans HBwa.out, ?_⟩
    try simp only [Act.put, List.setIfInBounds_toArray, List.set_cons_zero, List.set_cons_succ]
    refine wpAnyH_more (S' := fun W => Below wa.heap.size wa W) (fun W h => HD1.out.trans (HBwa.out.trans (h.mono HBwa.out.size))) _ _ _ _ ?_
    refine wpAnyH_take (i := 23) (oi := { dst := some 44, op := Op.convert 28 9 (Operand.tmp 43), type := 9, pos := "law.go:65", after := #[{ on := 22, ground := Ground.data }], guard := none }) (v := .string ⟨zb.toArray⟩) rfl (by kernel_rfl) (by kernel_rfl) (by kernel_rfl) (fun _ _ _ h => h) (Or.inl ⟨by rfl, ?_⟩) (Below.refl _ _) ?_
    · intro W hSw; exact exec_valM rfl (convert_row zb W _ (Nat.succ w1.drew.heap.size) 101 101 ((rb_made HXwa.out HLzb.out).below (hSw.mono (Nat.succ_le_of_lt HXwa.out.lt))))
    try simp only [Act.put, List.setIfInBounds_toArray, List.set_cons_zero, List.set_cons_succ]
    refine wpAnyH_take (i := 24) (oi := { dst := some 45, op := Op.build 23 #[(0, Operand.const (Value.int IntKind.i64 1)), (5, Operand.tmp 44)], type := 23, pos := "law.go:65", after := #[{ on := 23, ground := Ground.data }], guard := none }) (v := .agg #[.int .i64 1, .int .i64 0, .int .i64 0, .bool false, .string ⟨#[]⟩, .string ⟨zb.toArray⟩]) rfl (by kernel_rfl) (by kernel_rfl) (by kernel_rfl) (fun _ _ _ h => h) (Or.inl ⟨by rfl, ?_⟩) (Below.refl _ _) ?_
    · intro W hSw; clear hSw; go_simp
    try simp only [Act.put, List.setIfInBounds_toArray, List.set_cons_zero, List.set_cons_succ]
    refine wpAnyH_1 (i := 17) (by kernel_rfl) (wpOp_value (o := { dst := some 38, op := Op.makeSlice 28 (Operand.tmp 37) (Operand.tmp 37), type := 28, pos := "law.go:65", after := #[{ on := 16, ground := Ground.data }, { on := 16, ground := Ground.data }], guard := none }) (v := .slice (some ⟨wa.heap.size, 0, none⟩) 41 41) (w' := wa.alloc (.cells (cellsB za).toArray 5)) rfl (by rfl) (exec_valM rfl (HMA.out wa)) ?_)
    have HBwb := Lib.hid (alloc_below wa (.cells (cellsB za).toArray 5))
    have HXwb := Lib.hid (Blk.new wa 5 (cellsB za).toArray)
    generalize hwwb : wa.alloc (.cells (cellsB za).toArray 5) = wb at *
    clear hwwb
    refine ⟨HBwb.out, ?_⟩
    try simp only [Act.put, List.setIfInBounds_toArray, List.set_cons_zero, List.set_cons_succ]
    refine wpAnyH_more (S' := fun W => Below wb.heap.size wb W) (fun W h => HBwb.out.trans (h.mono HBwb.out.size)) _ _ _ _ ?_
    refine wpAnyH_take (i := 18) (oi := { dst := some 39, op := Op.convert 28 9 (Operand.tmp 38), type := 9, pos := "law.go:65", after := #[{ on := 17, ground := Ground.data }], guard := none }) (v := .string ⟨za.toArray⟩) rfl (by kernel_rfl) (by kernel_rfl) (by kernel_rfl) (fun _ _ _ h => h) (Or.inl ⟨by rfl, ?_⟩) (Below.refl _ _) ?_
    · intro W hSw; exact exec_valM rfl (convert_row za W _ (Nat.succ wa.heap.size) 41 41 ((rb_made HXwb.out HLza.out).below (hSw.mono (Nat.succ_le_of_lt HXwb.out.lt))))
    try simp only [Act.put, List.setIfInBounds_toArray, List.set_cons_zero, List.set_cons_succ]
    refine wpAnyH_take (i := 19) (oi := { dst := some 40, op := Op.build 23 #[(0, Operand.const (Value.int IntKind.i64 1)), (4, Operand.tmp 39)], type := 23, pos := "law.go:65", after := #[{ on := 18, ground := Ground.data }], guard := none }) (v := .agg #[.int .i64 1, .int .i64 0, .int .i64 0, .bool false, .string ⟨za.toArray⟩, .string ⟨#[]⟩]) rfl (by kernel_rfl) (by kernel_rfl) (by kernel_rfl) (fun _ _ _ h => h) (Or.inl ⟨by rfl, ?_⟩) (Below.refl _ _) ?_
    · intro W hSw; clear hSw; go_simp
    try simp only [Act.put, List.setIfInBounds_toArray, List.set_cons_zero, List.set_cons_succ]
    refine wpAnyH_1 (i := 25) (by kernel_rfl) (wpOp_value (o := { dst := some 46, op := Op.buildSlice 39 7 #[(0, Operand.tmp 23), (1, Operand.tmp 26), (2, Operand.tmp 29), (3, Operand.tmp 32), (4, Operand.tmp 35), (5, Operand.tmp 40), (6, Operand.tmp 45)], type := 39, pos := "law.go:65", after := #[{ on := 2, ground := Ground.data }, { on := 5, ground := Ground.data }, { on := 8, ground := Ground.data }, { on := 11, ground := Ground.data }, { on := 14, ground := Ground.data }, { on := 19, ground := Ground.data }, { on := 24, ground := Ground.data }], guard := none }) (v := .slice (some ⟨wb.heap.size, 0, none⟩) 7 7) (w' := wb.alloc (.cells (cellsL 1099511627777 0 1001 (-1001) 1001 ⟨za.toArray⟩ ⟨zb.toArray⟩) 23)) rfl (by rfl) (by go_simp) ?_)
    have HBE := Lib.hid ((HD1.out.trans (HBwa.out.trans (HBwb.out.mono HBwa.out.size))).trans ((alloc_below wb (.cells (cellsL 1099511627777 0 1001 (-1001) 1001 ⟨za.toArray⟩ ⟨zb.toArray⟩) 23)).mono (Nat.le_trans HBwa.out.size HBwb.out.size)))
    have HBL := Lib.hid (alloc_below wb (.cells (cellsL 1099511627777 0 1001 (-1001) 1001 ⟨za.toArray⟩ ⟨zb.toArray⟩) 23))
    have HXE := Lib.hid (Blk.new wb 23 (cellsL 1099511627777 0 1001 (-1001) 1001 ⟨za.toArray⟩ ⟨zb.toArray⟩))
    generalize hwE : wb.alloc (.cells (cellsL 1099511627777 0 1001 (-1001) 1001 ⟨za.toArray⟩ ⟨zb.toArray⟩) 23) = wE at *
    clear hwE
    refine ⟨HBL.out, ?_⟩
    try simp only [Act.put, List.setIfInBounds_toArray, List.set_cons_zero, List.set_cons_succ]
    refine wpAnyH_take (i := 26) (oi := { dst := some 7, op := Op.assign (Operand.tmp 46), type := 39, pos := "law.go:65", after := #[{ on := 25, ground := Ground.data }, { on := 0, ground := Ground.phase }, { on := 1, ground := Ground.phase }, { on := 2, ground := Ground.phase }, { on := 3, ground := Ground.phase }, { on := 4, ground := Ground.phase }, { on := 5, ground := Ground.phase }, { on := 6, ground := Ground.phase }, { on := 7, ground := Ground.phase }, { on := 8, ground := Ground.phase }, { on := 9, ground := Ground.phase }, { on := 10, ground := Ground.phase }, { on := 11, ground := Ground.phase }, { on := 12, ground := Ground.phase }, { on := 13, ground := Ground.phase }, { on := 14, ground := Ground.phase }, { on := 15, ground := Ground.phase }, { on := 16, ground := Ground.phase }, { on := 17, ground := Ground.phase }, { on := 18, ground := Ground.phase }, { on := 19, ground := Ground.phase }, { on := 20, ground := Ground.phase }, { on := 21, ground := Ground.phase }, { on := 22, ground := Ground.phase }, { on := 23, ground := Ground.phase }, { on := 24, ground := Ground.phase }, { on := 25, ground := Ground.phase }], guard := none }) (v := .slice (some ⟨wb.heap.size, 0, none⟩) 7 7) rfl (by kernel_rfl) (by kernel_rfl) (by kernel_rfl) (fun _ _ _ h => h) (Or.inl ⟨by rfl, ?_⟩) HBL.out ?_
    · intro W hSw; clear hSw; go_simp
    try simp only [Act.put, List.setIfInBounds_toArray, List.set_cons_zero, List.set_cons_succ]
    refine wpAnyH_done (by kernel_rfl) ?_ _
    refine NoPanic.normal ?_
    generalize wb.heap.size = gE at *
    obtain ⟨m, hm, q0, q1, q2, q3, q4, q5⟩ := cellsL_at HXE.out q hq
    have hr := HRI.out m hm
    have HR := Lib.hid hr
    obtain ⟨m0, m1, m2, m3, m4, m5⟩ := m
    simp only at q0 q1 q2 q3 q4 q5
    clear hm hr HXE
    go_wp2_with fail
    refine (right_ ⟨m0, m1, m2, m3, m4, m5⟩ wE).mono ?_
    rintro e w3 ⟨rfl, hb3⟩
    rw [HR.out]
    have HF := Lib.hid (HB1.out.trans ((HBE.out.trans (hb3.mono HBE.out.size)).mono HB1.out.size))
    clear hb3
    go_wp2_with fail
    go_ret
    exact ⟨rfl, HF.out⟩

set_option maxHeartbeats 1000000 in
theorem messageLimits (i : Int) (over : Bool) (w : World) : Calls Try.prog 6 #[.int .i64 i, .bool over] w fun e w' => e = .returned (.bool true) ∧ Below w.heap.size w w' := by
  by_cases h0 : i < 0
  · go_enter Try.func6, Try.ntmps6
    go_wp2_with fail
    refine (alive_ _).mono ?_
    rintro e w1 ⟨rfl, hb1⟩
    have HB1 := Lib.hid hb1
    clear hb1
    go_wp2_with fail
    go_ret
    exact ⟨rfl, HB1.out⟩
  by_cases h6 : 6 < i
  · go_enter Try.func6, Try.ntmps6
    go_wp2_with fail
    refine (alive_ _).mono ?_
    rintro e w1 ⟨rfl, hb1⟩
    have HB1 := Lib.hid hb1
    clear hb1
    go_wp2_with fail
    go_ret
    exact ⟨rfl, HB1.out⟩
  obtain ⟨q, rfl⟩ := Int.eq_ofNat_of_zero_le (show 0 ≤ i by omega)
  cases over
  · exact limits_false q (by omega) w
  · exact limits_true q (by omega) w
end Go.Proofs.Ytppmpgggjokgdaa
