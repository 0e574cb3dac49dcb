/- . . . . -/
import Derived.Test.YtjfoflbaoceemaaGreatJ03
import Derived.Laws.IdiomStrings
import Derived.Deep.LoopGhost
import Derived.Test.YtjfoflbaoceemaaGreatJ02
set_option maxRecDepth 4000
namespace Go.Proofs.YtjfoflbaoceemaaGreat
open Go.RowKit
theorem exec_value {P : Program} {o : Oper} {a : Act} {x : Sem Value} {w w' : World} {v : Value} (h : execOp a.eval o = (do pure (.value (← x)))) (hx : x.run P w = .ok v w') : (execOp a.eval o).run P w = .ok (.value v) w' := by
  rw [h]; simp [hx]
theorem exec_append {P : Program} {o : Oper} {a : Act} {s x : Operand} {t : TypeId} {w w' : World} {v u r : Value} (ho : o.op = .call { callee := .builtin .append, args := #[s, x], argTypes := #[t, t] }) (hs : a.eval s = v) (hx : a.eval x = u)
    (h : (Builtin.append_ #[t, t] o.type #[v, u]).run P w = .ok r w') : (execOp a.eval o).run P w = .ok (.value r) w' := by
  unfold execOp
  simp only [ho, resolve, invoke, builtin, Sem.run_bind, Sem.run_pure, Result.andThen_ok, List.map_toArray, List.map_cons, List.map_nil, hs, hx, h]
theorem exec_build2 {P : Program} {o : Oper} {a : Act} {t i j : Nat} {x y : Operand} {u v r : Value} {w w' : World} (ho : o.op = .build t #[(i, x), (j, y)]) (hx : a.eval x = u) (hy : a.eval y = v) (h : (Instr.build t #[(i, u), (j, v)]).run P w = .ok r w') : (execOp a.eval o).run P w = .ok (.value r) w' := by
  unfold execOp
  simp only [ho, Sem.run_bind, Sem.run_pure, Result.andThen_ok, List.map_toArray, List.map_cons, List.map_nil, hx, hy, h]
theorem exec_buildS1 {P : Program} {o : Oper} {a : Act} {t n i : Nat} {x : Operand} {u r : Value} {w w' : World} (ho : o.op = .buildSlice t n #[(i, x)]) (hx : a.eval x = u) (h : (Instr.buildSlice t n #[(i, u)]).run P w = .ok r w') : (execOp a.eval o).run P w = .ok (.value r) w' := by
  unfold execOp
  simp only [ho, Sem.run_bind, Sem.run_pure, Result.andThen_ok, List.map_toArray, List.map_cons, List.map_nil, hx, h]
section
variable {w : World} {g : Nat} {O : Nat → Prop} {s : Dk}
theorem write_len (h : DiskAt w g O s) (i : Int) (A : Option Addr) (n c : Nat) (hne : n ≠ 64) : Calls Tryz.prog 33 #[ptr g, .int .i64 i, .slice A n c] w fun e w' => e = .returned (.bool false) ∧ w = w' := by
  have H := Lib.hid h
  clear h
  have hne2 : ((n : Int) == 64) = false := by rw [Bool.eq_false_iff]; simp; omega
  have hne3 : ((n : Int) != 64) = true := by simp; omega
  by_cases hi : 0 ≤ i ∧ i < (s.n : Int)
  · obtain ⟨k, rfl⟩ := Int.eq_ofNat_of_zero_le hi.1
    have hk : k < s.n := by omega
    clear hi
    go_enter Tryz.func33, Tryz.ntmps33
    go_wp2_with (go_at_call 62; refine (has_yes H.out _ hk).mono ?_; rintro e w' ⟨rfl, rfl⟩)
    go_ret
    exact ⟨rfl, rfl⟩
  · have HI : Hid (i < 0 ∨ (s.n : Int) ≤ i) := by show _ ∨ _; omega
    clear hi
    go_enter Tryz.func33, Tryz.ntmps33
    go_wp2_with (go_at_call 62; refine (has_no H.out _ HI.out).mono ?_; rintro e w' ⟨rfl, rfl⟩)
    go_ret
    exact ⟨rfl, rfl⟩
theorem write_no (h : DiskAt w g O s) (i : Int) (A : Option Addr) (c : Nat) (hno : (i < 0 ∨ (s.n : Int) ≤ i) ∨ s.broken = true) : Calls Tryz.prog 33 #[ptr g, .int .i64 i, .slice A 64 c] w fun e w' => e = .returned (.bool false) ∧ w = w' := by
  have H := Lib.hid h
  clear h
  by_cases hi : 0 ≤ i ∧ i < (s.n : Int)
  · obtain ⟨k, rfl⟩ := Int.eq_ofNat_of_zero_le hi.1
    have hk : k < s.n := by omega
    have HB : Hid (s.broken = true) := by rcases hno with hno | hno; · omega
                                          · exact hno
    clear hi hno
    go_enter Tryz.func33, Tryz.ntmps33
    go_wp2_with (first | (go_at_call 62; refine (has_yes H.out _ hk).mono ?_; rintro e w' ⟨rfl, rfl⟩) | (go_at_call 59; refine (broken_is H.out HB.out).mono ?_; rintro e w' ⟨rfl, rfl⟩))
    go_ret
    exact ⟨rfl, rfl⟩
  · have HI : Hid (i < 0 ∨ (s.n : Int) ≤ i) := by show _ ∨ _; omega
    clear hi hno
    go_enter Tryz.func33, Tryz.ntmps33
    go_wp2_with (go_at_call 62; refine (has_no H.out _ HI.out).mono ?_; rintro e w' ⟨rfl, rfl⟩)
    go_ret
    exact ⟨rfl, rfl⟩
def WriteP (w : World) (g : Nat) (O : Nat → Prop) (s : Dk) (i : Nat) (xs : List UInt8) (e : Ending) (w' : World) : Prop :=
  e = .returned (.bool true) ∧ DiskAt w' g (fun i => O i ∨ w.heap.size ≤ i) (s.wr i xs) ∧ Keep (Out O) w w'
theorem write_end {W : World} {O' : Nat → Prop} {gt : Nat} {v : Value} {t : List Sec} {u : List Wr} {i : Nat} {xs : List UInt8} (hi : i < s.n) (hx : xs.length = 64) (hok : s.ok) (hb : s.broken = false) (h : DiskM W g O' gt v t u { s with l := s.l ++ [(i, xs)] }) :
    (s.ends = false → DiskM (W.setCell ⟨g, 2, none⟩ (.int .i64 ((s.count : Int) + 1))) g O' gt v t u (s.wr i xs)) ∧
    (s.ends = true → DiskM ((W.setCell ⟨g, 2, none⟩ (.int .i64 ((s.count : Int) + 1))).setCell ⟨g, 4, none⟩ (.int .i64 ((s.left : Int) - 1))) g O' gt v t u (s.wr i xs)) := by
  have k1 : Keep (fun i _ => i ≠ g) W (W.setCell ⟨g, 2, none⟩ (.int .i64 ((s.count : Int) + 1))) := (Keep.refl W).setCell (fun _ _ hk => hk rfl) _
  have k2 : Keep (fun i _ => i ≠ g) W ((W.setCell ⟨g, 2, none⟩ (.int .i64 ((s.count : Int) + 1))).setCell ⟨g, 4, none⟩ (.int .i64 ((s.left : Int) - 1))) := k1.setCell (fun _ _ hk => hk rfl) _
  have hne := own_ne h.uns h.head (by decide)
  refine ⟨fun he => h.set k1 ?_ (ownsRow_keep h.uns k1 fun i _ hi => hne i hi) h.ou (hok.wr hi hx), fun he => h.set k2 ?_ (ownsRow_keep h.uns k2 fun i _ hi => hne i hi) h.ou (hok.wr hi hx)⟩
  · have := h.head.set_ 2 (.int .i64 ((s.count : Int) + 1))
    simpa [Dk.wr, Dk.n, he] using this
  · have hl : 1 ≤ s.left := by
      simp [Dk.broken, he] at hb; omega
    have := (h.head.set_ 2 (.int .i64 ((s.count : Int) + 1))).set_ 4 (.int .i64 ((s.left : Int) - 1))
    have e : ((s.left - 1 : Nat) : Int) = (s.left : Int) - 1 := by omega
    simpa [Dk.wr, Dk.n, he, e] using this
set_option maxRecDepth 100000 in
set_option maxHeartbeats 1000000 in
theorem write_ (h : DiskAt w g O s) (hb : s.broken = false) (hl : s.l.length ≤ 1000000) (hc : s.count ≤ 1000000) (hleft : s.left ≤ 9223372036854775807) (i : Nat) (hi : i < s.n) (b ob cb : Nat) (xs : List UInt8) (hx : xs.length = 64) (hB : Src w O b ob xs) :
    Calls Tryz.prog 33 #[ptr g, .int .i64 (i : Int), .slice (some ⟨b, ob, none⟩) 64 cb] w (WriteP w g O s i xs) := by
  have H := Lib.hid h
  have HB := Lib.hid hb
  obtain ⟨gt, v, h⟩ := h
  obtain ⟨h0, h1, v', W', hap, h2, hf1, hc0, W3, hcp, hd3, hk3⟩ := write_mem (cb := cb) h hl hi hx hB
  obtain ⟨A', c', rfl⟩ := hd3.slice
  have HE := Lib.hid (write_end hi hx h.ok hb hd3)
  have HOG := Lib.hid h.og
  generalize (olds (s.wr i xs).sure (s.wr i xs).l).length = m' at *
  have hn : s.n ≤ 4096 := h.ok.many
  have hnl : i < s.now.length := by rw [Dk.now_length]; exact hi
  have hold := secs_getD h.ok.now hnl
  have HX54 : Hid ((Tryz.prog.info? 110).map (·.size) = some (cellsB (s.now.getD i [])).length) := by show _ = _; rw [size54, cellsB_length, hold]
  have HBU := Lib.hid (fun W => build56 i _ hold W)
  have HBS := Lib.hid (fun W => buildS48 (.int .i64 (i : Int) :: cellsB (s.now.getD i [])) (by rw [List.length_cons, cellsB_length, hold]) W)
  generalize hUe : (Value.int .i64 (i : Int) :: cellsB (s.now.getD i [])) = U at *
  generalize hXe : cellsB (s.now.getD i []) = X at *
  have HS0 := Lib.hid h0
  have HS1 := Lib.hid h1
  have HS2 := Lib.hid h2
  have HAP := Lib.hid hap
  have HD3 := Lib.hid hd3
  have HK3 := Lib.hid hk3
  have c2 := hd3.head.cell 2
  have c3 := hd3.head.cell 3
  have c4 := hd3.head.cell 4
  have f2 := hd3.head.frozen 2
  have f4 := hd3.head.frozen 4
  have d1 := h2.2.1
  simp at c2 c3 c4
  clear h h0 h1 h2 hap hd3 hk3 hb hx hB hold hnl hUe hXe
  go_enter Tryz.func33, Tryz.ntmps33
  go_wp2_with (first | (go_at_call 62; refine (has_yes H.out _ hi).mono ?_; rintro e w' ⟨rfl, rfl⟩) | (go_at_call 59; refine (broken_is H.out HB.out).mono ?_; rintro e w' ⟨rfl, rfl⟩))
  refine wp_region_noPanic ?_
  refine wp_region_K (k := 18) (S := WS g gt s.n v (i * 64) X) (by kernel_rfl) ?_
  refine wpAnyK_take (i := 0) (oi := { dst := some 20, op := Op.move (Operand.tmp 0), type := 24, pos := "sectors.go:54", after := #[], guard := none }) (v := ptr g) rfl (by kernel_rfl) (by kernel_rfl) (by kernel_rfl) (by kernel_rfl) (by kernel_rfl) (fun _ _ _ h => h) (by decide) HS0.out (by rfl) ?_ ?_
  · intro W hSw; obtain ⟨q0, q1, q2⟩ := hSw; go_simp
  try simp only [Act.put, zA1, zA2, zA3]
  refine wpAnyK_take (i := 1) (oi := { dst := some 21, op := Op.move (Operand.tmp 0), type := 24, pos := "sectors.go:54", after := #[], guard := none }) (v := ptr g) rfl (by kernel_rfl) (by kernel_rfl) (by kernel_rfl) (by kernel_rfl) (by kernel_rfl) (fun _ _ _ h => h) (by decide) HS0.out (by rfl) ?_ ?_
  · intro W hSw; obtain ⟨q0, q1, q2⟩ := hSw; go_simp
  try simp only [Act.put, zA1, zA2, zA3]
  refine wpAnyK_take (i := 2) (oi := { dst := some 22, op := Op.nilCheck (Operand.tmp 21), type := 0, pos := "sectors.go:54", after := #[{ on := 1, ground := Ground.data }], guard := none }) (v := ptr g) rfl (by kernel_rfl) (by kernel_rfl) (by kernel_rfl) (by kernel_rfl) (by kernel_rfl) (fun _ _ _ h => h) (by decide) HS0.out (by rfl) ?_ ?_
  · intro W hSw; obtain ⟨q0, q1, q2⟩ := hSw; go_simp
  try simp only [Act.put, zA1, zA2, zA3]
  refine wpAnyK_take (i := 3) (oi := { dst := some 23, op := Op.fieldAddr 83 (Operand.tmp 22) 1, type := 0, pos := "sectors.go:54", after := #[{ on := 2, ground := Ground.data }], guard := none }) (v := .pointer (some ⟨g, 1, none⟩)) rfl (by kernel_rfl) (by kernel_rfl) (by kernel_rfl) (by kernel_rfl) (by kernel_rfl) (fun _ _ _ h => h) (by decide) HS0.out (by rfl) ?_ ?_
  · intro W hSw; obtain ⟨q0, q1, q2⟩ := hSw; go_simp
  try simp only [Act.put, zA1, zA2, zA3]
  refine wpAnyK_take (i := 4) (oi := { dst := some 24, op := Op.load 81 (Operand.tmp 23), type := 81, pos := "sectors.go:54", after := #[{ on := 3, ground := Ground.data }], guard := none }) (v := v) rfl (by kernel_rfl) (by kernel_rfl) (by kernel_rfl) (by kernel_rfl) (by kernel_rfl) (fun _ _ _ h => h) (by decide) HS0.out (by rfl) ?_ ?_
  · intro W hSw; obtain ⟨q0, q1, q2⟩ := hSw; go_simp
  try simp only [Act.put, zA1, zA2, zA3]
  refine wpAnyK_take (i := 5) (oi := { dst := some 25, op := Op.move (Operand.tmp 1), type := 3, pos := "sectors.go:54", after := #[], guard := none }) (v := .int .i64 (i : Int)) rfl (by kernel_rfl) (by kernel_rfl) (by kernel_rfl) (by kernel_rfl) (by kernel_rfl) (fun _ _ _ h => h) (by decide) HS0.out (by rfl) ?_ ?_
  · intro W hSw; obtain ⟨q0, q1, q2⟩ := hSw; go_simp
  try simp only [Act.put, zA1, zA2, zA3]
  refine wpAnyK_take (i := 6) (oi := { dst := some 26, op := Op.move (Operand.tmp 0), type := 24, pos := "sectors.go:54", after := #[], guard := none }) (v := ptr g) rfl (by kernel_rfl) (by kernel_rfl) (by kernel_rfl) (by kernel_rfl) (by kernel_rfl) (fun _ _ _ h => h) (by decide) HS0.out (by rfl) ?_ ?_
  · intro W hSw; obtain ⟨q0, q1, q2⟩ := hSw; go_simp
  try simp only [Act.put, zA1, zA2, zA3]
  refine wpAnyK_take (i := 7) (oi := { dst := some 27, op := Op.nilCheck (Operand.tmp 26), type := 0, pos := "sectors.go:54", after := #[{ on := 6, ground := Ground.data }], guard := none }) (v := ptr g) rfl (by kernel_rfl) (by kernel_rfl) (by kernel_rfl) (by kernel_rfl) (by kernel_rfl) (fun _ _ _ h => h) (by decide) HS0.out (by rfl) ?_ ?_
  · intro W hSw; obtain ⟨q0, q1, q2⟩ := hSw; go_simp
  try simp only [Act.put, zA1, zA2, zA3]
  refine wpAnyK_take (i := 8) (oi := { dst := some 28, op := Op.fieldAddr 83 (Operand.tmp 27) 0, type := 0, pos := "sectors.go:54", after := #[{ on := 7, ground := Ground.data }], guard := none }) (v := .pointer (some ⟨g, 0, none⟩)) rfl (by kernel_rfl) (by kernel_rfl) (by kernel_rfl) (by kernel_rfl) (by kernel_rfl) (fun _ _ _ h => h) (by decide) HS0.out (by rfl) ?_ ?_
  · intro W hSw; obtain ⟨q0, q1, q2⟩ := hSw; go_simp
  try simp only [Act.put, zA1, zA2, zA3]
  refine wpAnyK_take (i := 9) (oi := { dst := some 29, op := Op.load 80 (Operand.tmp 28), type := 80, pos := "sectors.go:54", after := #[{ on := 8, ground := Ground.data }], guard := none }) (v := .slice (some ⟨gt, 0, none⟩) s.n s.n) rfl (by kernel_rfl) (by kernel_rfl) (by kernel_rfl) (by kernel_rfl) (by kernel_rfl) (fun _ _ _ h => h) (by decide) HS0.out (by rfl) ?_ ?_
  · intro W hSw; obtain ⟨q0, q1, q2⟩ := hSw; go_simp
  try simp only [Act.put, zA1, zA2, zA3]
  refine wpAnyK_take (i := 10) (oi := { dst := some 30, op := Op.move (Operand.tmp 1), type := 3, pos := "sectors.go:54", after := #[], guard := none }) (v := .int .i64 (i : Int)) rfl (by kernel_rfl) (by kernel_rfl) (by kernel_rfl) (by kernel_rfl) (by kernel_rfl) (fun _ _ _ h => h) (by decide) HS0.out (by rfl) ?_ ?_
  · intro W hSw; obtain ⟨q0, q1, q2⟩ := hSw; go_simp
  try simp only [Act.put, zA1, zA2, zA3]
  refine wpAnyK_take (i := 11) (oi := { dst := some 31, op := Op.indexAddr 80 (Operand.tmp 29) (Operand.tmp 30), type := 0, pos := "sectors.go:54", after := #[{ on := 9, ground := Ground.data }, { on := 10, ground := Ground.data }], guard := none }) (v := .pointer (some ⟨gt, i * 64, none⟩)) rfl (by kernel_rfl) (by kernel_rfl) (by kernel_rfl) (by kernel_rfl) (by kernel_rfl) (fun _ _ _ h => h) (by decide) HS0.out (by rfl) ?_ ?_
  · intro W hSw; obtain ⟨q0, q1, q2⟩ := hSw; go_simp
  try simp only [Act.put, zA1, zA2, zA3]
  refine wpAnyK_take (i := 12) (oi := { dst := some 32, op := Op.load 110 (Operand.tmp 31), type := 110, pos := "sectors.go:54", after := #[{ on := 11, ground := Ground.data }], guard := none }) (v := .agg X.toArray) rfl (by kernel_rfl) (by kernel_rfl) (by kernel_rfl) (by kernel_rfl) (by kernel_rfl) (fun _ _ _ h => h) (by decide) HS0.out (by rfl) ?_ ?_
  · intro W hSw; exact exec_value rfl (run_loadAt_mid W gt (i * 64) 110 X _ hSw.2.2 Tryz.underlying110 rfl HX54.out)
  try simp only [Act.put, zA1, zA2, zA3]
  refine wpAnyK_take (i := 13) (oi := { dst := some 33, op := Op.build 112 #[(0, Operand.tmp 25), (1, Operand.tmp 32)], type := 112, pos := "sectors.go:54", after := #[{ on := 5, ground := Ground.data }, { on := 12, ground := Ground.data }], guard := none }) (v := .agg U.toArray) rfl (by kernel_rfl) (by kernel_rfl) (by kernel_rfl) (by kernel_rfl) (by kernel_rfl) (fun _ _ _ h => h) (by decide) HS0.out (by rfl) ?_ ?_
  · intro W hSw; exact exec_build2 rfl rfl rfl (HBU.out W)
  try simp only [Act.put, zA1, zA2, zA3]
  refine wpAnyK_one (i := 14) (o := { dst := some 34, op := Op.buildSlice 81 1 #[(0, Operand.tmp 33)], type := 81, pos := "sectors.go:54", after := #[{ on := 13, ground := Ground.data }], guard := none }) (v := _) (w' := _) (by kernel_rfl) rfl (by rfl) (exec_buildS1 rfl rfl (HBS.out _)) (HS1.out) ?_
  try simp only [Act.put, zA1, zA2, zA3]
  refine wpAnyK_one (i := 15) (o := { dst := some 35, op := Op.call { callee := Callee.builtin Builtin.append, args := #[Operand.tmp 24, Operand.tmp 34], argTypes := #[81, 81] }, type := 81, pos := "sectors.go:54", after := #[{ on := 4, ground := Ground.data }, { on := 14, ground := Ground.data }], guard := none }) (v := _) (w' := _) (by kernel_rfl) rfl (by rfl) (exec_append rfl rfl rfl HAP.out) (HS2.out) ?_
  try simp only [Act.put, zA1, zA2, zA3]
  refine wpAnyK_one (i := 16) (o := { dst := some 36, op := Op.nilCheck (Operand.tmp 20), type := 0, pos := "sectors.go:54", after := #[{ on := 0, ground := Ground.data }, { on := 0, ground := Ground.phase }, { on := 1, ground := Ground.phase }, { on := 2, ground := Ground.phase }, { on := 3, ground := Ground.phase }, { on := 4, ground := Ground.phase }, { on := 5, ground := Ground.phase }, { on := 6, ground := Ground.phase }, { on := 7, ground := Ground.phase }, { on := 8, ground := Ground.phase }, { on := 9, ground := Ground.phase }, { on := 10, ground := Ground.phase }, { on := 11, ground := Ground.phase }, { on := 12, ground := Ground.phase }, { on := 13, ground := Ground.phase }, { on := 14, ground := Ground.phase }, { on := 15, ground := Ground.phase }], guard := none }) (v := ptr g) (w' := W') (by kernel_rfl) rfl (by rfl) (by go_simp) (HS2.out) ?_
  try simp only [Act.put, zA1, zA2, zA3]
  refine wpAnyK_one (i := 17) (o := { dst := some 37, op := Op.fieldAddr 83 (Operand.tmp 36) 1, type := 0, pos := "sectors.go:54", after := #[{ on := 16, ground := Ground.data }, { on := 0, ground := Ground.phase }, { on := 1, ground := Ground.phase }, { on := 2, ground := Ground.phase }, { on := 3, ground := Ground.phase }, { on := 4, ground := Ground.phase }, { on := 5, ground := Ground.phase }, { on := 6, ground := Ground.phase }, { on := 7, ground := Ground.phase }, { on := 8, ground := Ground.phase }, { on := 9, ground := Ground.phase }, { on := 10, ground := Ground.phase }, { on := 11, ground := Ground.phase }, { on := 12, ground := Ground.phase }, { on := 13, ground := Ground.phase }, { on := 14, ground := Ground.phase }, { on := 15, ground := Ground.phase }], guard := none }) (v := .pointer (some ⟨g, 1, none⟩)) (w' := W') (by kernel_rfl) rfl (by rfl) (by go_simp) (HS2.out) ?_
  try simp only [Act.put, zA1, zA2, zA3]
  refine wpAnyK_store (i := 18) (o := { dst := none, op := Op.store 81 (Operand.tmp 37) (Operand.tmp 35), type := 0, pos := "sectors.go:54", after := #[{ on := 17, ground := Ground.data }, { on := 15, ground := Ground.data }, { on := 15, ground := Ground.chain }, { on := 0, ground := Ground.phase }, { on := 1, ground := Ground.phase }, { on := 2, ground := Ground.phase }, { on := 3, ground := Ground.phase }, { on := 4, ground := Ground.phase }, { on := 5, ground := Ground.phase }, { on := 6, ground := Ground.phase }, { on := 7, ground := Ground.phase }, { on := 8, ground := Ground.phase }, { on := 9, ground := Ground.phase }, { on := 10, ground := Ground.phase }, { on := 11, ground := Ground.phase }, { on := 12, ground := Ground.phase }, { on := 13, ground := Ground.phase }, { on := 14, ground := Ground.phase }, { on := 15, ground := Ground.phase }], guard := none }) (w' := W'.setCell ⟨g, 1, none⟩ (.slice A' m' c')) (by kernel_rfl) rfl (by rfl) (by go_simp) (by kernel_rfl) ?_
  try simp only [Act.put]
  refine wpAnyK_done (by kernel_rfl) ?_ _
  refine NoPanic.normal ?_
  go_wp2
  · have he : s.ends = true := by assumption
    go_ret
    exact ⟨rfl, ⟨gt, _, HE.out.2 he⟩, (HK3.out.setCell (p := ⟨g, 2, none⟩) (fun _ _ hk => hk HOG.out) _).setCell (p := ⟨g, 4, none⟩) (fun _ _ hk => hk HOG.out) _⟩
  · have he : s.ends = false := by assumption
    go_ret
    exact ⟨rfl, ⟨gt, _, HE.out.1 he⟩, HK3.out.setCell (p := ⟨g, 2, none⟩) (fun _ _ hk => hk HOG.out) _⟩
end
end Go.Proofs.YtjfoflbaoceemaaGreat
namespace Go.Proofs.YtjfoflbaoceemaaGreat
open Go.RowKit
theorem below_of_keep {B : Nat} {w w' : World} (h : Keep (fun i _ => i < B) w w') (hB : B ≤ w.heap.size) : Below B w w' := h.below hB fun _ _ hi => hi
theorem convert_blk {w : World} {g : Nat} {xs : List UInt8} {n : Nat} (h : Blk w g 5 (cellsB xs).toArray) (hn : xs.length = n) (c : Nat) : (convert 42 9 (.slice (some ⟨g, 0, none⟩) n c)).run Tryz.prog w = .ok (.string ⟨xs.toArray⟩) w := by
  subst hn
  exact run_convert_bytes_back w 42 9 5 ⟨g, 0, none⟩ c xs Tryz.underlying42 Tryz.underlying5 Tryz.underlying9 (fun j hj => by
    rw [Addr.add_mid, h.cell, Nat.zero_add, List.getElem?_toArray, cellsB_get, List.getElem?_eq_getElem hj]; rfl)
theorem DiskAt.drew {w : World} {g : Nat} {O : Nat → Prop} {s : Dk} (h : DiskAt w g O s) : DiskAt w.drew g O s := h.keep (K := fun _ _ => True) ((Keep.refl w).drew) fun _ _ _ => trivial
end Go.Proofs.YtjfoflbaoceemaaGreat
namespace Go.Proofs.YtjfoflbaoceemaaGreat
open Go.RowKit
theorem need_i {n : Int} (h : 1 ≤ n) : ((need n.toNat : Nat) : Int) = (n - 1).tdiv 64 + 1 := by
  rw [Int.tdiv_eq_ediv_of_nonneg (by omega)]
  unfold need; omega
theorem need_of {n : Int} {m : Nat} (h : n.toNat = m) (hn : n ≤ 9223372036854775807) (w : World) : Calls Tryz.prog 172 #[.int .i64 n] w fun e w' => e = .returned (.int .i64 (need m : Nat)) ∧ w = w' := by
  subst h
  rcases Int.lt_or_le n 1 with h | h
  · have e : need n.toNat = 0 := by rw [need_zero]; omega
    rw [e]
    go_enter Tryz.func172, Tryz.ntmps172
    go_wp2
    go_ret
    exact ⟨rfl, rfl⟩
  · have e := need_i h
    have hb : (n - 1).tdiv 64 ≤ n - 1 := by rw [Int.tdiv_eq_ediv_of_nonneg (by omega)]; omega
    have h0 : 0 ≤ (n - 1).tdiv 64 := by rw [Int.tdiv_eq_ediv_of_nonneg (by omega)]; omega
    rw [e]
    clear e
    go_enter Tryz.func172, Tryz.ntmps172
    go_wp2
    go_ret
    exact ⟨rfl, rfl⟩
theorem spanHas {w : World} {g : Nat} {O : Nat → Prop} {s : Dk} (h : DiskAt w g O s) (at_ : Int) (k : Nat) (hk : k ≤ 4611686018427387904) :
    Calls Tryz.prog 173 #[ptr g, .int .i64 at_, .int .i64 (k : Int)] w fun e w' => e = .returned (.bool (s.fits at_ k)) ∧ w = w' := by
  have hn : s.n ≤ 4096 := by obtain ⟨_, _, h⟩ := h; exact h.ok.many
  have H := Lib.hid h
  clear h
  rcases Int.lt_or_le at_ 0 with h0 | h0
  · have e : s.fits at_ k = false := Dk.fits_no.2 (.inl h0)
    rw [e]
    clear e
    go_enter Tryz.func173, Tryz.ntmps173
    go_wp2
    go_ret
    exact ⟨rfl, rfl⟩
  · rcases Int.lt_or_le (s.n : Int) (at_ + (k : Int)) with h1 | h1
    · have e : s.fits at_ k = false := Dk.fits_no.2 (.inr h1)
      rw [e]
      have h2 : decide (at_ ≤ (s.n : Int) - (k : Int)) = false := by simp; omega
      clear e
      go_enter Tryz.func173, Tryz.ntmps173
      go_wp2_with (go_at_call 40; refine (len_ H.out).mono ?_; rintro e w' ⟨rfl, rfl⟩)
      go_ret
      exact ⟨rfl, rfl⟩
    · have e : s.fits at_ k = true := Dk.fits_iff.2 ⟨h0, h1⟩
      rw [e]
      have h2 : decide (at_ ≤ (s.n : Int) - (k : Int)) = true := by simp; omega
      clear e
      go_enter Tryz.func173, Tryz.ntmps173
      go_wp2_with (go_at_call 40; refine (len_ H.out).mono ?_; rintro e w' ⟨rfl, rfl⟩)
      go_ret
      exact ⟨rfl, rfl⟩
end Go.Proofs.YtjfoflbaoceemaaGreat
namespace Go.Proofs.YtjfoflbaoceemaaGreat
open Go.RowKit
def Has (w : World) (K : Nat → Prop) (A : Option Addr) (xs : List UInt8) : Prop :=
  0 < xs.length → ∃ b o, A = some ⟨b, o, none⟩ ∧ K b ∧ b < w.heap.size ∧ ∀ j u, (cellsB xs)[j]? = some u → w.cell? ⟨b, o + j, none⟩ = some u
section
variable {w w' : World} {K K' : Nat → Prop} {A : Option Addr} {xs : List UInt8}
theorem Has.keep (h : Has w K A xs) (k : Keep (fun i _ => K i) w w') : Has w' K A xs := fun hn => by
  obtain ⟨b, o, e, hk, hb, hc⟩ := h hn
  have hbl : w'.heap[b]? = w.heap[b]? := by
    rw [Array.getElem?_eq_getElem hb]
    exact k.block b _ (Array.getElem?_eq_getElem hb) hk
  exact ⟨b, o, e, hk, Nat.lt_of_lt_of_le hb k.size, fun j u hu => (cell_of_heap hbl _).trans (hc j u hu)⟩
theorem Has.below (h : Has w K A xs) (k : Below w.heap.size w w') : Has w' K A xs := h.keep (Keep.of_below k)
theorem Has.more (h : Has w K A xs) (hk : ∀ i, i < w.heap.size → K i → K' i) : Has w K' A xs := fun hn => by
  obtain ⟨b, o, e, hb, hl, hc⟩ := h hn
  exact ⟨b, o, e, hk b hl hb, hl, hc⟩
theorem Has.nil (w : World) (K : Nat → Prop) (A : Option Addr) : Has w K A [] := fun h => absurd h (by simp)
theorem Has.of_blk {b T : Nat} (h : Blk w b T (cellsB xs).toArray) (hk : K b) : Has w K (some ⟨b, 0, none⟩) xs := fun _ =>
  ⟨b, 0, rfl, hk, h.lt, fun j u hu => by rw [h.cell, Nat.zero_add, List.getElem?_toArray]; exact hu⟩
end
theorem copy_some {W : World} {b o n dc m c : Nat} {a : Addr} {xs ys : List UInt8} (hx : xs.length = m) (hr : ∀ j u, (cellsB xs)[j]? = some u → W.cell? (a.add j) = some u) (ht : W.there b o n) (hy : xs.take n = ys) :
    (Builtin.copy_ #[42, 42] 3 #[.slice (some ⟨b, o, none⟩) n dc, .slice (some a) m c]).run Tryz.prog W = .ok (.int .i64 (ys.length : Int)) (W.setCells b o (cellsB ys)) := by
  have hl : ys.length = min n m := by rw [← hy, List.length_take, hx]
  have := run_copy_cells (P := Tryz.prog) W 42 42 3 5 b o n dc a m c (cellsB ys) Tryz.underlying42 size5 (by rw [cellsB_length, hl]; exact Nat.min_comm _ _) (fun j u hu => hr j u (by
      rw [← hy, cellsB_get] at hu
      rw [cellsB_get]
      rw [List.getElem?_take] at hu
      split at hu
      · exact hu
      · cases hu))
    (fun j hj => (ht j (by rw [cellsB_length] at hj; omega)).1) (fun j hj => (ht j (by rw [cellsB_length] at hj; omega)).2) (cellsB_one ys)
  rw [this, cellsB_length]; rfl
theorem sector_copy {w : World} {A : Option Addr} {K : Nat → Prop} {c i : Nat} {xs : List UInt8} (h : Has w K A xs) (hi : i * 64 < xs.length) :
    ∃ b o W2, A = some ⟨b, o, none⟩ ∧
      (Builtin.copy_ #[42, 42] 3 #[.slice (some ⟨w.heap.size, 0, none⟩) 64 64, .slice (some ⟨b, o + i * 64, none⟩) (xs.length - i * 64) (c - i * 64)]).run Tryz.prog (w.alloc (.cells (cellsB (zeros 64)).toArray 109)).drew = .ok (.int .i64 (((xs.drop (i * 64)).take 64).length : Int)) W2 ∧
      Blk W2 w.heap.size 109 (cellsB (chunk xs i)).toArray ∧ Below w.heap.size w W2 ∧ W2.heap.size = w.heap.size + 1 := by
  obtain ⟨b, o, rfl, _, hbl, hc⟩ := h (by omega)
  have hb := Blk.new w 109 (cellsB (zeros 64)).toArray
  have ht := blk_there hb
  rw [cellsB_length, zeros_length] at ht
  have hbel : Below w.heap.size w (w.alloc (.cells (cellsB (zeros 64)).toArray 109)).drew := ((Below.refl _ _).alloc (Nat.le_refl _) _).drew
  have hcopy := copy_some (W := (w.alloc (.cells (cellsB (zeros 64)).toArray 109)).drew) (b := w.heap.size) (o := 0) (n := 64) (dc := 64) (m := xs.length - i * 64) (c := c - i * 64) (a := ⟨b, o + i * 64, none⟩) (xs := xs.drop (i * 64)) (ys := (xs.drop (i * 64)).take 64) (by simp) (fun j u hu => by
    rw [Addr.add_mid, Nat.add_assoc]
    refine (cell_of_heap (hbel.block b hbl) _).trans (hc _ u ?_)
    rw [cellsB_get] at hu ⊢
    rwa [List.getElem?_drop] at hu) ht rfl
  refine ⟨b, o, _, rfl, hcopy, ?_, ?_, ?_⟩
  · have h64 : ((xs.drop (i * 64)).take 64).length ≤ 64 := by simp; omega
    have e : cellsB (zeros 64) = [] ++ cellsB (zeros ((xs.drop (i * 64)).take 64).length) ++ cellsB (zeros (64 - (xs.drop (i * 64)).length)) := by
      rw [List.nil_append, ← cellsB_append]
      congr 1
      unfold zeros
      rw [List.replicate_append_replicate]
      congr 1
      simp; omega
    have := blk_setCells (g := w.heap.size) (t := 109) (cellsB ((xs.drop (i * 64)).take 64)) [] (cellsB (zeros ((xs.drop (i * 64)).take 64).length)) (cellsB (zeros (64 - (xs.drop (i * 64)).length))) ((w.alloc (.cells (cellsB (zeros 64)).toArray 109)).drew) (by rw [cellsB_length, cellsB_length, zeros_length]) (by rw [← e]; exact hb)
    rw [List.nil_append, ← cellsB_append] at this
    exact this
  · exact below_setCells (Nat.le_refl _) _ _ _ hbel
  · rw [(setCells_plain _ _ _ _).2.2.2]; simp [World.drew]
end Go.Proofs.YtjfoflbaoceemaaGreat
