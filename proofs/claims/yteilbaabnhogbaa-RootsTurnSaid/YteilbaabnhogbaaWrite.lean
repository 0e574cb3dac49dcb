/- What a disk's Write does. -/
import Derived.Test.YteilbaabnhogbaaWriteMem
import Derived.Test.YteilbaabnhogbaaOrder
namespace Go.Proofs.Yteilbaabnhogbaa
open Go.RowKit
theorem exec_value {P : Program} {o : Oper} {a : Act} {x : Sem Value} {w w' : World} {v : Value} (h : execOp a.eval o = (do pure (.value (← x)))) (hx : x.run P w = .ok v w') : (execOp a.eval o).run P w = .ok (.value v) w' := by
  rw [h]; simp [hx]
theorem exec_append {P : Program} {o : Oper} {a : Act} {s x : Operand} {t : TypeId} {w w' : World} {v u r : Value} (ho : o.op = .call { callee := .builtin .append, args := #[s, x], argTypes := #[t, t] }) (hs : a.eval s = v) (hx : a.eval x = u)
    (h : (Builtin.append_ #[t, t] o.type #[v, u]).run P w = .ok r w') : (execOp a.eval o).run P w = .ok (.value r) w' := by
  unfold execOp
  simp only [ho, resolve, invoke, builtin, Sem.run_bind, Sem.run_pure, Result.andThen_ok, List.map_toArray, List.map_cons, List.map_nil, hs, hx, h]
theorem exec_build2 {P : Program} {o : Oper} {a : Act} {t i j : Nat} {x y : Operand} {u v r : Value} {w w' : World} (ho : o.op = .build t #[(i, x), (j, y)]) (hx : a.eval x = u) (hy : a.eval y = v) (h : (Instr.build t #[(i, u), (j, v)]).run P w = .ok r w') : (execOp a.eval o).run P w = .ok (.value r) w' := by
  unfold execOp
  simp only [ho, Sem.run_bind, Sem.run_pure, Result.andThen_ok, List.map_toArray, List.map_cons, List.map_nil, hx, hy, h]
theorem exec_buildS1 {P : Program} {o : Oper} {a : Act} {t n i : Nat} {x : Operand} {u r : Value} {w w' : World} (ho : o.op = .buildSlice t n #[(i, x)]) (hx : a.eval x = u) (h : (Instr.buildSlice t n #[(i, u)]).run P w = .ok r w') : (execOp a.eval o).run P w = .ok (.value r) w' := by
  unfold execOp
  simp only [ho, Sem.run_bind, Sem.run_pure, Result.andThen_ok, List.map_toArray, List.map_cons, List.map_nil, hx, h]
section
variable {w : World} {g : Nat} {O : Nat → Prop} {s : St}
theorem write_len (h : DiskAt w g O s) (i : Int) (A : Option Addr) (n c : Nat) (hne : n ≠ 64) : Calls Try.prog 26 #[ptr g, .int .i64 i, .slice A n c] w fun e w' => e = .returned (.bool false) ∧ w = w' := by
  have H := Lib.hid h
  clear h
  have hne2 : ((n : Int) == 64) = false := by rw [Bool.eq_false_iff]; simp; omega
  have hne3 : ((n : Int) != 64) = true := by simp; omega
  by_cases hi : 0 ≤ i ∧ i < (s.n : Int)
  · obtain ⟨k, rfl⟩ := Int.eq_ofNat_of_zero_le hi.1
    have hk : k < s.n := by omega
    clear hi
    go_enter Try.func26, Try.ntmps26
    go_wp2_with (go_at_call 36; refine (has_yes H.out _ hk).mono ?_; rintro e w' ⟨rfl, rfl⟩)
    go_ret
    exact ⟨rfl, rfl⟩
  · have HI : Hid (i < 0 ∨ (s.n : Int) ≤ i) := by show _ ∨ _; omega
    clear hi
    go_enter Try.func26, Try.ntmps26
    go_wp2_with (go_at_call 36; refine (has_no H.out _ HI.out).mono ?_; rintro e w' ⟨rfl, rfl⟩)
    go_ret
    exact ⟨rfl, rfl⟩
theorem write_no (h : DiskAt w g O s) (i : Int) (A : Option Addr) (c : Nat) (hno : (i < 0 ∨ (s.n : Int) ≤ i) ∨ s.broken = true) : Calls Try.prog 26 #[ptr g, .int .i64 i, .slice A 64 c] w fun e w' => e = .returned (.bool false) ∧ w = w' := by
  have H := Lib.hid h
  clear h
  by_cases hi : 0 ≤ i ∧ i < (s.n : Int)
  · obtain ⟨k, rfl⟩ := Int.eq_ofNat_of_zero_le hi.1
    have hk : k < s.n := by omega
    have HB : Hid (s.broken = true) := by rcases hno with hno | hno; · omega
                                          · exact hno
    clear hi hno
    go_enter Try.func26, Try.ntmps26
    go_wp2_with (first | (go_at_call 36; refine (has_yes H.out _ hk).mono ?_; rintro e w' ⟨rfl, rfl⟩) | (go_at_call 19; refine (broken_is H.out HB.out).mono ?_; rintro e w' ⟨rfl, rfl⟩))
    go_ret
    exact ⟨rfl, rfl⟩
  · have HI : Hid (i < 0 ∨ (s.n : Int) ≤ i) := by show _ ∨ _; omega
    clear hi hno
    go_enter Try.func26, Try.ntmps26
    go_wp2_with (go_at_call 36; refine (has_no H.out _ HI.out).mono ?_; rintro e w' ⟨rfl, rfl⟩)
    go_ret
    exact ⟨rfl, rfl⟩
def WriteP (w : World) (g : Nat) (O : Nat → Prop) (s : St) (i : Nat) (xs : List UInt8) (e : Ending) (w' : World) : Prop :=
  e = .returned (.bool true) ∧ DiskAt w' g (fun i => O i ∨ w.heap.size ≤ i) (s.wr i xs) ∧ Keep (Out O) w w'
theorem write_end {W : World} {O' : Nat → Prop} {gt : Nat} {v : Value} {t : List Sec} {u : List Wr} {i : Nat} {xs : List UInt8} (hi : i < s.n) (hx : xs.length = 64) (hok : s.ok) (hb : s.broken = false) (h : DiskM W g O' gt v t u { s with l := s.l ++ [(i, xs)] }) :
    (s.ends = false → DiskM (W.setCell ⟨g, 2, none⟩ (.int .i64 ((s.count : Int) + 1))) g O' gt v t u (s.wr i xs)) ∧
    (s.ends = true → DiskM ((W.setCell ⟨g, 2, none⟩ (.int .i64 ((s.count : Int) + 1))).setCell ⟨g, 4, none⟩ (.int .i64 ((s.left : Int) - 1))) g O' gt v t u (s.wr i xs)) := by
  have k1 : Keep (fun i _ => i ≠ g) W (W.setCell ⟨g, 2, none⟩ (.int .i64 ((s.count : Int) + 1))) := (Keep.refl W).setCell (fun _ _ hk => hk rfl) _
  have k2 : Keep (fun i _ => i ≠ g) W ((W.setCell ⟨g, 2, none⟩ (.int .i64 ((s.count : Int) + 1))).setCell ⟨g, 4, none⟩ (.int .i64 ((s.left : Int) - 1))) := k1.setCell (fun _ _ hk => hk rfl) _
  have hne := own_ne h.uns h.head (by decide)
  refine ⟨fun he => h.set k1 ?_ (ownsRow_keep h.uns k1 fun i _ hi => hne i hi) h.ou (hok.wr hi hx), fun he => h.set k2 ?_ (ownsRow_keep h.uns k2 fun i _ hi => hne i hi) h.ou (hok.wr hi hx)⟩
  · have := h.head.set_ 2 (.int .i64 ((s.count : Int) + 1))
    simpa [St.wr, St.n, he] using this
  · have hl : 1 ≤ s.left := by
      simp [St.broken, he] at hb; omega
    have := (h.head.set_ 2 (.int .i64 ((s.count : Int) + 1))).set_ 4 (.int .i64 ((s.left : Int) - 1))
    have e : ((s.left - 1 : Nat) : Int) = (s.left : Int) - 1 := by omega
    simpa [St.wr, St.n, he, e] using this
set_option maxRecDepth 100000 in
set_option maxHeartbeats 1000000 in
theorem write_ (h : DiskAt w g O s) (hb : s.broken = false) (hl : s.l.length ≤ 1000000) (hc : s.count ≤ 1000000) (hleft : s.left ≤ 9223372036854775807) (i : Nat) (hi : i < s.n) (b ob cb : Nat) (xs : List UInt8) (hx : xs.length = 64) (hB : Src w O b ob xs) :
    Calls Try.prog 26 #[ptr g, .int .i64 (i : Int), .slice (some ⟨b, ob, none⟩) 64 cb] w (WriteP w g O s i xs) := by
  have H := Lib.hid h
  have HB := Lib.hid hb
  obtain ⟨gt, v, h⟩ := h
  obtain ⟨h0, h1, v', W', hap, h2, hf1, hc0, W3, hcp, hd3, hk3⟩ := write_mem (cb := cb) h hl hi hx hB
  obtain ⟨A', c', rfl⟩ := hd3.slice
  have HE := Lib.hid (write_end hi hx h.ok hb hd3)
  have HOG := Lib.hid h.og
  generalize (olds (s.wr i xs).sure (s.wr i xs).l).length = m' at *
  have hn : s.n ≤ 4096 := h.ok.many
  have hnl : i < s.now.length := by rw [St.now_length]; exact hi
  have hold := secs_getD h.ok.now hnl
  have HX54 : Hid ((Try.prog.info? 50).map (·.size) = some (cellsB (s.now.getD i [])).length) := by show _ = _; rw [size54, cellsB_length, hold]
  have HBU := Lib.hid (fun W => build56 i _ hold W)
  have HBS := Lib.hid (fun W => buildS48 (.int .i64 (i : Int) :: cellsB (s.now.getD i [])) (by rw [List.length_cons, cellsB_length, hold]) W)
  generalize hUe : (Value.int .i64 (i : Int) :: cellsB (s.now.getD i [])) = U at *
  generalize hXe : cellsB (s.now.getD i []) = X at *
  have HS0 := Lib.hid h0
  have HS1 := Lib.hid h1
  have HS2 := Lib.hid h2
  have HAP := Lib.hid hap
  have HD3 := Lib.hid hd3
  have HK3 := Lib.hid hk3
  have c2 := hd3.head.cell 2
  have c3 := hd3.head.cell 3
  have c4 := hd3.head.cell 4
  have f2 := hd3.head.frozen 2
  have f4 := hd3.head.frozen 4
  have d1 := h2.2.1
  simp at c2 c3 c4
  clear h h0 h1 h2 hap hd3 hk3 hb hx hB hold hnl hUe hXe
  go_enter Try.func26, Try.ntmps26
  go_wp2_with (first | (go_at_call 36; refine (has_yes H.out _ hi).mono ?_; rintro e w' ⟨rfl, rfl⟩) | (go_at_call 19; refine (broken_is H.out HB.out).mono ?_; rintro e w' ⟨rfl, rfl⟩))
  refine wp_region_noPanic ?_
  refine wp_region_K (k := 18) (S := WS g gt s.n v (i * 64) X) (by kernel_rfl) ?_
  refine wpAnyK_take (i := 0) (oi := { dst := some 20, op := Op.move (Operand.tmp 0), type := 25, pos := "sectors.go:54", after := #[], guard := none }) (v := ptr g) rfl (by kernel_rfl) (by kernel_rfl) (by kernel_rfl) (by kernel_rfl) (by kernel_rfl) (fun _ _ _ h => h) (by decide) HS0.out (by rfl) ?_ ?_
  · intro W hSw; obtain ⟨q0, q1, q2⟩ := hSw; go_simp
  try simp only [Act.put, List.setIfInBounds_toArray, List.set_cons_zero, List.set_cons_succ]
  refine wpAnyK_take (i := 1) (oi := { dst := some 21, op := Op.move (Operand.tmp 0), type := 25, pos := "sectors.go:54", after := #[], guard := none }) (v := ptr g) rfl (by kernel_rfl) (by kernel_rfl) (by kernel_rfl) (by kernel_rfl) (by kernel_rfl) (fun _ _ _ h => h) (by decide) HS0.out (by rfl) ?_ ?_
  · intro W hSw; obtain ⟨q0, q1, q2⟩ := hSw; go_simp
  try simp only [Act.put, List.setIfInBounds_toArray, List.set_cons_zero, List.set_cons_succ]
  refine wpAnyK_take (i := 2) (oi := { dst := some 22, op := Op.nilCheck (Operand.tmp 21), type := 0, pos := "sectors.go:54", after := #[{ on := 1, ground := Ground.data }], guard := none }) (v := ptr g) rfl (by kernel_rfl) (by kernel_rfl) (by kernel_rfl) (by kernel_rfl) (by kernel_rfl) (fun _ _ _ h => h) (by decide) HS0.out (by rfl) ?_ ?_
  · intro W hSw; obtain ⟨q0, q1, q2⟩ := hSw; go_simp
  try simp only [Act.put, List.setIfInBounds_toArray, List.set_cons_zero, List.set_cons_succ]
  refine wpAnyK_take (i := 3) (oi := { dst := some 23, op := Op.fieldAddr 42 (Operand.tmp 22) 1, type := 0, pos := "sectors.go:54", after := #[{ on := 2, ground := Ground.data }], guard := none }) (v := .pointer (some ⟨g, 1, none⟩)) rfl (by kernel_rfl) (by kernel_rfl) (by kernel_rfl) (by kernel_rfl) (by kernel_rfl) (fun _ _ _ h => h) (by decide) HS0.out (by rfl) ?_ ?_
  · intro W hSw; obtain ⟨q0, q1, q2⟩ := hSw; go_simp
  try simp only [Act.put, List.setIfInBounds_toArray, List.set_cons_zero, List.set_cons_succ]
  refine wpAnyK_take (i := 4) (oi := { dst := some 24, op := Op.load 40 (Operand.tmp 23), type := 40, pos := "sectors.go:54", after := #[{ on := 3, ground := Ground.data }], guard := none }) (v := v) rfl (by kernel_rfl) (by kernel_rfl) (by kernel_rfl) (by kernel_rfl) (by kernel_rfl) (fun _ _ _ h => h) (by decide) HS0.out (by rfl) ?_ ?_
  · intro W hSw; obtain ⟨q0, q1, q2⟩ := hSw; go_simp
  try simp only [Act.put, List.setIfInBounds_toArray, List.set_cons_zero, List.set_cons_succ]
  refine wpAnyK_take (i := 5) (oi := { dst := some 25, op := Op.move (Operand.tmp 1), type := 3, pos := "sectors.go:54", after := #[], guard := none }) (v := .int .i64 (i : Int)) rfl (by kernel_rfl) (by kernel_rfl) (by kernel_rfl) (by kernel_rfl) (by kernel_rfl) (fun _ _ _ h => h) (by decide) HS0.out (by rfl) ?_ ?_
  · intro W hSw; obtain ⟨q0, q1, q2⟩ := hSw; go_simp
  try simp only [Act.put, List.setIfInBounds_toArray, List.set_cons_zero, List.set_cons_succ]
  refine wpAnyK_take (i := 6) (oi := { dst := some 26, op := Op.move (Operand.tmp 0), type := 25, pos := "sectors.go:54", after := #[], guard := none }) (v := ptr g) rfl (by kernel_rfl) (by kernel_rfl) (by kernel_rfl) (by kernel_rfl) (by kernel_rfl) (fun _ _ _ h => h) (by decide) HS0.out (by rfl) ?_ ?_
  · intro W hSw; obtain ⟨q0, q1, q2⟩ := hSw; go_simp
  try simp only [Act.put, List.setIfInBounds_toArray, List.set_cons_zero, List.set_cons_succ]
  refine wpAnyK_take (i := 7) (oi := { dst := some 27, op := Op.nilCheck (Operand.tmp 26), type := 0, pos := "sectors.go:54", after := #[{ on := 6, ground := Ground.data }], guard := none }) (v := ptr g) rfl (by kernel_rfl) (by kernel_rfl) (by kernel_rfl) (by kernel_rfl) (by kernel_rfl) (fun _ _ _ h => h) (by decide) HS0.out (by rfl) ?_ ?_
  · intro W hSw; obtain ⟨q0, q1, q2⟩ := hSw; go_simp
  try simp only [Act.put, List.setIfInBounds_toArray, List.set_cons_zero, List.set_cons_succ]
  refine wpAnyK_take (i := 8) (oi := { dst := some 28, op := Op.fieldAddr 42 (Operand.tmp 27) 0, type := 0, pos := "sectors.go:54", after := #[{ on := 7, ground := Ground.data }], guard := none }) (v := .pointer (some ⟨g, 0, none⟩)) rfl (by kernel_rfl) (by kernel_rfl) (by kernel_rfl) (by kernel_rfl) (by kernel_rfl) (fun _ _ _ h => h) (by decide) HS0.out (by rfl) ?_ ?_
  · intro W hSw; obtain ⟨q0, q1, q2⟩ := hSw; go_simp
  try simp only [Act.put, List.setIfInBounds_toArray, List.set_cons_zero, List.set_cons_succ]
  refine wpAnyK_take (i := 9) (oi := { dst := some 29, op := Op.load 39 (Operand.tmp 28), type := 39, pos := "sectors.go:54", after := #[{ on := 8, ground := Ground.data }], guard := none }) (v := .slice (some ⟨gt, 0, none⟩) s.n s.n) rfl (by kernel_rfl) (by kernel_rfl) (by kernel_rfl) (by kernel_rfl) (by kernel_rfl) (fun _ _ _ h => h) (by decide) HS0.out (by rfl) ?_ ?_
  · intro W hSw; obtain ⟨q0, q1, q2⟩ := hSw; go_simp
  try simp only [Act.put, List.setIfInBounds_toArray, List.set_cons_zero, List.set_cons_succ]
  refine wpAnyK_take (i := 10) (oi := { dst := some 30, op := Op.move (Operand.tmp 1), type := 3, pos := "sectors.go:54", after := #[], guard := none }) (v := .int .i64 (i : Int)) rfl (by kernel_rfl) (by kernel_rfl) (by kernel_rfl) (by kernel_rfl) (by kernel_rfl) (fun _ _ _ h => h) (by decide) HS0.out (by rfl) ?_ ?_
  · intro W hSw; obtain ⟨q0, q1, q2⟩ := hSw; go_simp
  try simp only [Act.put, List.setIfInBounds_toArray, List.set_cons_zero, List.set_cons_succ]
  refine wpAnyK_take (i := 11) (oi := { dst := some 31, op := Op.indexAddr 39 (Operand.tmp 29) (Operand.tmp 30), type := 0, pos := "sectors.go:54", after := #[{ on := 9, ground := Ground.data }, { on := 10, ground := Ground.data }], guard := none }) (v := .pointer (some ⟨gt, i * 64, none⟩)) rfl (by kernel_rfl) (by kernel_rfl) (by kernel_rfl) (by kernel_rfl) (by kernel_rfl) (fun _ _ _ h => h) (by decide) HS0.out (by rfl) ?_ ?_
  · intro W hSw; obtain ⟨q0, q1, q2⟩ := hSw; go_simp
  try simp only [Act.put, List.setIfInBounds_toArray, List.set_cons_zero, List.set_cons_succ]
  refine wpAnyK_take (i := 12) (oi := { dst := some 32, op := Op.load 50 (Operand.tmp 31), type := 50, pos := "sectors.go:54", after := #[{ on := 11, ground := Ground.data }], guard := none }) (v := .agg X.toArray) rfl (by kernel_rfl) (by kernel_rfl) (by kernel_rfl) (by kernel_rfl) (by kernel_rfl) (fun _ _ _ h => h) (by decide) HS0.out (by rfl) ?_ ?_
  · intro W hSw; exact exec_value rfl (run_loadAt_mid W gt (i * 64) 50 X _ hSw.2.2 Try.underlying50 rfl HX54.out)
  try simp only [Act.put, List.setIfInBounds_toArray, List.set_cons_zero, List.set_cons_succ]
  refine wpAnyK_take (i := 13) (oi := { dst := some 33, op := Op.build 52 #[(0, Operand.tmp 25), (1, Operand.tmp 32)], type := 52, pos := "sectors.go:54", after := #[{ on := 5, ground := Ground.data }, { on := 12, ground := Ground.data }], guard := none }) (v := .agg U.toArray) rfl (by kernel_rfl) (by kernel_rfl) (by kernel_rfl) (by kernel_rfl) (by kernel_rfl) (fun _ _ _ h => h) (by decide) HS0.out (by rfl) ?_ ?_
  · intro W hSw; exact exec_build2 rfl rfl rfl (HBU.out W)
  try simp only [Act.put, List.setIfInBounds_toArray, List.set_cons_zero, List.set_cons_succ]
  refine wpAnyK_one (i := 14) (o := { dst := some 34, op := Op.buildSlice 40 1 #[(0, Operand.tmp 33)], type := 40, pos := "sectors.go:54", after := #[{ on := 13, ground := Ground.data }], guard := none }) (v := _) (w' := _) (by kernel_rfl) rfl (by rfl) (exec_buildS1 rfl rfl (HBS.out _)) (HS1.out) ?_
  try simp only [Act.put, List.setIfInBounds_toArray, List.set_cons_zero, List.set_cons_succ]
  refine wpAnyK_one (i := 15) (o := { dst := some 35, op := Op.call { callee := Callee.builtin Builtin.append, args := #[Operand.tmp 24, Operand.tmp 34], argTypes := #[40, 40] }, type := 40, pos := "sectors.go:54", after := #[{ on := 4, ground := Ground.data }, { on := 14, ground := Ground.data }], guard := none }) (v := _) (w' := _) (by kernel_rfl) rfl (by rfl) (exec_append rfl rfl rfl HAP.out) (HS2.out) ?_
  try simp only [Act.put, List.setIfInBounds_toArray, List.set_cons_zero, List.set_cons_succ]
  refine wpAnyK_one (i := 16) (o := { dst := some 36, op := Op.nilCheck (Operand.tmp 20), type := 0, pos := "sectors.go:54", after := #[{ on := 0, ground := Ground.data }, { on := 0, ground := Ground.phase }, { on := 1, ground := Ground.phase }, { on := 2, ground := Ground.phase }, { on := 3, ground := Ground.phase }, { on := 4, ground := Ground.phase }, { on := 5, ground := Ground.phase }, { on := 6, ground := Ground.phase }, { on := 7, ground := Ground.phase }, { on := 8, ground := Ground.phase }, { on := 9, ground := Ground.phase }, { on := 10, ground := Ground.phase }, { on := 11, ground := Ground.phase }, { on := 12, ground := Ground.phase }, { on := 13, ground := Ground.phase }, { on := 14, ground := Ground.phase }, { on := 15, ground := Ground.phase }], guard := none }) (v := ptr g) (w' := W') (by kernel_rfl) rfl (by rfl) (by go_simp) (HS2.out) ?_
  try simp only [Act.put, List.setIfInBounds_toArray, List.set_cons_zero, List.set_cons_succ]
  refine wpAnyK_one (i := 17) (o := { dst := some 37, op := Op.fieldAddr 42 (Operand.tmp 36) 1, type := 0, pos := "sectors.go:54", after := #[{ on := 16, ground := Ground.data }, { on := 0, ground := Ground.phase }, { on := 1, ground := Ground.phase }, { on := 2, ground := Ground.phase }, { on := 3, ground := Ground.phase }, { on := 4, ground := Ground.phase }, { on := 5, ground := Ground.phase }, { on := 6, ground := Ground.phase }, { on := 7, ground := Ground.phase }, { on := 8, ground := Ground.phase }, { on := 9, ground := Ground.phase }, { on := 10, ground := Ground.phase }, { on := 11, ground := Ground.phase }, { on := 12, ground := Ground.phase }, { on := 13, ground := Ground.phase }, { on := 14, ground := Ground.phase }, { on := 15, ground := Ground.phase }], guard := none }) (v := .pointer (some ⟨g, 1, none⟩)) (w' := W') (by kernel_rfl) rfl (by rfl) (by go_simp) (HS2.out) ?_
  try simp only [Act.put, List.setIfInBounds_toArray, List.set_cons_zero, List.set_cons_succ]
  refine wpAnyK_store (i := 18) (o := { dst := none, op := Op.store 40 (Operand.tmp 37) (Operand.tmp 35), type := 0, pos := "sectors.go:54", after := #[{ on := 17, ground := Ground.data }, { on := 15, ground := Ground.data }, { on := 15, ground := Ground.chain }, { on := 0, ground := Ground.phase }, { on := 1, ground := Ground.phase }, { on := 2, ground := Ground.phase }, { on := 3, ground := Ground.phase }, { on := 4, ground := Ground.phase }, { on := 5, ground := Ground.phase }, { on := 6, ground := Ground.phase }, { on := 7, ground := Ground.phase }, { on := 8, ground := Ground.phase }, { on := 9, ground := Ground.phase }, { on := 10, ground := Ground.phase }, { on := 11, ground := Ground.phase }, { on := 12, ground := Ground.phase }, { on := 13, ground := Ground.phase }, { on := 14, ground := Ground.phase }, { on := 15, ground := Ground.phase }], guard := none }) (w' := W'.setCell ⟨g, 1, none⟩ (.slice A' m' c')) (by kernel_rfl) rfl (by rfl) (by go_simp) (by kernel_rfl) ?_
  try simp only [Act.put]
  refine wpAnyK_done (by kernel_rfl) ?_ _
  refine NoPanic.normal ?_
  go_wp2
  · have he : s.ends = true := by assumption
    go_ret
    exact ⟨rfl, ⟨gt, _, HE.out.2 he⟩, (HK3.out.setCell (p := ⟨g, 2, none⟩) (fun _ _ hk => hk HOG.out) _).setCell (p := ⟨g, 4, none⟩) (fun _ _ hk => hk HOG.out) _⟩
  · have he : s.ends = false := by assumption
    go_ret
    exact ⟨rfl, ⟨gt, _, HE.out.1 he⟩, HK3.out.setCell (p := ⟨g, 2, none⟩) (fun _ _ hk => hk HOG.out) _⟩
end
end Go.Proofs.Yteilbaabnhogbaa
