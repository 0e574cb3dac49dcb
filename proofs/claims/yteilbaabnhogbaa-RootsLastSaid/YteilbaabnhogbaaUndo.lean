/- What a disk's undo does: all writes that are not sure are undone, and each bears what it wrote. -/
import Derived.Test.YteilbaabnhogbaaUndoMem
import Derived.Test.YteilbaabnhogbaaWrite
import Derived.Deep.LoopGhost
namespace Go.Proofs.Yteilbaabnhogbaa
open Go.RowKit
theorem exec_store {P : Program} {o : Oper} {a : Act} {x : Sem Unit} {w w' : World} (h : execOp a.eval o = (do x; pure .skip)) (hx : x.run P w = .ok () w') : (execOp a.eval o).run P w = .ok .skip w' := by
  rw [h]; simp [hx]
theorem one_list (l : List UInt8) : (cellsB l).toArray.all (·.oneCell') = true := all_oneCell_toArray (cellsB_one l)
def UndoRel (w : World) (g : Nat) (O : Nat → Prop) (gt : Nat) (v : Value) (s : St) (k : Nat) (i : Value) (wr : World) : Prop :=
  k ≤ s.l.length ∧ i = .int .i64 ((k : Int) - 1) ∧ DiskM wr g O gt v (play s.sure (s.l.take k)) (olds s.sure (s.l.take k) ++ s.l.drop k) s ∧ Keep (Out O) w wr
theorem undo_at {s : St} {k : Nat} {x : Wr} (hx : s.l[k]? = some x) : (olds s.sure (s.l.take (k + 1)) ++ s.l.drop (k + 1))[k]? = some (x.1, (play s.sure (s.l.take k)).getD x.1 []) := by
  have hk := (List.getElem?_eq_some_iff.1 hx).1
  rw [take_snoc' s.l k x hx, olds_snoc, List.append_assoc, List.getElem?_append_right (by rw [olds_length, List.length_take]; omega), olds_length, List.length_take, Nat.min_eq_left (by omega), Nat.sub_self]
  rfl
theorem undo_set {s : St} {k : Nat} {x : Wr} (hx : s.l[k]? = some x) : (olds s.sure (s.l.take (k + 1)) ++ s.l.drop (k + 1)).set k x = olds s.sure (s.l.take k) ++ s.l.drop k := by
  have hk := (List.getElem?_eq_some_iff.1 hx).1
  have e : (olds s.sure (s.l.take k)).length = k := by rw [olds_length, List.length_take]; omega
  rw [take_snoc' s.l k x hx, olds_snoc, List.append_assoc, drop_cons' s.l k x hx, List.set_append_right _ _ (by omega), e, Nat.sub_self]
  rfl
theorem wrs_take {n : Nat} {l : List Wr} (h : wrs n l) (k : Nat) : wrs n (l.take k) := fun x hx => h x (List.mem_of_mem_take hx)
theorem wrs_mid {s : St} (h : s.ok) (k : Nat) : wrs s.n (olds s.sure (s.l.take k) ++ s.l.drop k) := fun x hx => by
  rcases List.mem_append.1 hx with hx | hx
  · exact wrs_olds h.sure (wrs_take h.l k) x hx
  · exact h.l x (List.mem_of_mem_drop hx)
theorem undo_round {wr : World} {g : Nat} {O : Nat → Prop} {gt : Nat} {v : Value} {s : St} {k : Nat} {x : Wr} (hx : s.l[k]? = some x)
    (h : DiskM wr g O gt v (play s.sure (s.l.take (k + 1))) (olds s.sure (s.l.take (k + 1)) ++ s.l.drop (k + 1)) s) :
    ∃ gu cap X Y, v = .slice (some ⟨gu, 0, none⟩) s.l.length cap ∧ cap ≤ maxLen ∧ US g gt s.n gu k x.1 X Y wr.drew ∧ (Try.prog.info? 50).map (·.size) = some X.length ∧ (Try.prog.info? 50).map (·.size) = some Y.length ∧
      (Instr.storeAt 50 (.pointer (some ⟨gu, k * 65 + 1, none⟩)) (.agg X.toArray)).run Try.prog wr.drew = .ok () (wr.drew.setCells gu (k * 65 + 1) X) ∧
      (Instr.storeAt 50 (.pointer (some ⟨gt, x.1 * 64, none⟩)) (.agg Y.toArray)).run Try.prog (wr.drew.setCells gu (k * 65 + 1) X) = .ok () ((wr.drew.setCells gu (k * 65 + 1) X).setCells gt (x.1 * 64) Y) ∧
      DiskM ((wr.drew.setCells gu (k * 65 + 1) X).setCells gt (x.1 * 64) Y) g O gt v (play s.sure (s.l.take k)) (olds s.sure (s.l.take k) ++ s.l.drop k) s ∧ Keep (Out O) wr ((wr.drew.setCells gu (k * 65 + 1) X).setCells gt (x.1 * 64) Y) := by
  have hok := h.ok
  have hk := (List.getElem?_eq_some_iff.1 hx).1
  have hd : DiskM wr.drew g O gt v (play s.sure (s.l.take (k + 1))) (olds s.sure (s.l.take (k + 1)) ++ s.l.drop (k + 1)) s := h.keep (K := fun _ _ => True) ((Keep.refl wr).drew) fun _ _ _ => trivial
  obtain ⟨u1, u2, _⟩ := undo_step hok.l hx
  obtain ⟨gu, cap, hv, hcap, hS, hr1, hr2, hD, hK⟩ := swap_mem hd (secs_play hok.sure (wrs_take hok.l _)) (by rw [play_length]; rfl) (wrs_mid hok _) (undo_at hx)
  simp only at hS hr2 hD hK
  rw [u1] at hS hD hK
  rw [u2, undo_set (x := (x.1, x.2)) hx] at hD
  have hxl := (hok.l x (List.mem_of_getElem? hx))
  have hl2 : ((play s.sure (s.l.take k)).getD x.1 []).length = 64 := secs_getD (secs_play hok.sure (wrs_take hok.l _)) (by rw [play_length]; exact hxl.1)
  have hlen : (olds s.sure (s.l.take (k + 1)) ++ s.l.drop (k + 1)).length = s.l.length := by rw [List.length_append, olds_length, List.length_take, List.length_drop]; omega
  have c1 : (cellsB x.2).toArray.size = 64 := by simp [cellsB_length, hxl.2]
  have c2 : (cellsB ((play s.sure (s.l.take k)).getD x.1 [])).toArray.size = 64 := by rw [List.size_toArray, cellsB_length, hl2]
  refine ⟨gu, cap, _, _, by rw [hv, hlen], hcap, hS, by rw [size54, cellsB_length, hxl.2], by rw [size54, cellsB_length, hl2], ?_, ?_, hD, (Keep.refl wr).drew.trans hK⟩
  · have := run_storeAt_mid (P := Try.prog) wr.drew gu (k * 65 + 1) 50 (cellsB x.2).toArray (by rw [c1]; exact hr1) (by rw [size54, c1]) (one_list _)
    simpa using this
  · have := run_storeAt_mid (P := Try.prog) (wr.drew.setCells gu (k * 65 + 1) (cellsB x.2)) gt (x.1 * 64) 50 (cellsB ((play s.sure (s.l.take k)).getD x.1 [])).toArray (by rw [c2]; exact World.there_setCells hr2 _ _ _) (by rw [size54, c2]) (one_list _)
    rw [List.toList_toArray] at this
    exact this
set_option maxRecDepth 100000 in
set_option maxHeartbeats 1000000 in
theorem undo_ {w : World} {g : Nat} {O : Nat → Prop} {gt : Nat} {v : Value} {s : St} (h : DiskM w g O gt v s.now (olds s.sure s.l) s) (hl : s.l.length ≤ 1000000) :
    Calls Try.prog 20 #[ptr g] w fun e w' => e = .returned (.tuple #[]) ∧ DiskM w' g O gt v s.sure s.l s ∧ Keep (Out O) w w' := by
  obtain ⟨A, c, rfl⟩ := h.slice
  rw [olds_length] at h ⊢
  have hn : s.n ≤ 4096 := h.ok.many
  have c1 := h.head.cell 1
  simp at c1
  have HM := Lib.hid h
  clear h
  go_enter Try.func20, Try.ntmps20
  go_wp2
  go_loopg [2] s.l.length (fun k i wr => UndoRel w g O gt (.slice A s.l.length c) s k i wr)
  case atStart =>
    refine ⟨Nat.le_refl _, ?_, ?_, Keep.refl w⟩
    · rfl
    · rw [List.take_length, List.drop_length, List.append_nil]; exact HM.out
  case round =>
    obtain ⟨hk, rfl, hd, hK⟩ := hrel
    have HK := Lib.hid hK
    have HD := Lib.hid hd
    clear hK
    rcases gk with _ | k
    · clear hd
      go_wp2
      go_end0
      have := HD.out
      rw [List.take_zero, List.drop_zero] at this
      exact ⟨rfl, this, HK.out⟩
    · obtain ⟨x, hx⟩ := at_of_lt s.l k (by omega)
      have hxn : x.1 < s.n := (hd.ok.l x (List.mem_of_getElem? hx)).1
      have d1 := hd.head.cell 1
      simp at d1
      obtain ⟨gu, cap, X, Y, hv, hcap, hS, hX, hY, hs1, hs2, hD2, hK2⟩ := undo_round hx hd
      injection hv with hv1 _ hv3
      subst hv1 hv3
      unfold maxLen at hcap
      have HS := Lib.hid hS
      have HX54 := Lib.hid hX
      have HY54 := Lib.hid hY
      have HST1 := Lib.hid hs1
      have HST2 := Lib.hid hs2
      have HD2 := Lib.hid hD2
      have HK2 := Lib.hid hK2
      have hki : ((k + 1 : Nat) : Int) - 1 = (k : Int) := by omega
      rw [hki]
      have hkl : k < s.l.length := by omega
      clear hd hS hX hY hs1 hs2 hD2 hK2 hx hki HD
      go_wp2
      refine wp_region_noPanic ?_
      refine wp_region_K (k := 25) (S := US g gt s.n gu k x.1 X Y) (by kernel_rfl) ?_
      refine wpAnyK_takeW (i := 0) (oi := { dst := some 20, op := Op.move (Operand.tmp 3), type := 58, pos := "sectors.go:117", after := #[], guard := none }) (v := .pointer (some ⟨gu, k * 65, none⟩)) rfl (by kernel_rfl) (by kernel_rfl) (by kernel_rfl) (fun _ _ _ h => h) (by decide) HS.out (by rfl) ?_ ?_
      · intro W; go_simp
      try simp only [Act.put, List.setIfInBounds_toArray, List.set_cons_zero, List.set_cons_succ]
      refine wpAnyK_takeW (i := 1) (oi := { dst := some 21, op := Op.move (Operand.tmp 0), type := 25, pos := "sectors.go:117", after := #[], guard := none }) (v := ptr g) rfl (by kernel_rfl) (by kernel_rfl) (by kernel_rfl) (fun _ _ _ h => h) (by decide) HS.out (by rfl) ?_ ?_
      · intro W; go_simp
      try simp only [Act.put, List.setIfInBounds_toArray, List.set_cons_zero, List.set_cons_succ]
      refine wpAnyK_takeW (i := 2) (oi := { dst := some 22, op := Op.nilCheck (Operand.tmp 21), type := 0, pos := "sectors.go:117", after := #[{ on := 1, ground := Ground.data }], guard := none }) (v := ptr g) rfl (by kernel_rfl) (by kernel_rfl) (by kernel_rfl) (fun _ _ _ h => h) (by decide) HS.out (by rfl) ?_ ?_
      · intro W; go_simp
      try simp only [Act.put, List.setIfInBounds_toArray, List.set_cons_zero, List.set_cons_succ]
      refine wpAnyK_takeW (i := 3) (oi := { dst := some 23, op := Op.fieldAddr 42 (Operand.tmp 22) 0, type := 0, pos := "sectors.go:117", after := #[{ on := 2, ground := Ground.data }], guard := none }) (v := .pointer (some ⟨g, 0, none⟩)) rfl (by kernel_rfl) (by kernel_rfl) (by kernel_rfl) (fun _ _ _ h => h) (by decide) HS.out (by rfl) ?_ ?_
      · intro W; go_simp
      try simp only [Act.put, List.setIfInBounds_toArray, List.set_cons_zero, List.set_cons_succ]
      refine wpAnyK_take (i := 4) (oi := { dst := some 24, op := Op.load 39 (Operand.tmp 23), type := 39, pos := "sectors.go:117", after := #[{ on := 3, ground := Ground.data }], guard := none }) (v := .slice (some ⟨gt, 0, none⟩) s.n s.n) rfl (by kernel_rfl) (by kernel_rfl) (by kernel_rfl) (by kernel_rfl) (by kernel_rfl) (fun _ _ _ h => h) (by decide) HS.out (by rfl) ?_ ?_
      · intro W hSw; obtain ⟨q0, q1, q2, q3⟩ := hSw; go_simp
      try simp only [Act.put, List.setIfInBounds_toArray, List.set_cons_zero, List.set_cons_succ]
      refine wpAnyK_takeW (i := 5) (oi := { dst := some 25, op := Op.move (Operand.tmp 3), type := 58, pos := "sectors.go:117", after := #[], guard := none }) (v := .pointer (some ⟨gu, k * 65, none⟩)) rfl (by kernel_rfl) (by kernel_rfl) (by kernel_rfl) (fun _ _ _ h => h) (by decide) HS.out (by rfl) ?_ ?_
      · intro W; go_simp
      try simp only [Act.put, List.setIfInBounds_toArray, List.set_cons_zero, List.set_cons_succ]
      refine wpAnyK_takeW (i := 6) (oi := { dst := some 26, op := Op.nilCheck (Operand.tmp 25), type := 0, pos := "sectors.go:117", after := #[{ on := 5, ground := Ground.data }], guard := none }) (v := .pointer (some ⟨gu, k * 65, none⟩)) rfl (by kernel_rfl) (by kernel_rfl) (by kernel_rfl) (fun _ _ _ h => h) (by decide) HS.out (by rfl) ?_ ?_
      · intro W; go_simp
      try simp only [Act.put, List.setIfInBounds_toArray, List.set_cons_zero, List.set_cons_succ]
      refine wpAnyK_takeW (i := 7) (oi := { dst := some 27, op := Op.fieldAddr 52 (Operand.tmp 26) 0, type := 0, pos := "sectors.go:117", after := #[{ on := 6, ground := Ground.data }], guard := none }) (v := .pointer (some ⟨gu, k * 65, none⟩)) rfl (by kernel_rfl) (by kernel_rfl) (by kernel_rfl) (fun _ _ _ h => h) (by decide) HS.out (by rfl) ?_ ?_
      · intro W; go_simp
      try simp only [Act.put, List.setIfInBounds_toArray, List.set_cons_zero, List.set_cons_succ]
      refine wpAnyK_take (i := 8) (oi := { dst := some 28, op := Op.load 3 (Operand.tmp 27), type := 3, pos := "sectors.go:117", after := #[{ on := 7, ground := Ground.data }], guard := none }) (v := .int .i64 (x.1 : Int)) rfl (by kernel_rfl) (by kernel_rfl) (by kernel_rfl) (by kernel_rfl) (by kernel_rfl) (fun _ _ _ h => h) (by decide) HS.out (by rfl) ?_ ?_
      · intro W hSw; obtain ⟨q0, q1, q2, q3⟩ := hSw; go_simp
      try simp only [Act.put, List.setIfInBounds_toArray, List.set_cons_zero, List.set_cons_succ]
      refine wpAnyK_takeW (i := 9) (oi := { dst := some 29, op := Op.move (Operand.tmp 0), type := 25, pos := "sectors.go:117", after := #[], guard := none }) (v := ptr g) rfl (by kernel_rfl) (by kernel_rfl) (by kernel_rfl) (fun _ _ _ h => h) (by decide) HS.out (by rfl) ?_ ?_
      · intro W; go_simp
      try simp only [Act.put, List.setIfInBounds_toArray, List.set_cons_zero, List.set_cons_succ]
      refine wpAnyK_takeW (i := 10) (oi := { dst := some 30, op := Op.nilCheck (Operand.tmp 29), type := 0, pos := "sectors.go:117", after := #[{ on := 9, ground := Ground.data }], guard := none }) (v := ptr g) rfl (by kernel_rfl) (by kernel_rfl) (by kernel_rfl) (fun _ _ _ h => h) (by decide) HS.out (by rfl) ?_ ?_
      · intro W; go_simp
      try simp only [Act.put, List.setIfInBounds_toArray, List.set_cons_zero, List.set_cons_succ]
      refine wpAnyK_takeW (i := 11) (oi := { dst := some 31, op := Op.fieldAddr 42 (Operand.tmp 30) 0, type := 0, pos := "sectors.go:117", after := #[{ on := 10, ground := Ground.data }], guard := none }) (v := .pointer (some ⟨g, 0, none⟩)) rfl (by kernel_rfl) (by kernel_rfl) (by kernel_rfl) (fun _ _ _ h => h) (by decide) HS.out (by rfl) ?_ ?_
      · intro W; go_simp
      try simp only [Act.put, List.setIfInBounds_toArray, List.set_cons_zero, List.set_cons_succ]
      refine wpAnyK_take (i := 12) (oi := { dst := some 32, op := Op.load 39 (Operand.tmp 31), type := 39, pos := "sectors.go:117", after := #[{ on := 11, ground := Ground.data }], guard := none }) (v := .slice (some ⟨gt, 0, none⟩) s.n s.n) rfl (by kernel_rfl) (by kernel_rfl) (by kernel_rfl) (by kernel_rfl) (by kernel_rfl) (fun _ _ _ h => h) (by decide) HS.out (by rfl) ?_ ?_
      · intro W hSw; obtain ⟨q0, q1, q2, q3⟩ := hSw; go_simp
      try simp only [Act.put, List.setIfInBounds_toArray, List.set_cons_zero, List.set_cons_succ]
      refine wpAnyK_takeW (i := 13) (oi := { dst := some 33, op := Op.move (Operand.tmp 3), type := 58, pos := "sectors.go:117", after := #[], guard := none }) (v := .pointer (some ⟨gu, k * 65, none⟩)) rfl (by kernel_rfl) (by kernel_rfl) (by kernel_rfl) (fun _ _ _ h => h) (by decide) HS.out (by rfl) ?_ ?_
      · intro W; go_simp
      try simp only [Act.put, List.setIfInBounds_toArray, List.set_cons_zero, List.set_cons_succ]
      refine wpAnyK_takeW (i := 14) (oi := { dst := some 34, op := Op.nilCheck (Operand.tmp 33), type := 0, pos := "sectors.go:117", after := #[{ on := 13, ground := Ground.data }], guard := none }) (v := .pointer (some ⟨gu, k * 65, none⟩)) rfl (by kernel_rfl) (by kernel_rfl) (by kernel_rfl) (fun _ _ _ h => h) (by decide) HS.out (by rfl) ?_ ?_
      · intro W; go_simp
      try simp only [Act.put, List.setIfInBounds_toArray, List.set_cons_zero, List.set_cons_succ]
      refine wpAnyK_takeW (i := 15) (oi := { dst := some 35, op := Op.fieldAddr 52 (Operand.tmp 34) 0, type := 0, pos := "sectors.go:117", after := #[{ on := 14, ground := Ground.data }], guard := none }) (v := .pointer (some ⟨gu, k * 65, none⟩)) rfl (by kernel_rfl) (by kernel_rfl) (by kernel_rfl) (fun _ _ _ h => h) (by decide) HS.out (by rfl) ?_ ?_
      · intro W; go_simp
      try simp only [Act.put, List.setIfInBounds_toArray, List.set_cons_zero, List.set_cons_succ]
      refine wpAnyK_take (i := 16) (oi := { dst := some 36, op := Op.load 3 (Operand.tmp 35), type := 3, pos := "sectors.go:117", after := #[{ on := 15, ground := Ground.data }], guard := none }) (v := .int .i64 (x.1 : Int)) rfl (by kernel_rfl) (by kernel_rfl) (by kernel_rfl) (by kernel_rfl) (by kernel_rfl) (fun _ _ _ h => h) (by decide) HS.out (by rfl) ?_ ?_
      · intro W hSw; obtain ⟨q0, q1, q2, q3⟩ := hSw; go_simp
      try simp only [Act.put, List.setIfInBounds_toArray, List.set_cons_zero, List.set_cons_succ]
      refine wpAnyK_takeW (i := 17) (oi := { dst := some 37, op := Op.indexAddr 39 (Operand.tmp 32) (Operand.tmp 36), type := 0, pos := "sectors.go:117", after := #[{ on := 12, ground := Ground.data }, { on := 16, ground := Ground.data }], guard := none }) (v := .pointer (some ⟨gt, x.1 * 64, none⟩)) rfl (by kernel_rfl) (by kernel_rfl) (by kernel_rfl) (fun _ _ _ h => h) (by decide) HS.out (by rfl) ?_ ?_
      · intro W; go_simp
      try simp only [Act.put, List.setIfInBounds_toArray, List.set_cons_zero, List.set_cons_succ]
      refine wpAnyK_take (i := 18) (oi := { dst := some 38, op := Op.load 50 (Operand.tmp 37), type := 50, pos := "sectors.go:117", after := #[{ on := 17, ground := Ground.data }], guard := none }) (v := .agg X.toArray) rfl (by kernel_rfl) (by kernel_rfl) (by kernel_rfl) (by kernel_rfl) (by kernel_rfl) (fun _ _ _ h => h) (by decide) HS.out (by rfl) ?_ ?_
      · intro W hSw; exact exec_value rfl (run_loadAt_mid W gt (x.1 * 64) 50 X _ hSw.2.2.1 Try.underlying50 rfl HX54.out)
      try simp only [Act.put, List.setIfInBounds_toArray, List.set_cons_zero, List.set_cons_succ]
      refine wpAnyK_takeW (i := 19) (oi := { dst := some 39, op := Op.move (Operand.tmp 3), type := 58, pos := "sectors.go:117", after := #[], guard := none }) (v := .pointer (some ⟨gu, k * 65, none⟩)) rfl (by kernel_rfl) (by kernel_rfl) (by kernel_rfl) (fun _ _ _ h => h) (by decide) HS.out (by rfl) ?_ ?_
      · intro W; go_simp
      try simp only [Act.put, List.setIfInBounds_toArray, List.set_cons_zero, List.set_cons_succ]
      refine wpAnyK_takeW (i := 20) (oi := { dst := some 40, op := Op.nilCheck (Operand.tmp 39), type := 0, pos := "sectors.go:117", after := #[{ on := 19, ground := Ground.data }], guard := none }) (v := .pointer (some ⟨gu, k * 65, none⟩)) rfl (by kernel_rfl) (by kernel_rfl) (by kernel_rfl) (fun _ _ _ h => h) (by decide) HS.out (by rfl) ?_ ?_
      · intro W; go_simp
      try simp only [Act.put, List.setIfInBounds_toArray, List.set_cons_zero, List.set_cons_succ]
      refine wpAnyK_takeW (i := 21) (oi := { dst := some 41, op := Op.fieldAddr 52 (Operand.tmp 40) 1, type := 0, pos := "sectors.go:117", after := #[{ on := 20, ground := Ground.data }], guard := none }) (v := .pointer (some ⟨gu, k * 65 + 1, none⟩)) rfl (by kernel_rfl) (by kernel_rfl) (by kernel_rfl) (fun _ _ _ h => h) (by decide) HS.out (by rfl) ?_ ?_
      · intro W; go_simp
      try simp only [Act.put, List.setIfInBounds_toArray, List.set_cons_zero, List.set_cons_succ]
      refine wpAnyK_take (i := 22) (oi := { dst := some 42, op := Op.load 50 (Operand.tmp 41), type := 50, pos := "sectors.go:117", after := #[{ on := 21, ground := Ground.data }], guard := none }) (v := .agg Y.toArray) rfl (by kernel_rfl) (by kernel_rfl) (by kernel_rfl) (by kernel_rfl) (by kernel_rfl) (fun _ _ _ h => h) (by decide) HS.out (by rfl) ?_ ?_
      · intro W hSw; exact exec_value rfl (run_loadAt_mid W gu (k * 65 + 1) 50 Y _ hSw.2.2.2 Try.underlying50 rfl HY54.out)
      try simp only [Act.put, List.setIfInBounds_toArray, List.set_cons_zero, List.set_cons_succ]
      refine wpAnyK_one (i := 23) (o := { dst := some 43, op := Op.nilCheck (Operand.tmp 20), type := 0, pos := "sectors.go:117", after := #[{ on := 0, ground := Ground.data }, { on := 0, ground := Ground.phase }, { on := 1, ground := Ground.textOnly Departure.lateStores }, { on := 2, ground := Ground.textOnly Departure.lateStoresUnsure }, { on := 3, ground := Ground.textOnly Departure.lateStoresUnsure }, { on := 4, ground := Ground.phase }, { on := 5, ground := Ground.textOnly Departure.lateStores }, { on := 6, ground := Ground.textOnly Departure.lateStoresUnsure }, { on := 7, ground := Ground.textOnly Departure.lateStoresUnsure }, { on := 8, ground := Ground.phase }, { on := 9, ground := Ground.phase }, { on := 10, ground := Ground.phase }, { on := 11, ground := Ground.phase }, { on := 12, ground := Ground.phase }, { on := 13, ground := Ground.phase }, { on := 14, ground := Ground.phase }, { on := 15, ground := Ground.phase }, { on := 16, ground := Ground.phase }, { on := 17, ground := Ground.phase }, { on := 18, ground := Ground.phase }, { on := 19, ground := Ground.textOnly Departure.lateStores }, { on := 20, ground := Ground.textOnly Departure.lateStoresUnsure }, { on := 21, ground := Ground.textOnly Departure.lateStoresUnsure }, { on := 22, ground := Ground.phase }], guard := none }) (v := .pointer (some ⟨gu, k * 65, none⟩)) (w' := wr.drew) (by kernel_rfl) rfl (by rfl) (by go_simp) (HS.out) ?_
      try simp only [Act.put, List.setIfInBounds_toArray, List.set_cons_zero, List.set_cons_succ]
      refine wpAnyK_one (i := 24) (o := { dst := some 44, op := Op.fieldAddr 52 (Operand.tmp 43) 1, type := 0, pos := "sectors.go:117", after := #[{ on := 23, ground := Ground.data }, { on := 0, ground := Ground.phase }, { on := 1, ground := Ground.textOnly Departure.lateStores }, { on := 2, ground := Ground.textOnly Departure.lateStoresUnsure }, { on := 3, ground := Ground.textOnly Departure.lateStoresUnsure }, { on := 4, ground := Ground.phase }, { on := 5, ground := Ground.textOnly Departure.lateStores }, { on := 6, ground := Ground.textOnly Departure.lateStoresUnsure }, { on := 7, ground := Ground.textOnly Departure.lateStoresUnsure }, { on := 8, ground := Ground.phase }, { on := 9, ground := Ground.phase }, { on := 10, ground := Ground.phase }, { on := 11, ground := Ground.phase }, { on := 12, ground := Ground.phase }, { on := 13, ground := Ground.phase }, { on := 14, ground := Ground.phase }, { on := 15, ground := Ground.phase }, { on := 16, ground := Ground.phase }, { on := 17, ground := Ground.phase }, { on := 18, ground := Ground.phase }, { on := 19, ground := Ground.textOnly Departure.lateStores }, { on := 20, ground := Ground.textOnly Departure.lateStoresUnsure }, { on := 21, ground := Ground.textOnly Departure.lateStoresUnsure }, { on := 22, ground := Ground.phase }], guard := none }) (v := .pointer (some ⟨gu, k * 65 + 1, none⟩)) (w' := wr.drew) (by kernel_rfl) rfl (by rfl) (by go_simp) (HS.out) ?_
      try simp only [Act.put, List.setIfInBounds_toArray, List.set_cons_zero, List.set_cons_succ]
      refine wpAnyK_store (i := 25) (o := { dst := none, op := Op.store 50 (Operand.tmp 44) (Operand.tmp 38), type := 0, pos := "sectors.go:117", after := #[{ on := 24, ground := Ground.data }, { on := 18, ground := Ground.data }, { on := 0, ground := Ground.phase }, { on := 1, ground := Ground.textOnly Departure.lateStores }, { on := 2, ground := Ground.textOnly Departure.lateStoresUnsure }, { on := 3, ground := Ground.textOnly Departure.lateStoresUnsure }, { on := 4, ground := Ground.phase }, { on := 5, ground := Ground.textOnly Departure.lateStores }, { on := 6, ground := Ground.textOnly Departure.lateStoresUnsure }, { on := 7, ground := Ground.textOnly Departure.lateStoresUnsure }, { on := 8, ground := Ground.phase }, { on := 9, ground := Ground.phase }, { on := 10, ground := Ground.phase }, { on := 11, ground := Ground.phase }, { on := 12, ground := Ground.phase }, { on := 13, ground := Ground.phase }, { on := 14, ground := Ground.phase }, { on := 15, ground := Ground.phase }, { on := 16, ground := Ground.phase }, { on := 17, ground := Ground.phase }, { on := 18, ground := Ground.phase }, { on := 19, ground := Ground.textOnly Departure.lateStores }, { on := 20, ground := Ground.textOnly Departure.lateStoresUnsure }, { on := 21, ground := Ground.textOnly Departure.lateStoresUnsure }, { on := 22, ground := Ground.phase }], guard := none }) (w' := wr.drew.setCells gu (k * 65 + 1) X) (by kernel_rfl) rfl (by rfl) (exec_store rfl HST1.out) (by kernel_rfl) ?_
      try simp only [Act.put]
      refine wpAnyK_late (i := 26) (o := { dst := some 45, op := Op.indexAddr 39 (Operand.tmp 24) (Operand.tmp 28), type := 0, pos := "sectors.go:117", after := #[{ on := 4, ground := Ground.data }, { on := 8, ground := Ground.data }, { on := 0, ground := Ground.phase }, { on := 1, ground := Ground.phase }, { on := 2, ground := Ground.phase }, { on := 3, ground := Ground.phase }, { on := 4, ground := Ground.phase }, { on := 5, ground := Ground.phase }, { on := 6, ground := Ground.phase }, { on := 7, ground := Ground.phase }, { on := 8, ground := Ground.phase }, { on := 9, ground := Ground.phase }, { on := 10, ground := Ground.phase }, { on := 11, ground := Ground.phase }, { on := 12, ground := Ground.phase }, { on := 13, ground := Ground.phase }, { on := 14, ground := Ground.phase }, { on := 15, ground := Ground.phase }, { on := 16, ground := Ground.phase }, { on := 17, ground := Ground.phase }, { on := 18, ground := Ground.phase }, { on := 19, ground := Ground.phase }, { on := 20, ground := Ground.phase }, { on := 21, ground := Ground.phase }, { on := 22, ground := Ground.phase }, { on := 23, ground := Ground.phase }, { on := 24, ground := Ground.phase }, { on := 25, ground := Ground.phase }], guard := none }) (v := .pointer (some ⟨gt, x.1 * 64, none⟩)) (w' := wr.drew.setCells gu (k * 65 + 1) X) (by kernel_rfl) rfl (by rfl) (by go_simp) (by kernel_rfl) ?_
      try simp only [Act.put, List.setIfInBounds_toArray, List.set_cons_zero, List.set_cons_succ]
      refine wpAnyK_store (i := 27) (o := { dst := none, op := Op.store 50 (Operand.tmp 45) (Operand.tmp 42), type := 0, pos := "sectors.go:117", after := #[{ on := 26, ground := Ground.data }, { on := 22, ground := Ground.data }, { on := 25, ground := Ground.chain }, { on := 0, ground := Ground.phase }, { on := 1, ground := Ground.phase }, { on := 2, ground := Ground.phase }, { on := 3, ground := Ground.phase }, { on := 4, ground := Ground.phase }, { on := 5, ground := Ground.phase }, { on := 6, ground := Ground.phase }, { on := 7, ground := Ground.phase }, { on := 8, ground := Ground.phase }, { on := 9, ground := Ground.phase }, { on := 10, ground := Ground.phase }, { on := 11, ground := Ground.phase }, { on := 12, ground := Ground.phase }, { on := 13, ground := Ground.phase }, { on := 14, ground := Ground.phase }, { on := 15, ground := Ground.phase }, { on := 16, ground := Ground.phase }, { on := 17, ground := Ground.phase }, { on := 18, ground := Ground.phase }, { on := 19, ground := Ground.phase }, { on := 20, ground := Ground.phase }, { on := 21, ground := Ground.phase }, { on := 22, ground := Ground.phase }, { on := 23, ground := Ground.phase }, { on := 24, ground := Ground.phase }, { on := 25, ground := Ground.phase }], guard := none }) (w' := (wr.drew.setCells gu (k * 65 + 1) X).setCells gt (x.1 * 64) Y) (by kernel_rfl) rfl (by rfl) (exec_store rfl HST2.out) (by kernel_rfl) ?_
      try simp only [Act.put]
      refine wpAnyK_done (by kernel_rfl) ?_ _
      refine NoPanic.normal ?_
      go_wp2
      go_roundg k
      case measure => omega
      case rel => exact ⟨by omega, rfl, HD2.out, HK.out.trans HK2.out⟩
end Go.Proofs.Yteilbaabnhogbaa
