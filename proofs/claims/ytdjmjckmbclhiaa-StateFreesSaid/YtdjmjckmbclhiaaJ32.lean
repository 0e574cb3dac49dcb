/- StateFrees walked (tools/r19_frees.py writes it). -/
import Derived.Test.YtdjmjckmbclhiaaJ30
import Derived.Test.YtdjmjckmbclhiaaJ31
import Derived.Test.YtdjmjckmbclhiaaJ18
import Derived.Test.YtdjmjckmbclhiaaJ19
import Derived.Test.YtdjmjckmbclhiaaJ13
import Derived.Test.YtdjmjckmbclhiaaJ16
import Derived.Laws.StructEq
import Derived.Deep.RegionHeld3
import Derived.Deep.DeepCutAuto
import Derived.Deep.QuietTactic
import Derived.BigQuiet
set_option maxRecDepth 4000
namespace Go.Proofs.Ytdjmjckmbclhiaa
open Go.RowKit
/-- the argument's box, and the state that was answered in a block of its own -/
structure SfIn (w : World) (next : Int) (A : Option Addr) (n c : Nat) (X : Nat) (s2 : Sv) (xs2 : List Oc) (wr : World) : Prop where
  bel : Below w.heap.size w wr
  box : Blk wr w.heap.size 24 #[.int .i64 next, .slice A n c]
  st : HeldS X next s2 xs2 wr
theorem SfIn.step {w : World} {next : Int} {A : Option Addr} {n c X : Nat} {s2 : Sv} {xs2 : List Oc} {wr w' : World} (h : SfIn w next A n c X s2 xs2 wr) (k : Below wr.heap.size wr w') : SfIn w next A n c X s2 xs2 w' :=
  ⟨h.bel.trans (k.mono h.bel.size), h.box.below k h.box.lt, h.st.step k⟩
def SfR (w : World) (next : Int) (A : Option Addr) (n c : Nat) (X : Nat) (s2 : Sv) (xs2 : List Oc) (k : Nat) (i : Value) (wr : World) : Prop :=
  ∃ j, j + k = n ∧ i = .int .i64 (j : Int) ∧ SfIn w next A n c X s2 xs2 wr
def SfI (w : World) (next : Int) (A : Option Addr) (n c : Nat) (X : Nat) (s2 : Sv) (xs2 : List Oc) (g : Nat) (cs : Array Value) (N : Nat) (wb : World) (k : Nat) (i : Value) (wr : World) : Prop :=
  ∃ q, q + k = N ∧ i = .int .i64 (q : Int) ∧ SfIn w next A n c X s2 xs2 wr ∧ Blk wr g 36 cs ∧ Below wb.heap.size wb wr
theorem found_idx {l : List Mg} (hn : (idsL l).Nodup) {m : Mg} (hm : m ∈ l) : ∃ t, t < l.length ∧ idxI (isM m.id) l = (t : Int) ∧ l[t]? = some m := by
  have h := found_at hn hm
  have hl : l.findIdx (isM m.id) < l.length := by
    rcases Nat.lt_or_ge (l.findIdx (isM m.id)) l.length with h1 | h1
    · exact h1
    · rw [List.getElem?_eq_none h1] at h; cases h
  exact ⟨_, hl, by unfold idxI; rw [if_pos hl], h⟩
theorem tried_id (m : Mg) : m.tried.id = m.id := rfl
structure ShutF4 (p : Prop) : Prop where out : p
set_option maxHeartbeats 8000000 in
theorem stateFrees {w : World} {K : Nat → Prop} {s : Sv} {xs : List Oc} (h : ObsAt w K s xs) (hz : ∀ x ∈ xs, OcSz w x) (next : Int) :
    Calls Try.prog 3 #[.agg #[.int .i64 next, .slice s.a s.n s.c]] w fun e w' => e = .returned (.bool true) ∧ Below w.heap.size w w' := by
  have hreach : ∀ o ∈ obsOf xs, o.short 140737488351232 := fun o ho => by
    obtain ⟨x, hx, rfl⟩ := List.mem_map.1 ho
    obtain ⟨a, b, c⟩ := (hz x hx).sz
    unfold reachBytes at a b c
    exact ⟨by omega, by omega, by omega⟩
  obtain ⟨A, n, c⟩ := s
  have hln : n = xs.length := h.row.len
  have HB0 := ShutF4.mk (alloc_below w (.cells #[.int .i64 next, .slice A n c] 24))
  have HX0 := ShutF4.mk (Blk.new w 24 #[.int .i64 next, .slice A n c])
  have HH := ShutF4.mk h
  have HZ := ShutF4.mk hz
  have HLN := ShutF4.mk hln
  have HRE := ShutF4.mk hreach
  clear h hz hln hreach
  go_enter Try.func3, Try.ntmps3
  go_wp2_with fail
  refine (alive_s _).mono ?_
  rintro e w1 ⟨rfl, hb1⟩
  have HB1 := ShutF4.mk (HB0.out.trans (hb1.mono HB0.out.size))
  have HX1 := ShutF4.mk (HX0.out.below hb1 HX0.out.lt)
  have d0 := HX1.out.cell 0
  have d1 := HX1.out.cell 1
  simp only [List.getElem?_toArray, List.getElem?_cons_zero, List.getElem?_cons_succ] at d0 d1
  clear hb1 HB0 HX0
  go_wp2_with fail
  refine (few_ (HH.out.below HB1.out) HRE.out next).mono ?_
  rintro e w2 ⟨⟨b, rfl, hfew⟩, hb2⟩
  have HB2 := ShutF4.mk (HB1.out.trans (hb2.mono HB1.out.size))
  have HX2 := ShutF4.mk (HX1.out.below hb2 HX1.out.lt)
  clear hb2 HB1 HX1 d0 d1
  cases b
  · clear hfew
    go_wp2_with fail
    go_ret
    exact ⟨rfl, HB2.out⟩
  have hfw := hfew (by first | rfl | trivial)
  have HFW := ShutF4.mk hfw
  clear hfew hfw
  have d0 := HX2.out.cell 0
  have d1 := HX2.out.cell 1
  simp only [List.getElem?_toArray, List.getElem?_cons_zero, List.getElem?_cons_succ] at d0 d1
  have hsh : ∀ x ∈ xs, x.o.short 450 := fun x hx => by
    obtain ⟨a, b, c⟩ := HFW.out.short _ (List.mem_map_of_mem hx)
    exact ⟨by omega, by omega, by omega⟩
  have HSH := ShutF4.mk hsh
  clear hsh
  go_wp2_with fail
  refine (rstate_ (HH.out.below HB2.out) HSH.out (fun x hx => (HZ.out x hx).inn.keys) next).mono ?_
  rintro e w3 ⟨⟨b, rfl, hrd⟩, hb3⟩
  have HB3 := ShutF4.mk (HB2.out.trans (hb3.mono HB2.out.size))
  have HX3 := ShutF4.mk (HX2.out.below hb3 HX2.out.lt)
  clear hb3 HB2 HX2 d0 d1
  cases b
  · clear hrd
    go_wp2_with fail
    go_ret
    exact ⟨rfl, HB3.out⟩
  have hrd2 := hrd (by first | rfl | trivial)
  have HRD := ShutF4.mk hrd2
  clear hrd hrd2
  have h20 : xs.length ≤ 20 := by have := HRD.out.len; simpa [obsOf] using this
  have hcl : ∀ W, Below w3.heap.size w3 W → Calls Try.prog 10 #[.agg #[.int .i64 next, .slice A n c]] W fun e w' => (∃ A2 c2, e = .returned (.slice A2 (claimsS (obsOf xs)).length c2) ∧ Lst w' (fun _ => True) eEf A2 (claimsS (obsOf xs))) ∧ Below W.heap.size W w' := fun W k =>
    (claims_ (s := ⟨A, n, c⟩) (HH.out.below (HB3.out.trans (k.mono HB3.out.size))) h20 HSH.out next).mono fun e w' ⟨v, h1, h2, h3⟩ => by
      obtain ⟨A2, c2, rfl⟩ := own_shape h2 rfl
      exact ⟨⟨A2, c2, h1, (own_lst2 h2).more fun _ _ _ => trivial⟩, h3⟩
  have hclen : (claimsS (obsOf xs)).length ≤ 50000 := by
    have h1 := claims_len (n := 450) (l := obsOf xs) (fun o ho => by obtain ⟨x, hx, rfl⟩ := List.mem_map.1 ho; exact HSH.out x hx) (obsOf xs).length (Nat.le_refl _)
    rw [List.take_length] at h1
    have h2 : (obsOf xs).length = xs.length := by simp [obsOf]
    have h3 : (obsOf xs).length * 450 ≤ 20 * 450 := Nat.mul_le_mul_right _ (by omega)
    omega
  have hrun : applyS ⟨next, obsOf xs⟩ (claimsS (obsOf xs)) = (0, ⟨next, (obsOf xs).map endO⟩) := by
    rw [applyS, if_pos HRD.out.right]
    exact claims_run HRD.out.good next
  have hcall : ∀ W A2 c2, Below w3.heap.size w3 W → Lst W (fun _ => True) eEf A2 (claimsS (obsOf xs)) → Calls Try.prog 9 #[.agg #[.int .i64 next, .slice A n c], .slice A2 (claimsS (obsOf xs)).length c2] W (Applied W (0, ⟨next, (obsOf xs).map endO⟩)) := fun W A2 c2 k hl => by
    have := apply_o (s := ⟨A, n, c⟩) (c2 := c2) (HH.out.below (HB3.out.trans (k.mono HB3.out.size))) HSH.out (fun x hx => (HZ.out x hx).inn.fits) next hl rfl hclen
    rw [hrun] at this
    exact this
  have HCL := ShutF4.mk hcl
  have HCALL := ShutF4.mk hcall
  clear hcl hcall hclen hrun
  generalize claimsS (obsOf xs) = CC at *
  generalize hNN : CC.length = NN at *
  have HLT := ShutF4.mk HX3.out.lt
  have d0 := HX3.out.cell 0
  have d1 := HX3.out.cell 1
  simp only [List.getElem?_toArray, List.getElem?_cons_zero, List.getElem?_cons_succ] at d0 d1
  have hsb : ∀ W, Below w3.heap.size w3 W → (fun W : World => W.cell? ⟨w.heap.size, 0, none⟩ = some (.int .i64 next) ∧ W.cell? ⟨w.heap.size, 1, none⟩ = some (.slice A n c)) W := fun W hb => ⟨(cell_of_heap (hb.block _ HLT.out) _).trans d0, (cell_of_heap (hb.block _ HLT.out) _).trans d1⟩
  have HSB := ShutF4.mk hsb
  have b1 := alloc_below w3 (.cells #[.int .i64 0, .slice none 0 0] 24)
  have hS0 : ShutF4 ((fun W : World => W.cell? ⟨w.heap.size, 0, none⟩ = some (.int .i64 next) ∧ W.cell? ⟨w.heap.size, 1, none⟩ = some (.slice A n c)) w3.drew) := ⟨hsb _ (Below.refl _ _).drew⟩
  have hS1 : ShutF4 ((fun W : World => W.cell? ⟨w.heap.size, 0, none⟩ = some (.int .i64 next) ∧ W.cell? ⟨w.heap.size, 1, none⟩ = some (.slice A n c)) (w3.alloc (.cells #[.int .i64 0, .slice none 0 0] 24)).drew) := ⟨hsb _ b1.drew⟩
  have B0 := ShutF4.mk (Below.refl w3.heap.size w3).drew
  have B1 := ShutF4.mk b1.drew
  have X1 := ShutF4.mk (Blk.new w3 24 #[.int .i64 0, .slice none 0 0]).drew
  clear hsb b1 d0 d1
  go_upto_region 4 with fail
  go_cut [4, 5] (fun p v wx => ∃ X, p = .pointer (some ⟨X, 0, none⟩) ∧ v = .int .i64 0 ∧ GotS w3 (0, ⟨next, (obsOf xs).map endO⟩) X wx)
  case first =>
    refine wp_region_noPanic ?_
    refine wp_region_K (k := 8) (S := (fun W : World => W.cell? ⟨w.heap.size, 0, none⟩ = some (.int .i64 next) ∧ W.cell? ⟨w.heap.size, 1, none⟩ = some (.slice A n c))) (by kernel_rfl) ?_
    refine wpAnyK_take (i := 0) (oi := { dst := some 29, op := Op.load 24 (Operand.tmp 1), type := 24, pos := "law.go:64", after := #[], guard := none }) (v := .agg #[.int .i64 next, .slice A n c]) rfl (by kernel_rfl) (by kernel_rfl) (by kernel_rfl) (by kernel_rfl) (by kernel_rfl) (fun _ _ _ h => h) (by decide) (hS0.out) (by rfl) ?_ ?_
    · intro W9 hSw; obtain ⟨s0, s1⟩ := hSw; go_simp
    try simp only [Act.put, List.setIfInBounds_toArray, List.set_cons_zero, List.set_cons_succ]
    refine wpAnyK_take (i := 1) (oi := { dst := some 30, op := Op.load 24 (Operand.tmp 1), type := 24, pos := "law.go:64", after := #[], guard := none }) (v := .agg #[.int .i64 next, .slice A n c]) rfl (by kernel_rfl) (by kernel_rfl) (by kernel_rfl) (by kernel_rfl) (by kernel_rfl) (fun _ _ _ h => h) (by decide) (hS0.out) (by rfl) ?_ ?_
    · intro W9 hSw; obtain ⟨s0, s1⟩ := hSw; go_simp
    try simp only [Act.put, List.setIfInBounds_toArray, List.set_cons_zero, List.set_cons_succ]
    refine wpAnyK_two (i := 2) (j := 7) (oi := { dst := some 31, op := Op.call { callee := Callee.value (Operand.func 10), args := #[Operand.tmp 30], argTypes := #[24] }, type := 30, pos := "law.go:64", after := #[{ on := 1, ground := Ground.data }], guard := none }) (oj := { dst := some 4, op := Op.alloc 24, type := 0, pos := "law.go:64", after := #[], guard := none }) (E := True) (F := True) (by kernel_rfl) rfl (by rfl) rfl (by rfl) ?_ ?_
    · refine step_call rfl (f := 10) (by go_simp) ((HCL.out _ B0.out).mono ?_)
      rintro e9 w4 ⟨⟨A2, c2, rfl, hl4⟩, hb4⟩
      have HB4 := ShutF4.mk (B0.out.trans (hb4.mono B0.out.size))
      have hS4 : ShutF4 ((fun W : World => W.cell? ⟨w.heap.size, 0, none⟩ = some (.int .i64 next) ∧ W.cell? ⟨w.heap.size, 1, none⟩ = some (.slice A n c)) w4) := ⟨HSB.out _ HB4.out⟩
      refine ⟨_, rfl, fun _ _ => hS4.out, ?_⟩
      try simp only [Act.put, List.setIfInBounds_toArray, List.set_cons_zero, List.set_cons_succ]
      refine wpAnyK_two (i := 3) (j := 7) (oi := { dst := some 32, op := Op.call { callee := Callee.value (Operand.func 9), args := #[Operand.tmp 29, Operand.tmp 31], argTypes := #[24, 30] }, type := 28, pos := "law.go:64", after := #[{ on := 0, ground := Ground.data }, { on := 2, ground := Ground.data }, { on := 2, ground := Ground.chain }], guard := none }) (oj := { dst := some 4, op := Op.alloc 24, type := 0, pos := "law.go:64", after := #[], guard := none }) (E := True) (F := True) (by kernel_rfl) rfl (by rfl) rfl (by rfl) ?_ ?_
      · refine step_call rfl (f := 9) (by go_simp) ((HCALL.out _ _ c2 HB4.out hl4).mono ?_)
        rintro e9 w5 ⟨⟨A3, n3, c3⟩, ys, rfl, hat, hys, hb5⟩
        have HB5 := ShutF4.mk (HB4.out.trans (hb5.mono HB4.out.size))
        have hS5 : ShutF4 ((fun W : World => W.cell? ⟨w.heap.size, 0, none⟩ = some (.int .i64 next) ∧ W.cell? ⟨w.heap.size, 1, none⟩ = some (.slice A n c)) w5) := ⟨HSB.out _ HB5.out⟩
        have HF3 := ShutF4.mk (GotS.first HB5.out hat hys)
        have hS6 : ShutF4 ((fun W : World => W.cell? ⟨w.heap.size, 0, none⟩ = some (.int .i64 next) ∧ W.cell? ⟨w.heap.size, 1, none⟩ = some (.slice A n c)) (w5.alloc (.cells #[.int .i64 0, .slice none 0 0] 24))) := ⟨HSB.out _ (HB5.out.alloc HB5.out.size _)⟩
        clear hb5 hat
        refine ⟨_, rfl, fun _ _ => hS5.out, ?_⟩
        try simp only [Act.put, List.setIfInBounds_toArray, List.set_cons_zero, List.set_cons_succ]
        refine wpAnyK_takeW (i := 4) (oi := { dst := some 28, op := Op.move (Operand.tmp 32), type := 28, pos := "law.go:64", after := #[{ on := 3, ground := Ground.data }], guard := none }) (v := .tuple #[.agg #[.int .i64 next, .slice A3 n3 c3], .int .i64 0]) rfl (by kernel_rfl) (by kernel_rfl) (by kernel_rfl) (fun _ _ _ h => h) (by decide) (hS5.out) (by rfl) ?_ ?_
        · intro W9; go_simp
        try simp only [Act.put, List.setIfInBounds_toArray, List.set_cons_zero, List.set_cons_succ]
        refine wpAnyK_takeW (i := 5) (oi := { dst := some 33, op := Op.extract (Operand.tmp 28) 0, type := 24, pos := "law.go:64", after := #[{ on := 4, ground := Ground.data }], guard := none }) (v := .agg #[.int .i64 next, .slice A3 n3 c3]) rfl (by kernel_rfl) (by kernel_rfl) (by kernel_rfl) (fun _ _ _ h => h) (by decide) (hS5.out) (by rfl) ?_ ?_
        · intro W9; go_simp
        try simp only [Act.put, List.setIfInBounds_toArray, List.set_cons_zero, List.set_cons_succ]
        refine wpAnyK_takeW (i := 6) (oi := { dst := some 34, op := Op.extract (Operand.tmp 28) 1, type := 27, pos := "law.go:64", after := #[{ on := 4, ground := Ground.data }, { on := 8, ground := Ground.gcOnly Departure.lateStores }], guard := none }) (v := .int .i64 0) rfl (by kernel_rfl) (by kernel_rfl) (by kernel_rfl) (fun _ _ _ h => h) (by decide) (hS5.out) (by rfl) ?_ ?_
        · intro W9; go_simp
        try simp only [Act.put, List.setIfInBounds_toArray, List.set_cons_zero, List.set_cons_succ]
        refine wpAnyK_one (i := 7) (o := { dst := some 4, op := Op.alloc 24, type := 0, pos := "law.go:64", after := #[], guard := none }) (v := .pointer (some ⟨w5.heap.size, 0, none⟩)) (w' := w5.alloc (.cells #[.int .i64 0, .slice none 0 0] 24)) (by kernel_rfl) rfl (by rfl) (by first | (go_simp; done) | (go_simp; rfl)) (hS6.out) ?_
        try simp only [Act.put, List.setIfInBounds_toArray, List.set_cons_zero, List.set_cons_succ]
        refine wpAnyK_store (i := 8) (o := { dst := none, op := Op.store 24 (Operand.tmp 4) (Operand.tmp 33), type := 0, pos := "law.go:64", after := #[{ on := 7, ground := Ground.data }, { on := 5, ground := Ground.data }, { on := 3, ground := Ground.chain }, { on := 0, ground := Ground.phase }, { on := 1, ground := Ground.phase }, { on := 2, ground := Ground.phase }, { on := 3, ground := Ground.phase }, { on := 4, ground := Ground.phase }, { on := 5, ground := Ground.phase }, { on := 6, ground := Ground.textOnly Departure.lateStores }, { on := 7, ground := Ground.phase }], guard := none }) (w' := w5.alloc (.cells #[.int .i64 next, .slice A3 n3 c3] 24)) (by kernel_rfl) rfl (by rfl) (by first | (go_simp; done) | (go_simp; rfl)) (by kernel_rfl) ?_
        try simp only [Act.put]
        refine wpAnyK_late (i := 9) (o := { dst := some 5, op := Op.assign (Operand.tmp 34), type := 27, pos := "law.go:64", after := #[{ on := 6, ground := Ground.data }, { on := 8, ground := Ground.chain }, { on := 0, ground := Ground.phase }, { on := 1, ground := Ground.phase }, { on := 2, ground := Ground.phase }, { on := 3, ground := Ground.phase }, { on := 4, ground := Ground.phase }, { on := 5, ground := Ground.phase }, { on := 6, ground := Ground.phase }, { on := 7, ground := Ground.phase }, { on := 8, ground := Ground.phase }], guard := none }) (v := .int .i64 0) (w' := w5.alloc (.cells #[.int .i64 next, .slice A3 n3 c3] 24)) (by kernel_rfl) rfl (by rfl) (by first | (go_simp; done) | (go_simp; rfl)) (by kernel_rfl) ?_
        try simp only [Act.put, List.setIfInBounds_toArray, List.set_cons_zero, List.set_cons_succ]
        refine wpAnyK_done (by kernel_rfl) ?_ _
        refine NoPanic.normal ?_
        go_wp2_with fail
        go_meet
        exact ⟨_, rfl, rfl, HF3.out⟩
      · have B6 := ShutF4.mk (HB4.out.alloc HB4.out.size (.cells #[.int .i64 0, .slice none 0 0] 24))
        have hS6 : ShutF4 ((fun W : World => W.cell? ⟨w.heap.size, 0, none⟩ = some (.int .i64 next) ∧ W.cell? ⟨w.heap.size, 1, none⟩ = some (.slice A n c)) (w4.alloc (.cells #[.int .i64 0, .slice none 0 0] 24))) := ⟨HSB.out _ B6.out⟩
        have X6 := ShutF4.mk (Blk.new w4 24 #[.int .i64 0, .slice none 0 0])
        have hl6 := hl4.below (alloc_below w4 (.cells #[.int .i64 0, .slice none 0 0] 24))
        refine if_exec (by rfl) (v := .pointer (some ⟨w4.heap.size, 0, none⟩)) (w' := w4.alloc (.cells #[.int .i64 0, .slice none 0 0] 24)) (by first | (go_simp; done) | (go_simp; rfl)) ?_
        refine ⟨fun _ _ => hS6.out, ?_⟩
        try simp only [Act.put, List.setIfInBounds_toArray, List.set_cons_zero, List.set_cons_succ]
        refine wpAnyK_step (i := 3) (o := { dst := some 32, op := Op.call { callee := Callee.value (Operand.func 9), args := #[Operand.tmp 29, Operand.tmp 31], argTypes := #[24, 30] }, type := 28, pos := "law.go:64", after := #[{ on := 0, ground := Ground.data }, { on := 2, ground := Ground.data }, { on := 2, ground := Ground.chain }], guard := none }) (E := True) (by kernel_rfl) rfl (by rfl) ?_
        refine step_call rfl (f := 9) (by go_simp) ((HCALL.out _ _ c2 B6.out hl6).mono ?_)
        rintro e9 w5 ⟨⟨A3, n3, c3⟩, ys, rfl, hat, hys, hb5⟩
        have HB5 := ShutF4.mk (B6.out.trans (hb5.mono B6.out.size))
        have hS5 : ShutF4 ((fun W : World => W.cell? ⟨w.heap.size, 0, none⟩ = some (.int .i64 next) ∧ W.cell? ⟨w.heap.size, 1, none⟩ = some (.slice A n c)) w5) := ⟨HSB.out _ HB5.out⟩
        have hz3 := X6.out.below hb5 X6.out.lt
        refine ⟨_, rfl, fun _ _ => hS5.out, ?_⟩
        try simp only [Act.put, List.setIfInBounds_toArray, List.set_cons_zero, List.set_cons_succ]
        have hle : w3.heap.size ≤ w4.heap.size := by first | exact Nat.le_refl _ | exact HB4.out.size
        have HF3 := ShutF4.mk (GotS.later HB5.out hz3 hle hat hys)
        have z0 := hz3.cell 0
        have z1 := hz3.cell 1
        have y0 := hz3.frozen 0
        have y1 := hz3.frozen 1
        clear hb5 hat hz3 hle
        refine wpAnyK_takeW (i := 4) (oi := { dst := some 28, op := Op.move (Operand.tmp 32), type := 28, pos := "law.go:64", after := #[{ on := 3, ground := Ground.data }], guard := none }) (v := .tuple #[.agg #[.int .i64 next, .slice A3 n3 c3], .int .i64 0]) rfl (by kernel_rfl) (by kernel_rfl) (by kernel_rfl) (fun _ _ _ h => h) (by decide) (hS5.out) (by rfl) ?_ ?_
        · intro W9; go_simp
        try simp only [Act.put, List.setIfInBounds_toArray, List.set_cons_zero, List.set_cons_succ]
        refine wpAnyK_takeW (i := 5) (oi := { dst := some 33, op := Op.extract (Operand.tmp 28) 0, type := 24, pos := "law.go:64", after := #[{ on := 4, ground := Ground.data }], guard := none }) (v := .agg #[.int .i64 next, .slice A3 n3 c3]) rfl (by kernel_rfl) (by kernel_rfl) (by kernel_rfl) (fun _ _ _ h => h) (by decide) (hS5.out) (by rfl) ?_ ?_
        · intro W9; go_simp
        try simp only [Act.put, List.setIfInBounds_toArray, List.set_cons_zero, List.set_cons_succ]
        refine wpAnyK_takeW (i := 6) (oi := { dst := some 34, op := Op.extract (Operand.tmp 28) 1, type := 27, pos := "law.go:64", after := #[{ on := 4, ground := Ground.data }, { on := 8, ground := Ground.gcOnly Departure.lateStores }], guard := none }) (v := .int .i64 0) rfl (by kernel_rfl) (by kernel_rfl) (by kernel_rfl) (fun _ _ _ h => h) (by decide) (hS5.out) (by rfl) ?_ ?_
        · intro W9; go_simp
        try simp only [Act.put, List.setIfInBounds_toArray, List.set_cons_zero, List.set_cons_succ]
        refine wpAnyK_store (i := 8) (o := { dst := none, op := Op.store 24 (Operand.tmp 4) (Operand.tmp 33), type := 0, pos := "law.go:64", after := #[{ on := 7, ground := Ground.data }, { on := 5, ground := Ground.data }, { on := 3, ground := Ground.chain }, { on := 0, ground := Ground.phase }, { on := 1, ground := Ground.phase }, { on := 2, ground := Ground.phase }, { on := 3, ground := Ground.phase }, { on := 4, ground := Ground.phase }, { on := 5, ground := Ground.phase }, { on := 6, ground := Ground.textOnly Departure.lateStores }, { on := 7, ground := Ground.phase }], guard := none }) (w' := ((w5.setCell ⟨w4.heap.size, 0, none⟩ (.int .i64 next)).setCell ⟨w4.heap.size, 1, none⟩ (.slice A3 n3 c3))) (by kernel_rfl) rfl (by rfl) (by first | (go_simp; done) | (go_simp; rfl)) (by kernel_rfl) ?_
        try simp only [Act.put]
        refine wpAnyK_late (i := 9) (o := { dst := some 5, op := Op.assign (Operand.tmp 34), type := 27, pos := "law.go:64", after := #[{ on := 6, ground := Ground.data }, { on := 8, ground := Ground.chain }, { on := 0, ground := Ground.phase }, { on := 1, ground := Ground.phase }, { on := 2, ground := Ground.phase }, { on := 3, ground := Ground.phase }, { on := 4, ground := Ground.phase }, { on := 5, ground := Ground.phase }, { on := 6, ground := Ground.phase }, { on := 7, ground := Ground.phase }, { on := 8, ground := Ground.phase }], guard := none }) (v := .int .i64 0) (w' := ((w5.setCell ⟨w4.heap.size, 0, none⟩ (.int .i64 next)).setCell ⟨w4.heap.size, 1, none⟩ (.slice A3 n3 c3))) (by kernel_rfl) rfl (by rfl) (by first | (go_simp; done) | (go_simp; rfl)) (by kernel_rfl) ?_
        try simp only [Act.put, List.setIfInBounds_toArray, List.set_cons_zero, List.set_cons_succ]
        refine wpAnyK_done (by kernel_rfl) ?_ _
        refine NoPanic.normal ?_
        go_wp2_with fail
        go_meet
        exact ⟨_, rfl, rfl, HF3.out⟩
    · refine if_exec (by rfl) (v := .pointer (some ⟨w3.heap.size, 0, none⟩)) (w' := (w3.alloc (.cells #[.int .i64 0, .slice none 0 0] 24)).drew) (by first | (go_simp; done) | (go_simp; rfl)) ?_
      refine ⟨fun _ _ => hS1.out, ?_⟩
      try simp only [Act.put, List.setIfInBounds_toArray, List.set_cons_zero, List.set_cons_succ]
      refine wpAnyK_step (i := 2) (o := { dst := some 31, op := Op.call { callee := Callee.value (Operand.func 10), args := #[Operand.tmp 30], argTypes := #[24] }, type := 30, pos := "law.go:64", after := #[{ on := 1, ground := Ground.data }], guard := none }) (E := True) (by kernel_rfl) rfl (by rfl) ?_
      refine step_call rfl (f := 10) (by go_simp) ((HCL.out _ B1.out).mono ?_)
      rintro e9 w4 ⟨⟨A2, c2, rfl, hl4⟩, hb4⟩
      have HB4 := ShutF4.mk (B1.out.trans (hb4.mono B1.out.size))
      have hS4 : ShutF4 ((fun W : World => W.cell? ⟨w.heap.size, 0, none⟩ = some (.int .i64 next) ∧ W.cell? ⟨w.heap.size, 1, none⟩ = some (.slice A n c)) w4) := ⟨HSB.out _ HB4.out⟩
      have X4 := ShutF4.mk (X1.out.below hb4 X1.out.lt)
      refine ⟨_, rfl, fun _ _ => hS4.out, ?_⟩
      try simp only [Act.put, List.setIfInBounds_toArray, List.set_cons_zero, List.set_cons_succ]
      refine wpAnyK_step (i := 3) (o := { dst := some 32, op := Op.call { callee := Callee.value (Operand.func 9), args := #[Operand.tmp 29, Operand.tmp 31], argTypes := #[24, 30] }, type := 28, pos := "law.go:64", after := #[{ on := 0, ground := Ground.data }, { on := 2, ground := Ground.data }, { on := 2, ground := Ground.chain }], guard := none }) (E := True) (by kernel_rfl) rfl (by rfl) ?_
      refine step_call rfl (f := 9) (by go_simp) ((HCALL.out _ _ c2 HB4.out hl4).mono ?_)
      rintro e9 w5 ⟨⟨A3, n3, c3⟩, ys, rfl, hat, hys, hb5⟩
      have HB5 := ShutF4.mk (HB4.out.trans (hb5.mono HB4.out.size))
      have hS5 : ShutF4 ((fun W : World => W.cell? ⟨w.heap.size, 0, none⟩ = some (.int .i64 next) ∧ W.cell? ⟨w.heap.size, 1, none⟩ = some (.slice A n c)) w5) := ⟨HSB.out _ HB5.out⟩
      have hz3 := X4.out.below hb5 X4.out.lt
      refine ⟨_, rfl, fun _ _ => hS5.out, ?_⟩
      try simp only [Act.put, List.setIfInBounds_toArray, List.set_cons_zero, List.set_cons_succ]
      have hle : w3.heap.size ≤ w3.heap.size := by first | exact Nat.le_refl _ | exact HB4.out.size
      have HF3 := ShutF4.mk (GotS.later HB5.out hz3 hle hat hys)
      have z0 := hz3.cell 0
      have z1 := hz3.cell 1
      have y0 := hz3.frozen 0
      have y1 := hz3.frozen 1
      clear hb5 hat hz3 hle
      refine wpAnyK_takeW (i := 4) (oi := { dst := some 28, op := Op.move (Operand.tmp 32), type := 28, pos := "law.go:64", after := #[{ on := 3, ground := Ground.data }], guard := none }) (v := .tuple #[.agg #[.int .i64 next, .slice A3 n3 c3], .int .i64 0]) rfl (by kernel_rfl) (by kernel_rfl) (by kernel_rfl) (fun _ _ _ h => h) (by decide) (hS5.out) (by rfl) ?_ ?_
      · intro W9; go_simp
      try simp only [Act.put, List.setIfInBounds_toArray, List.set_cons_zero, List.set_cons_succ]
      refine wpAnyK_takeW (i := 5) (oi := { dst := some 33, op := Op.extract (Operand.tmp 28) 0, type := 24, pos := "law.go:64", after := #[{ on := 4, ground := Ground.data }], guard := none }) (v := .agg #[.int .i64 next, .slice A3 n3 c3]) rfl (by kernel_rfl) (by kernel_rfl) (by kernel_rfl) (fun _ _ _ h => h) (by decide) (hS5.out) (by rfl) ?_ ?_
      · intro W9; go_simp
      try simp only [Act.put, List.setIfInBounds_toArray, List.set_cons_zero, List.set_cons_succ]
      refine wpAnyK_takeW (i := 6) (oi := { dst := some 34, op := Op.extract (Operand.tmp 28) 1, type := 27, pos := "law.go:64", after := #[{ on := 4, ground := Ground.data }, { on := 8, ground := Ground.gcOnly Departure.lateStores }], guard := none }) (v := .int .i64 0) rfl (by kernel_rfl) (by kernel_rfl) (by kernel_rfl) (fun _ _ _ h => h) (by decide) (hS5.out) (by rfl) ?_ ?_
      · intro W9; go_simp
      try simp only [Act.put, List.setIfInBounds_toArray, List.set_cons_zero, List.set_cons_succ]
      refine wpAnyK_store (i := 8) (o := { dst := none, op := Op.store 24 (Operand.tmp 4) (Operand.tmp 33), type := 0, pos := "law.go:64", after := #[{ on := 7, ground := Ground.data }, { on := 5, ground := Ground.data }, { on := 3, ground := Ground.chain }, { on := 0, ground := Ground.phase }, { on := 1, ground := Ground.phase }, { on := 2, ground := Ground.phase }, { on := 3, ground := Ground.phase }, { on := 4, ground := Ground.phase }, { on := 5, ground := Ground.phase }, { on := 6, ground := Ground.textOnly Departure.lateStores }, { on := 7, ground := Ground.phase }], guard := none }) (w' := ((w5.setCell ⟨w3.heap.size, 0, none⟩ (.int .i64 next)).setCell ⟨w3.heap.size, 1, none⟩ (.slice A3 n3 c3))) (by kernel_rfl) rfl (by rfl) (by first | (go_simp; done) | (go_simp; rfl)) (by kernel_rfl) ?_
      try simp only [Act.put]
      refine wpAnyK_late (i := 9) (o := { dst := some 5, op := Op.assign (Operand.tmp 34), type := 27, pos := "law.go:64", after := #[{ on := 6, ground := Ground.data }, { on := 8, ground := Ground.chain }, { on := 0, ground := Ground.phase }, { on := 1, ground := Ground.phase }, { on := 2, ground := Ground.phase }, { on := 3, ground := Ground.phase }, { on := 4, ground := Ground.phase }, { on := 5, ground := Ground.phase }, { on := 6, ground := Ground.phase }, { on := 7, ground := Ground.phase }, { on := 8, ground := Ground.phase }], guard := none }) (v := .int .i64 0) (w' := ((w5.setCell ⟨w3.heap.size, 0, none⟩ (.int .i64 next)).setCell ⟨w3.heap.size, 1, none⟩ (.slice A3 n3 c3))) (by kernel_rfl) rfl (by rfl) (by first | (go_simp; done) | (go_simp; rfl)) (by kernel_rfl) ?_
      try simp only [Act.put, List.setIfInBounds_toArray, List.set_cons_zero, List.set_cons_succ]
      refine wpAnyK_done (by kernel_rfl) ?_ _
      refine NoPanic.normal ?_
      go_wp2_with fail
      go_meet
      exact ⟨_, rfl, rfl, HF3.out⟩
  case rest =>
    obtain ⟨X, rfl, rfl, hgot⟩ := hcut
    have HG := ShutF4.mk hgot
    clear hgot HCALL HCL hS0 hS1 X1 B0 B1 HSB
    obtain ⟨s2, xs2, hst, hob, hbw, hX⟩ := HG.out
    have hbx := HB3.out.trans (hbw.mono HB3.out.size)
    have hin : SfIn w next A n c X s2 xs2 wc := ⟨hbx, HX3.out.below hbw HLT.out, hst⟩
    have hob2 : obsOf xs2 = (obsOf xs).map endO := hob
    have hl2 : xs2.length = xs.length := by have := congrArg List.length hob2; simpa [obsOf] using this
    have hn2 : s2.n = n := by rw [hst.obs.row.len, hl2]; exact HLN.out.symm
    have hends : ∀ x ∈ xs2, ∃ y ∈ xs, x.o = endO y.o := fun x hx => by
      have : x.o ∈ obsOf xs2 := List.mem_map_of_mem hx
      rw [hob2] at this
      obtain ⟨o, ho, e⟩ := List.mem_map.1 this
      obtain ⟨y, hy, rfl⟩ := List.mem_map.1 ho
      exact ⟨y, hy, e.symm⟩
    have hsh2 : ∀ x ∈ xs2, x.o.short 450 := fun x hx => by
      obtain ⟨y, hy, e⟩ := hends x hx
      obtain ⟨a, b, c⟩ := HFW.out.short _ (List.mem_map_of_mem hy)
      have hl := end_len y.o
      rw [e]
      exact ⟨by show y.o.rows.length ≤ 450; omega, by omega, by omega⟩
    have hc2 : claimsS (obsOf xs2) = [] := by rw [hob2]; exact claims_none _
    obtain ⟨A2, n2, c2⟩ := s2
    have hn3 : n2 = n := hn2
    subst hn3
    have hcl2 : ∀ W, Below wc.heap.size wc W → Calls Try.prog 10 #[.agg #[.int .i64 next, .slice A2 n2 c2]] W fun e w' => (∃ A3 c3, e = .returned (.slice A3 0 c3)) ∧ Below W.heap.size W w' := fun W k =>
      (claims_ (s := ⟨A2, n2, c2⟩) (hst.obs.below k) (by omega) hsh2 next).mono fun e w' ⟨v, h1, h2, h3⟩ => by
        rw [hc2] at h2
        obtain ⟨A3, c3, rfl⟩ := own_shape h2 (n := 0) rfl
        exact ⟨⟨A3, c3, h1⟩, h3⟩
    have HIN := ShutF4.mk hin
    have HOB := ShutF4.mk hob2
    have HL2 := ShutF4.mk hl2
    have HC2 := ShutF4.mk hcl2
    have d0 := hin.box.cell 0
    have d1 := hin.box.cell 1
    have p0 := hst.blk.cell 0
    have p1 := hst.blk.cell 1
    simp only [List.getElem?_toArray, List.getElem?_cons_zero, List.getElem?_cons_succ] at d0 d1 p0 p1
    clear hin hob2 hl2 hn2 hends hsh2 hc2 hcl2 hst hob hbw hX hbx HG HB3 HX3 HLT
    go_wp2_with ((first | (go_at_call 11; refine (num_ _ _).mono ?_; rintro e w5 ⟨rfl, rfl⟩) | (go_at_call 10; refine (HC2.out _ (Below.refl _ _)).mono ?_; rintro e w6 ⟨⟨A3, c3, rfl⟩, hb6⟩; have HIN6 := ShutF4.mk (HIN.out.step hb6); clear hb6)))
    clear d0 d1 p0 p1
    go_loopg [6] n2 (fun k i wr => SfR w next A n2 c X ⟨A2, n2, c2⟩ xs2 k i wr)
    case atStart => exact ⟨0, by omega, rfl, HIN6.out⟩
    case round =>
      obtain ⟨j, hj, rfl, hi⟩ := hrel
      have HI := ShutF4.mk hi
      have HJ := ShutF4.mk hj
      clear hj hi HIN6 HIN HC2
      have d0 := HI.out.box.cell 0
      have d1 := HI.out.box.cell 1
      simp only [List.getElem?_toArray, List.getElem?_cons_zero, List.getElem?_cons_succ] at d0 d1
      have hblt := HI.out.box.lt
      by_cases hlt : j < n2
      · have hjn : (j : Int) < (n2 : Int) := by omega
        obtain ⟨wo, rfl⟩ : ∃ wo, wo = wr := ⟨_, rfl⟩
        have hjx : j < xs.length := by have := HLN.out; omega
        have hjo : j < (obsOf xs).length := by simpa [obsOf] using hjx
        have hj2 : j < xs2.length := by have := HL2.out; omega
        have hjm := List.getElem_mem hjx
        have hen : xs2[j].o = endO xs[j].o := by
          have := congrArg (fun l => l[j]?) HOB.out
          simp only [obsOf, List.getElem?_map, List.getElem?_eq_getElem hjx, List.getElem?_eq_getElem hj2, Option.map_some, Option.some.injEq] at this
          exact this
        obtain ⟨b, o, eA, hbs, k0, k1, k2, k3, k4, k5⟩ := ((HH.out.below HI.out.bel).row.lst).atO hjx
        have eA2 : A = some ⟨b, o, none⟩ := eA
        obtain ⟨b2, o2, eB, hbs2, m0, m1, m2, m3, m4, m5⟩ := HI.out.st.obs.row.lst.atO hj2
        have eB2 : A2 = some ⟨b2, o2, none⟩ := eB
        subst eA2 eB2
        have hlm := fun W (k : Below w.heap.size w W) => ((HH.out.all _ hjm).below k).msgs
        have hldn : xs[j].d.n = xs[j].o.dead.length := (HH.out.all _ hjm).dead.len
        have hm2 := fun W (k : Below wo.heap.size wo W) => ((HI.out.st.obs.all _ (List.getElem_mem hj2)).below k).msgs
        have hd2 := fun W (k : Below wo.heap.size wo W) => ((HI.out.st.obs.all _ (List.getElem_mem hj2)).below k).dead
        simp only [hen] at hm2 hd2
        have hone := HRD.out.once hjo
        rw [show (obsOf xs)[j] = xs[j].o from List.getElem_map _] at hone
        have hnm := end_nodupM hone
        have hnd := end_nodupD hone
        have hfit := ((HZ.out _ hjm).inn.fits).1
        have hel := end_len xs[j].o
        obtain ⟨_, hs1, hs2⟩ := HFW.out.short xs[j].o (List.mem_map_of_mem hjm)
        have hst : ∀ m ∈ xs[j].o.msgs, m.claimed = false → ∃ t, t < (endO xs[j].o).msgs.length ∧ idxI (isM m.id) (endO xs[j].o).msgs = (t : Int) ∧ (endO xs[j].o).msgs[t]? = some m := fun m hm hc => found_idx hnm (stays hm hc)
        have hag : ∀ m ∈ xs[j].o.msgs, m.claimed = true → triedB m.retry xs[j].o.limit = false → ∃ t, t < (endO xs[j].o).msgs.length ∧ idxI (isM m.id) (endO xs[j].o).msgs = (t : Int) ∧ (endO xs[j].o).msgs[t]? = some m.tried := fun m hm hc ht => found_idx hnm (again hm hc ht)
        have has : ∀ m ∈ xs[j].o.msgs, m.claimed = true → triedB m.retry xs[j].o.limit = true → ∃ t, t < (endO xs[j].o).dead.length ∧ idxI (isM m.id) (endO xs[j].o).dead = (t : Int) ∧ (endO xs[j].o).dead[t]? = some m.tried := fun m hm hc ht => found_idx hnd (aside hm hc ht)
        clear eA eB hen hone hnm hnd hjm m0 m1 m2 m3
        generalize (endO xs[j].o).msgs = em at *
        generalize (endO xs[j].o).dead = ed at *
        generalize xs[j].o = ob at *
        generalize xs[j].r = sr at *
        generalize xs[j].m = sm at *
        generalize xs[j].d = sd at *
        generalize xs2[j].m = sm2 at *
        generalize xs2[j].d = sd2 at *
        obtain ⟨nm, kd, lm, rs, ms, ds⟩ := ob
        obtain ⟨ra, rn, rc⟩ := sr
        obtain ⟨ma, mn, mc⟩ := sm
        obtain ⟨da, dn, dc⟩ := sd
        obtain ⟨ma2, mn2, mc2⟩ := sm2
        obtain ⟨da2, dn2, dc2⟩ := sd2
        simp only at k0 k1 k2 k3 k4 k5 m4 m5 hlm hldn hm2 hd2 hfit hel hs1 hs2 hst hag has
        have hfm := fun id W (k : Below wo.heap.size wo W) => rfind_m (c := mc2) (hm2 W k).lst (hm2 W k).len.symm (by rw [(hm2 W k).len]; (try simp only); omega) id
        have hfd := fun id W (k : Below wo.heap.size wo W) => rfind_m (c := dc2) (hd2 W k).lst (hd2 W k).len.symm (by rw [(hd2 W k).len]; (try simp only); omega) id
        simp only at hfm hfd
        have HLM := ShutF4.mk hlm
        have HLDN := ShutF4.mk hldn
        have HM2 := ShutF4.mk hm2
        have HD2 := ShutF4.mk hd2
        have HFT := ShutF4.mk hfit
        have HEL := ShutF4.mk hel
        have HS1 := ShutF4.mk hs1
        have HS2 := ShutF4.mk hs2
        have HST := ShutF4.mk hst
        have HAG := ShutF4.mk hag
        have HAS := ShutF4.mk has
        have HFM := ShutF4.mk hfm
        have HFD := ShutF4.mk hfd
        have HBS2 := ShutF4.mk hbs2
        have M4 := ShutF4.mk m4
        have M5 := ShutF4.mk m5
        have hal := alloc_below wo (.cells #[.string nm, .int .i64 kd, .int .i64 lm, .slice ra rn rc, .slice ma mn mc, .slice da dn dc] 36)
        have HI2 := ShutF4.mk (HI.out.step hal)
        have HG2 := ShutF4.mk (Blk.new wo 36 #[.string nm, .int .i64 kd, .int .i64 lm, .slice ra rn rc, .slice ma mn mc, .slice da dn dc])
        have HAL := ShutF4.mk hal
        clear hlm hldn hm2 hd2 hfit hel hs1 hs2 hst hag has hfm hfd hbs2 m4 m5 hal
        go_wp2_with fail
        clear d0 d1 k0 k1 k2 k3 k4 k5 hbs hblt
        go_loopg [8] ms.length (fun k i wx => SfI w next (some ⟨b, o, none⟩) n2 c X ⟨some ⟨b2, o2, none⟩, n2, c2⟩ xs2 wo.heap.size #[.string nm, .int .i64 kd, .int .i64 lm, .slice ra rn rc, .slice ma mn mc, .slice da dn dc] ms.length wo k i wx)
        case atStart => exact ⟨0, by omega, rfl, HI2.out, HG2.out, HAL.out⟩
        case round =>
          obtain ⟨q, hq, rfl, hin7, hblk7, hbel7⟩ := hrel
          have HQ := ShutF4.mk hq
          have HI7 := ShutF4.mk hin7
          have HG7 := ShutF4.mk hblk7
          have HB7 := ShutF4.mk hbel7
          clear HI2 HG2 HAL hq hin7 hblk7 hbel7
          have e2 := HG7.out.cell 2
          have e4 := HG7.out.cell 4
          have e5 := HG7.out.cell 5
          have p1 := HI7.out.st.blk.cell 1
          simp only [List.getElem?_toArray, List.getElem?_cons_zero, List.getElem?_cons_succ] at e2 e4 e5 p1
          have pm4 := (cell_of_heap (HB7.out.block b2 HBS2.out) _).trans M4.out
          have pm5 := (cell_of_heap (HB7.out.block b2 HBS2.out) _).trans M5.out
          have glt := HG7.out.lt
          have xlt := HI7.out.st.blk.lt
          have b2lt := Nat.lt_of_lt_of_le HBS2.out HB7.out.size
          have hln : mn = ms.length := (HLM.out _ HI7.out.bel).len
          by_cases hlq : q < ms.length
          · obtain ⟨mb, mo, em2, hmb, i0, i1, i2, i3, i4, i5⟩ := (HLM.out _ HI7.out.bel).lst.atM hlq
            have em3 : ma = some ⟨mb, mo, none⟩ := em2
            subst em3
            have hmm := List.getElem_mem hlq
            have hft := HFT.out _ hmm
            have hs1 := HS1.out
            have hqi : (q : Int) < (mn : Int) := by omega
            have hw1 : IntKind.i64.wrap ((q : Int) + 1) = (q : Int) + 1 := by rw [IntKind.wrap_i64]; omega
            have hst := HST.out _ hmm
            have hag := HAG.out _ hmm
            have has := HAS.out _ hmm
            clear em2 hs1 hln
            generalize ms[q] = y at *
            obtain ⟨y0, y1, y2, y3, y4, y5⟩ := y
            simp only at i0 i1 i2 i3 i4 i5 hst hag has
            clear hmm
            cases y3
            · obtain ⟨t, htl, hidx, hget⟩ := hst (by first | rfl | trivial)
              clear hst hag has hft
              have BE := ShutF4.mk (alloc_below wr (.cells #[.int .i64 y0, .int .i64 y1, .int .i64 y2, .bool false, .string y4, .string y5] 38))
              have GM := ShutF4.mk (Blk.new wr 38 #[.int .i64 y0, .int .i64 y1, .int .i64 y2, .bool false, .string y4, .string y5])
              go_wp2_with fail
              clear i0 i1 i2 i3 i4 i5 e2 e4 e5 p1 pm4 pm5
              generalize wr.alloc (.cells #[.int .i64 y0, .int .i64 y1, .int .i64 y2, .bool false, .string y4, .string y5] 38) = w8 at *
              have x0 := GM.out.cell 0
              have x1 := GM.out.cell 1
              have x2 := GM.out.cell 2
              have x3 := GM.out.cell 3
              have x4 := GM.out.cell 4
              have x5 := GM.out.cell 5
              simp only [List.getElem?_toArray, List.getElem?_cons_zero, List.getElem?_cons_succ] at x0 x1 x2 x3 x4 x5
              refine (HFM.out y0 _ (HB7.out.trans (BE.out.mono HB7.out.size))).mono ?_
              rw [hidx]
              rintro e w20 ⟨rfl, rfl⟩
              obtain ⟨nb, no, en, hnb, z0, z1, z2, z3, z4, z5⟩ := (HM2.out _ (HB7.out.trans (BE.out.mono HB7.out.size))).lst.atM htl
              have hnn := (HM2.out _ (HB7.out.trans (BE.out.mono HB7.out.size))).len
              have en2 : ma2 = some ⟨nb, no, none⟩ := en
              subst en2
              rw [List.getElem?_eq_getElem htl, Option.some.injEq] at hget
              rw [hget] at z0 z1 z2 z3 z4 z5
              have htn : (t : Int) < (mn2 : Int) := by have : mn2 = em.length := hnn; omega
              have htge : ¬ (t : Int) < 0 := by omega
              clear hidx hget hnn en hnb htl
              go_wp2_with fail
              go_quiet (fail)
              go_wp2_with fail
              go_roundg (ms.length - (q + 1))
              case measure => have := HQ.out; omega
              case rel => exact ⟨q + 1, by have := HQ.out; omega, congrArg (Value.int .i64) (by omega), HI7.out.step (below_drewN BE.out _), HG7.out.below (below_drewN BE.out _) HG7.out.lt, below_drewN (HB7.out.trans (BE.out.mono HB7.out.size)) _⟩
            · clear hst
              have hit := fun W => rtried_ ⟨y0, y1, y2, true, y4, y5⟩ hft lm W
              simp only [Mg.val, Mg.cells, Mg.tried] at hit
              simp only [Mg.tried] at hag has
              generalize more1 y2 = r2 at *
              generalize triedB y2 lm = gone at *
              have HIT := ShutF4.mk hit
              clear hit hft
              have BA := ShutF4.mk (alloc_below wr (.cells #[.int .i64 y0, .int .i64 y1, .int .i64 y2, .bool true, .string y4, .string y5] 38))
              have GA := ShutF4.mk (Blk.new wr 38 #[.int .i64 y0, .int .i64 y1, .int .i64 y2, .bool true, .string y4, .string y5])
              cases gone
              · obtain ⟨t, htl, hidx, hget⟩ := hag (by first | rfl | trivial) (by first | rfl | trivial)
                clear hag has
                go_wp2_with fail
                refine (HIT.out _).mono ?_
                rintro e w9 ⟨rfl, hb9⟩
                have k9 := BA.out.trans (hb9.mono BA.out.size)
                have B10 := ShutF4.mk (k9.alloc k9.size (.cells #[.int .i64 y0, .int .i64 y1, .int .i64 r2, .bool false, .string y4, .string y5] 38))
                have G10 := ShutF4.mk ((GA.out.below hb9 GA.out.lt).alloc (.cells #[.int .i64 y0, .int .i64 y1, .int .i64 r2, .bool false, .string y4, .string y5] 38))
                have N10 := ShutF4.mk (Blk.new w9 38 #[.int .i64 y0, .int .i64 y1, .int .i64 r2, .bool false, .string y4, .string y5])
                have hgn : wr.heap.size < w9.heap.size := Nat.lt_of_lt_of_le GA.out.lt hb9.size
                clear k9 hb9 i0 i1 i2 i3 i4 i5 e2 e4 e5 p1 pm4 pm5
                go_upto_region 18 with fail
                generalize w9.alloc (.cells #[.int .i64 y0, .int .i64 y1, .int .i64 r2, .bool false, .string y4, .string y5] 38) = w10 at *
                have I10 := HI7.out.step B10.out
                have p1 := I10.st.blk.cell 1
                have pm5 := (cell_of_heap ((HB7.out.trans (B10.out.mono HB7.out.size)).block b2 HBS2.out) _).trans M5.out
                have x0 := G10.out.cell 0
                have x1 := G10.out.cell 1
                have x2 := G10.out.cell 2
                have x3 := G10.out.cell 3
                have x4 := G10.out.cell 4
                have x5 := G10.out.cell 5
                have f0 := G10.out.frozen 0
                have f1 := G10.out.frozen 1
                have f2 := G10.out.frozen 2
                have f3 := G10.out.frozen 3
                have f4 := G10.out.frozen 4
                have f5 := G10.out.frozen 5
                have v0 := N10.out.cell 0
                have v1 := N10.out.cell 1
                have v2 := N10.out.cell 2
                have v3 := N10.out.cell 3
                have v4 := N10.out.cell 4
                have v5 := N10.out.cell 5
                simp only [List.getElem?_toArray, List.getElem?_cons_zero, List.getElem?_cons_succ] at x0 x1 x2 x3 x4 x5 v0 v1 v2 v3 v4 v5 p1
                have BE := ShutF4.mk (below_six B10.out (Nat.le_refl wr.heap.size) (.int .i64 y0) (.int .i64 y1) (.int .i64 r2) (.bool false) (.string y4) (.string y5))
                have GM := ShutF4.mk (blk_store6 (a' := .int .i64 y0) (b' := .int .i64 y1) (c' := .int .i64 r2) (d' := .bool false) (e' := .string y4) (f' := .string y5) G10.out)
                clear I10
                go_wp2_with fail
                clear x0 x1 x2 x3 x4 x5 f0 f1 f2 f3 f4 f5 v0 v1 v2 v3 v4 v5 p1 pm5
                generalize ((((((w10.setCell ⟨wr.heap.size, 0, none⟩ (.int .i64 y0)).setCell ⟨wr.heap.size, 1, none⟩ (.int .i64 y1)).setCell ⟨wr.heap.size, 2, none⟩ (.int .i64 r2)).setCell ⟨wr.heap.size, 3, none⟩ (.bool false)).setCell ⟨wr.heap.size, 4, none⟩ (.string y4)).setCell ⟨wr.heap.size, 5, none⟩ (.string y5)) = w8 at *
                have x0 := GM.out.cell 0
                have x1 := GM.out.cell 1
                have x2 := GM.out.cell 2
                have x3 := GM.out.cell 3
                have x4 := GM.out.cell 4
                have x5 := GM.out.cell 5
                simp only [List.getElem?_toArray, List.getElem?_cons_zero, List.getElem?_cons_succ] at x0 x1 x2 x3 x4 x5
                refine (HFM.out y0 _ (HB7.out.trans (BE.out.mono HB7.out.size))).mono ?_
                rw [hidx]
                rintro e w20 ⟨rfl, rfl⟩
                obtain ⟨nb, no, en, hnb, z0, z1, z2, z3, z4, z5⟩ := (HM2.out _ (HB7.out.trans (BE.out.mono HB7.out.size))).lst.atM htl
                have hnn := (HM2.out _ (HB7.out.trans (BE.out.mono HB7.out.size))).len
                have en2 : ma2 = some ⟨nb, no, none⟩ := en
                subst en2
                rw [List.getElem?_eq_getElem htl, Option.some.injEq] at hget
                rw [hget] at z0 z1 z2 z3 z4 z5
                have htn : (t : Int) < (mn2 : Int) := by have : mn2 = em.length := hnn; omega
                have htge : ¬ (t : Int) < 0 := by omega
                clear hidx hget hnn en hnb htl
                go_wp2_with fail
                go_quiet (fail)
                go_wp2_with fail
                go_roundg (ms.length - (q + 1))
                case measure => have := HQ.out; omega
                case rel => exact ⟨q + 1, by have := HQ.out; omega, congrArg (Value.int .i64) (by omega), HI7.out.step (below_drewN BE.out _), HG7.out.below (below_drewN BE.out _) HG7.out.lt, below_drewN (HB7.out.trans (BE.out.mono HB7.out.size)) _⟩
              · obtain ⟨t, htl, hidx, hget⟩ := has (by first | rfl | trivial) (by first | rfl | trivial)
                clear hag has
                go_wp2_with fail
                refine (HIT.out _).mono ?_
                rintro e w9 ⟨rfl, hb9⟩
                have k9 := BA.out.trans (hb9.mono BA.out.size)
                have B10 := ShutF4.mk (k9.alloc k9.size (.cells #[.int .i64 y0, .int .i64 y1, .int .i64 r2, .bool false, .string y4, .string y5] 38))
                have G10 := ShutF4.mk ((GA.out.below hb9 GA.out.lt).alloc (.cells #[.int .i64 y0, .int .i64 y1, .int .i64 r2, .bool false, .string y4, .string y5] 38))
                have N10 := ShutF4.mk (Blk.new w9 38 #[.int .i64 y0, .int .i64 y1, .int .i64 r2, .bool false, .string y4, .string y5])
                have hgn : wr.heap.size < w9.heap.size := Nat.lt_of_lt_of_le GA.out.lt hb9.size
                clear k9 hb9 i0 i1 i2 i3 i4 i5 e2 e4 e5 p1 pm4 pm5
                go_upto_region 18 with fail
                generalize w9.alloc (.cells #[.int .i64 y0, .int .i64 y1, .int .i64 r2, .bool false, .string y4, .string y5] 38) = w10 at *
                have I10 := HI7.out.step B10.out
                have p1 := I10.st.blk.cell 1
                have pm5 := (cell_of_heap ((HB7.out.trans (B10.out.mono HB7.out.size)).block b2 HBS2.out) _).trans M5.out
                have x0 := G10.out.cell 0
                have x1 := G10.out.cell 1
                have x2 := G10.out.cell 2
                have x3 := G10.out.cell 3
                have x4 := G10.out.cell 4
                have x5 := G10.out.cell 5
                have f0 := G10.out.frozen 0
                have f1 := G10.out.frozen 1
                have f2 := G10.out.frozen 2
                have f3 := G10.out.frozen 3
                have f4 := G10.out.frozen 4
                have f5 := G10.out.frozen 5
                have v0 := N10.out.cell 0
                have v1 := N10.out.cell 1
                have v2 := N10.out.cell 2
                have v3 := N10.out.cell 3
                have v4 := N10.out.cell 4
                have v5 := N10.out.cell 5
                simp only [List.getElem?_toArray, List.getElem?_cons_zero, List.getElem?_cons_succ] at x0 x1 x2 x3 x4 x5 v0 v1 v2 v3 v4 v5 p1
                have BE := ShutF4.mk (below_six B10.out (Nat.le_refl wr.heap.size) (.int .i64 y0) (.int .i64 y1) (.int .i64 r2) (.bool false) (.string y4) (.string y5))
                have GM := ShutF4.mk (blk_store6 (a' := .int .i64 y0) (b' := .int .i64 y1) (c' := .int .i64 r2) (d' := .bool false) (e' := .string y4) (f' := .string y5) G10.out)
                clear I10
                go_wp2_with fail
                clear x0 x1 x2 x3 x4 x5 f0 f1 f2 f3 f4 f5 v0 v1 v2 v3 v4 v5 p1 pm5
                generalize ((((((w10.setCell ⟨wr.heap.size, 0, none⟩ (.int .i64 y0)).setCell ⟨wr.heap.size, 1, none⟩ (.int .i64 y1)).setCell ⟨wr.heap.size, 2, none⟩ (.int .i64 r2)).setCell ⟨wr.heap.size, 3, none⟩ (.bool false)).setCell ⟨wr.heap.size, 4, none⟩ (.string y4)).setCell ⟨wr.heap.size, 5, none⟩ (.string y5)) = w8 at *
                have x0 := GM.out.cell 0
                have x1 := GM.out.cell 1
                have x2 := GM.out.cell 2
                have x3 := GM.out.cell 3
                have x4 := GM.out.cell 4
                have x5 := GM.out.cell 5
                simp only [List.getElem?_toArray, List.getElem?_cons_zero, List.getElem?_cons_succ] at x0 x1 x2 x3 x4 x5
                refine (HFD.out y0 _ (HB7.out.trans (BE.out.mono HB7.out.size))).mono ?_
                rw [hidx]
                rintro e w20 ⟨rfl, rfl⟩
                obtain ⟨nb, no, en, hnb, z0, z1, z2, z3, z4, z5⟩ := (HD2.out _ (HB7.out.trans (BE.out.mono HB7.out.size))).lst.atM htl
                have hnn := (HD2.out _ (HB7.out.trans (BE.out.mono HB7.out.size))).len
                have en2 : da2 = some ⟨nb, no, none⟩ := en
                subst en2
                rw [List.getElem?_eq_getElem htl, Option.some.injEq] at hget
                rw [hget] at z0 z1 z2 z3 z4 z5
                have htn : (t : Int) < (dn2 : Int) := by have : dn2 = ed.length := hnn; omega
                have htge : ¬ (t : Int) < 0 := by omega
                clear hidx hget hnn en hnb htl
                go_wp2_with fail
                go_quiet (fail)
                go_wp2_with fail
                go_roundg (ms.length - (q + 1))
                case measure => have := HQ.out; omega
                case rel => exact ⟨q + 1, by have := HQ.out; omega, congrArg (Value.int .i64) (by omega), HI7.out.step (below_drewN BE.out _), HG7.out.below (below_drewN BE.out _) HG7.out.lt, below_drewN (HB7.out.trans (BE.out.mono HB7.out.size)) _⟩
          · have hqe : q = ms.length := by have := HQ.out; omega
            have hqi : ¬ (q : Int) < (mn : Int) := by omega
            have hl1 := (HM2.out _ HB7.out).len
            have hl2 := (HD2.out _ HB7.out).len
            have hl3 : mn2 = em.length := hl1
            have hl4 : dn2 = ed.length := hl2
            have hl5 : dn = ds.length := HLDN.out
            have hel := HEL.out
            have hs1 := HS1.out
            have hs2 := HS2.out
            have hwA : IntKind.i64.wrap ((mn2 : Int) + (dn2 : Int)) = ((ms.length + ds.length : Nat) : Int) := by rw [IntKind.wrap_i64]; omega
            have hwB : IntKind.i64.wrap ((mn : Int) + (dn : Int)) = ((ms.length + ds.length : Nat) : Int) := by rw [IntKind.wrap_i64]; omega
            have h20 : xs.length ≤ 20 := by have := HRD.out.len; simpa [obsOf] using this
            have hwj : IntKind.i64.wrap ((j : Int) + 1) = (j : Int) + 1 := by rw [IntKind.wrap_i64]; have := HLN.out; omega
            generalize ms.length + ds.length = Z at *
            clear hl1 hl2 hl3 hl4 hl5 hel hs1 hs2 hqe hln hlq
            go_wp2_with fail
            go_quiet (fail)
            go_wp2_with fail
            go_roundg (n2 - (j + 1))
            case measure => have := HJ.out; omega
            case rel => exact ⟨j + 1, by have := HJ.out; omega, congrArg (Value.int .i64) (by omega), HI7.out.step (below_drewN (Below.refl _ _) _)⟩
      · have hjn : ¬ (j : Int) < (n2 : Int) := by omega
        go_wp2_with fail
        go_ret
        exact ⟨rfl, HI.out.bel⟩
end Go.Proofs.Ytdjmjckmbclhiaa
