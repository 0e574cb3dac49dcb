/- Where the lock of a name stands in a table: package locks' place; rows of locks made anew: Clone. What somebody has of a lock: package locks' holdOf, of one lock and of the table. Whom somebody waits for in all locks: package locks' Waiting; its counters and Count. -/
import Derived.Test.YtnjhhndggfjjdaaGreatDoorJ15
set_option maxRecDepth 4000
namespace Go.Proofs.YtnjhhndggfjjdaaGreatDoor
open Go.RowKit
theorem cmpN_lt_trans {a b c : Nm} (h1 : cmpN a b < 0) (h2 : cmpN b c < 0) : cmpN a c < 0 := by
  have h3 := cmpN_trans (a := a) (b := b) (c := c) (by omega) (by omega)
  by_cases h : cmpN a c = 0
  · rw [cmpN_eq] at h
    subst h
    have := cmpN_turn a b
    omega
  · omega
theorem rise_at {s : TS} (h : s.Pairwise fun a b => cmpN a.1 b.1 < 0) {i j : Nat} (hi : i < s.length) (hj : j < s.length) (hij : i < j) : cmpN s[i].1 s[j].1 < 0 := List.pairwise_iff_getElem.1 h i j hi hj hij
theorem rise_rows {w : World} {rs : List Re} {s : TS} (hr : RowsOk w rs s) (h : s.Pairwise fun a b => cmpN a.1 b.1 < 0) (n : Nm) : RiseR rs n := fun i j hi hj hij ha => by
  have hs := hr.1
  unfold aheadR at *
  rw [(hr.2 i hi (by omega)).name]
  rw [(hr.2 j hj (by omega)).name] at ha
  rcases Nat.lt_or_ge i j with h1 | h1
  · have h2 := rise_at h (i := i) (j := j) (by omega) (by omega) h1
    have ha := of_decide_eq_true ha
    exact decide_eq_true (cmpN_lt_trans h2 ha)
  · obtain rfl : i = j := by omega
    exact ha
theorem findIdx_same {α β : Type} {p : α → Bool} {q : β → Bool} : ∀ {l : List α} {m : List β}, l.length = m.length → (∀ j (h1 : j < l.length) (h2 : j < m.length), p l[j] = q m[j]) → l.findIdx p = m.findIdx q
  | [], [], _, _ => rfl
  | [], _ :: _, h, _ => by simp at h
  | _ :: _, [], h, _ => by simp at h
  | x :: l, y :: m, h, he => by
    have h0 : p x = q y := he 0 (by simp) (by simp)
    have hr := findIdx_same (p := p) (q := q) (l := l) (m := m) (by simpa using h) (fun j h1 h2 => he (j + 1) (by simpa using h1) (by simpa using h2))
    simp only [List.findIdx_cons, h0, hr]
theorem spot_rows {w : World} {rs : List Re} {s : TS} (hr : RowsOk w rs s) (n : Nm) : spotR rs n = spotN s n := by
  unfold spotR spotN
  exact findIdx_same hr.1 fun j h1 h2 => by
    unfold aheadR
    rw [(hr.2 j h1 h2).name]
theorem hit_rows {w : World} {rs : List Re} {s : TS} (hr : RowsOk w rs s) (n : Nm) : hitR rs n = atN s n := by
  unfold hitR atN
  rw [spot_rows hr]
  rcases Nat.lt_or_ge (spotN s n) s.length with h | h
  · rw [List.getElem?_eq_getElem (by rw [hr.1]; exact h), List.getElem?_eq_getElem h]
    simp only
    rw [(hr.2 _ (by rw [hr.1]; exact h) h).name]
  · rw [List.getElem?_eq_none (by rw [hr.1]; exact h), List.getElem?_eq_none h]
theorem spot_le' (s : TS) (n : Nm) : spotN s n ≤ s.length := List.findIdx_le_length
theorem at_lt {s : TS} {n : Nm} (h : atN s n = true) : spotN s n < s.length := by
  unfold atN at h
  rcases Nat.lt_or_ge (spotN s n) s.length with h1 | h1
  · exact h1
  · rw [List.getElem?_eq_none h1] at h; cases h
theorem at_name {s : TS} {n : Nm} (h : atN s n = true) : (s[spotN s n]'(at_lt h)).1 = n := by
  have hl := at_lt h
  unfold atN at h
  rw [List.getElem?_eq_getElem hl] at h
  simp only at h
  exact (cmpN_eq _ _).1 (by simpa using h)
theorem lock_at {s : TS} {n : Nm} (h : atN s n = true) : lockN s n = (s[spotN s n]'(at_lt h)).2 := by
  have hl := at_lt h
  unfold lockN
  rw [List.getElem?_eq_getElem hl]
  simp only
  rw [if_pos ((cmpN_eq _ _).2 (at_name h))]
theorem lock_not {s : TS} {n : Nm} (h : atN s n = false) : lockN s n = ([], []) := by
  unfold lockN
  unfold atN at h
  split
  · rename_i e he
    rw [he] at h
    simp only at h
    rw [if_neg (by simpa using h)]
  · rfl
set_option maxHeartbeats 1000000 in
theorem lplace_ {w : World} {b : Nat} {n : Int} {A : Option Addr} {c : Nat} {rs : List Re} {s : TS} (h : LT0 w b n A c rs s) (hr : s.Pairwise fun a b => cmpN a.1 b.1 < 0) (hs : s.length ≤ 100000) (m : Nm) :
    Calls Tryz.prog 46 #[.pointer (some ⟨b, 0, none⟩), valN m] w fun e w' => e = .returned (.tuple #[.int .i64 (spotN s m : Int), .bool (atN s m)]) ∧ Below w.heap.size w w' := by
  have hal := alloc_below w (.cells #[.int .i64 m.1, .string m.2.1, .string m.2.2] 31)
  have hB := Blk.new w 31 #[.int .i64 m.1, .string m.2.1, .string m.2.2]
  have h1 := h.below hal
  have hse := search_ (c := c) (lst_below h1.lst (Below.refl _ _).drew) (h1.rows.1.trans rfl) (by omega) m (rise_rows h1.rows hr m)
  rw [spot_rows h.rows, hit_rows h.rows] at hse
  have p1 := h1.blk.cell 1
  have hbs := h.lt
  have d0 := hB.cell 0
  have d1 := hB.cell 1
  have d2 := hB.cell 2
  unfold valN at *
  have HSE := Lib.hid hse
  have HAL := Lib.hid hal
  clear hse hal h1 h hB hr
  generalize spotN s m = z at *
  generalize atN s m = zb at *
  generalize s.length = k at *
  go_enter Tryz.func46, Tryz.ntmps46
  go_wp2_with fail
  have hbl := HAL.out.size
  generalize w.alloc (.cells #[.int .i64 m.1, .string m.2.1, .string m.2.2] 31) = wA at *
  have hS0 : (fun W : World => W.cell? ⟨b, 1, none⟩ = some (.slice A k c) ∧ W.cell? ⟨w.heap.size, 0, none⟩ = some (.int .i64 m.1) ∧ W.cell? ⟨w.heap.size, 1, none⟩ = some (.string m.2.1) ∧ W.cell? ⟨w.heap.size, 2, none⟩ = some (.string m.2.2)) wA.drew := ⟨p1, d0, d1, d2⟩
  have hb1 := block_of_cell p1
  have hb2 := block_of_cell d0
  go_region_held3 (fun W : World => W.cell? ⟨b, 1, none⟩ = some (.slice A k c) ∧ W.cell? ⟨w.heap.size, 0, none⟩ = some (.int .i64 m.1) ∧ W.cell? ⟨w.heap.size, 1, none⟩ = some (.string m.2.1) ∧ W.cell? ⟨w.heap.size, 2, none⟩ = some (.string m.2.2))
    (first | exact hS0 | exact hS1)
    (first | (go_at_call 70; refine HSE.out.mono ?_; rintro e w1 ⟨rfl, hb3⟩; have HB3 := Lib.hid hb3; have hS1 : (fun W : World => W.cell? ⟨b, 1, none⟩ = some (.slice A k c) ∧ W.cell? ⟨w.heap.size, 0, none⟩ = some (.int .i64 m.1) ∧ W.cell? ⟨w.heap.size, 1, none⟩ = some (.string m.2.1) ∧ W.cell? ⟨w.heap.size, 2, none⟩ = some (.string m.2.2)) w1 := ⟨(cell_of_heap (hb3.block _ hb1) _).trans p1, (cell_of_heap (hb3.block _ hb2) _).trans d0, (cell_of_heap (hb3.block _ hb2) _).trans d1, (cell_of_heap (hb3.block _ hb2) _).trans d2⟩; clear hb3))
  all_goals
    have HB2 := Lib.hid (HAL.out.trans ((Below.refl _ wA).drew.trans HB3.out |>.mono HAL.out.size))
    go_wp2_with fail
    refine bodyPost_ret (v := .tuple #[.int .i64 (z : Int), .bool zb]) (by simp [results, Tryz.results46, go_sem]) rfl ?_
    exact ⟨rfl, HB2.out⟩
set_option maxHeartbeats 400000 in
theorem lclone_ {w : World} {K : Nat → Prop} {A : Option Addr} {n c : Nat} {l : List Re} (h : Lst w K eL A l) (hl : l.length = n) (hn : n ≤ 100000) (hA : A = none → c = 0) :
    Calls Tryz.prog 47 #[.slice A n c] w fun e w' => ∃ v, e = .returned v ∧ Own w' w.heap.size eL 66 v l ∧ Below w.heap.size w w' := by
  rcases A with _ | a
  · have hc := hA rfl
    have hx : l = [] := h.none_
    subst hx
    simp only [List.length_nil] at hl
    subst hc hl
    clear h hA
    have hnil := fun (W : World) => Lib.run_eql_slice_nil (P := Tryz.prog) W 51 66 none 0 0 0 0 Tryz.underlying51
    simp only [Option.isNone_none] at hnil
    go_enter Tryz.func47, Tryz.ntmps47
    go_wp2
    go_ret
    exact ⟨_, rfl, own_nil _ _, Below.refl _ _⟩
  · have hnil := fun (W : World) => Lib.run_eql_slice_nil (P := Tryz.prog) W 51 66 (some a) n c 0 0 Tryz.underlying51
    simp only [Option.isNone_some] at hnil
    obtain ⟨v', W', hap, ho, hg, hat⟩ := append_own tyL (own_empty w w.heap.size (Nat.le_refl _)) (h.below (alloc_below w (.cells #[] 66))) hl c (by show 0 + n ≤ _; omega) (by simp)
    rw [List.nil_append] at ho
    have hbel : Below w.heap.size w W' := ((Below.refl _ _).alloc (Nat.le_refl _) _).grown hg (by simp) (by intro k hk; simp [Value.ownBlock] at hk; omega)
    have HBE := Lib.hid hbel
    have HO := Lib.hid ho
    clear ho hg hat hbel h hA hl
    go_enter Tryz.func47, Tryz.ntmps47
    go_wp2_with (at_builtin; refine wpList_append_run rfl (.tmp 5) (.tmp 6) 51 51 rfl _ _ rfl rfl hap ?_)
    go_ret
    exact ⟨_, rfl, HO.out, HBE.out⟩
end Go.Proofs.YtnjhhndggfjjdaaGreatDoor
namespace Go.Proofs.YtnjhhndggfjjdaaGreatDoor
open Go.RowKit
def valH (h : Ho) : Value := .agg #[.int .i64 h.1, .int .i64 (h.2.1 : Int), .int .i64 (h.2.2 : Int)]
def findH (l : List Ho) (who : Int) : Option Ho := l.find? fun h => h.1 == who
def FhR (w : World) (l : List Ho) (who : Int) (k : Nat) (i : Value) (wr : World) : Prop := ∃ j, j + k = l.length ∧ i = .int .i64 (j : Int) ∧ (∀ q (_ : q < j) (hl : q < l.length), l[q].1 ≠ who) ∧ Below w.heap.size w wr
theorem find_hit {l : List Ho} {who : Int} {j : Nat} (hj : j < l.length) (h1 : ∀ q (_ : q < j) (hl : q < l.length), l[q].1 ≠ who) (h2 : l[j].1 = who) : findH l who = some l[j] := by
  unfold findH
  rw [List.find?_eq_some_iff_getElem]
  exact ⟨by simpa using h2, j, hj, rfl, fun q hq => by simpa using h1 q hq (by omega)⟩
theorem find_none {l : List Ho} {who : Int} (h1 : ∀ q (hl : q < l.length), l[q].1 ≠ who) : findH l who = none := by
  unfold findH
  rw [List.find?_eq_none]
  intro x hx
  obtain ⟨q, hq, rfl⟩ := List.getElem_of_mem hx
  simpa using h1 q hq
/-- three cells stored, in a block known whole -/
theorem blk_store3 {w : World} {g : Nat} {T : TypeId} {a b c u v x : Value} (h : Blk w g T #[a, b, c]) : Blk (((w.setCell ⟨g, 0, none⟩ u).setCell ⟨g, 1, none⟩ v).setCell ⟨g, 2, none⟩ x) g T #[u, v, x] := by
  have := ((h.set_ 0 u).set_ 1 v).set_ 2 x
  simpa using this
set_option maxHeartbeats 2000000 in
theorem lholdof_ {w : World} {g o : Nat} {zn : Zn} {l : Lk} (h : Lock w g o zn l) (hn : l.1.length ≤ 10000) (hm : l.2.length ≤ 10000) (who : Int) :
    Calls Tryz.prog 33 #[.pointer (some ⟨g, o, none⟩), .int .i64 who] w fun e w' => e = .returned (.tuple #[valH ((findH (holdsP l) who).getD (0, 0, 0)), .bool (findH (holdsP l) who).isSome]) ∧ Below w.heap.size w w' := by
  have hal := alloc_below w (.cells #[.int .i64 0, .int .i64 0, .int .i64 0] 56)
  have hB := Blk.new w 56 #[.int .i64 0, .int .i64 0, .int .i64 0]
  have hho := holds_ (h.below hal) hn hm
  have HHO := Lib.hid hho
  have HAL := Lib.hid hal
  have HB := Lib.hid hB
  clear hal hB hho h hn hm
  go_enter Tryz.func33, Tryz.ntmps33
  go_wp2_with fail
  have hlt : w.heap.size < (w.alloc (.cells #[.int .i64 0, .int .i64 0, .int .i64 0] 56)).heap.size := HB.out.lt
  generalize w.alloc (.cells #[.int .i64 0, .int .i64 0, .int .i64 0] 56) = wA at *
  refine HHO.out.mono ?_
  rintro e w1 ⟨v, rfl, ho, hb1⟩
  obtain ⟨L, hLL⟩ : ∃ L, holdsP l = L := ⟨_, rfl⟩
  rw [hLL] at ho
  have HLL := Lib.hid hLL
  clear hLL
  obtain ⟨A, c, rfl, hl, hlc, hcm, _⟩ := own_lst ho
  unfold maxLen at hcm
  have HL := Lib.hid hl
  have HB1 := Lib.hid hb1
  have HRES := Lib.hid (HB.out.below hb1 hlt)
  clear ho hl hb1 HB HHO
  generalize hm : L.length = m at *
  have HM := Lib.hid hm
  clear hm
  go_wp2_with fail
  go_loopg [13] m (fun k i wr => FhR w1 L who k i wr)
  case atStart => exact ⟨0, by rw [HM.out]; omega, rfl, fun q hq => absurd hq (Nat.not_lt_zero q), Below.refl _ _⟩
  case round =>
    obtain ⟨j, hj, rfl, h1, hb⟩ := hrel
    have HJ := Lib.hid hj
    have H1 := Lib.hid h1
    have HBR := Lib.hid hb
    have HRR := Lib.hid (HRES.out.below hb HRES.out.lt)
    have HTOT := Lib.hid (HAL.out.trans ((HB1.out.trans (hb.mono HB1.out.size)).mono HAL.out.size))
    clear hj h1 hb
    by_cases hlt : j < m
    · have hx : j < L.length := by rw [HM.out]; exact hlt
      obtain ⟨g2, o2, rfl, hg2, d0, d1, d2⟩ := (HL.out.below HBR.out).atH hx
      by_cases hw : L[j].1 = who
      · have hf := find_hit hx (fun q hq hl => H1.out q hq hl) hw
        have HF := Lib.hid hf
        have hv : valH L[j] = .agg #[.int .i64 who, .int .i64 (L[j].2.1 : Int), .int .i64 (L[j].2.2 : Int)] := by unfold valH; rw [hw]
        have HV := Lib.hid hv
        rw [hw] at d0
        clear hf hv hw
        generalize hX : L[j] = X at *
        generalize (X.2.1 : Int) = x1 at *
        generalize (X.2.2 : Int) = x2 at *
        have hne : w.heap.size ≠ wr.heap.size := by have := HRR.out.lt; omega
        have hres2 := blk_store3 (u := .int .i64 who) (v := .int .i64 x1) (x := .int .i64 x2) (HRR.out.alloc (.cells #[.int .i64 who, .int .i64 x1, .int .i64 x2] 56))
        have hend : Below w.heap.size w ((((wr.alloc (.cells #[.int .i64 who, .int .i64 x1, .int .i64 x2] 56)).setCell ⟨w.heap.size, 0, none⟩ (.int .i64 who)).setCell ⟨w.heap.size, 1, none⟩ (.int .i64 x1)).setCell ⟨w.heap.size, 2, none⟩ (.int .i64 x2)) := by
          refine Keep.below (K := fun i _ => i < w.heap.size) (((Keep.setCell (Keep.setCell (Keep.setCell (Keep.of_below (HTOT.out.trans ((alloc_below wr _).mono HTOT.out.size))) ?_ _) ?_ _) ?_ _))) (Nat.le_refl _) (fun _ _ h => h)
          all_goals (intro _ _ h; exact absurd h (Nat.lt_irrefl _))
        have r0 := hres2.cell 0
        have r1 := hres2.cell 1
        have r2 := hres2.cell 2
        have HEND := Lib.hid hend
        clear hres2 hend
        have hres1 := HRR.out.alloc (.cells #[.int .i64 who, .int .i64 x1, .int .i64 x2] 56)
        have q0 := hres1.cell 0
        have q1 := hres1.cell 1
        have q2 := hres1.cell 2
        have f0 := hres1.frozen 0
        have f1 := hres1.frozen 1
        have f2 := hres1.frozen 2
        clear hres1
        go_wp2_with fail
        refine bodyPost_ret (v := .tuple #[.agg #[.int .i64 who, .int .i64 x1, .int .i64 x2], .bool true]) (by simp [results, Tryz.results33, go_sem, r0, r1, r2]) rfl ?_
        exact ⟨by rw [HLL.out, HF.out]; exact congrArg (fun z => Ending.returned (.tuple #[z, .bool true])) HV.out.symm, HEND.out⟩
      · have hnx : ∀ q (hq : q < j + 1) (hl : q < L.length), L[q].1 ≠ who := fun q hq hl => by
          rcases Nat.lt_or_ge q j with h5 | h5
          · exact H1.out q h5 hl
          · obtain rfl : q = j := by omega
            exact hw
        have HNX := Lib.hid hnx
        have e0 : (L[j].1 == who) = false := by simpa using hw
        clear hnx hw
        generalize L[j].1 = x0 at *
        generalize (L[j].2.1 : Int) = x1 at *
        generalize (L[j].2.2 : Int) = x2 at *
        go_wp2_with fail
        go_roundg (m - (j + 1))
        case measure => have := HJ.out; have := HM.out; omega
        case rel => exact ⟨j + 1, by have := HM.out; omega, by go_num, HNX.out, HBR.out.trans ((alloc_below wr _).mono HBR.out.size)⟩
    · have hf : findH L who = none := find_none fun q hl => H1.out q (by have := HJ.out; have := HM.out; omega) hl
      have HF := Lib.hid hf
      clear hf
      have q0 := HRR.out.cell 0
      have q1 := HRR.out.cell 1
      have q2 := HRR.out.cell 2
      have f0 := HRR.out.frozen 0
      have f1 := HRR.out.frozen 1
      have f2 := HRR.out.frozen 2
      have hres2 := blk_store3 (u := .int .i64 0) (v := .int .i64 0) (x := .int .i64 0) HRR.out
      have hend : Below w.heap.size w (((wr.setCell ⟨w.heap.size, 0, none⟩ (.int .i64 0)).setCell ⟨w.heap.size, 1, none⟩ (.int .i64 0)).setCell ⟨w.heap.size, 2, none⟩ (.int .i64 0)) := by
        refine Keep.below (K := fun i _ => i < w.heap.size) (((Keep.setCell (Keep.setCell (Keep.setCell (Keep.of_below HTOT.out) ?_ _) ?_ _) ?_ _))) (Nat.le_refl _) (fun _ _ h => h)
        all_goals (intro _ _ h; exact absurd h (Nat.lt_irrefl _))
      have r0 := hres2.cell 0
      have r1 := hres2.cell 1
      have r2 := hres2.cell 2
      have HEND := Lib.hid hend
      clear hres2 hend
      go_wp2_with fail
      refine bodyPost_ret (v := .tuple #[.agg #[.int .i64 0, .int .i64 0, .int .i64 0], .bool false]) (by simp [results, Tryz.results33, go_sem, r0, r1, r2]) rfl ?_
      exact ⟨by rw [HLL.out, HF.out]; rfl, HEND.out⟩
/-- who has to do with a lock, and what is found of it -/
theorem find_here (l : Lk) (who : Int) : (findH (holdsP l) who).isSome = hereP l who := by
  unfold findH hereP
  rw [Bool.eq_iff_iff, List.find?_isSome, List.any_eq_true]
set_option maxHeartbeats 2000000 in
theorem tholdof_ {w : World} {b : Nat} {n : Int} {A : Option Addr} {c : Nat} {rs : List Re} {s : TS} (h : LT0 w b n A c rs s) (hr : s.Pairwise fun a b => cmpN a.1 b.1 < 0) (hs : s.length ≤ 100000) (hz : ∀ e ∈ s, e.2.1.length ≤ 10000 ∧ e.2.2.length ≤ 10000) (who : Int) (m : Nm) :
    Calls Tryz.prog 22 #[.pointer (some ⟨b, 0, none⟩), .int .i64 who, valN m] w fun e w' => e = .returned (.tuple #[valH ((findH (holdsP (lockN s m)) who).getD (0, 0, 0)), .bool (hereP (lockN s m) who)]) ∧ Below w.heap.size w w' := by
  rw [← find_here]
  have hal1 := alloc_below w (.cells #[.int .i64 m.1, .string m.2.1, .string m.2.2] 31)
  have hal2 := alloc_below (w.alloc (.cells #[.int .i64 m.1, .string m.2.1, .string m.2.2] 31)) (.cells #[.int .i64 0, .int .i64 0, .int .i64 0] 56)
  have hsz : (w.alloc (.cells #[.int .i64 m.1, .string m.2.1, .string m.2.2] 31)).heap.size = w.heap.size + 1 := by simp
  have hB := Blk.new (w.alloc (.cells #[.int .i64 m.1, .string m.2.1, .string m.2.2] 31)) 56 #[.int .i64 0, .int .i64 0, .int .i64 0]
  rw [hsz] at hB
  have hN := (Blk.new w 31 #[.int .i64 m.1, .string m.2.1, .string m.2.2]).alloc (.cells #[.int .i64 0, .int .i64 0, .int .i64 0] 56)
  have hal := hal1.trans (hal2.mono hal1.size)
  have h2 := h.below hal
  have hpl := lplace_ h2 hr hs m
  have d0 := hN.cell 0
  have d1 := hN.cell 1
  have d2 := hN.cell 2
  have HPL := Lib.hid hpl
  have HAL := Lib.hid hal
  have HB := Lib.hid hB
  have H := Lib.hid h2
  have HZ := Lib.hid hz
  have hbs := h2.lt
  have hne : b ≠ w.heap.size + 1 := by have := h.lt; omega
  clear hpl hal hB hN hal1 hal2 hsz h h2 hz hr
  unfold valN at *
  have hcase : (atN s m = false ∧ lockN s m = ([], [])) ∨ (atN s m = true ∧ ∃ hl : spotN s m < s.length, lockN s m = (s[spotN s m]'hl).2) := by
    cases h : atN s m
    · exact .inl ⟨rfl, lock_not h⟩
    · exact .inr ⟨rfl, at_lt h, lock_at h⟩
  go_enter Tryz.func22, Tryz.ntmps22
  go_wp2_with fail
  have hlt : w.heap.size + 1 < ((w.alloc (.cells #[.int .i64 m.1, .string m.2.1, .string m.2.2] 31)).alloc (.cells #[.int .i64 0, .int .i64 0, .int .i64 0] 56)).heap.size := HB.out.lt
  generalize (w.alloc (.cells #[.int .i64 m.1, .string m.2.1, .string m.2.2] 31)).alloc (.cells #[.int .i64 0, .int .i64 0, .int .i64 0] 56) = wA at *
  refine HPL.out.mono ?_
  rintro e w1 ⟨rfl, hb1⟩
  have HB1 := Lib.hid hb1
  have HRES := Lib.hid (HB.out.below hb1 hlt)
  have HTOT := Lib.hid (HAL.out.trans (hb1.mono HAL.out.size))
  have HT := Lib.hid (H.out.below hb1)
  clear hb1 HB HPL
  have hend3 : ∀ (W : World) (u v x : Value), Below w.heap.size w W → Below w.heap.size w (((W.setCell ⟨w.heap.size + 1, 0, none⟩ u).setCell ⟨w.heap.size + 1, 1, none⟩ v).setCell ⟨w.heap.size + 1, 2, none⟩ x) := fun W u v x hW => by
    refine Keep.below (K := fun i _ => i < w.heap.size) (((Keep.setCell (Keep.setCell (Keep.setCell (Keep.of_below hW) ?_ _) ?_ _) ?_ _))) (Nat.le_refl _) (fun _ _ h => h)
    all_goals (intro _ _ h; simp only at h; omega)
  have HEND3 := Lib.hid hend3
  clear hend3
  rcases hcase with ⟨hat, hlk⟩ | ⟨hat, hl, hlk⟩
  · rw [hat]
    have hf : findH (holdsP (lockN s m)) who = none := by rw [hlk]; rfl
    have HF := Lib.hid hf
    have q0 := HRES.out.cell 0
    have q1 := HRES.out.cell 1
    have q2 := HRES.out.cell 2
    have f0 := HRES.out.frozen 0
    have f1 := HRES.out.frozen 1
    have f2 := HRES.out.frozen 2
    have hres2 := blk_store3 (u := .int .i64 0) (v := .int .i64 0) (x := .int .i64 0) HRES.out
    have r0 := hres2.cell 0
    have r1 := hres2.cell 1
    have r2 := hres2.cell 2
    clear hres2 hf hat hlk
    generalize spotN s m = z at *
    go_wp2_with fail
    refine bodyPost_ret (v := .tuple #[.agg #[.int .i64 0, .int .i64 0, .int .i64 0], .bool false]) (by simp [results, Tryz.results22, go_sem, r0, r1, r2]) rfl ?_
    exact ⟨by rw [HF.out]; rfl, HEND3.out _ _ _ _ HTOT.out⟩
  · rw [hat]
    have hlr : spotN s m < rs.length := by rw [H.out.rows.1]; exact hl
    obtain ⟨g, o, zn, rfl, hg, hlock⟩ := row_lock HT.out.lst HT.out.rows hlr hl
    have hzz := HZ.out _ (List.getElem_mem hl)
    have hho := lholdof_ hlock hzz.1 hzz.2 who
    rw [← hlk] at hho
    have p1 := HT.out.blk.cell 1
    obtain ⟨F, hF⟩ : ∃ F, findH (holdsP (lockN s m)) who = F := ⟨_, rfl⟩
    rw [hF] at hho
    have HHO := Lib.hid hho
    have HF := Lib.hid hF
    clear hho hF hzz hlock hat hlk hlr
    generalize spotN s m = z at *
    generalize s.length = k at *
    unfold valH at HHO
    obtain ⟨x0, x1, x2, hx⟩ : ∃ x0 x1 x2 : Int, valH (F.getD (0, 0, 0)) = .agg #[.int .i64 x0, .int .i64 x1, .int .i64 x2] := ⟨_, _, _, rfl⟩
    have hx' := hx
    unfold valH at hx'
    rw [hx'] at HHO
    have HX := Lib.hid hx
    clear hx hx'
    go_wp2_with fail
    refine HHO.out.mono ?_
    rintro e w2 ⟨rfl, hb2⟩
    have HTOT2 := Lib.hid (HTOT.out.trans (hb2.mono HTOT.out.size))
    have hr2 := HRES.out.below hb2 HRES.out.lt
    have q0 := hr2.cell 0
    have q1 := hr2.cell 1
    have q2 := hr2.cell 2
    have f0 := hr2.frozen 0
    have f1 := hr2.frozen 1
    have f2 := hr2.frozen 2
    have hres2 := blk_store3 (u := .int .i64 x0) (v := .int .i64 x1) (x := .int .i64 x2) hr2
    have r0 := hres2.cell 0
    have r1 := hres2.cell 1
    have r2 := hres2.cell 2
    clear hres2 hr2 hb2
    go_wp2_with fail
    refine bodyPost_ret (v := .tuple #[.agg #[.int .i64 x0, .int .i64 x1, .int .i64 x2], .bool F.isSome]) (by simp [results, Tryz.results22, go_sem, r0, r1, r2]) rfl ?_
    exact ⟨by rw [HF.out, HX.out], HEND3.out _ _ _ _ HTOT2.out⟩
end Go.Proofs.YtnjhhndggfjjdaaGreatDoor
namespace Go.Proofs.YtnjhhndggfjjdaaGreatDoor
open Go.RowKit
/-- what a table's locks are for its calls -/
structure TGood (s : TS) : Prop where
  rise : s.Pairwise fun a b => cmpN a.1 b.1 < 0
  ok : ∀ e ∈ s, Ok e.2
  fit : ∀ e ∈ s, Fit e.2
  small : ∀ e ∈ s, e.2.1.length ≤ 10000 ∧ e.2.2.length ≤ 10000
  len : s.length ≤ 10000
theorem wait_iff {s : Lk} (h : Fit s) (who : Int) : decide (0 < (waitsP s who).length) = hasP s.2 who := by
  cases hh : hasP s.2 who
  · have : waitsP s who = [] := waits_miss fun hl => by
      have := List.findIdx_getElem (w := hl)
      unfold hasP at hh
      rw [List.any_eq_false] at hh
      exact absurd this (by simpa using hh _ (List.getElem_mem hl))
    rw [this]
    rfl
  · exact decide_eq_true (waits_some h hh)
def WaR (w : World) (s : TS) (who : Int) (k : Nat) (i : Value) (wr : World) : Prop := ∃ j, j + k = s.length ∧ i = .int .i64 (j : Int) ∧ (∀ q (_ : q < j) (hl : q < s.length), hasP s[q].2.2 who = false) ∧ Below w.heap.size w wr
theorem waitN_hit {s : TS} {who : Int} {j : Nat} (hj : j < s.length) (h1 : ∀ q (_ : q < j) (hl : q < s.length), hasP s[q].2.2 who = false) (h2 : hasP s[j].2.2 who = true) : waitN s who = some s[j].1 := by
  unfold waitN
  have : s.find? (fun e => hasP e.2.2 who) = some s[j] := List.find?_eq_some_iff_getElem.2 ⟨h2, j, hj, rfl, fun q hq => by simpa using h1 q hq (by omega)⟩
  rw [this]
  rfl
theorem waitN_none {s : TS} {who : Int} (h1 : ∀ q (hl : q < s.length), hasP s[q].2.2 who = false) : waitN s who = none := by
  unfold waitN
  have : s.find? (fun e => hasP e.2.2 who) = none := by
    rw [List.find?_eq_none]
    intro x hx
    obtain ⟨q, hq, rfl⟩ := List.getElem_of_mem hx
    simpa using h1 q hq
  rw [this]
  rfl
set_option maxHeartbeats 4000000 in
theorem waiting_all {w : World} {b : Nat} {n : Int} {s : TS} (h : LT w b n s) (hg : TGood s) (hT : Tab w) (who : Int) :
    Calls Tryz.prog 12 #[.pointer (some ⟨b, 0, none⟩), .int .i64 who] w fun e w' => e = .returned (.tuple #[valN ((waitN s who).getD (0, noB, noB)), .bool (waitN s who).isSome]) ∧ Below w.heap.size w w' := by
  obtain ⟨A, c, rs, h⟩ := h
  have hal := alloc_below w (.cells #[.int .i64 0, .string noB, .string noB] 31)
  have hB := Blk.new w 31 #[.int .i64 0, .string noB, .string noB]
  have h2 := h.below hal
  have p1 := h2.blk.cell 1
  have hbs := h2.lt
  have hmx := h2.max
  have hle := h2.le
  unfold maxLen at hmx
  have H := Lib.hid h2
  have HT := Lib.hid (hT.below hal)
  have HAL := Lib.hid hal
  have HB := Lib.hid hB
  have HG := Lib.hid hg
  clear hal hB h h2 hg hT
  obtain ⟨m, hm⟩ : ∃ m, s.length = m := ⟨_, rfl⟩
  have hrl : rs.length = m := H.out.rows.1.trans hm
  rw [hm] at p1 hle
  have HM := Lib.hid hm
  have HRL := Lib.hid hrl
  clear hm hrl
  unfold noB at *
  go_enter Tryz.func12, Tryz.ntmps12
  go_wp2_with fail
  generalize w.alloc (.cells #[.int .i64 0, .string ⟨#[]⟩, .string ⟨#[]⟩] 31) = wA at *
  go_loopg [16] m (fun k i wr => WaR wA s who k i wr)
  case atStart => exact ⟨0, by rw [HM.out]; omega, rfl, fun q hq => absurd hq (Nat.not_lt_zero q), Below.refl _ _⟩
  case round =>
    obtain ⟨j, hj, rfl, h1, hb⟩ := hrel
    have HJ := Lib.hid hj
    have H1 := Lib.hid h1
    have HBR := Lib.hid hb
    have HRR := Lib.hid (HB.out.below hb HB.out.lt)
    have HTOT := Lib.hid (HAL.out.trans (hb.mono HAL.out.size))
    clear hj h1 hb
    have hend3 : ∀ (W : World) (u v x : Value), Below wr.heap.size wr W → Below w.heap.size w (((W.setCell ⟨w.heap.size, 0, none⟩ u).setCell ⟨w.heap.size, 1, none⟩ v).setCell ⟨w.heap.size, 2, none⟩ x) := fun W u v x hW => by
      refine Keep.below (K := fun i _ => i < w.heap.size) (((Keep.setCell (Keep.setCell (Keep.setCell (Keep.of_below (HTOT.out.trans (hW.mono HTOT.out.size))) ?_ _) ?_ _) ?_ _))) (Nat.le_refl _) (fun _ _ h => h)
      all_goals (intro _ _ h; exact absurd h (Nat.lt_irrefl _))
    have HEND3 := Lib.hid hend3
    clear hend3
    by_cases hlt : j < m
    · have hx : j < rs.length := by rw [HRL.out]; exact hlt
      have hs : j < s.length := by rw [HM.out]; exact hlt
      have hrow := (H.out.rows.2 j hx hs).below HBR.out
      obtain ⟨g2, o2, rfl, _, hg2, d0, d1, d2, d3, d4⟩ := (lst_below H.out.lst HBR.out).atL hx
      have hmem := List.getElem_mem hs
      have hbox := box_lock hrow
      have hw1 := wait_iff (HG.out.fit _ hmem) who
      have hal2 := alloc_below wr (.cells #[rs[j].1.val, rs[j].2.1.val, .int .i64 rs[j].2.2.1, .string rs[j].2.2.2.1, .string rs[j].2.2.2.2] 66)
      have hbx := Blk.new wr 66 #[rs[j].1.val, rs[j].2.1.val, .int .i64 rs[j].2.2.1, .string rs[j].2.2.2.1, .string rs[j].2.2.2.2]
      have hwt := waits_ hbox (HG.out.ok _ hmem) (HG.out.small _ hmem).1 (HG.out.small _ hmem).2 ((HT.out.below HBR.out).below hal2) who
      have hnm : hasP s[j].2.2 who = true → waitN s who = some rs[j].2.2 := fun h => by
        rw [waitN_hit hs (fun q hq hl => H1.out q hq hl) h, (H.out.rows.2 j hx hs).name]
      have hnx : hasP s[j].2.2 who = false → ∀ q (_ : q < j + 1) (hl : q < s.length), hasP s[q].2.2 who = false := fun h q hq hl => by
        rcases Nat.lt_or_ge q j with h5 | h5
        · exact H1.out q h5 hl
        · obtain rfl : q = j := by omega
          exact h
      have HWT := Lib.hid hwt
      have HW1 := Lib.hid hw1
      have HAL2 := Lib.hid hal2
      have HBX := Lib.hid hbx
      have HNM := Lib.hid hnm
      have HNX := Lib.hid hnx
      clear hwt hw1 hal2 hbx hnm hnx hrow hbox hmem
      obtain ⟨zb, hzb⟩ : ∃ zb, hasP s[j].2.2 who = zb := ⟨_, rfl⟩
      rw [hzb] at HW1 HNM HNX
      generalize waitsP s[j].2 who = L at *
      generalize hX : rs[j] = X at *
      obtain ⟨⟨a1, a2, a3⟩, ⟨c1, c2, c3⟩, y0, y1, y2⟩ := X
      unfold Sl.val at *
      simp only at *
      have hne : w.heap.size ≠ wr.heap.size := by have := HRR.out.lt; omega
      clear hzb hX
      go_wp2_with fail
      generalize wr.alloc (.cells #[.slice a1 a2 a3, .slice c1 c2 c3, .int .i64 y0, .string y1, .string y2] 66) = wB at *
      refine HWT.out.mono ?_
      rintro e w2 ⟨v, rfl, ho, hb2⟩
      obtain ⟨A3, c4, rfl, _, hlc3, hcm3, _⟩ := own_lst ho
      have HBX2 := Lib.hid (HBX.out.below hb2 HBX.out.lt)
      have HB2 := Lib.hid (HAL2.out.trans (hb2.mono HAL2.out.size))
      have HRR2 := Lib.hid (HRR.out.below HB2.out HRR.out.lt)
      clear ho hb2 HWT
      cases zb
      · have hl0 : ¬ ((0 : Int) < (L.length : Int)) := by have := of_decide_eq_false HW1.out; omega
        have hl1 : ¬ ((L.length : Int) > 0) := hl0
        have hl2 : ¬ (0 < L.length) := of_decide_eq_false HW1.out
        go_wp2_with fail
        go_roundg (m - (j + 1))
        case measure => have := HJ.out; have := HM.out; omega
        case rel => exact ⟨j + 1, by have := HM.out; omega, by go_num, HNX.out (by simp), HBR.out.trans (HB2.out.mono HBR.out.size)⟩
      · have hl2 : 0 < L.length := of_decide_eq_true HW1.out
        have q0 := HRR2.out.cell 0
        have q1 := HRR2.out.cell 1
        have q2 := HRR2.out.cell 2
        have f0 := HRR2.out.frozen 0
        have f1 := HRR2.out.frozen 1
        have f2 := HRR2.out.frozen 2
        have e2 := HBX2.out.cell 2
        have e3 := HBX2.out.cell 3
        have e4 := HBX2.out.cell 4
        have hres2 := blk_store3 (u := .int .i64 y0) (v := .string y1) (x := .string y2) HRR2.out
        have r0 := hres2.cell 0
        have r1 := hres2.cell 1
        have r2 := hres2.cell 2
        clear hres2
        have HNM2 := Lib.hid (HNM.out (by simp))
        clear HNM
        go_wp2_with fail
        refine bodyPost_ret (v := .tuple #[.agg #[.int .i64 y0, .string y1, .string y2], .bool true]) (by simp [results, Tryz.results12, go_sem, r0, r1, r2]) rfl ?_
        exact ⟨by rw [HNM2.out]; rfl, HEND3.out _ _ _ _ HB2.out⟩
    · have hf : waitN s who = none := waitN_none fun q hl => H1.out q (by have := HJ.out; have := HM.out; omega) hl
      have HF := Lib.hid hf
      have q0 := HRR.out.cell 0
      have q1 := HRR.out.cell 1
      have q2 := HRR.out.cell 2
      have f0 := HRR.out.frozen 0
      have f1 := HRR.out.frozen 1
      have f2 := HRR.out.frozen 2
      have hres2 := blk_store3 (u := .int .i64 0) (v := .string ⟨#[]⟩) (x := .string ⟨#[]⟩) HRR.out
      have r0 := hres2.cell 0
      have r1 := hres2.cell 1
      have r2 := hres2.cell 2
      clear hres2 hf
      go_wp2_with fail
      refine bodyPost_ret (v := .tuple #[.agg #[.int .i64 0, .string ⟨#[]⟩, .string ⟨#[]⟩], .bool false]) (by simp [results, Tryz.results12, go_sem, r0, r1, r2]) rfl ?_
      exact ⟨by rw [HF.out]; rfl, HEND3.out _ _ _ _ (Below.refl _ _)⟩
theorem full_ {w : World} {b : Nat} {cs : Array Value} {n : Int} (h : Blk w b 53 cs) (h0 : cs[0]? = some (.int .i64 n)) :
    Calls Tryz.prog 23 #[.pointer (some ⟨b, 0, none⟩)] w fun e w' => e = .returned (.bool (decide (200 ≤ n))) ∧ w = w' := by
  have p0 := (h.cell 0).trans h0
  clear h h0
  go_enter Tryz.func23, Tryz.ntmps23
  go_wp2
  go_ret
  exact ⟨rfl, rfl⟩
theorem come_ {w : World} {b : Nat} {n m : Int} {u : Value} (h : Blk w b 53 #[.int .i64 n, u]) (hn : 0 ≤ n) (hm : n ≤ 100000) (he : n + 1 = m) :
    Calls Tryz.prog 24 #[.pointer (some ⟨b, 0, none⟩)] w fun e w' => e = .returned (.tuple #[]) ∧ w' = w.setCell ⟨b, 0, none⟩ (.int .i64 m) := by
  have p0 := h.cell 0
  have f0 := h.frozen 0
  subst he
  clear h
  go_enter Tryz.func24, Tryz.ntmps24
  go_wp2
  go_end0
  exact ⟨rfl, rfl⟩
theorem leave_ {w : World} {b : Nat} {n m : Int} {u : Value} (h : Blk w b 53 #[.int .i64 n, u]) (hn : 0 ≤ n) (hm : n ≤ 100000) (he : n - 1 = m) :
    Calls Tryz.prog 35 #[.pointer (some ⟨b, 0, none⟩)] w fun e w' => e = .returned (.tuple #[]) ∧ w' = w.setCell ⟨b, 0, none⟩ (.int .i64 m) := by
  have p0 := h.cell 0
  have f0 := h.frozen 0
  subst he
  clear h
  go_enter Tryz.func35, Tryz.ntmps35
  go_wp2
  go_end0
  exact ⟨rfl, rfl⟩
theorem count_ {w : World} {b : Nat} {n : Int} {s : TS} (h : LT w b n s) :
    Calls Tryz.prog 16 #[.pointer (some ⟨b, 0, none⟩)] w fun e w' => e = .returned (.int .i64 n) ∧ w = w' := by
  obtain ⟨A, c, rs, h⟩ := h
  have p0 := h.blk.cell 0
  clear h
  go_enter Tryz.func16, Tryz.ntmps16
  go_wp2
  go_ret
  exact ⟨rfl, rfl⟩
end Go.Proofs.YtnjhhndggfjjdaaGreatDoor
