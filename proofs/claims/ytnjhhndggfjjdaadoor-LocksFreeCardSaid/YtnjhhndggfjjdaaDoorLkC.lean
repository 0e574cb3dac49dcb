/- Where the lock of a name stands in a table: package locks' place; rows of locks made anew: Clone. -/
import Derived.Test.YtnjhhndggfjjdaaDoorLkB
import Derived.Test.YtnjhhndggfjjdaaDoorLkI
set_option maxRecDepth 4000
namespace Go.Proofs.YtnjhhndggfjjdaaDoor
open Go.RowKit
theorem cmpN_lt_trans {a b c : Nm} (h1 : cmpN a b < 0) (h2 : cmpN b c < 0) : cmpN a c < 0 := by
  have h3 := cmpN_trans (a := a) (b := b) (c := c) (by omega) (by omega)
  by_cases h : cmpN a c = 0
  · rw [cmpN_eq] at h
    subst h
    have := cmpN_turn a b
    omega
  · omega
theorem rise_at {s : TS} (h : s.Pairwise fun a b => cmpN a.1 b.1 < 0) {i j : Nat} (hi : i < s.length) (hj : j < s.length) (hij : i < j) : cmpN s[i].1 s[j].1 < 0 := List.pairwise_iff_getElem.1 h i j hi hj hij
theorem rise_rows {w : World} {rs : List Re} {s : TS} (hr : RowsOk w rs s) (h : s.Pairwise fun a b => cmpN a.1 b.1 < 0) (n : Nm) : RiseR rs n := fun i j hi hj hij ha => by
  have hs := hr.1
  unfold aheadR at *
  rw [(hr.2 i hi (by omega)).name]
  rw [(hr.2 j hj (by omega)).name] at ha
  rcases Nat.lt_or_ge i j with h1 | h1
  · have h2 := rise_at h (i := i) (j := j) (by omega) (by omega) h1
    have ha := of_decide_eq_true ha
    exact decide_eq_true (cmpN_lt_trans h2 ha)
  · obtain rfl : i = j := by omega
    exact ha
theorem findIdx_same {α β : Type} {p : α → Bool} {q : β → Bool} : ∀ {l : List α} {m : List β}, l.length = m.length → (∀ j (h1 : j < l.length) (h2 : j < m.length), p l[j] = q m[j]) → l.findIdx p = m.findIdx q
  | [], [], _, _ => rfl
  | [], _ :: _, h, _ => by simp at h
  | _ :: _, [], h, _ => by simp at h
  | x :: l, y :: m, h, he => by
    have h0 : p x = q y := he 0 (by simp) (by simp)
    have hr := findIdx_same (p := p) (q := q) (l := l) (m := m) (by simpa using h) (fun j h1 h2 => he (j + 1) (by simpa using h1) (by simpa using h2))
    simp only [List.findIdx_cons, h0, hr]
theorem spot_rows {w : World} {rs : List Re} {s : TS} (hr : RowsOk w rs s) (n : Nm) : spotR rs n = spotN s n := by
  unfold spotR spotN
  exact findIdx_same hr.1 fun j h1 h2 => by
    unfold aheadR
    rw [(hr.2 j h1 h2).name]
theorem hit_rows {w : World} {rs : List Re} {s : TS} (hr : RowsOk w rs s) (n : Nm) : hitR rs n = atN s n := by
  unfold hitR atN
  rw [spot_rows hr]
  rcases Nat.lt_or_ge (spotN s n) s.length with h | h
  · rw [List.getElem?_eq_getElem (by rw [hr.1]; exact h), List.getElem?_eq_getElem h]
    simp only
    rw [(hr.2 _ (by rw [hr.1]; exact h) h).name]
  · rw [List.getElem?_eq_none (by rw [hr.1]; exact h), List.getElem?_eq_none h]
theorem spot_le' (s : TS) (n : Nm) : spotN s n ≤ s.length := List.findIdx_le_length
theorem at_lt {s : TS} {n : Nm} (h : atN s n = true) : spotN s n < s.length := by
  unfold atN at h
  rcases Nat.lt_or_ge (spotN s n) s.length with h1 | h1
  · exact h1
  · rw [List.getElem?_eq_none h1] at h; cases h
theorem at_name {s : TS} {n : Nm} (h : atN s n = true) : (s[spotN s n]'(at_lt h)).1 = n := by
  have hl := at_lt h
  unfold atN at h
  rw [List.getElem?_eq_getElem hl] at h
  simp only at h
  exact (cmpN_eq _ _).1 (by simpa using h)
theorem lock_at {s : TS} {n : Nm} (h : atN s n = true) : lockN s n = (s[spotN s n]'(at_lt h)).2 := by
  have hl := at_lt h
  unfold lockN
  rw [List.getElem?_eq_getElem hl]
  simp only
  rw [if_pos ((cmpN_eq _ _).2 (at_name h))]
theorem lock_not {s : TS} {n : Nm} (h : atN s n = false) : lockN s n = ([], []) := by
  unfold lockN
  unfold atN at h
  split
  · rename_i e he
    rw [he] at h
    simp only at h
    rw [if_neg (by simpa using h)]
  · rfl
set_option maxHeartbeats 1000000 in
theorem lplace_ {w : World} {b : Nat} {n : Int} {A : Option Addr} {c : Nat} {rs : List Re} {s : TS} (h : LT0 w b n A c rs s) (hr : s.Pairwise fun a b => cmpN a.1 b.1 < 0) (hs : s.length ≤ 100000) (m : Nm) :
    Calls Tryd.prog 32 #[.pointer (some ⟨b, 0, none⟩), valN m] w fun e w' => e = .returned (.tuple #[.int .i64 (spotN s m : Int), .bool (atN s m)]) ∧ Below w.heap.size w w' := by
  have hal := alloc_below w (.cells #[.int .i64 m.1, .string m.2.1, .string m.2.2] 28)
  have hB := Blk.new w 28 #[.int .i64 m.1, .string m.2.1, .string m.2.2]
  have h1 := h.below hal
  have hse := search_ (c := c) (lst_below h1.lst (Below.refl _ _).drew) (h1.rows.1.trans rfl) (by omega) m (rise_rows h1.rows hr m)
  rw [spot_rows h.rows, hit_rows h.rows] at hse
  have p1 := h1.blk.cell 1
  have hbs := h.lt
  have d0 := hB.cell 0
  have d1 := hB.cell 1
  have d2 := hB.cell 2
  unfold valN at *
  have HSE := Lib.hid hse
  have HAL := Lib.hid hal
  clear hse hal h1 h hB hr
  generalize spotN s m = z at *
  generalize atN s m = zb at *
  generalize s.length = k at *
  go_enter Tryd.func32, Tryd.ntmps32
  go_wp2_with fail
  have hbl := HAL.out.size
  generalize w.alloc (.cells #[.int .i64 m.1, .string m.2.1, .string m.2.2] 28) = wA at *
  have hS0 : (fun W : World => W.cell? ⟨b, 1, none⟩ = some (.slice A k c) ∧ W.cell? ⟨w.heap.size, 0, none⟩ = some (.int .i64 m.1) ∧ W.cell? ⟨w.heap.size, 1, none⟩ = some (.string m.2.1) ∧ W.cell? ⟨w.heap.size, 2, none⟩ = some (.string m.2.2)) wA.drew := ⟨p1, d0, d1, d2⟩
  have hb1 := block_of_cell p1
  have hb2 := block_of_cell d0
  go_region_held3 (fun W : World => W.cell? ⟨b, 1, none⟩ = some (.slice A k c) ∧ W.cell? ⟨w.heap.size, 0, none⟩ = some (.int .i64 m.1) ∧ W.cell? ⟨w.heap.size, 1, none⟩ = some (.string m.2.1) ∧ W.cell? ⟨w.heap.size, 2, none⟩ = some (.string m.2.2))
    (first | exact hS0 | exact hS1)
    (first | (go_at_call 50; refine HSE.out.mono ?_; rintro e w1 ⟨rfl, hb3⟩; have HB3 := Lib.hid hb3; have hS1 : (fun W : World => W.cell? ⟨b, 1, none⟩ = some (.slice A k c) ∧ W.cell? ⟨w.heap.size, 0, none⟩ = some (.int .i64 m.1) ∧ W.cell? ⟨w.heap.size, 1, none⟩ = some (.string m.2.1) ∧ W.cell? ⟨w.heap.size, 2, none⟩ = some (.string m.2.2)) w1 := ⟨(cell_of_heap (hb3.block _ hb1) _).trans p1, (cell_of_heap (hb3.block _ hb2) _).trans d0, (cell_of_heap (hb3.block _ hb2) _).trans d1, (cell_of_heap (hb3.block _ hb2) _).trans d2⟩; clear hb3))
  all_goals
    have HB2 := Lib.hid (HAL.out.trans ((Below.refl _ wA).drew.trans HB3.out |>.mono HAL.out.size))
    go_wp2_with fail
    refine bodyPost_ret (v := .tuple #[.int .i64 (z : Int), .bool zb]) (by simp [results, Tryd.results32, go_sem]) rfl ?_
    exact ⟨rfl, HB2.out⟩
set_option maxHeartbeats 400000 in
theorem lclone_ {w : World} {K : Nat → Prop} {A : Option Addr} {n c : Nat} {l : List Re} (h : Lst w K eL A l) (hl : l.length = n) (hn : n ≤ 100000) (hA : A = none → c = 0) :
    Calls Tryd.prog 33 #[.slice A n c] w fun e w' => ∃ v, e = .returned v ∧ Own w' w.heap.size eL 62 v l ∧ Below w.heap.size w w' := by
  rcases A with _ | a
  · have hc := hA rfl
    have hx : l = [] := h.none_
    subst hx
    simp only [List.length_nil] at hl
    subst hc hl
    clear h hA
    have hnil := fun (W : World) => Lib.run_eql_slice_nil (P := Tryd.prog) W 48 62 none 0 0 0 0 Tryd.underlying48
    simp only [Option.isNone_none] at hnil
    go_enter Tryd.func33, Tryd.ntmps33
    go_wp2
    go_ret
    exact ⟨_, rfl, own_nil _ _, Below.refl _ _⟩
  · have hnil := fun (W : World) => Lib.run_eql_slice_nil (P := Tryd.prog) W 48 62 (some a) n c 0 0 Tryd.underlying48
    simp only [Option.isNone_some] at hnil
    obtain ⟨v', W', hap, ho, hg, hat⟩ := append_own tyL (own_empty w w.heap.size (Nat.le_refl _)) (h.below (alloc_below w (.cells #[] 62))) hl c (by show 0 + n ≤ _; omega) (by simp)
    rw [List.nil_append] at ho
    have hbel : Below w.heap.size w W' := ((Below.refl _ _).alloc (Nat.le_refl _) _).grown hg (by simp) (by intro k hk; simp [Value.ownBlock] at hk; omega)
    have HBE := Lib.hid hbel
    have HO := Lib.hid ho
    clear ho hg hat hbel h hA hl
    go_enter Tryd.func33, Tryd.ntmps33
    go_wp2_with (at_builtin; refine wpList_append_run rfl (.tmp 5) (.tmp 6) 48 48 rfl _ _ rfl rfl hap ?_)
    go_ret
    exact ⟨_, rfl, HO.out, HBE.out⟩
end Go.Proofs.YtnjhhndggfjjdaaDoor
