/- Package queue: Find, Least, Match, Add. -/
import Derived.Test.YtglcdchjddnjgaaMqI
import Derived.Deep.RegionWith
set_option maxRecDepth 4000
namespace Go.Proofs.Ytglcdchjddnjgaa
open Go.RowKit
theorem find_m {w : World} {K : Nat → Prop} {A : Option Addr} {n c : Nat} {l : List Mg} (h : Lst w K eM A l) (hl : l.length = n) (hn : n ≤ 1000000) (id : Int) :
    Calls Try.prog 13 #[.slice A n c, .int .i64 id] w fun e w' => e = .returned (.int .i64 (idxI (isM id) l)) ∧ Below w.heap.size w w' := by
  have hi := index_m (c := c) (h.below (alloc_below w (.cells #[.int .i64 id] 3))) hl hn enters_find (pred_find id w.heap.size _ (by simp) (by simp) l)
  generalize idxI (isM id) l = z at *
  have HI := Lib.hid hi
  clear hi h hl
  go_enter Try.func13, Try.ntmps13
  go_wp2_with (go_at_call 14; refine HI.out.mono ?_; rintro e w' ⟨rfl, hb'⟩)
  go_ret
  exact ⟨rfl, (alloc_below w _).trans (hb'.mono (by simp))⟩
theorem least_m {w : World} {K : Nat → Prop} {A : Option Addr} {n c : Nat} {l : List Mg} (h : Lst w K eM A l) (hl : l.length = n) (hn : n ≤ 1000000) :
    Calls Try.prog 8 #[.slice A n c] w fun e w' => e = .returned (.int .i64 (idxI freeM l)) ∧ Below w.heap.size w w' := by
  have hi := index_m (c := c) h hl hn enters_least (pred_least w l)
  generalize idxI freeM l = z at *
  have HI := Lib.hid hi
  clear hi h hl
  go_enter Try.func8, Try.ntmps8
  go_wp2_with (go_at_call 14; refine HI.out.mono ?_; rintro e w' ⟨rfl, hb'⟩)
  go_ret
  exact ⟨rfl, hb'⟩
theorem match_m {w : World} {K : Nat → Prop} {A : Option Addr} {n c : Nat} {l : List Mg} (h : Lst w K eM A l) (hl : l.length = n) (hn : n ≤ 1000000) (co : ByteArray) :
    Calls Try.prog 12 #[.slice A n c, .string co] w fun e w' => e = .returned (.int .i64 (idxI (freeC co) l)) ∧ Below w.heap.size w w' := by
  have hi := index_m (c := c) (h.below (alloc_below w (.cells #[.string co] 9))) hl hn enters_match (pred_match co w.heap.size _ (by simp) (by simp) l)
  generalize idxI (freeC co) l = z at *
  have HI := Lib.hid hi
  clear hi h hl
  go_enter Try.func12, Try.ntmps12
  go_wp2_with (go_at_call 14; refine HI.out.mono ?_; rintro e w' ⟨rfl, hb'⟩)
  go_ret
  exact ⟨rfl, (alloc_below w _).trans (hb'.mono (by simp))⟩
/-- six cells of a message's block -/
theorem blk_six {w : World} {g : Nat} {m : Mg} (h : Blk w g 28 m.cells) : w.cell? ⟨g, 0, none⟩ = some (.int .i64 m.id) ∧ w.cell? ⟨g, 1, none⟩ = some (.int .i64 m.pri) ∧ w.cell? ⟨g, 2, none⟩ = some (.int .i64 m.retry) ∧
    w.cell? ⟨g, 3, none⟩ = some (.bool m.claimed) ∧ w.cell? ⟨g, 4, none⟩ = some (.string m.corr) ∧ w.cell? ⟨g, 5, none⟩ = some (.string m.body) :=
  ⟨h.cell 0, h.cell 1, h.cell 2, h.cell 3, h.cell 4, h.cell 5⟩
set_option maxHeartbeats 1000000 in
theorem add_m {w : World} {K : Nat → Prop} {A : Option Addr} {n c : Nat} {l : List Mg} (h : Lst w K eM A l) (hl : l.length = n) (hn : n ≤ 100000) (hc : n ≤ c) (m : Mg) :
    Calls Try.prog 6 #[.slice A n c, m.val] w fun e w' => ∃ v, e = .returned v ∧ OwnM w' w.heap.size v (addM l m) ∧ Below w.heap.size w w' := by
  have hb0 := alloc_below w (.cells m.cells 28)
  have hX0 := Blk.new w 28 m.cells
  have hi := index_m (c := c) (h.below hb0) hl (by omega) enters_add (pred_add m w.heap.size _ hX0 l)
  have hle := spot_le l m
  have hz : idxI (behM m) l = -1 ∧ spotM l m = n ∨ idxI (behM m) l = (spotM l m : Int) := by
    unfold idxI spotM
    split
    · exact .inr rfl
    · exact .inl ⟨rfl, by have : l.findIdx (behM m) ≤ l.length := List.findIdx_le_length
                          omega⟩
  unfold addM
  generalize spotM l m = q at *
  rw [hl] at hle
  obtain ⟨A2, hd2, hr2, _⟩ := tail_m h hl hc hle rfl
  obtain ⟨m2, hm2⟩ : ∃ m, n - q = m := ⟨_, rfl⟩
  rw [hm2] at hd2
  have hd1 := fun W => head_m A n c q (by omega) W
  have h3 := fun W (hb : Below w.heap.size w W) => concat3_m (w := W) (q := q) (m := m2) (c1 := c) (c2 := c - q) ((h.below hb).take q) (by rw [List.length_take, hl]; omega) (hr2.below hb) (by rw [List.length_drop, hl]; exact hm2) m (by omega) (b := W.heap.size + 1) (a := W.heap.size) rfl rfl
  have hs0 : (w.alloc (.cells m.cells 28)).heap.size = w.heap.size + 1 := by simp
  have H3 := Lib.hid h3
  have HX0 := Lib.hid hX0
  have HI := Lib.hid hi
  have HB0 := Lib.hid hb0
  have HS0 := Lib.hid hs0
  clear h3 hX0 hi hb0 hs0 hr2 h hm2
  obtain ⟨m0, m1, m2', m3, m4, m5⟩ := m
  simp only [Mg.val, Mg.cells] at HX0 HI H3 HB0 HS0 ⊢
  rcases hz with ⟨e1, rfl⟩ | e1
  · rw [e1] at HI
    clear hl hle e1
    go_enter Try.func6, Try.ntmps6
    go_wp2_with fail
    refine HI.out.mono ?_
    rintro e w1 ⟨rfl, hb1⟩
    have hB1 := HB0.out.trans (hb1.mono HB0.out.size)
    have hx1 := HX0.out.below hb1 HX0.out.lt
    obtain ⟨d0, d1, d2, d3, d4, d5⟩ := blk_six (m := ⟨m0, m1, m2', m3, m4, m5⟩) hx1
    have h3 := H3.out w1 hB1
    have HH3 := Lib.hid h3
    have HB1 := Lib.hid hB1
    clear h3 hx1 hB1 hb1 HX0 HI H3 HB0 HS0
    go_wp2_with fail
    go_region_with (go_at_call 17; refine HH3.out.mono ?_; rintro e w2 ⟨v1, rfl, hn1, hb2⟩; have HN1 := Lib.hid hn1; have HB2 := Lib.hid hb2; clear hn1 hb2)
    all_goals
      go_wp2
      go_ret
      exact ⟨v1, rfl, own_base HN1.out HB1.out.size, HB1.out.trans (HB2.out.mono HB1.out.size)⟩
  · rw [e1] at HI
    clear hl e1
    go_enter Try.func6, Try.ntmps6
    go_wp2_with fail
    refine HI.out.mono ?_
    rintro e w1 ⟨rfl, hb1⟩
    have hB1 := HB0.out.trans (hb1.mono HB0.out.size)
    have hx1 := HX0.out.below hb1 HX0.out.lt
    obtain ⟨d0, d1, d2, d3, d4, d5⟩ := blk_six (m := ⟨m0, m1, m2', m3, m4, m5⟩) hx1
    have h3 := H3.out w1 hB1
    have HH3 := Lib.hid h3
    have HB1 := Lib.hid hB1
    clear h3 hx1 hB1 hb1 HX0 HI H3 HB0 HS0
    go_wp2_with fail
    go_region_with (go_at_call 17; refine HH3.out.mono ?_; rintro e w2 ⟨v1, rfl, hn1, hb2⟩; have HN1 := Lib.hid hn1; have HB2 := Lib.hid hb2; clear hn1 hb2)
    all_goals
      go_wp2
      go_ret
      exact ⟨v1, rfl, own_base HN1.out HB1.out.size, HB1.out.trans (HB2.out.mono HB1.out.size)⟩
end Go.Proofs.Ytglcdchjddnjgaa
