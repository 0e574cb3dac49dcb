/- MessageBack, walked. -/
import Derived.Test.YtppmpgggjokgdaaMsW
import Derived.Test.YtppmpgggjokgdaaMsR
import Derived.Test.YtppmpgggjokgdaaMsA
import Derived.Laws.StructEq
import Derived.Deep.RegionHeld3
set_option maxRecDepth 4000
namespace Go.Proofs.Ytppmpgggjokgdaa
open Go.RowKit
theorem newReader_of {w : World} {g l : Nat} {xs : List UInt8} (h : Blk w g 5 (cellsB xs).toArray) (hn : xs.length ≤ 1000000) (hl : xs.length = l) :
    Calls Try.prog 14 #[.slice (some ⟨g, 0, none⟩) l l] w (RdNewP w xs) := by
  subst hl
  exact newReader w _ _ _ _ (blk_rb h h.lt) hn (fun h => by cases h)
/-- a law that has boxed its message, in each world -/
structure LB (w : World) (m : Mg) (wk : World) : Prop where
  bel : Below w.heap.size w wk
  box : Blk wk w.heap.size 23 m.cells
section
variable {w wk w' : World} {m : Mg}
theorem LB.first (w : World) (m : Mg) : LB w m (w.alloc (.cells m.cells 23)) := ⟨alloc_below w _, Blk.new _ _ _⟩
theorem LB.next (h : LB w m wk) (k : Below wk.heap.size wk w') : LB w m w' := ⟨h.bel.trans (k.mono h.bel.size), h.box.below k h.box.lt⟩
theorem LB.but (h : LB w m wk) {g : Nat} (hg : w.heap.size < g) (k : Keep (But g) wk w') : LB w m w' :=
  ⟨h.bel.trans (k.below h.bel.size fun i _ hi => by simp only [But]; omega), h.box.keep k (by simp only [But]; omega)⟩
end
theorem LB.drew {w wk : World} {m : Mg} (h : LB w m wk) : LB w m wk.drew := ⟨h.bel.drew, h.box.drew⟩
/-- the six cells of a boxed message -/
abbrev Six (g : Nat) (m : Mg) (W : World) : Prop := W.cell? ⟨g, 0, none⟩ = some (.int .i64 m.id) ∧ W.cell? ⟨g, 1, none⟩ = some (.int .i64 m.pri) ∧ W.cell? ⟨g, 2, none⟩ = some (.int .i64 m.retry) ∧
  W.cell? ⟨g, 3, none⟩ = some (.bool m.claimed) ∧ W.cell? ⟨g, 4, none⟩ = some (.string m.corr) ∧ W.cell? ⟨g, 5, none⟩ = some (.string m.body)
theorem six_of {W : World} {g : Nat} {m : Mg} (h : Blk W g 23 m.cells) : Six g m W := ⟨h.cell 0, h.cell 1, h.cell 2, h.cell 3, h.cell 4, h.cell 5⟩
set_option maxHeartbeats 1000000 in
theorem messageBack (m : Mg) (hm : m.fits) (w : World) : Calls Try.prog 5 #[m.val] w fun e w' => e = .returned (.bool true) ∧ Below w.heap.size w w' := by
  obtain ⟨i, p, r, cl, c, b⟩ := m
  have H0 := Lib.hid (LB.first w ⟨i, p, r, cl, c, b⟩)
  by_cases hc : 200 < (c.size : Int)
  · go_enter Try.func5, Try.ntmps5
    go_wp2_with fail
    refine (alive_ _).mono ?_
    rintro e w1 ⟨rfl, hb1⟩
    have H1 := Lib.hid (H0.out.next hb1)
    have q4 := H1.out.box.cell 4
    clear hb1
    go_wp2_with fail
    go_ret
    exact ⟨rfl, H1.out.bel⟩
  by_cases hb : 300 < (b.size : Int)
  · go_enter Try.func5, Try.ntmps5
    go_wp2_with fail
    refine (alive_ _).mono ?_
    rintro e w1 ⟨rfl, hb1⟩
    have H1 := Lib.hid (H0.out.next hb1)
    have q4 := H1.out.box.cell 4
    have q5 := H1.out.box.cell 5
    clear hb1
    go_wp2_with fail
    go_ret
    exact ⟨rfl, H1.out.bel⟩
  obtain ⟨hk1, hk2, hk3⟩ := msg_back ⟨i, p, r, cl, c, b⟩ hm (by show c.size ≤ 9000; omega) (by show b.size ≤ 9000; omega)
  have hlen := Mg.onto_len ⟨i, p, r, cl, c, b⟩ [] (by show c.size ≤ 9000; omega) (by show b.size ≤ 9000; omega)
  have hby := mbytes_ ⟨i, p, r, cl, c, b⟩ (by show c.size ≤ 9000; omega) (by show b.size ≤ 9000; omega)
  have hlz : (Mg.bytes ⟨i, p, r, cl, c, b⟩).length ≤ 20000 := by
    have e : (Mg.bytes ⟨i, p, r, cl, c, b⟩).length = ([] : List UInt8).length + 29 + c.size + b.size := hlen
    rw [e]
    have : ([] : List UInt8).length = 0 := rfl
    omega
  clear hlen hm
  generalize Mg.bytes ⟨i, p, r, cl, c, b⟩ = z at *
  have HK1 := Lib.hid hk1
  have HK2 := Lib.hid hk2
  have HBY := Lib.hid hby
  have HLZ := Lib.hid hlz
  clear hk1 hk2 hk3 hby hlz
  go_enter Try.func5, Try.ntmps5
  go_wp2_with fail
  refine (alive_ _).mono ?_
  rintro e w1 ⟨rfl, hb1⟩
  have H1 := Lib.hid (H0.out.next hb1)
  obtain ⟨q0, q1, q2, q3, q4, q5⟩ := six_of H1.out.box
  simp only at q0 q1 q2 q3 q4 q5
  clear hb1 H0
  go_wp2_with fail
  refine (HBY.out _).mono ?_
  rintro e w2 ⟨g2, rfl, hx2, hg2, hb2⟩
  have H2 := Lib.hid (H1.out.next hb2)
  have HX2 := Lib.hid hx2
  clear hx2 hb2 H1 q0 q1 q2 q3 q4 q5
  go_wp2_with fail
  refine (newReader_of HX2.out (by have := HLZ.out; omega) rfl).mono ?_
  rintro e w3 ⟨g3, rfl, hg3, hr3, hb3⟩
  have H3 := Lib.hid (H2.out.next hb3)
  have HR3 := Lib.hid hr3
  have hg : w.heap.size < g3 := by have := H2.out.box.lt; omega
  clear hr3 hb3 H2 HX2
  go_wp2_with fail
  have hS0 : (fun W : World => W.cell? ⟨w.heap.size, 0, none⟩ = some (.int .i64 i) ∧ W.cell? ⟨w.heap.size, 1, none⟩ = some (.int .i64 p) ∧ W.cell? ⟨w.heap.size, 2, none⟩ = some (.int .i64 r) ∧ W.cell? ⟨w.heap.size, 3, none⟩ = some (.bool cl) ∧ W.cell? ⟨w.heap.size, 4, none⟩ = some (.string c) ∧ W.cell? ⟨w.heap.size, 5, none⟩ = some (.string b)) w3.drew := six_of H3.out.box.drew
  have HR3' := Lib.hid (ReaderAt.keep (K := fun _ _ => True) HR3.out ((Keep.refl w3).drew) fun _ _ _ => trivial)
  have HD3 := Lib.hid H3.out.drew
  clear HR3
  go_region_held3 (fun W : World => W.cell? ⟨w.heap.size, 0, none⟩ = some (.int .i64 i) ∧ W.cell? ⟨w.heap.size, 1, none⟩ = some (.int .i64 p) ∧ W.cell? ⟨w.heap.size, 2, none⟩ = some (.int .i64 r) ∧ W.cell? ⟨w.heap.size, 3, none⟩ = some (.bool cl) ∧ W.cell? ⟨w.heap.size, 4, none⟩ = some (.string c) ∧ W.cell? ⟨w.heap.size, 5, none⟩ = some (.string b))
    (first | exact hS0 | exact hS1)
    (first | (go_at_call 16; refine (readM_ HR3'.out).mono ?_; rintro e w4 ⟨rfl, hr4, hk4⟩; rw [HK1.out]; have HR4 := Lib.hid hr4; have H4 := Lib.hid (HD3.out.but hg hk4); have hS1 : (fun W : World => W.cell? ⟨w.heap.size, 0, none⟩ = some (.int .i64 i) ∧ W.cell? ⟨w.heap.size, 1, none⟩ = some (.int .i64 p) ∧ W.cell? ⟨w.heap.size, 2, none⟩ = some (.int .i64 r) ∧ W.cell? ⟨w.heap.size, 3, none⟩ = some (.bool cl) ∧ W.cell? ⟨w.heap.size, 4, none⟩ = some (.string c) ∧ W.cell? ⟨w.heap.size, 5, none⟩ = some (.string b)) w4 := six_of H4.out.box; clear hr4 hk4) | (go_at_call 18; refine (rdDone _ _ _ _ HR4.out).mono ?_; rintro e w5 ⟨rfl, rfl⟩; rw [HK2.out]))
  go_wp2_with fail
  go_ret
  exact ⟨rfl, H4.out.bel⟩
end Go.Proofs.Ytppmpgggjokgdaa
