/- The example of the document: a queue of one message. -/
import Derived.Test.YtglcdchjddnjgaaMqR
set_option maxRecDepth 4000
namespace Go.Proofs.Ytglcdchjddnjgaa
open Go.RowKit
def m3 : Mg := ⟨3, 0, 0, false, ⟨#[]⟩, ⟨#[]⟩⟩
set_option maxHeartbeats 1000000 in
theorem alive15_ (w : World) : Calls Try.prog 5 #[] w fun e w' => e = .returned (.bool true) ∧ Below w.heap.size w w' := by
  have hadd := add_m (n := 0) (c := 0) (Lst.nil w (fun _ => True) eM none) rfl (by omega) (by omega) m3
  rw [show addM [] m3 = [m3] from rfl] at hadd
  have HA := Lib.hid hadd
  clear hadd
  unfold m3 at HA
  simp only [Mg.val, Mg.cells] at HA
  go_enter Try.func5, Try.ntmps5
  go_wp2_with fail
  refine HA.out.mono ?_
  rintro e w1 ⟨v1, rfl, ho, hb⟩
  obtain ⟨A1, c1, rfl, hl1, _, _⟩ := own_lst ho
  have hq := fun W => least_m (n := 0) (c := 0) (Lst.nil W (fun _ => True) eM none) rfl (by omega)
  have h1 : idxI freeM ([] : List Mg) = -1 := rfl
  have h2 : idxI freeM [(⟨3, 0, 0, false, ⟨#[]⟩, ⟨#[]⟩⟩ : Mg)] = 0 := by decide
  have h3 : idxI (isM 3) [(⟨3, 0, 0, false, ⟨#[]⟩, ⟨#[]⟩⟩ : Mg)] = 0 := by decide
  rw [h1] at hq
  have HQ := Lib.hid hq
  have H1 := Lib.hid hl1
  have HB1 := Lib.hid hb
  have H2 := Lib.hid h2
  have H3 := Lib.hid h3
  clear HA ho hl1 hb hq h1 h2 h3
  rw [show [(⟨3, 0, 0, false, ⟨#[]⟩, ⟨#[]⟩⟩ : Mg)].length = 1 from rfl]
  go_wp2_with fail
  refine (HQ.out _).mono ?_
  rintro e w2 ⟨rfl, hb⟩
  have hl := least_m (n := 1) (c := c1) (H1.out.below hb) rfl (by omega)
  rw [H2.out] at hl
  have HL := Lib.hid hl
  have HB2 := Lib.hid hb
  clear hb hl
  go_wp2_with fail
  refine HL.out.mono ?_
  rintro e w3 ⟨rfl, hb⟩
  have hl := find_m (n := 1) (c := c1) ((H1.out.below HB2.out).below hb) rfl (by omega) 3
  rw [H3.out] at hl
  have HL3 := Lib.hid hl
  have HB3 := Lib.hid (HB1.out.trans ((HB2.out.trans (hb.mono HB2.out.size)).mono HB1.out.size))
  clear hb hl
  go_wp2_with fail
  refine HL3.out.mono ?_
  rintro e w4 ⟨rfl, hb⟩
  have HB4 := Lib.hid (HB3.out.trans (hb.mono HB3.out.size))
  clear hb
  go_wp2_with fail
  go_ret
  exact ⟨rfl, HB4.out⟩
end Go.Proofs.Ytglcdchjddnjgaa
