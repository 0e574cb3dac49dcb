/- The document's example. -/
import Derived.Test.YtocaaebmelhhnaaTreeNew
set_option maxRecDepth 4000
namespace Go.Proofs.Ytocaaebmelhhnaa
open Go.RowKit
theorem one_put (k v : ByteArray) : foundR [] k = false ∧ putR [] (k, v) = [(k, v)] ∧ valR [(k, v)] k = v ∧ foundR [(k, v)] k = true := by
  have hz : cmpS k k = 0 := (cmpS_eq _ _).2 rfl
  refine ⟨rfl, rfl, ?_, ?_⟩
  · simp [valR, foundR, findR, hz]
  · simp [foundR, hz]
set_option maxHeartbeats 1000000 in
theorem alive_ (w : World) : Calls Try.prog 7 #[] w fun e w' => e = .returned (.bool true) ∧ Below w.heap.size w w' := by
  have hnw := new_tree (Rws.nil w (fun _ => True) none) rfl (Nat.zero_le _) (c := 0)
  have HNW := Lib.hid hnw
  obtain ⟨p1, p2, p3, p4⟩ := one_put ⟨#[97]⟩ ⟨#[98]⟩
  have P1 := Lib.hid p1
  have P2 := Lib.hid p2
  have P3 := Lib.hid p3
  have P4 := Lib.hid p4
  clear hnw p1 p2 p3 p4
  go_enter Try.func7, Try.ntmps7
  go_wp2_with fail
  refine HNW.out.mono ?_
  rintro e w1 ⟨rfl, ht1, hb1⟩
  have ht1 : Tree w1 (fun i => i ≠ w.heap.size) w.heap.size [] := ht1
  have HT1 := Lib.hid ht1
  have HB1 := Lib.hid hb1
  have hlt := ht1.lt
  clear ht1 hb1
  go_wp2_with fail
  refine (height_tree HT1.out (by simp) (fun i hi => by omega)).mono ?_
  rintro e w2 ⟨m, rfl, _, _, _, hm, hb2⟩
  obtain rfl := hm rfl
  have HT2 := Lib.hid (HT1.out.below hb2)
  have HB2 := Lib.hid (HB1.out.trans (hb2.mono HB1.out.size))
  have hlt2 := HT2.out.lt
  clear hb2 hm
  go_wp2_with fail
  refine (put_tree HT2.out (by simp) (fun i hi => by omega) (⟨#[97]⟩, ⟨#[98]⟩)).mono ?_
  rintro e w3 ⟨rfl, ht3, hk3⟩
  rw [P1.out]
  rw [P2.out] at ht3
  have HT3 := Lib.hid ht3
  have HB3 := Lib.hid (below_of_keep HB2.out hk3 HB2.out.size)
  have hlt3 := ht3.lt
  clear ht3 hk3
  go_wp2_with fail
  refine (get_tree HT3.out (fun i hi => by omega) ⟨#[97]⟩).mono ?_
  rintro e w4 ⟨rfl, hb4⟩
  rw [P3.out, P4.out]
  have HT4 := Lib.hid (HT3.out.below hb4)
  have HB4 := Lib.hid (HB3.out.trans (hb4.mono HB3.out.size))
  have hlt4 := HT4.out.lt
  clear hb4
  go_wp2_with fail
  refine (len_tree HT4.out (fun i hi => by omega)).mono ?_
  rintro e w5 ⟨rfl, hb5⟩
  have HB5 := Lib.hid (HB4.out.trans (hb5.mono HB4.out.size))
  clear hb5
  go_wp2_with fail
  go_ret
  exact ⟨rfl, HB5.out⟩
end Go.Proofs.Ytocaaebmelhhnaa
