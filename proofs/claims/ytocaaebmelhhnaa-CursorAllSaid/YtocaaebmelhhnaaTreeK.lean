/- Join of a leaf. -/
import Derived.Test.YtocaaebmelhhnaaTreeL
set_option maxRecDepth 4000
namespace Go.Proofs.Ytocaaebmelhhnaa
open Go.RowKit
set_option maxHeartbeats 1000000 in
theorem leaf_join {w : World} {K : Nat → Prop} {b1 b2 : Nat} {T : Nat} {xs ys : List Rw} (a : TrAt 0 w K (.iface T (.pointer (some ⟨b1, 0, none⟩))) xs) (d : TrAt 0 w K (.iface 77 (.pointer (some ⟨b2, 0, none⟩))) ys) (hn : xs.length ≤ 1000) (hm : ys.length ≤ 1000) (hK : ∀ i, w.heap.size ≤ i → K i) :
    Calls Try.prog 56 #[.pointer (some ⟨b1, 0, none⟩), .iface 77 (.pointer (some ⟨b2, 0, none⟩))] w fun e w' => ∃ v, e = .returned v ∧ NewP 0 w K (halve (xs ++ ys)) v w' := by
  obtain ⟨A1, n1, c1, hc1, hr1, hl1, hnc1, hA1⟩ := a.leaf
  obtain ⟨A2, n2, c2, hc2, hr2, hl2, hnc2, hA2⟩ := d.leaf
  have hbt1 := block_of_cell hc1
  have hbt2 := block_of_cell hc2
  have hcc := concat2 (b := w.heap.size) (c1 := c1) (c2 := c2) hr1 hl1 hr2 hl2 (by omega) rfl
  have hlen : (xs ++ ys).length = n1 + n2 := by rw [List.length_append, hl1, hl2]
  have hs : n1 + n2 ≤ 10000 := by omega
  have HCC := Lib.hid hcc
  have HK := Lib.hid hK
  have HL := Lib.hid hlen
  clear a d hr1 hl1 hA1 hr2 hl2 hA2 hcc hK hlen
  generalize xs ++ ys = zs at *
  have has := as_leaf
  go_enter Try.func56, Try.ntmps56
  go_wp2_with fail
  refine wp_region_still_tail 9 (by kernel_rfl) (by kernel_rfl) ?_
  simp only [List.take_succ_cons, List.take_zero, List.drop_succ_cons, List.drop_zero]
  repeat still_step
  refine wpStill_nil ?_
  go_wp2_with fail
  refine HCC.out.mono ?_
  rintro e w1 ⟨_, rfl, A3, c3, rfl, r3, p1, p2, p3, hb1⟩
  have HB := Lib.hid hb1
  have R3 := Lib.hid (r3.more fun i _ hi => HK.out i hi)
  have P3 := Lib.hid p3
  clear r3 p3 hb1
  go_wp2_with fail
  refine (leaves_ R3.out HL.out (by omega) p1 P3.out (fun i hi => HK.out i (Nat.le_trans HB.out.size hi))).mono ?_
  rintro e w2 ⟨v2, rfl, hn2⟩
  have HN2 := Lib.hid (hn2.of_below HB.out)
  clear hn2
  go_wp2_with fail
  go_ret
  exact ⟨v2, rfl, HN2.out⟩
end Go.Proofs.Ytocaaebmelhhnaa
