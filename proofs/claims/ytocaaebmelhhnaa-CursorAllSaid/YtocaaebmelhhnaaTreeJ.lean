/- One inner part or two of kids. -/
import Derived.Test.YtocaaebmelhhnaaTreeN
import Derived.Test.YtocaaebmelhhnaaTreeH
import Derived.Test.YtocaaebmelhhnaaTreeW
import Derived.Deep.RegionWith
set_option maxRecDepth 4000
namespace Go.Proofs.Ytocaaebmelhhnaa
open Go.RowKit
theorem flatL_take_le {h : Nat} (ks : List (Tr h)) (q : Nat) : (flatL h (ks.take q)).length ≤ (flatL h ks).length ∧ (flatL h (ks.drop q)).length ≤ (flatL h ks).length := by
  have e : (flatL h ks).length = (flatL h (ks.take q)).length + (flatL h (ks.drop q)).length := by
    conv => lhs; rw [← List.take_append_drop q ks, flatL_append, List.length_append]
  omega
set_option maxHeartbeats 1000000 in
theorem inners_ {h : Nat} {w : World} {K : Nat → Prop} {A : Option Addr} {n c : Nat} {vs : List Value} {ks : List (Tr h)} (hp : PsAt h w K A n c vs ks) (h0 : 0 < n) (hn : n ≤ 10000) (hf : (flatL h ks).length ≤ 1000000) (hh : h ≤ 1000000) (hK : ∀ i, w.heap.size ≤ i → K i) :
    Calls Try.prog 79 #[.slice A n c] w fun e w' => ∃ v, e = .returned v ∧ NewP (h + 1) w K (halve ks) v w' := by
  have H := Lib.hid hp
  have HC := Lib.hid hp.count
  have HF := Lib.hid hf
  have HK := Lib.hid hK
  have hcap := hp.cap
  clear hp hf hK
  go_enter Try.func79, Try.ntmps79
  go_wp2_with fail
  refine (newInner_ H.out h0 (by omega) HF.out hh HK.out).mono ?_
  rintro e w1 ⟨b1, rfl, ht1, hb1⟩
  obtain ⟨_, hd⟩ := ht1.head
  have ev := hd.val
  cases ev
  have hov := over_ hd
  have HW : Hid (widthT (h + 1) ks = n) := HC.out
  rw [HW.out] at hov
  have HT1 := Lib.hid ht1
  have HB1 := Lib.hid hb1
  have HO := Lib.hid hov
  clear ht1 hb1 hd hov
  go_wp2_with fail
  refine HO.out.mono ?_
  rintro e w2 ⟨rfl, rfl⟩
  by_cases h6 : n ≤ 6
  · have h7 : decide (6 < n) = false := decide_eq_false (by omega)
    rw [h7]
    go_wp2_with fail
    go_ret
    refine ⟨_, rfl, ?_⟩
    rw [halve_le (by rw [HC.out]; exact h6)]
    exact ⟨_, 1, 1, _, rfl, ps_one (HT1.out.below (alloc_below _ _)) (Blk.new _ _ _) (HK.out _ HB1.out.size), HB1.out.trans ((alloc_below _ _).mono HB1.out.size)⟩
  · have h7 : decide (6 < n) = true := decide_eq_true (by omega)
    rw [h7]
    have hh2 := halve_gt (l := ks) (by rw [HC.out]; exact h6)
    rw [HC.out] at hh2
    have hdv : ((n : Int) + 1).tdiv 2 = (((n + 1) / 2 : Nat) : Int) := by
      rw [Int.tdiv_eq_ediv_of_nonneg (by omega)]; omega
    have hq1 : 0 < (n + 1) / 2 ∧ (n + 1) / 2 < n := by omega
    have hd1 := fun W => head_vls A n c ((n + 1) / 2) (by omega) W
    have hP1 := H.out.below HB1.out
    obtain ⟨A2, hd2, hp2⟩ := tail_ps hP1 (show (n + 1) / 2 ≤ n by omega) rfl
    have hfl := flatL_take_le ks ((n + 1) / 2)
    have hpt := hP1.take (show (n + 1) / 2 ≤ n by omega)
    have hm : 0 < n - (n + 1) / 2 := by omega
    have hmq : n - (n + 1) / 2 ≤ n := by omega
    generalize n - (n + 1) / 2 = m at *
    generalize (n + 1) / 2 = q at *
    generalize c - q = c2 at *
    have HF1 := Lib.hid (Nat.le_trans hfl.1 HF.out)
    have HF2 := Lib.hid (Nat.le_trans hfl.2 HF.out)
    have HH := Lib.hid hh2
    have HP1 := Lib.hid (hpt.below (Below.refl _ _).drew)
    have HP2 := Lib.hid (hp2.below (Below.refl _ _).drew)
    have HK1 : Hid (∀ i, w1.drew.heap.size ≤ i → K i) := fun i hi => HK.out i (Nat.le_trans HB1.out.size hi)
    clear hh2 hP1 hp2 hfl hpt
    go_wp2_with fail
    go_region_with (first | (go_at_call 35; refine (newInner_ HPS4.out hm (by omega) HF2.out hh HK4.out).mono ?_; rintro e w5 ⟨b5, rfl, ht5, hb5⟩; have HB5 := Lib.hid (HB4.out.trans (hb5.mono HB4.out.size)); have HT5 := Lib.hid (HT4.out.below hb5); have HT6 := Lib.hid ht5; clear ht5 hb5) | (go_at_call 81; refine (clone_ps HP4.out (by omega) HK3.out).mono ?_; rintro e w4 ⟨v4, rfl, A4', n4', c4', vs4, rfl, hps4, hb4⟩; have e4 : m = n4' := (by rw [← hps4.count, ← HP4.out.count]); subst e4; have HB4 := Lib.hid (HB3.out.trans (hb4.mono HB3.out.size)); have HT4 := Lib.hid (HT3.out.below hb4); have HPS4 := Lib.hid hps4; have HK4 : Hid (∀ i, w4.heap.size ≤ i → K i) := (fun i hi => HK.out i (Nat.le_trans HB4.out.size hi)); clear hb4 hps4) | (go_at_call 35; refine (newInner_ HPS2.out hq1.1 (by omega) HF1.out hh HK2.out).mono ?_; rintro e w3 ⟨b3, rfl, ht3, hb3⟩; have HB3 := Lib.hid (HB2.out.trans (hb3.mono HB2.out.size)); have HP4 := Lib.hid (HP3.out.below hb3); have HT3 := Lib.hid ht3; have HK3 : Hid (∀ i, w3.heap.size ≤ i → K i) := (fun i hi => HK.out i (Nat.le_trans HB3.out.size hi)); clear ht3 hb3) | (go_at_call 81; refine (clone_ps HP1.out (by omega) HK1.out).mono ?_; rintro e w2 ⟨v2, rfl, A2', n2', c2', vs2, rfl, hps2, hb2⟩; have e2 : q = n2' := (by rw [← hps2.count, List.length_take, HC.out]; omega); subst e2; have HB2 := Lib.hid (HB1.out.drew.trans (hb2.mono HB1.out.size)); have HP3 := Lib.hid (HP2.out.below hb2); have HPS2 := Lib.hid hps2; have HK2 : Hid (∀ i, w2.heap.size ≤ i → K i) := (fun i hi => HK.out i (Nat.le_trans HB2.out.size hi)); clear hb2 hps2))
    all_goals
      go_wp2_with fail
      go_ret
      refine ⟨_, rfl, ?_⟩
      rw [HH.out]
      exact ⟨_, 2, 2, _, rfl, ps_two (HT5.out.below (alloc_below _ _)) (HT6.out.below (alloc_below _ _)) (Blk.new _ _ _) (HK.out _ HB5.out.size), HB5.out.trans ((alloc_below _ _).mono HB5.out.size)⟩
end Go.Proofs.Ytocaaebmelhhnaa
