/- Cut of a part. -/
import Derived.Test.YtocaaebmelhhnaaTreeT
import Derived.StillTailTactics
import Derived.Deep.RegionWith
set_option maxRecDepth 4000
namespace Go.Proofs.Ytocaaebmelhhnaa
open Go.RowKit
def CutP (h : Nat) (w : World) (K : Nat → Prop) (t : Tr h) (e : Ending) (w' : World) : Prop :=
  ∃ b, e = .returned (.iface (tyT h) (.pointer (some ⟨b, 0, none⟩))) ∧ TrAt h w' K (.iface (tyT h) (.pointer (some ⟨b, 0, none⟩))) t ∧ Below w.heap.size w w'
def CutSpec (h : Nat) : Prop := ∀ (w : World) (K : Nat → Prop) (bt : Nat) (t : Tr h) (k : ByteArray), TrAt h w K (.iface (tyT h) (.pointer (some ⟨bt, 0, none⟩))) t → OkT h t → (flatT h t).length ≤ 10000 → h ≤ 1000 → (∀ i, w.heap.size ≤ i → K i) →
  Calls Try.prog (fnCut h) #[.pointer (some ⟨bt, 0, none⟩), .string k] w (CutP h w K (cutT h t k))
theorem cut_zero : CutSpec 0 := fun _ _ _ _ k a ok _ _ hK => leaf_cut a k (Nat.le_trans ok (by omega)) hK
set_option maxHeartbeats 2000000 in
theorem inner_cut {h : Nat} (ih : CutSpec h) {w : World} {K : Nat → Prop} {bt : Nat} {ks : List (Tr h)} (k : ByteArray) (a : TrAt (h + 1) w K (.iface 79 (.pointer (some ⟨bt, 0, none⟩))) ks) (h2 : 2 ≤ ks.length) (h6 : ks.length ≤ 6) (k3 : ∀ t ∈ ks, OkT h t ∧ 3 ≤ widthT h t) (hf : (flatL h ks).length ≤ 10000) (hh : h ≤ 999) (hK : ∀ i, w.heap.size ≤ i → K i) :
    Calls Try.prog 72 #[.pointer (some ⟨bt, 0, none⟩), .string k] w (CutP (h + 1) w K (cutK (fun t => cutT h t k) ks (placeT h ks k))) := by
  obtain ⟨A, n, c, vs, hc4, hp⟩ := a.kids
  have hn := hp.count
  have hbt := block_of_cell hc4
  have hj := placeT_lt (ks := ks) k (by omega)
  have hg := List.getElem?_eq_getElem hj
  have hat := at_kid hc4 hp (by omega) (by omega) k
  have hok := (k3 _ (List.mem_of_getElem? hg)).1
  have hw3 := (k3 _ (List.mem_of_getElem? hg)).2
  have hcok := cutT_ok h _ k hok
  have hcl := cut_flat_len h _ k hok
  have hft := flatT_mem (List.mem_of_getElem? hg)
  have hjn : placeT h ks k < n := by omega
  have hway := cutK_way (fun t => cutT h t k) hg h2
  have hcko := cutK_ok (f := fun t => cutT h t k) hg h2 h6 k3 hcok
  have hckl := cut_flat_lenK (f := fun t => cutT h t k) hg h2 hcl
  obtain ⟨b2, o2, bt2, rfl, hc2, hd2, ht2⟩ := hp.at_ hg
  have hcut := ih w K bt2 _ k ht2 hok (Nat.le_trans hft hf) (by omega) hK
  have hm := fun n => m_cut h n bt2
  have hcf := c_cut h
  generalize cutK (fun t => cutT h t k) ks (placeT h ks k) = l at *
  generalize ks[placeT h ks k] = t at *
  generalize cutT h t k = ct at *
  generalize placeT h ks k = j at *
  have hcw := hcok.1.width
  have hc0 : 0 < widthT h ct := by have := hcok.2; omega
  have hcfl : (flatT h ct).length ≤ 10000 := by omega
  have hl1 : 0 < l.length := hcko.1.1
  have hl6 : l.length ≤ 6 := hcko.1.2.1
  have hlf : (flatL h l).length ≤ 10000 := Nat.le_trans hckl hf
  have HAT := Lib.hid hat
  have HP := Lib.hid hp
  have HK := Lib.hid hK
  have HCUT := Lib.hid hcut
  have HF := Lib.hid hf
  have K3 := Lib.hid k3
  have HLF := Lib.hid hlf
  have HCF := Lib.hid hcfl
  have HC := Lib.hid hn
  have h60 : n ≤ 6 := by omega
  have HL : Hid (0 < l.length ∧ l.length ≤ 6) := ⟨hl1, hl6⟩
  have HOK : Hid (OkT h ct) := hcok.1.ok (by have := hcok.2; omega)
  have HW2 : Hid (2 ≤ widthT h ct) := by have := hcok.2; show 2 ≤ widthT h ct; omega
  have HCW : Hid (0 < widthT h ct ∧ widthT h ct ≤ 6) := ⟨hc0, hcw⟩
  have hbA : bt < w.heap.size := hbt
  clear a hp hat hok hcok hcl hft hcko hckl hcut hd2 ht2 hg hj hf k3 hlf hK hw3 hcfl hn h2 h6 hl1 hl6 hcw hc0
  go_enter Try.func72, Try.ntmps72
  go_wp2_with fail
  refine HAT.out.mono ?_
  rintro e w1 ⟨rfl, rfl⟩
  go_wp2_with fail
  refine HCUT.out.mono ?_
  rintro e w1 ⟨b3, rfl, ht3, hb1⟩
  obtain ⟨_, hd3⟩ := ht3.head
  have ev := hd3.val
  cases ev
  have hun := under_ hd3
  have hm3 := fun n => m_under h n b3
  have HB1 := Lib.hid hb1
  have HT3 := Lib.hid ht3
  have HUN := Lib.hid hun
  have q4 := (cell_of_heap (hb1.block bt hbt) 4).trans hc4
  clear hd3 hb1 ht3 hun
  go_wp2_with fail
  refine HUN.out.mono ?_
  rintro e w2 ⟨rfl, rfl⟩
  cases hway with
  | stays _ hw =>
    have hde : decide (widthT h ct < 3) = false := decide_eq_false hw
    rw [hde]
    have hbn : Below w1.heap.size w1 (w1.alloc (.cells #[.iface (tyT h) (.pointer (some ⟨b3, 0, none⟩))] 59)) := alloc_below _ _
    have hwi := with_ (q := j) (d := 1) ((cell_of_heap (hbn.block bt (Nat.lt_of_lt_of_le hbt HB1.out.size)) 4).trans q4) ((HP.out.below HB1.out).below hbn) (ps_one (HT3.out.below hbn) (Blk.new _ _ _) (HK.out _ HB1.out.size)) (by omega) (by omega) (by omega) (fun i hi => HK.out i (Nat.le_trans (Nat.le_trans HB1.out.size hbn.size) hi))
    have HWI := Lib.hid hwi
    have HBN := Lib.hid (HB1.out.trans (hbn.mono HB1.out.size))
    clear hwi hbn
    go_wp2_with fail
    refine HWI.out.mono ?_
    rintro e w3 ⟨_, rfl, A3, n3, c3, vs3, rfl, hp3, hb3⟩
    have hl3 : 0 < n3 ∧ n3 ≤ 10000 := by have := hp3.count; have := HL.out; omega
    have HB3 := Lib.hid (HBN.out.trans (hb3.mono HBN.out.size))
    have HP3 := Lib.hid hp3
    clear hp3 hb3
    go_wp2_with fail
    refine (newInner_ HP3.out hl3.1 (Nat.le_trans hl3.2 (by omega)) (Nat.le_trans HLF.out (by omega)) (by omega) (fun i hi => HK.out i (Nat.le_trans HB3.out.size hi))).mono ?_
    rintro e w4 ⟨b4, rfl, ht4, hb4⟩
    have HT4 := Lib.hid ht4
    have HB4 := Lib.hid (HB3.out.trans (hb4.mono HB3.out.size))
    clear ht4 hb4
    go_wp2_with fail
    go_ret
    exact ⟨b4, rfl, HT4.out, HB4.out⟩
  | other i p hw hpx =>
    have hde : decide (widthT h ct < 3) = true := decide_eq_true hw
    rw [hde]
    have hP1 := HP.out.below HB1.out
    obtain ⟨b5, o5, bp, e5, hc5, _, htp⟩ := hP1.at_ hpx
    cases e5
    have hpm := List.mem_of_getElem? hpx
    have hpk := K3.out _ hpm
    have hpw := hpk.1.width
    have hpf := Nat.le_trans (flatT_mem hpm) HF.out
    have hjo := join_part htp HT3.out (by omega) (by omega) (Nat.le_trans HCW.out.2 (by omega)) hpf HCF.out (by omega) (fun i hi => HK.out i (Nat.le_trans HB1.out.size hi))
    have hmj := fun n => m_join h n bp
    have hcj := c_join h
    have hjc := (joinT_ok hpk.1 (show OkT h ct from HOK.out) (by have := HW2.out; omega) (by omega)).2.2
    have HJO := Lib.hid hjo
    have HP1 := Lib.hid hP1
    generalize hji : i + 1 = j at *
    have hin : i + 2 ≤ n := by omega
    have hz : (j : Int) - 1 = (i : Int) := by omega
    have hz2 : IntKind.i64.wrap (i : Int) = (i : Int) := by rw [IntKind.wrap_i64]; omega
    have hi0 : 0 < j := by omega
    clear hP1 htp hpm hpk hpf hjo hji hpw hpx
    go_wp2_with fail
    refine HJO.out.mono ?_
    rintro e w2 ⟨_, rfl, A2, n2, c2, vs2, rfl, hp2, hb2⟩
    have hl2 : n2 ≤ 2 := by have := hp2.count; omega
    have HB2 := Lib.hid (HB1.out.trans (hb2.mono HB1.out.size))
    have q4' := (cell_of_heap (hb2.block bt (Nat.lt_of_lt_of_le hbt HB1.out.size)) 4).trans q4
    have hwi := with_ (q := i) (d := 2) q4' (HP1.out.below hb2) hp2 hin (by omega) (by omega) (fun i hi => HK.out i (Nat.le_trans HB2.out.size hi))
    have HWI := Lib.hid hwi
    clear hwi hp2 hb2 q4
    go_wp2_with fail
    refine HWI.out.mono ?_
    rintro e w3 ⟨_, rfl, A3, n3, c3, vs3, rfl, hp3, hb3⟩
    have hl3 : 0 < n3 ∧ n3 ≤ 10000 := by have := hp3.count; have := HL.out; omega
    have HB3 := Lib.hid (HB2.out.trans (hb3.mono HB2.out.size))
    have HP3 := Lib.hid hp3
    clear hp3 hb3
    go_wp2_with fail
    refine (newInner_ HP3.out hl3.1 (Nat.le_trans hl3.2 (by omega)) (Nat.le_trans HLF.out (by omega)) (by omega) (fun i hi => HK.out i (Nat.le_trans HB3.out.size hi))).mono ?_
    rintro e w4 ⟨b4, rfl, ht4, hb4⟩
    have HT4 := Lib.hid ht4
    have HB4 := Lib.hid (HB3.out.trans (hb4.mono HB3.out.size))
    clear ht4 hb4
    go_wp2_with fail
    go_ret
    exact ⟨b4, rfl, HT4.out, HB4.out⟩
  | first nx hw hnx =>
    have hde : decide (widthT h ct < 3) = true := decide_eq_true hw
    rw [hde]
    have hP1 := (HP.out.below HB1.out)
    obtain ⟨b5, o5, bp, e5, hc5, _, htp⟩ := hP1.at_ hnx
    cases e5
    have hpm := List.mem_of_getElem? hnx
    have hpk := K3.out _ hpm
    have hpw := hpk.1.width
    have hpf := Nat.le_trans (flatT_mem hpm) HF.out
    have hjo := fun (W : World) (hb : Below w1.heap.size w1 W) => join_part (HT3.out.below hb) (htp.below hb) HCW.out.1 (Nat.le_trans HCW.out.2 (by omega)) (by omega) HCF.out hpf (by omega) (fun i hi => HK.out i (Nat.le_trans (Nat.le_trans HB1.out.size hb.size) hi))
    have hmj := fun n => m_join h n b3
    have hnj := fun n => n_join h n b3
    have hcj := c_join h
    have hjc := (joinT_ok (show OkT h ct from HOK.out) hpk.1 (by have := HW2.out; omega) (by omega)).2.2
    have hn2 : 0 + 2 ≤ n := by have := (List.getElem?_eq_some_iff.1 hnx).1; have := HC.out; omega
    have hn1 : 1 < n := by omega
    have HJO := Lib.hid hjo
    have HP1 := Lib.hid hP1
    clear hP1 htp hpm hpk hpf hjo hpw hnx
    go_wp2_with fail
    go_region_with (first | (go_at_call 35; refine (newInner_ HP3.out hl3.1 (Nat.le_trans hl3.2 (by omega)) (Nat.le_trans HLF.out (by omega)) (by omega) (fun i hi => HK.out i (Nat.le_trans HB3.out.size hi))).mono ?_; rintro e w4 ⟨b4, rfl, ht4, hb4⟩; have HT4 := Lib.hid ht4; have HB4 := Lib.hid (HB3.out.trans (hb4.mono HB3.out.size)); clear ht4 hb4) | (go_at_call 78; refine (with_ (q := 0) (d := 2) q4' (HP1.out.below HB2.out) HP2.out hn2 (by omega) (by omega) HK2.out).mono ?_; rintro e w3 ⟨_, rfl, A3, n3, c3, vs3, rfl, hp3, hb3⟩; have hl3 : 0 < n3 ∧ n3 ≤ 10000 := (by have := hp3.count; have := HL.out; simp at *; omega); have HB3 := Lib.hid ((HB1.out.trans (HB2.out.mono HB1.out.size)).trans (hb3.mono (Nat.le_trans HB1.out.size HB2.out.size))); have HP3 := Lib.hid hp3; clear hp3 hb3) | (guard_target =~ Calls _ (fnJoin h) _ _ _; refine (HJO.out _ (Below.refl _ _).drew).mono ?_; rintro e w2 ⟨_, rfl, A2, n2, c2, vs2, rfl, hp2, hb2⟩; have hl2 : n2 ≤ 2 := (by have := hp2.count; omega); have HB2 := Lib.hid ((Below.refl w1.heap.size w1).drew.trans hb2); have q4' := (cell_of_heap (HB2.out.block bt (Nat.lt_of_lt_of_le hbt HB1.out.size)) 4).trans q4; have HP2 := Lib.hid hp2; have HK2 : Hid (∀ i, w2.heap.size ≤ i → K i) := (fun i hi => HK.out i (Nat.le_trans (Nat.le_trans HB1.out.size HB2.out.size) hi)); clear hp2 hb2))
    all_goals
      go_wp2_with fail
      go_ret
      exact ⟨b4, rfl, HT4.out, HB4.out⟩
theorem cut_part : ∀ h, CutSpec h
  | 0 => cut_zero
  | h + 1 => fun _ _ _ ks k a ok hf hh hK => inner_cut (cut_part h) (ks := ks) k a ok.1 ok.2.1 ok.2.2 hf (by omega) hK
end Go.Proofs.Ytocaaebmelhhnaa
