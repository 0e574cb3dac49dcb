/- Put and Cut of a tree. -/
import Derived.Test.YtocaaebmelhhnaaTopP
import Derived.Test.YtocaaebmelhhnaaTreeR
import Derived.Test.YtocaaebmelhhnaaTreeV
set_option maxRecDepth 4000
namespace Go.Proofs.Ytocaaebmelhhnaa
open Go.RowKit
theorem TeAt.blk {w : World} {K : Nat → Prop} {b : Nat} {T : Te} (a : TeAt w K b T) : ∃ v, Blk w b 61 #[v] := by
  match T, a with
  | none, a => exact ⟨_, a.2⟩
  | some ⟨_, _⟩, a => obtain ⟨_, _, h, _⟩ := a; exact ⟨_, h⟩
theorem TeAt.drew0 {w : World} {K : Nat → Prop} {b : Nat} {T : Te} (a : TeAt w K b T) : TeAt w.drew K b T := a.below (Below.refl _ _).drew
/-- a new root in the tree's block -/
theorem root_set {w : World} {K : Nat → Prop} {b bt : Nat} {v : Value} {p : (h : Nat) × Tr h} (hb : Blk w b 61 #[v]) (hn : ¬ K b) (ht : TrAt p.1 w K (.iface (tyT p.1) (.pointer (some ⟨bt, 0, none⟩))) p.2) :
    TeAt (w.setCell ⟨b, 0, none⟩ (.iface (tyT p.1) (.pointer (some ⟨bt, 0, none⟩)))) K b (some p) ∧ Keep (fun i _ => i ≠ b) w (w.setCell ⟨b, 0, none⟩ (.iface (tyT p.1) (.pointer (some ⟨bt, 0, none⟩)))) := by
  have k := (Keep.refl (K := fun i _ => i ≠ b) w).setCell (p := ⟨b, 0, none⟩) (fun _ _ h => h rfl) (.iface (tyT p.1) (.pointer (some ⟨bt, 0, none⟩)))
  refine ⟨⟨hn, bt, ?_, ht.keep (k.mono fun i _ _ hi e => hn (e ▸ hi))⟩, k⟩
  have := hb.set_ 0 (.iface (tyT p.1) (.pointer (some ⟨bt, 0, none⟩)))
  simpa using this
def PutP (w : World) (K : Nat → Prop) (b : Nat) (T : Te) (r : Rw) (e : Ending) (w' : World) : Prop :=
  e = .returned (.bool (decide ((flatTe T).length < (flatTe (putTe T r)).length))) ∧ TeAt w' K b (putTe T r) ∧ Keep (fun i _ => i ≠ b) w w'
set_option maxHeartbeats 2000000 in
theorem put_of {w : World} {K : Nat → Prop} {b : Nat} {T : Te} (a : TeAt w K b T) (ok : OkTe T) (hs : (flatTe T).length ≤ 10000) (hh : (topT T).1 ≤ 900) (hK : ∀ i, w.heap.size ≤ i → K i) (r : Rw) :
    Calls Try.prog 17 #[.pointer (some ⟨b, 0, none⟩), .agg #[.string r.1, .string r.2]] w (PutP w K b T r) := by
  have hB := Blk.new w 29 #[.string r.1, .string r.2]
  have hk0 := alloc_below w (.cells #[.string r.1, .string r.2] 29)
  have q0 := hB.cell 0
  have q1 := hB.cell 1
  simp only [List.getElem?_toArray, List.getElem?_cons_succ, List.getElem?_cons_zero] at q0 q1
  have hbw : w.heap.size < (w.alloc (.cells #[.string r.1, .string r.2] 29)).heap.size := hB.lt
  have ha0 := a.below hk0
  have hK0 : ∀ i, (w.alloc (.cells #[.string r.1, .string r.2] 29)).heap.size ≤ i → K i := fun i hi => hK i (Nat.le_trans hk0.size hi)
  have hlen := len_ ha0 hK0
  have hnb := a.not
  have hbl := a.lt
  have hlt := a.lt
  unfold PutP
  obtain ⟨T', hT'⟩ : ∃ T', putTe T r = T' := ⟨_, rfl⟩
  have hput := putT_ok (topT T).1 (topT T).2 r ok
  have hpl := put_flat_len (topT T).1 (topT T).2 r ok
  rw [hT']
  have hT2 : some (aboveT (topT T).1 (putT (topT T).1 (topT T).2 r)) = T' := hT'
  have HTO := Lib.hid fun (W : World) (k : Below (w.alloc (.cells #[.string r.1, .string r.2] 29)).heap.size (w.alloc (.cells #[.string r.1, .string r.2] 29)) W) => top_ (ha0.below k) (fun i hi => hK0 i (Nat.le_trans k.size hi))
  have HA0 := Lib.hid ha0
  have HK := Lib.hid hK0
  have HL := Lib.hid hlen
  have HNB := Lib.hid hnb
  have hsT : (flatT (topT T).1 (topT T).2).length ≤ 10000 := hs
  obtain ⟨m, hm⟩ : ∃ m, (flatTe T).length = m := ⟨_, rfl⟩
  rw [hm] at HL hs ⊢
  unfold OkTe at ok
  unfold TopP at HTO
  have hbl2 : b < (w.alloc (.cells #[.string r.1, .string r.2] 29)).heap.size := Nat.lt_of_lt_of_le hbl hk0.size
  have HK1 := Lib.hid hk0
  obtain ⟨m2, hm2⟩ : ∃ m2, (flatTe T').length = m2 := ⟨_, rfl⟩
  have HM2 := Lib.hid hm2
  rw [hm2]
  clear ha0 hK0 hlen hnb hm hT' hm2 hB hk0 a hK
  generalize (topT T).2 = t at *
  generalize (topT T).1 = h at *
  have hps1 := hput.2.1
  have hps2 := hput.2.2.1
  have hpart := fun W K bt (a : TrAt h W K (.iface (tyT h) (.pointer (some ⟨bt, 0, none⟩))) t) (hK : ∀ i, W.heap.size ≤ i → K i) => put_part h W K bt t r a ok hsT (by omega) hK
  have hfl : (flatL h (putT h t r)).length ≤ 100000 := by omega
  generalize putT h t r = ps at *
  have HPA := Lib.hid hpart
  have HT2 := Lib.hid hT2
  have HFL := Lib.hid hfl
  obtain ⟨k, v⟩ := r
  simp only at *
  have hcf := c_put h
  clear hput hpl hpart hT2 hfl ok hsT
  go_enter Try.func17, Try.ntmps17
  go_wp2_with fail
  generalize w.alloc (.cells #[.string k, .string v] 29) = wA at *
  refine HL.out.mono ?_
  rintro e w1 ⟨rfl, hb1⟩
  have HB1 := Lib.hid hb1
  have q0 := (cell_of_heap (hb1.block _ hbw) 0).trans q0
  have q1 := (cell_of_heap (hb1.block _ hbw) 1).trans q1
  clear hb1
  go_wp2_with fail
  go_region_with (first | (go_at_call 28; refine (HTO.out _ HB1.out.drew).mono ?_; rintro e w2 ⟨bt, rfl, ht2, hb2⟩; have HB2 := Lib.hid (HB1.out.drew.trans (hb2.mono HB1.out.size)); have HT3 := Lib.hid ht2; have q02 := (cell_of_heap (hb2.block w.heap.size (Nat.lt_of_lt_of_le hbw HB1.out.size)) 0).trans q0; have q12 := (cell_of_heap (hb2.block w.heap.size (Nat.lt_of_lt_of_le hbw HB1.out.size)) 1).trans q1; have hmt := (fun n => m_put h n bt); clear ht2 hb2) | (guard_target =~ Calls _ (fnPut h) _ _ _; refine (HPA.out _ K bt HT3.out (fun i hi => HK.out i (Nat.le_trans HB2.out.size hi))).mono ?_; rintro e w3 ⟨_, rfl, A3, n3, c3, vs3, rfl, hp3, hb3⟩; have HB3 := Lib.hid (HB2.out.trans (hb3.mono HB2.out.size)); have hn3 : 1 ≤ n3 ∧ n3 ≤ 1000 := (by have := hp3.count; omega); have HP3 := Lib.hid hp3; clear hp3 hb3) | (go_at_call 30; refine (above_ HP3.out hn3.1 hn3.2 HFL.out (by omega) (fun i hi => HK.out i (Nat.le_trans HB3.out.size hi))).mono ?_; rintro e w4 ⟨b4, rfl, ht4, hb4⟩; have HB4 := Lib.hid (HB3.out.trans (hb4.mono HB3.out.size)); have HT4 := Lib.hid ht4; obtain ⟨rv, hrv⟩ := (HA0.out.below HB4.out).blk; have hc4 := hrv.cell 0; have hf4 := hrv.frozen 0; have HRV := Lib.hid hrv; simp only [List.getElem?_toArray, List.getElem?_cons_zero] at hc4; clear ht4 hb4 hrv))
  all_goals
    obtain ⟨hte, hke⟩ := root_set HRV.out HNB.out HT4.out
    rw [HT2.out] at hte
    have hkw : Keep (fun i _ => i ≠ b) w _ := (Keep.of_below (HK1.out.trans (HB4.out.mono HK1.out.size))).trans hke
    have hsz : wA.heap.size ≤ w4.heap.size := HB4.out.size
    have HTE := Lib.hid hte
    have HKW := Lib.hid hkw
    have hln := len_ hte (fun i hi => HK.out i (Nat.le_trans hsz (by simpa [World.setCell] using hi)))
    rw [HM2.out] at hln
    have HLN := Lib.hid hln
    clear hte hke hkw hln
    go_wp2_with fail
    refine HLN.out.mono ?_
    rintro e w5 ⟨rfl, hb5⟩
    have HB5 := Lib.hid hb5
    clear hb5
    go_wp2_with fail
    go_ret
    exact ⟨retBk (decide_eq_decide.2 (by omega)), HTE.out.below HB5.out, HKW.out.trans (Keep.of_below HB5.out)⟩
def CutTP (w : World) (K : Nat → Prop) (b : Nat) (T : Te) (k : ByteArray) (e : Ending) (w' : World) : Prop :=
  e = .returned (.bool (getT (topT T).1 (topT T).2 k).2) ∧ TeAt w' K b (cutTe T k) ∧ Keep (fun i _ => i ≠ b) w w'
set_option maxHeartbeats 2000000 in
theorem cut_of {w : World} {K : Nat → Prop} {b : Nat} {T : Te} (a : TeAt w K b T) (ok : OkTe T) (hs : (flatTe T).length ≤ 10000) (hh : (topT T).1 ≤ 900) (hK : ∀ i, w.heap.size ≤ i → K i) (k : ByteArray) :
    Calls Try.prog 18 #[.pointer (some ⟨b, 0, none⟩), .string k] w (CutTP w K b T k) := by
  have hget := get_of a ok hK k
  have HA := Lib.hid a
  have HK := Lib.hid hK
  unfold CutTP
  cases hf : (getT (topT T).1 (topT T).2 k).2
  · have he : cutTe T k = T := by
      match T, hf with
      | none, _ => rfl
      | some ⟨h, t⟩, hf => simp only [cutTe]; rw [show (getT h t k).2 = false from hf]; rfl
    rw [hf] at hget
    rw [he]
    have HG := Lib.hid hget
    clear hget a hK he hf ok hs hh
    go_enter Try.func18, Try.ntmps18
    go_wp2_with fail
    refine HG.out.mono ?_
    rintro e w1 ⟨rfl, hb1⟩
    have HB1 := Lib.hid hb1
    clear hb1
    go_wp2_with fail
    go_ret
    exact ⟨rfl, HA.out.below HB1.out, Keep.of_below HB1.out⟩
  · match T, a, HA, ok, hs, hh, hget, hf with
    | none, _, _, _, _, _, _, hf => cases hf
    | some ⟨h, t⟩, a, HA, ok, hs, hh, hget, hf =>
      have hf2 : (getT h t k).2 = true := hf
      have hh2 : h ≤ 900 := hh
      have he : cutTe (some ⟨h, t⟩) k = some (lowerT h (cutT h t k)) := by simp only [cutTe]; rw [hf2]; rfl
      rw [hf] at hget
      rw [he]
      have HG := Lib.hid hget
      obtain ⟨hnb, bt, hb0, ht0⟩ := a
      have hcell := fun (W : World) (hk : Below w.heap.size w W) => (hb0.below hk hb0.lt).cell 0
      have hcp := fun (W : World) (hk : Below w.heap.size w W) => cut_part h W K bt t k (ht0.below hk) ok hs (by omega) (fun i hi => hK i (Nat.le_trans hk.size hi))
      generalize cutT h t k = ct at *
      have HCE := Lib.hid hcell
      have HCP := Lib.hid hcp
      have HNB := Lib.hid hnb
      have HB0 := Lib.hid hb0
      have hm := fun n => m_cut h n bt
      have hcf := c_cut h
      clear hget hcell hcp hnb hb0 ht0 he hf hf2 ok hs hh hK hh2
      go_enter Try.func18, Try.ntmps18
      go_wp2_with fail
      refine HG.out.mono ?_
      rintro e w1 ⟨rfl, hb1⟩
      have HB1 := Lib.hid hb1
      have hc1 := HCE.out _ hb1
      simp only [List.getElem?_toArray, List.getElem?_cons_zero] at hc1
      clear hb1
      go_wp2_with fail
      refine (HCP.out _ HB1.out).mono ?_
      rintro e w2 ⟨b2, rfl, ht2, hb2⟩
      have HB2 := Lib.hid (HB1.out.trans (hb2.mono HB1.out.size))
      have HT2 := Lib.hid ht2
      clear ht2 hb2 hc1
      go_wp2_with fail
      refine (lowered_ HT2.out).mono ?_
      rintro e w3 ⟨b3, rfl, ht3, hb3⟩
      have HB3 := Lib.hid (HB2.out.trans (hb3.mono HB2.out.size))
      obtain ⟨hte, hke⟩ := root_set (HB0.out.below HB3.out HB0.out.lt) HNB.out ht3
      have hc3 := HCE.out _ HB3.out
      have hf3 := (HB0.out.below HB3.out HB0.out.lt).frozen 0
      simp only [List.getElem?_toArray, List.getElem?_cons_zero] at hc3
      have HTE := Lib.hid hte
      have HKE := Lib.hid hke
      clear ht3 hb3 hte hke
      go_wp2_with fail
      go_ret
      exact ⟨rfl, HTE.out, (Keep.of_below HB3.out).trans HKE.out⟩
end Go.Proofs.Ytocaaebmelhhnaa
