/- Put of a part. -/
import Derived.Test.YtocaaebmelhhnaaTreeT
import Derived.Test.YtocaaebmelhhnaaTreeJ
import Derived.Test.YtocaaebmelhhnaaTreeK
import Derived.Test.YtocaaebmelhhnaaTreeQ
set_option maxRecDepth 4000
namespace Go.Proofs.Ytocaaebmelhhnaa
open Go.RowKit
def PutSpec (h : Nat) : Prop := ∀ (w : World) (K : Nat → Prop) (bt : Nat) (t : Tr h) (r : Rw), TrAt h w K (.iface (tyT h) (.pointer (some ⟨bt, 0, none⟩))) t → OkT h t → (flatT h t).length ≤ 10000 → h ≤ 1000 → (∀ i, w.heap.size ≤ i → K i) →
  Calls Try.prog (fnPut h) #[.pointer (some ⟨bt, 0, none⟩), .agg #[.string r.1, .string r.2]] w fun e w' => ∃ v, e = .returned v ∧ NewP h w K (putT h t r) v w'
theorem put_zero : PutSpec 0 := fun _ _ _ _ r a ok _ _ hK => leaf_put a r (Nat.le_trans ok (by omega)) hK
set_option maxHeartbeats 1000000 in
theorem inner_put {h : Nat} (ih : PutSpec h) {w : World} {K : Nat → Prop} {bt : Nat} {ks : List (Tr h)} (r : Rw) (a : TrAt (h + 1) w K (.iface 79 (.pointer (some ⟨bt, 0, none⟩))) ks) (h2 : 2 ≤ ks.length) (h6 : ks.length ≤ 6) (k3 : ∀ t ∈ ks, OkT h t ∧ 3 ≤ widthT h t) (hf : (flatL h ks).length ≤ 10000) (hh : h ≤ 999) (hK : ∀ i, w.heap.size ≤ i → K i) :
    Calls Try.prog 76 #[.pointer (some ⟨bt, 0, none⟩), .agg #[.string r.1, .string r.2]] w fun e w' => ∃ v, e = .returned v ∧ NewP (h + 1) w K (putK (fun t => putT h t r) ks (placeT h ks r.1)) v w' := by
  obtain ⟨A, n, c, vs, hc4, hp⟩ := a.kids
  have hn := hp.count
  have hbt := block_of_cell hc4
  have hk0 := alloc_below w (.cells #[.string r.1, .string r.2] 29)
  have hj := placeT_lt (ks := ks) r.1 (by omega)
  have hg := List.getElem?_eq_getElem hj
  have hB := Blk.new w 29 #[.string r.1, .string r.2]
  have q0 := hB.cell 0
  have q1 := hB.cell 1
  simp only [List.getElem?_toArray, List.getElem?_cons_succ, List.getElem?_cons_zero] at q0 q1
  have q4 := (cell_of_heap (hk0.block bt hbt) 4).trans hc4
  have hp0 := hp.below hk0
  have hK0 : ∀ i, (w.alloc (.cells #[.string r.1, .string r.2] 29)).heap.size ≤ i → K i := fun i hi => hK i (Nat.le_trans hk0.size hi)
  have hat := at_kid q4 hp0 (by omega) (by omega) r.1
  have hpf := putK_at (fun t => putT h t r) hg
  have hok := (k3 _ (List.mem_of_getElem? hg)).1
  have hcount := putT_ok h _ r hok
  have hlen := put_flat_len h _ r hok
  have hall := flatL_at hg
  have hjn : placeT h ks r.1 < n := by omega
  rw [hpf]
  have hft := flatT_mem (List.mem_of_getElem? hg)
  obtain ⟨b2, o2, bt2, rfl, hc2, hd2, ht2⟩ := hp0.at_ hg
  have hput := fun (W : World) (k : Below (w.alloc (.cells #[.string r.1, .string r.2] 29)).heap.size (w.alloc (.cells #[.string r.1, .string r.2] 29)) W) => ih W K bt2 _ r (ht2.below k) hok (Nat.le_trans hft hf) (by omega) (fun i hi => hK0 i (Nat.le_trans k.size hi))
  have hm := fun n => m_put h n bt2
  have hcf := c_put h
  rw [hall, List.length_append, List.length_append] at hf
  generalize ks[placeT h ks r.1] = t at *
  have hps : (flatL h (ks.take (placeT h ks r.1) ++ putT h t r ++ ks.drop (placeT h ks r.1 + 1))).length ≤ 10001 := by
    rw [flatL_append, flatL_append, List.length_append, List.length_append]; omega
  have hl : (ks.take (placeT h ks r.1) ++ putT h t r ++ ks.drop (placeT h ks r.1 + 1)).length + 1 = n + (putT h t r).length := by
    rw [List.length_append, List.length_append, List.length_take, List.length_drop]; omega
  have hps1 := hcount.2.1
  have hps2 := hcount.2.2.1
  generalize putT h t r = ps at *
  generalize placeT h ks r.1 = j at *
  have HAT := Lib.hid hat
  have HP0 := Lib.hid hp0
  have HK := Lib.hid hK0
  have HPUT := Lib.hid hput
  have HPS := Lib.hid hps
  have HL := Lib.hid hl
  have HK1 := Lib.hid hk0
  obtain ⟨k, v⟩ := r
  simp only at *
  have hbA : bt < (w.alloc (.cells #[.string k, .string v] 29)).heap.size := Nat.lt_of_lt_of_le hbt hk0.size
  clear a hp hpf hok hcount hlen hall hft hput hps hl hd2 ht2 hat hp0 hK0 hg hj hf k3 hk0 hB hK hc4
  go_enter Try.func76, Try.ntmps76
  go_wp2_with fail
  generalize w.alloc (.cells #[.string k, .string v] 29) = wA at *
  refine HAT.out.mono ?_
  rintro e w1 ⟨rfl, rfl⟩
  go_wp2_with fail
  go_region_with (first | (go_at_call 79; refine (inners_ HP3.out hl3.1 hl3.2 (Nat.le_trans HPS.out (by omega)) (by omega) (fun i hi => HK.out i (Nat.le_trans HB3.out.size hi))).mono ?_; rintro e w4 ⟨v4, rfl, hn4⟩; have HN4 := Lib.hid (hn4.of_below HB3.out); clear hn4) | (go_at_call 78; refine (with_ (q := j) (d := 1) ((cell_of_heap (HB2.out.block bt hbA) 4).trans q4) (HP0.out.below HB2.out) HP2.out (by omega) (by omega) (by omega) (fun i hi => HK.out i (Nat.le_trans HB2.out.size hi))).mono ?_; rintro e w3 ⟨_, rfl, A3, n3, c3, vs3, rfl, hp3, hb3⟩; have hl3 : 0 < n3 ∧ n3 ≤ 10000 := (by have := hp3.count; have := HL.out; omega); have HB3 := Lib.hid (HB2.out.trans (hb3.mono HB2.out.size)); have HP3 := Lib.hid hp3; clear hp3 hb3) | (guard_target =~ Calls _ (fnPut h) _ _ _; refine (HPUT.out _ (Below.refl _ _).drew).mono ?_; rintro e w2 ⟨_, rfl, A2, n2, c2, vs2, rfl, hp2, hb2⟩; have hl2 : n2 ≤ 2 := (by have := hp2.count; omega); have HB2 := Lib.hid ((Below.refl wA.heap.size wA).drew.trans hb2); have HP2 := Lib.hid hp2; clear hp2 hb2))
  all_goals
    go_wp2_with fail
    go_ret
    exact ⟨v4, rfl, HN4.out.of_below HK1.out⟩
theorem put_part : ∀ h, PutSpec h
  | 0 => put_zero
  | h + 1 => fun _ _ _ ks r a ok hf hh hK => inner_put (put_part h) (ks := ks) r a ok.1 ok.2.1 ok.2.2 hf (by omega) hK
end Go.Proofs.Ytocaaebmelhhnaa
