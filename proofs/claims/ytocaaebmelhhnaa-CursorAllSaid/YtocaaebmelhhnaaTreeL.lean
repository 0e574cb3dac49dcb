/- The calls of a leaf. -/
import Derived.Test.YtocaaebmelhhnaaTreeH
import Derived.StillTailTactics
import Derived.Deep.RegionWith
set_option maxRecDepth 4000
namespace Go.Proofs.Ytocaaebmelhhnaa
open Go.RowKit
/-- the rows of a leaf -/
theorem TrAt.leaf {w : World} {K : Nat → Prop} {bt : Nat} {T : Nat} {xs : List Rw} (a : TrAt 0 w K (.iface T (.pointer (some ⟨bt, 0, none⟩))) xs) :
    ∃ A n c, w.cell? ⟨bt, 4, none⟩ = some (.slice A n c) ∧ Rws w K A xs ∧ xs.length = n ∧ n ≤ c ∧ (A = none → c = 0) := by
  obtain ⟨b, A, n, c, hd, hc, h⟩ := a
  have e := hd.val
  cases e
  exact ⟨A, n, c, hc, h⟩
set_option maxHeartbeats 1000000 in
theorem leaf_put {w : World} {K : Nat → Prop} {bt : Nat} {T : Nat} {xs : List Rw} (a : TrAt 0 w K (.iface T (.pointer (some ⟨bt, 0, none⟩))) xs) (r : Rw) (hn : xs.length ≤ 1000) (hK : ∀ i, w.heap.size ≤ i → K i) :
    Calls Try.prog 58 #[.pointer (some ⟨bt, 0, none⟩), .agg #[.string r.1, .string r.2]] w fun e w' => ∃ v, e = .returned v ∧ NewP 0 w K (halve (putR xs r)) v w' := by
  obtain ⟨A, n, c, hc4, hr, hl, hnc, hA⟩ := a.leaf
  have hbt := block_of_cell hc4
  have hk0 := alloc_below w (.cells #[.string r.1, .string r.2] 29)
  have hpl := put_len xs r
  have hp := put_row (hr.below hk0).drew hl (by omega) hnc r
  have hp1 : (putR xs r).length ≤ 10000 := by rw [hpl]; split <;> omega
  have HP := Lib.hid hp
  have HK := Lib.hid hK
  have HP1 := Lib.hid hp1
  obtain ⟨k, v⟩ := r
  simp only at HP HP1 hk0
  have hB := Blk.new w 29 #[.string k, .string v]
  have q0 := hB.cell 0
  have q1 := hB.cell 1
  simp only [List.getElem?_toArray, List.getElem?_cons_succ, List.getElem?_cons_zero] at q0 q1
  have q4 := (cell_of_heap (hk0.block bt hbt) 4).trans hc4
  clear a hr hl hA hK hpl hp hp1 hB hc4
  go_enter Try.func58, Try.ntmps58
  go_wp2_with fail
  generalize w.alloc (.cells #[.string k, .string v] 29) = wA at *
  refine wp_region_still_tail 5 (by kernel_rfl) (by kernel_rfl) ?_
  simp only [List.take_succ_cons, List.take_zero, List.drop_succ_cons, List.drop_zero]
  repeat still_step
  refine wpStill_nil ?_
  go_wp2_with fail
  refine HP.out.mono ?_
  rintro e w1 ⟨_, rfl, A1, c1, rfl, r1, p1, p2, p3, hb1⟩
  have hb := hk0.drew.trans (hb1.mono hk0.drew.size)
  have HB := Lib.hid hb
  have R1 := Lib.hid (r1.more fun i _ hi => HK.out i (Nat.le_trans hk0.drew.size hi))
  have P3 := Lib.hid p3
  clear r1 p3 hb1 hb hk0
  go_wp2_with fail
  refine (leaves_ R1.out rfl (by have := HP1.out; omega) p1 P3.out (fun i hi => HK.out i (Nat.le_trans HB.out.size hi))).mono ?_
  rintro e w2 ⟨v2, rfl, hn2⟩
  have HN2 := Lib.hid (hn2.of_below HB.out)
  clear hn2
  go_wp2_with fail
  go_ret
  exact ⟨v2, rfl, HN2.out⟩
set_option maxHeartbeats 1000000 in
theorem leaf_cut {w : World} {K : Nat → Prop} {bt : Nat} {T : Nat} {xs : List Rw} (a : TrAt 0 w K (.iface T (.pointer (some ⟨bt, 0, none⟩))) xs) (k : ByteArray) (hn : xs.length ≤ 1000) (hK : ∀ i, w.heap.size ≤ i → K i) :
    Calls Try.prog 51 #[.pointer (some ⟨bt, 0, none⟩), .string k] w fun e w' => ∃ b, e = .returned (.iface 77 (.pointer (some ⟨b, 0, none⟩))) ∧ TrAt 0 w' K (.iface 77 (.pointer (some ⟨b, 0, none⟩))) (cutRw xs k) ∧ Below w.heap.size w w' := by
  obtain ⟨A, n, c, hc4, hr, hl, hnc, hA⟩ := a.leaf
  have hbt := block_of_cell hc4
  have hp := cutrow_ hr hl (by omega) hnc hA k
  have hpl := cut_len xs k
  have hp1 : (cutRw xs k).length ≤ 10000 := by rw [hpl]; split <;> omega
  have HP := Lib.hid hp
  have HK := Lib.hid hK
  have HP1 := Lib.hid hp1
  clear a hr hl hA hK hpl hp hp1
  go_enter Try.func51, Try.ntmps51
  go_wp2_with fail
  refine HP.out.mono ?_
  rintro e w1 ⟨_, rfl, A1, c1, rfl, r1, p1, p2, p3, hb1⟩
  have HB := Lib.hid hb1
  have R1 := Lib.hid (r1.more fun i _ hi => HK.out i hi)
  have P3 := Lib.hid p3
  clear r1 p3 hb1
  go_wp2_with fail
  refine (newLeaf_ R1.out rfl (by have := HP1.out; omega) p1 P3.out (fun i hi => HK.out i (Nat.le_trans HB.out.size hi))).mono ?_
  rintro e w2 ⟨b2, rfl, ht2, hb2⟩
  have HT2 := Lib.hid ht2
  have HB2 := Lib.hid (HB.out.trans (hb2.mono HB.out.size))
  clear ht2 hb2
  go_wp2_with fail
  go_ret
  exact ⟨b2, rfl, HT2.out, HB2.out⟩
/-- the value of the row of a key -/
def valR (l : List Rw) (k : ByteArray) : ByteArray := if foundR l k then ((l[findR l k]?).map (·.2)).getD ⟨#[]⟩ else ⟨#[]⟩
set_option maxHeartbeats 1000000 in
theorem leaf_get {w : World} {K : Nat → Prop} {bt : Nat} {T : Nat} {xs : List Rw} (a : TrAt 0 w K (.iface T (.pointer (some ⟨bt, 0, none⟩))) xs) (k : ByteArray) (hn : xs.length ≤ 1000) :
    Calls Try.prog 54 #[.pointer (some ⟨bt, 0, none⟩), .string k] w fun e w' => e = .returned (.tuple #[.string (valR xs k), .bool (foundR xs k)]) ∧ w = w' := by
  obtain ⟨A, n, c, hc4, hr, hl, hnc, hA⟩ := a.leaf
  have hp := find_row (c := c) hr hl (by omega) k
  have HP := Lib.hid hp
  cases hf : foundR xs k
  · have hv : valR xs k = ⟨#[]⟩ := by rw [valR, hf]; rfl
    rw [hf] at HP
    rw [hv]
    clear a hr hl hA hp hf hv
    go_enter Try.func54, Try.ntmps54
    go_wp2_with fail
    refine HP.out.mono ?_
    rintro e w1 ⟨rfl, rfl⟩
    go_wp2_with fail
    go_ret2
    exact ⟨rfl, rfl⟩
  · have hlt := foundR_lt hf
    obtain ⟨b, o, rfl, hk1, hk2⟩ := hr.at_ hlt
    have hv : valR xs k = xs[findR xs k].2 := by rw [valR, hf, List.getElem?_eq_getElem hlt]; rfl
    have hlt2 : findR xs k < n := by omega
    rw [hf] at HP
    rw [hv]
    clear a hr hl hA hp hf hv hk1
    generalize xs[findR xs k].2 = val at *
    generalize findR xs k = q at *
    go_enter Try.func54, Try.ntmps54
    go_wp2_with fail
    refine HP.out.mono ?_
    rintro e w1 ⟨rfl, rfl⟩
    go_wp2_with fail
    go_ret2
    exact ⟨rfl, rfl⟩
end Go.Proofs.Ytocaaebmelhhnaa
