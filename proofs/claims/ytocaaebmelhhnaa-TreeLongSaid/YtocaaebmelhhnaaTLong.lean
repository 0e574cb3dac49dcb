/- TreeLong, walked. -/
import Derived.Test.YtocaaebmelhhnaaTreeAl
import Derived.Test.YtocaaebmelhhnaaRefC
import Derived.Test.YtocaaebmelhhnaaRowU
import Derived.Test.YtocaaebmelhhnaaTArr
set_option maxRecDepth 4000
namespace Go.Proofs.Ytocaaebmelhhnaa
open Go.RowKit
/-- what the law knows of a world: the tree's rows, and which keys they have -/
structure QW (w : World) (bt bh : Nat) (L : List Rw) (wr : World) : Prop where
  bel : Below w.heap.size w wr
  ge : w.heap.size ≤ bt
  geh : w.heap.size ≤ bh
  ne : bt ≠ bh
  tree : Tree wr (fun i => i ≠ bt ∧ i ≠ bh) bt L
  arr : ∃ cs, Blk wr bh 45 cs ∧ Marks cs L
  keys : ∀ r ∈ L, r.1.size ≤ 3
section
variable {w wr w' : World} {bt bh : Nat} {L L' : List Rw}
theorem QW.next (h : QW w bt bh L wr) (k : Below wr.heap.size wr w') : QW w bt bh L w' := by
  obtain ⟨cs, hb, hm⟩ := h.arr
  exact ⟨h.bel.trans (k.mono h.bel.size), h.ge, h.geh, h.ne, h.tree.below k, ⟨cs, hb.below k hb.lt, hm⟩, h.keys⟩
theorem QW.fresh (h : QW w bt bh L wr) : ∀ i, wr.heap.size ≤ i → i ≠ bt ∧ i ≠ bh := fun i hi => by
  obtain ⟨cs, hb, _⟩ := h.arr
  have := h.tree.lt; have := hb.lt
  constructor <;> omega
/-- the tree has turned, and of the keys one -/
theorem QW.turn (h : QW w bt bh L wr) (ht : Tree w' (fun i => i ≠ bt ∧ i ≠ bh) bt L') (k : Keep (fun i _ => i ≠ bt) wr w') (q : Nat) (u : Bool) (hm : ∀ cs, Marks cs L → Marks (cs.setIfInBounds q (.bool u)) L') (hk : ∀ r ∈ L', r.1.size ≤ 3) :
    (∃ cs, Blk w' bh 45 cs ∧ Marks cs L) ∧ QW w bt bh L' (w'.setCell ⟨bh, q, none⟩ (.bool u)) := by
  obtain ⟨cs, hb, hc⟩ := h.arr
  have hb' := hb.keep k (fun e => h.ne e.symm)
  have hk2 : Keep (fun i _ => i ≠ bh) w' (w'.setCell ⟨bh, q, none⟩ (.bool u)) := (Keep.refl w').setCell (fun _ _ e => e rfl) _
  have hw' : Below w.heap.size w w' := h.bel.trans (k.below h.bel.size fun i _ hi e => by have := h.ge; omega)
  refine ⟨⟨cs, hb', hc⟩, ?_, h.ge, h.geh, h.ne, ?_, ⟨_, hb'.set_ q _, hm cs hc⟩, hk⟩
  · exact hw'.trans (hk2.below hw'.size fun i _ hi e => by have := h.geh; omega)
  · exact ht.keep hk2 h.ne fun i hi => hi.2
end
def LongA (w : World) (bt bh n : Nat) (k : Nat) (v i : Value) (wr : World) : Prop :=
  ∃ j L, j + k = n ∧ i = .int .i64 (j : Int) ∧ v = .int .i64 (L.length : Nat) ∧ L.length ≤ j ∧ QW w bt bh L wr
def LongB (w : World) (bt bh cut : Nat) (k : Nat) (v i : Value) (wr : World) : Prop :=
  ∃ j L, j + k = cut ∧ i = .int .i64 (j : Int) ∧ v = .int .i64 (L.length : Nat) ∧ L.length ≤ 700 ∧ QW w bt bh L wr
theorem step_num {j s : Nat} (hj : j ≤ 700) (hs : s ≤ 700) : ∃ q : Nat, q < 8000 ∧ (wrap64 ((j : Int) * (s : Int))).tmod 8000 = (q : Int) := by
  have h : j * s ≤ 700 * 700 := Nat.mul_le_mul hj hs
  refine ⟨j * s % 8000, Nat.mod_lt _ (by omega), ?_⟩
  rw [← Int.natCast_mul]
  have e : wrap64 ((j * s : Nat) : Int) = ((j * s : Nat) : Int) := by unfold wrap64; omega
  rw [e, Int.tmod_eq_emod_of_nonneg (by omega)]; omega
set_option maxRecDepth 8000 in
set_option maxHeartbeats 4000000 in
theorem treeLongN (n step cut : Nat) (w : World) (hn1 : 1 ≤ n) (hn2 : n ≤ 700) (hs1 : 1 ≤ step) (hs2 : step ≤ 700) (hc2 : cut ≤ n) :
    Calls Try.prog 4 #[.int .i64 (n : Int), .int .i64 (step : Int), .int .i64 (cut : Int)] w fun e w' => e = .returned (.bool true) ∧ Below w.heap.size w w' := by
  have hz8 := zero8k
  obtain ⟨Z, hZ⟩ : ∃ Z, Array.replicate 8000 (Value.bool false) = Z := ⟨_, rfl⟩
  have hm0 := marks_nil
  rw [hZ] at hz8 hm0
  have HM0 := Lib.hid hm0
  clear hZ hm0
  go_enter Try.func4, Try.ntmps4
  go_wp2_with fail
  refine (alive_ _).mono ?_
  rintro e w1 ⟨rfl, hb1⟩
  have HB1 := Lib.hid hb1
  clear hb1
  go_wp2_with fail
  refine (new_tree (Rws.nil w1 (fun _ => True) none) rfl (Nat.zero_le _)).mono ?_
  rintro e w2 ⟨rfl, ht2, hb2⟩
  have hbn := Blk.new w2 45 Z
  have hal := alloc_below w2 (.cells Z 45)
  have hlt2 := ht2.lt
  have hQ0 : QW w w1.heap.size w2.heap.size [] (w2.alloc (.cells Z 45)) :=
    ⟨HB1.out.trans ((hb2.mono HB1.out.size).trans (hal.mono (Nat.le_trans HB1.out.size hb2.size))), HB1.out.size, Nat.le_trans HB1.out.size hb2.size, by omega,
      (ht2.more (K' := fun i => i ≠ w1.heap.size ∧ i ≠ w2.heap.size) (fun i hi h => ⟨h, by omega⟩) (fun h => h.1 rfl)).below hal, ⟨Z, hbn, HM0.out⟩, fun r hr => by cases hr⟩
  have HQ0 := Lib.hid hQ0
  clear hbn hal hQ0 ht2 hb2 HM0
  go_wp2_with fail
  generalize w2.alloc (.cells Z 45) = w3 at *
  generalize w1.heap.size = bt at *
  generalize w2.heap.size = bh at *
  clear hz8 hlt2
  clear Z
  go_loopg [10, 11] n (fun k v i wr => LongA w bt bh n k v i wr)
  case atStart => exact ⟨0, [], by omega, rfl, rfl, Nat.le_refl _, HQ0.out⟩
  case round =>
    obtain ⟨j, L, hj, rfl, rfl, hle, hq⟩ := hrel
    have HJ := Lib.hid hj
    have HQ := Lib.hid hq
    clear hj hq
    by_cases hlt : j < n
    · obtain ⟨q, hq, hqe⟩ := step_num (j := j) (s := step) (by omega) hs2
      have HQE := Lib.hid hqe
      have hnew : ∀ r ∈ putR L (keyB q, ⟨#[118]⟩), r.1.size ≤ 3 := fun r hr => by
        rcases (mem_put HQ.out.tree.up _ _).1 hr with h | ⟨h, _⟩
        · rw [h]; exact Nat.le_of_eq (keyB_size q)
        · exact HQ.out.keys r h
      have HNEW := Lib.hid hnew
      clear hnew hqe
      go_wp2_with fail
      rw [HQE.out]
      refine (key_ q hq _).mono ?_
      rintro e w4 ⟨rfl, m4, rfl⟩
      have HQ1 := Lib.hid (HQ.out.next (below_drewN (Below.refl _ _) m4))
      have hpt := put_tree HQ1.out.tree (by omega) HQ1.out.fresh (keyB q, ⟨#[118]⟩)
      obtain ⟨fd, hfd⟩ : ∃ fd, foundR L (keyB q) = fd := ⟨_, rfl⟩
      have hpl := put_len L (keyB q, ⟨#[118]⟩)
      simp only at hpt
      rw [hfd] at hpt hpl
      have HPT := Lib.hid hpt
      have HPL := Lib.hid hpl
      clear hpt hpl
      generalize wr.drewN m4 = w4 at *
      go_wp2_with fail
      refine HPT.out.mono ?_
      rintro e w5 ⟨rfl, ht5, hk5⟩
      obtain ⟨⟨cs, hb5, hm5⟩, hq5⟩ := HQ1.out.turn ht5 hk5 q true (fun cs hm => hm.put HQ1.out.tree.up hq _) HNEW.out
      have hc5 := (hb5.cell q).trans (hm5.2 q hq)
      have hf5 := hb5.frozen q
      rw [hfd] at hc5
      have HQ5 := Lib.hid hq5
      clear ht5 hk5 hb5 hm5 hq5
      cases fd
      · have HLN : Hid ((L.length : Int) + 1 = ((putR L (keyB q, ⟨#[118]⟩)).length : Nat)) := by have := HPL.out; show _ = _; simp at this; omega
        have HLJ : Hid ((putR L (keyB q, ⟨#[118]⟩)).length ≤ j + 1) := by have := HPL.out; show _ ≤ _; simp at this; omega
        go_wp2_with fail
        go_roundg (n - (j + 1))
        case measure => have := HJ.out; omega
        case rel => exact ⟨j + 1, _, by omega, by go_num, by rw [HLN.out], HLJ.out, HQ5.out⟩
      · have HLN : Hid ((L.length : Int) = ((putR L (keyB q, ⟨#[118]⟩)).length : Nat)) := by have := HPL.out; show _ = _; simp at this; omega
        have HLJ : Hid ((putR L (keyB q, ⟨#[118]⟩)).length ≤ j + 1) := by have := HPL.out; show _ ≤ _; simp at this; omega
        go_wp2_with fail
        go_roundg (n - (j + 1))
        case measure => have := HJ.out; omega
        case rel => exact ⟨j + 1, _, by omega, by go_num, by rw [HLN.out], HLJ.out, HQ5.out⟩
    · have HQN := HQ
      have hjn : ¬ ((j : Int) < (n : Int)) := by omega
      have hln : L.length ≤ 700 := by have := HJ.out; omega
      clear HQ HJ
      clear hlt hle
      go_wp2_with fail
      go_loopg [10, 14] cut (fun k v i wr => LongB w bt bh cut k v i wr)
      case atStart => exact ⟨0, L, by omega, rfl, rfl, hln, HQN.out⟩
      case round =>
        clear HQN hln hjn
        obtain ⟨j, L, hj, rfl, rfl, hle, hq⟩ := hrel
        have HJ := Lib.hid hj
        have HQ := Lib.hid hq
        clear hj hq
        by_cases hlt : j < cut
        · obtain ⟨q, hq, hqe⟩ := step_num (j := j) (s := step) (by omega) hs2
          have HQE := Lib.hid hqe
          have hnew : ∀ r ∈ cutRw L (keyB q), r.1.size ≤ 3 := fun r hr => HQ.out.keys r ((mem_cut HQ.out.tree.up _ _).1 hr).1
          have HNEW := Lib.hid hnew
          clear hnew hqe
          go_wp2_with fail
          rw [HQE.out]
          refine (key_ q hq _).mono ?_
          rintro e w4 ⟨rfl, m4, rfl⟩
          have HQ1 := Lib.hid (HQ.out.next (below_drewN (Below.refl _ _) m4))
          have hpt := cut_tree HQ1.out.tree (by omega) HQ1.out.fresh (keyB q)
          obtain ⟨fd, hfd⟩ : ∃ fd, foundR L (keyB q) = fd := ⟨_, rfl⟩
          have hpl := cut_len L (keyB q)
          rw [hfd] at hpt hpl
          have HPT := Lib.hid hpt
          have HPL := Lib.hid hpl
          clear hpt hpl
          generalize wr.drewN m4 = w4 at *
          go_wp2_with fail
          refine HPT.out.mono ?_
          rintro e w5 ⟨rfl, ht5, hk5⟩
          obtain ⟨⟨cs, hb5, hm5⟩, hq5⟩ := HQ1.out.turn ht5 hk5 q false (fun cs hm => hm.cut HQ1.out.tree.up hq) HNEW.out
          have hc5 := (hb5.cell q).trans (hm5.2 q hq)
          have hf5 := hb5.frozen q
          rw [hfd] at hc5
          have HQ5 := Lib.hid hq5
          clear ht5 hk5 hb5 hm5 hq5
          cases fd
          · have HLN : Hid ((L.length : Int) = ((cutRw L (keyB q)).length : Nat)) := by have := HPL.out; show _ = _; simp at this; omega
            have HLJ : Hid ((cutRw L (keyB q)).length ≤ 700) := by have := HPL.out; show _ ≤ _; simp at this; omega
            go_wp2_with fail
            go_roundg (cut - (j + 1))
            case measure => have := HJ.out; omega
            case rel => exact ⟨j + 1, _, by omega, by go_num, by rw [HLN.out], HLJ.out, HQ5.out⟩
          · have hf0 := foundR_lt hfd
            have HLN : Hid ((L.length : Int) - 1 = ((cutRw L (keyB q)).length : Nat)) := by have := HPL.out; show _ = _; simp at this; omega
            have HLJ : Hid ((cutRw L (keyB q)).length ≤ 700) := by have := HPL.out; show _ ≤ _; simp at this; omega
            go_wp2_with fail
            go_roundg (cut - (j + 1))
            case measure => have := HJ.out; omega
            case rel => exact ⟨j + 1, _, by omega, by go_num, by rw [HLN.out], HLJ.out, HQ5.out⟩
        · have hjn : ¬ ((j : Int) < (cut : Int)) := by omega
          have hcall := all_tree HQ.out.tree (by omega) HQ.out.fresh
          obtain ⟨z, hz⟩ : ∃ z, L.length = z := ⟨_, rfl⟩
          rw [hz] at hcall
          have HCALL := Lib.hid hcall
          have HZ := Lib.hid hz
          clear hcall
          rw [hz] at hle ⊢
          clear hz
          go_wp2_with fail
          refine HCALL.out.mono ?_
          rintro e w5 ⟨A6, c6, rfl, hr6, _, _, hb5⟩
          have HQ1 := Lib.hid (HQ.out.next hb5)
          have R6 := Lib.hid hr6
          clear hr6 hb5
          have hlen := len_tree HQ1.out.tree HQ1.out.fresh
          rw [HZ.out] at hlen
          have HLEN := Lib.hid hlen
          clear hlen
          go_wp2_with fail
          refine HLEN.out.mono ?_
          rintro e w6 ⟨rfl, hb6⟩
          have HQ2 := Lib.hid (HQ1.out.next hb6)
          have R7 := Lib.hid (R6.out.below hb6)
          clear hb6
          have hri := rises_ R7.out HZ.out (by omega) (fun r hr => Nat.le_trans (HQ2.out.keys r hr) (by decide)) (c := c6)
          rw [up_rises HQ2.out.tree.up] at hri
          have HRI := Lib.hid hri
          clear hri
          go_wp2_with fail
          refine HRI.out.mono ?_
          rintro e w7 ⟨rfl, hb7⟩
          have HQ3 := Lib.hid (HQ2.out.next hb7)
          clear hb7
          have hht := height_tree HQ3.out.tree (by have := HZ.out; omega) HQ3.out.fresh
          rw [HZ.out] at hht
          have HHT := Lib.hid hht
          clear hht
          go_wp2_with fail
          refine HHT.out.mono ?_
          rintro e w8 ⟨m8, rfl, h81, h82, h83, _, hb8⟩
          have HQ4 := Lib.hid (HQ3.out.next hb8)
          have htl := tall_ z (by omega)
          obtain ⟨y, hy⟩ : ∃ y, thirds z + 2 = y := ⟨_, rfl⟩
          rw [hy] at htl h82
          have HTL := Lib.hid htl
          have hnt : (m8 : Int) ≤ (y : Int) := by omega
          clear hb8 htl hy h82
          go_wp2_with fail
          refine (HTL.out _).mono ?_
          rintro e w9 ⟨rfl, rfl⟩
          go_wp2_with fail
          go_ret
          exact ⟨rfl, HQ4.out.bel⟩
theorem treeLong (n step cut : Int) (w : World) (ln : -9223372036854775808 ≤ n) (hn : n ≤ 9223372036854775807) (ls : -9223372036854775808 ≤ step) (hs : step ≤ 9223372036854775807) (lc : -9223372036854775808 ≤ cut) (hc : cut ≤ 9223372036854775807) :
    Calls Try.prog 4 #[.int .i64 n, .int .i64 step, .int .i64 cut] w fun e w' => e = .returned (.bool true) ∧ Below w.heap.size w w' := by
  by_cases hg : 1 ≤ n ∧ n ≤ 700 ∧ 1 ≤ step ∧ step ≤ 700 ∧ 0 ≤ cut ∧ cut ≤ n
  · have := treeLongN n.toNat step.toNat cut.toNat w (by omega) (by omega) (by omega) (by omega) (by omega)
    rw [Int.toNat_of_nonneg (by omega), Int.toNat_of_nonneg (by omega), Int.toNat_of_nonneg (by omega)] at this
    exact this
  · go_enter Try.func4, Try.ntmps4
    go_wp2_with fail
    refine (alive_ _).mono ?_
    rintro e w1 ⟨rfl, hb1⟩
    have HB1 := Lib.hid hb1
    clear hb1
    go_wp2_with fail
    all_goals (go_ret; exact ⟨rfl, HB1.out⟩)
end Go.Proofs.Ytocaaebmelhhnaa
