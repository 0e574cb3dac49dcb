/- A new inner part. -/
import Derived.Test.YtocaaebmelhhnaaTreeS
import Derived.LoopTactic
import Derived.Deep.LoopGhost
import Derived.Deep.RegionWith
import Derived.StillTailTactics
set_option maxRecDepth 4000
namespace Go.Proofs.Ytocaaebmelhhnaa
open Go.RowKit
/-- the new part, its rows told of the first j kids -/
def InRel (h : Nat) (w : World) (n c : Nat) (A : Option Addr) (ks : List (Tr h)) (k : Nat) (i : Value) (wr : World) : Prop :=
  ∃ j, j + k = n ∧ i = .int .i64 (j : Int) ∧ Blk wr w.heap.size 85 #[.string (leastK (leastT h) ks), .int .i64 n, .int .i64 ((flatL h (ks.take j)).length : Nat), .int .i64 ((h + 1 + 1 : Nat)), .slice A n c] ∧ Below w.heap.size w wr
set_option maxHeartbeats 1000000 in
theorem newInner_ {h : Nat} {w : World} {K : Nat → Prop} {A : Option Addr} {n c : Nat} {vs : List Value} {ks : List (Tr h)} (hp : PsAt h w K A n c vs ks) (h0 : 0 < n) (hn : n ≤ 100000) (hf : (flatL h ks).length ≤ 1000000) (hh : h ≤ 1000000) (hK : ∀ i, w.heap.size ≤ i → K i) :
    Calls Try.prog 35 #[.slice A n c] w fun e w' => ∃ b, e = .returned (.pointer (some ⟨b, 0, none⟩)) ∧ TrAt (h + 1) w' K (.iface 79 (.pointer (some ⟨b, 0, none⟩))) ks ∧ Below w.heap.size w w' := by
  have H := Lib.hid hp
  have HK := Lib.hid hK
  have HF := Lib.hid hf
  have hc := hp.count
  have HC := Lib.hid hc
  have h00 : 0 < ks.length := by omega
  have hg : ks[0]? = some ks[0] := List.getElem?_eq_getElem h00
  obtain ⟨b, o, bt, rfl, hc0, hd, _⟩ := hp.at_ hg
  have hll : leastT h ks[0] = leastK (leastT h) ks := by cases ks with
    | nil => simp at h00
    | cons => rfl
  have F := Lib.hid fun (W : World) (k : Below w.heap.size w W) => first_ (hd.keep (Keep.of_below k))
  have G := Lib.hid fun (W : World) (k : Below w.heap.size w W) => height_ (hd.keep (Keep.of_below k))
  have hm1 := fun n => m_first h n bt
  have hm2 := fun n => m_height h n bt
  rw [hll] at F
  simp only [Nat.add_zero] at hc0
  clear hp hK hf hc hg hll hd
  obtain ⟨ls, hls⟩ : ∃ ls, leastK (leastT h) ks = ls := ⟨_, rfl⟩
  rw [hls] at F
  have LS := Lib.hid hls.symm
  clear hls
  go_enter Try.func35, Try.ntmps35
  go_wp2_with fail
  have hlv : IntKind.i64.wrap ((h : Int) + 1 + 1) = ((h + 1 + 1 : Nat) : Int) := by rw [IntKind.wrap_i64]; omega
  refine wp_region_still_tail 14 (by kernel_rfl) (by kernel_rfl) ?_
  simp only [List.take_succ_cons, List.take_zero, List.drop_succ_cons, List.drop_zero]
  repeat still_step
  still_call (still_of (F.out _ (Below.refl _ _).drew))
  repeat still_step
  still_call (still_of (G.out _ (Below.refl _ _).drew))
  repeat still_step
  refine wpStill_nil ?_
  go_wp2_with fail
  go_loopg [23] n (fun k i wr => InRel h w n c (some ⟨b, o, none⟩) ks k i wr)
  case atStart =>
    refine ⟨0, by omega, rfl, ?_, (Below.refl _ _).drew.alloc (Nat.le_refl _) _⟩
    rw [show ((h + 1 + 1 : Nat) : Int) = (h : Int) + 1 + 1 by omega, ← LS.out]
    exact (Blk.new _ _ _).drew
  case round =>
    obtain ⟨j, hj, rfl, hb, hk⟩ := hrel
    have HJ := Lib.hid hj
    have HB := Lib.hid hb
    have HKK := Lib.hid hk
    clear hj hb hk
    by_cases hlt : j < n
    · have hg : ks[j]? = some (ks[j]'(by have := HC.out; omega)) := List.getElem?_eq_getElem _
      obtain ⟨b2, o2, bt2, e2, hc2, hd2, _⟩ := (H.out.below HKK.out).at_ hg
      cases e2
      have hs := flatL_succ hg
      have hle := flatL_length_take ks (j + 1)
      have hr := fun (W : World) (k : Below wr.heap.size wr W) => rows_ (hd2.keep (Keep.of_below k))
      have hm3 := fun n => m_rows h n bt2
      rw [hs, List.length_append] at hle
      have hle2 : (flatL h (ks.take j)).length + (flatT h (ks[j]'(by have := HC.out; omega))).length ≤ 1000000 := Nat.le_trans hle HF.out
      have hn2 : (flatL h (ks.take (j + 1))).length = (flatL h (ks.take j)).length + (flatT h (ks[j]'(by have := HC.out; omega))).length := by rw [hs, List.length_append]
      have HN2 := Lib.hid hn2
      have HR := Lib.hid hr
      have hB2 := HB.out.cell 2
      have hF2 := HB.out.frozen 2
      clear hs hle hn2 hr hd2 hg
      generalize (flatT h (ks[j]'(by have := HC.out; omega))).length = m2 at *
      generalize (flatL h (ks.take j)).length = m1 at *
      simp only [List.getElem?_toArray, List.getElem?_cons_succ, List.getElem?_cons_zero] at hB2
      go_wp2_with fail
      refine wp_region_still_tail 11 (by kernel_rfl) (by kernel_rfl) ?_
      simp only [List.take_succ_cons, List.take_zero, List.drop_succ_cons, List.drop_zero]
      repeat still_step
      still_call (still_of (HR.out _ (Below.refl _ _).drew))
      repeat still_step
      refine wpStill_nil ?_
      go_wp2_with fail
      go_roundg (n - (j + 1))
      case measure => have := HJ.out; omega
      case rel =>
        refine ⟨j + 1, by omega, by go_num, ?_, ?_⟩
        · have := (HB.out.set_ 2 (.int .i64 (m1 + m2 : Nat))).drew
          rw [HN2.out]
          simpa using this
        · exact (HKK.out.setCell (Nat.le_refl _) _).drew
    · have he : j = n := by have := HJ.out; omega
      subst he
      go_wp2_with fail
      go_ret
      refine ⟨_, rfl, inner_at (n := j) ?_ (HK.out _ (Nat.le_refl _)) (H.out.below HKK.out), HKK.out⟩
      have := HB.out
      rw [List.take_of_length_le (by rw [HC.out]; exact Nat.le_refl _)] at this
      exact this
end Go.Proofs.Ytocaaebmelhhnaa
