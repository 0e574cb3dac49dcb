/- All of a part. -/
import Derived.Test.YtmlifmeimhbmgaaTreeT
import Derived.Deep.LoopGhost
namespace Go.Proofs.Ytmlifmeimhbmgaa
open Go.RowKit
theorem keep_of_base {base : Nat} {w w' : World} (hk : Below base w w') : Keep (fun i _ => i < base) w w' := ⟨hk.os, hk.tape, hk.output, hk.size, fun i _ ho h => (hk.block i h).trans ho⟩
def AllSpec (h : Nat) : Prop := ∀ (w : World) (base bt n : Nat) (t : Tr h) (v : Value) (ys : List Rw), OkT h t → TrAt h w (fun i => i < base) (.iface (tyT h) (.pointer (some ⟨bt, 0, none⟩))) t → w.ownsRow base 29 2 v n (cellsR ys) → base ≤ w.heap.size → n + (flatT h t).length ≤ 100000 →
  Calls Try.prog (fnAll h) #[.pointer (some ⟨bt, 0, none⟩), v] w fun e w' => ∃ u, e = .returned u ∧ AllP base w (n + (flatT h t).length) (ys ++ flatT h t) u w'
theorem all_zero : AllSpec 0 := fun _ _ _ _ _ _ _ _ a ho hb hs => leaf_all a ho hb hs
def AllRel (h : Nat) (w : World) (base n m : Nat) (ks : List (Tr h)) (ys : List Rw) (k : Nat) (v i : Value) (wr : World) : Prop :=
  ∃ j, j + k = m ∧ i = .int .i64 (j : Int) ∧ AllP base w (n + (flatL h (ks.take j)).length) (ys ++ flatL h (ks.take j)) v wr
set_option maxHeartbeats 1000000 in
theorem inner_all {h : Nat} (ih : AllSpec h) {w : World} {base bt n : Nat} {ks : List (Tr h)} {v : Value} {ys : List Rw} (a : TrAt (h + 1) w (fun i => i < base) (.iface 66 (.pointer (some ⟨bt, 0, none⟩))) ks) (ho : w.ownsRow base 29 2 v n (cellsR ys)) (hb : base ≤ w.heap.size) (hs : n + (flatL h ks).length ≤ 100000) (hm : ks.length ≤ 1000) (k3 : ∀ t ∈ ks, OkT h t) :
    Calls Try.prog 63 #[.pointer (some ⟨bt, 0, none⟩), v] w fun e w' => ∃ u, e = .returned u ∧ AllP base w (n + (flatL h ks).length) (ys ++ flatL h ks) u w' := by
  obtain ⟨A, m, c, vs, hc4, hp⟩ := a.kids
  have hc := hp.count
  have H := Lib.hid hp
  have HC := Lib.hid hc
  have HO := Lib.hid ho
  have HS := Lib.hid hs
  have hmm : m ≤ 1000 := by omega
  clear a ho hp hc hs
  go_enter Try.func63, Try.ntmps63
  go_wp2_with fail
  go_loopg [1, 12] m (fun k v i wr => AllRel h w base n m ks ys k v i wr)
  case atStart => exact ⟨0, by omega, rfl, by simpa [flatL] using HO.out, Below.refl _ _⟩
  case round =>
    obtain ⟨j, hj, rfl, ho1, hk1⟩ := hrel
    have HJ := Lib.hid hj
    have HO1 := Lib.hid ho1
    have HK1 := Lib.hid hk1
    clear hj ho1 hk1
    by_cases hlt : j < m
    · have hg : ks[j]? = some (ks[j]'(by have := HC.out; omega)) := List.getElem?_eq_getElem _
      have hpj : PsAt h wr (fun i => i < base) A m c vs ks := by
        have k := keep_of_base HK1.out
        exact ⟨H.out.vls.keep k, H.out.len, H.out.cap, H.out.none, H.out.kids.mono fun _ _ q => q.keep k⟩
      obtain ⟨b2, o2, bt2, rfl, hc2, _, ht2⟩ := hpj.at_ hg
      have hs := flatL_succ hg
      have hle := flatL_length_take ks (j + 1)
      have hl2 : (flatL h (ks.take (j + 1))).length = (flatL h (ks.take j)).length + (flatT h (ks[j]'(by have := HC.out; omega))).length := by rw [hs, List.length_append]
      have hcall := ih wr base bt2 _ _ _ _ (k3 _ (List.mem_of_getElem? hg)) ht2 HO1.out (Nat.le_trans hb HK1.out.size) (by have := HS.out; omega)
      rw [List.append_assoc, ← hs, Nat.add_assoc, ← hl2] at hcall
      have HCALL := Lib.hid hcall
      have hm := fun n => m_all h n bt2
      have hcf := c_all h
      clear hpj ht2 hs hle hl2 hcall hg
      go_wp2_with fail
      refine HCALL.out.mono ?_
      rintro e w2 ⟨u2, rfl, ho2, hk2⟩
      have HO2 := Lib.hid ho2
      have HK2 := Lib.hid (HK1.out.trans hk2)
      clear ho2 hk2
      go_wp2_with fail
      go_roundg (m - (j + 1))
      case measure => have := HJ.out; omega
      case rel => exact ⟨j + 1, by omega, by go_num, HO2.out, HK2.out⟩
    · have he : j = m := by have := HJ.out; omega
      subst he
      have hall : ks.take j = ks := List.take_of_length_le (by rw [HC.out]; exact Nat.le_refl _)
      have ho2 := HO1.out
      rw [hall] at ho2
      have HO2 := Lib.hid ho2
      clear ho2 hall
      go_wp2_with fail
      go_ret
      exact ⟨_, rfl, HO2.out, HK1.out⟩
theorem all_part : ∀ h, AllSpec h
  | 0 => all_zero
  | h + 1 => fun _ _ _ _ ks _ _ ok a ho hb hs => inner_all (all_part h) (ks := ks) a ho hb hs (Nat.le_trans ok.2.1 (by omega)) (fun t ht => (ok.2.2 t ht).1)
end Go.Proofs.Ytmlifmeimhbmgaa
