/- What a part hands over, from a key on: by height. -/
import Derived.Test.YtocaaebmelhhnaaFromW
set_option maxRecDepth 4000
namespace Go.Proofs.Ytocaaebmelhhnaa
open Go.RowKit
def FromSpec (l n₀ : Nat) (N : List Rw) (J Jx : List Rw → World → Prop) (h : Nat) : Prop := ∀ (w : World) (bt : Nat) (t : Tr h) (k : ByteArray) (pre : List Rw), OkT h t → TrAt h w (fun i => i < n₀) (.iface (tyT h) (.pointer (some ⟨bt, 0, none⟩))) t → n₀ ≤ w.heap.size → J pre w → pre ++ fromT h t k <+: N →
  Calls Try.prog (fnFrom h) #[.pointer (some ⟨bt, 0, none⟩), .string k, .func (.yield l) #[] #[]] w (FromE n₀ J Jx pre (fromT h t k) w)
theorem from_zero {l n₀ : Nat} {N : List Rw} {J Jx : List Rw → World → Prop} (R : Rounds l n₀ N J Jx) : FromSpec l n₀ N J Jx 0 := fun w bt xs k pre ok a h0 hJ hN => by
  obtain ⟨A, n, c, hc, hr, hl, hnc, _⟩ := a.leaf
  exact leaf_from R hc hr hl (by have : xs.length ≤ 6 := ok; omega) hnc h0 k hJ hN
def InnerRel (h n₀ m : Nat) (J : List Rw → World → Prop) (k : ByteArray) (pre : List Rw) (ks : List (Tr h)) (w : World) (g : Nat) (i : Value) (wr : World) : Prop :=
  ∃ j : Nat, j + g = m ∧ i = .int .i64 (j : Int) ∧ J (pre ++ fromL h (ks.take j) k) wr ∧ Below n₀ w wr
theorem fromL_take_succ {h : Nat} {ks : List (Tr h)} {j : Nat} {t : Tr h} (hj : ks[j]? = some t) (k : ByteArray) : fromL h (ks.take (j + 1)) k = fromL h (ks.take j) k ++ fromT h t k := by
  obtain ⟨hl, e⟩ := List.getElem?_eq_some_iff.1 hj
  rw [List.take_succ_eq_append_getElem hl, fromL_append, fromL_cons, fromL_nil, List.append_nil, e]
theorem fromL_take_le {h : Nat} (ks : List (Tr h)) (j : Nat) (k : ByteArray) : (fromL h (ks.take j) k).length ≤ (fromL h ks k).length := by
  conv => rhs; rw [← List.take_append_drop j ks, fromL_append, List.length_append]
  omega
theorem fromL_prefix {h : Nat} (ks : List (Tr h)) (j : Nat) (k : ByteArray) : fromL h (ks.take j) k <+: fromL h ks k := ⟨fromL h (ks.drop j) k, by rw [← fromL_append, List.take_append_drop]⟩
set_option maxHeartbeats 1000000 in
theorem inner_from {l n₀ h : Nat} {N : List Rw} {J Jx : List Rw → World → Prop} (R : Rounds l n₀ N J Jx) (ih : FromSpec l n₀ N J Jx h) {w : World} {bt : Nat} {ks : List (Tr h)} (a : TrAt (h + 1) w (fun i => i < n₀) (.iface 79 (.pointer (some ⟨bt, 0, none⟩))) ks) (h2 : 2 ≤ ks.length) (h6 : ks.length ≤ 6) (k3 : ∀ t ∈ ks, OkT h t)
    (h0 : n₀ ≤ w.heap.size) (k : ByteArray) {pre : List Rw} (hJ : J pre w) (hN : pre ++ fromT (h + 1) ks k <+: N) :
    Calls Try.prog 73 #[.pointer (some ⟨bt, 0, none⟩), .string k, .func (.yield l) #[] #[]] w (FromE n₀ J Jx pre (fromT (h + 1) ks k) w) := by
  obtain ⟨A, n, c, vs, hc4, hp⟩ := a.kids
  have hn := hp.count
  have hj := placeT_lt (ks := ks) k (by omega)
  rw [fromT_kids] at hN ⊢
  have hdr : ∀ m, Below w.heap.size w (w.drewN m) := fun m => below_drewN (Below.refl _ _) m
  have hat := fun (m : Nat) => at_kid (w := w.drewN m) (b := bt) hc4 (hp.below (hdr m)) (by omega) (by omega) k
  obtain ⟨m, hm⟩ : ∃ m, n - placeT h ks k = m := ⟨_, rfl⟩
  obtain ⟨A2, hd2, hp2⟩ := tail_ps hp (show placeT h ks k ≤ n by omega) hm
  have k4 : ∀ t ∈ ks.drop (placeT h ks k), OkT h t := fun t ht => k3 t (List.mem_of_mem_drop ht)
  have hjn : placeT h ks k < n := by omega
  have hJ1 : ∀ m, J pre (w.drewN m) := fun m => R.abide _ _ _ hJ ⟨rfl, rfl, rfl, Nat.le_refl _, fun _ _ _ => rfl⟩
  have hcount := hp2.count
  generalize ks.drop (placeT h ks k) = ls at *
  generalize vs.drop (placeT h ks k) = us at *
  generalize placeT h ks k = q at *
  have HR := Lib.hid R
  have HP := Lib.hid (fun m => hp2.below (hdr m))
  have HN := Lib.hid hN
  have HJ := Lib.hid hJ1
  have HAT := Lib.hid hat
  have HC := Lib.hid hcount
  have HK4 := Lib.hid k4
  have hm6 : m ≤ 6 := by omega
  clear R a hp hp2 hN hJ hJ1 hat hcount k3 k4 hdr
  go_enter Try.func73, Try.ntmps73
  go_wp2_with fail
  go_quiet (first | (go_at_call 77; exact calls_same (HAT.out _)))
  go_wp2_with fail
  go_loopg [18] m (fun g i wr => InnerRel h n₀ m J k pre ls w g i wr)
  case atStart => exact ⟨0, by omega, rfl, by simpa [fromL] using HJ.out _, below_drewN (Below.refl _ _) _⟩
  case round =>
    obtain ⟨j, hj, rfl, hJ1, hk1⟩ := hrel
    have HG := Lib.hid hj
    have HJ1 := Lib.hid hJ1
    have HK1 := Lib.hid hk1
    clear hj hJ1 hk1
    by_cases hlt : j < m
    · have hg : ls[j]? = some (ls[j]'(by have := HC.out; omega)) := List.getElem?_eq_getElem _
      have hpj : PsAt h wr (fun i => i < n₀) A2 m (c - q) us ls := by
        have hb := keep_of_base HK1.out
        have H := HP.out 0
        exact ⟨H.vls.keep hb, H.len, H.cap, H.none, H.kids.mono fun _ _ q => q.keep hb⟩
      obtain ⟨b2, o2, bt2, rfl, hc2, _, ht2⟩ := hpj.at_ hg
      have hs := fromL_take_succ hg k
      have hle := fromL_take_le ls (j + 1) k
      have hl2 : (fromL h (ls.take (j + 1)) k).length = (fromL h (ls.take j) k).length + (fromT h (ls[j]'(by have := HC.out; omega)) k).length := by rw [hs, List.length_append]
      have hpx := fromL_prefix ls (j + 1) k
      have hcall := ih wr bt2 _ k _ (HK4.out _ (List.mem_of_getElem? hg)) ht2 (Nat.le_trans h0 HK1.out.size) HJ1.out (by rw [List.append_assoc, ← hs]; exact List.IsPrefix.trans (List.prefix_append_right_inj .. |>.2 hpx) HN.out)
      have HS := Lib.hid hs
      have HX := Lib.hid hpx
      have HCALL := Lib.hid hcall
      have hmth := fun n => m_from h n bt2
      have hcf := c_from h
      clear hpj ht2 hs hle hl2 hcall hg hpx
      generalize fromT h (ls[j]'(by have := HC.out; omega)) k = ts at *
      go_wp2_with fail
      refine HCALL.out.mono ?_
      clear HCALL
      rintro e w2 (⟨rfl, hJ2, hk2⟩ | ⟨rfl, ps, hps, hJ2⟩)
      · rw [List.append_assoc, ← HS.out] at hJ2
        have HJ2 := Lib.hid hJ2
        have HK2 := Lib.hid (HK1.out.trans hk2)
        clear hJ2 hk2
        go_wp2_with fail
        go_roundg (m - (j + 1))
        case measure => have := HG.out; omega
        case rel => exact ⟨j + 1, by omega, by go_num, HJ2.out, HK2.out⟩
      · have HJ2 := Lib.hid hJ2
        have HPS := Lib.hid hps
        clear hJ2 hps
        go_wp2_with fail
        go_ret
        refine .inr ⟨rfl, fromL h (ls.take j) k ++ ps, ?_, by rw [← List.append_assoc]; exact HJ2.out⟩
        refine List.IsPrefix.trans ?_ HX.out
        rw [HS.out]
        exact List.prefix_append_right_inj .. |>.2 HPS.out
    · have he : j = m := by have := HG.out; omega
      subst he
      have hall : ls.take j = ls := List.take_of_length_le (by rw [HC.out]; exact Nat.le_refl _)
      have hJ2 := HJ1.out
      rw [hall] at hJ2
      have HJ2 := Lib.hid hJ2
      clear hJ2 hall
      go_wp2_with fail
      go_ret
      exact .inl ⟨rfl, HJ2.out, HK1.out⟩
theorem from_part {l n₀ : Nat} {N : List Rw} {J Jx : List Rw → World → Prop} (R : Rounds l n₀ N J Jx) : ∀ h, FromSpec l n₀ N J Jx h
  | 0 => from_zero R
  | h + 1 => fun _ _ ks k _ ok a h0 hJ hN => inner_from R (from_part R h) (ks := ks) a ok.1 ok.2.1 (fun t ht => (ok.2.2 t ht).1) h0 k hJ hN
end Go.Proofs.Ytocaaebmelhhnaa
