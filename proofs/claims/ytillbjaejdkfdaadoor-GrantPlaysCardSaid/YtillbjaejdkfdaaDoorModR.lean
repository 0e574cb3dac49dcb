/- The document's own modes. -/
import Derived.Test.YtillbjaejdkfdaaDoorModM
import Derived.Test.YtillbjaejdkfdaaDoorKeep
import Derived.StillTailTactics
set_option maxRecDepth 4000
namespace Go.Proofs.YtillbjaejdkfdaaDoor
open Go.RowKit
theorem mode_ (n : Int) (w : World) : Calls Tryd.prog 28 #[.int .i64 n] w fun e w' => e = .returned (.int .i64 (mdN n : Int)) ∧ w = w' := by
  by_cases h : n < 0 ∨ 5 < n
  · have e := mdN_out h
    rw [e]
    go_enter Tryd.func28, Tryd.ntmps28
    rcases h with h | h
    · go_wp2
      go_ret
      exact ⟨rfl, rfl⟩
    · by_cases h0 : n < 0
      · omega
      · go_wp2
        go_ret
        exact ⟨rfl, rfl⟩
  · have e := mdN_in h
    rw [e]
    have h1 : ¬ n < 0 := by omega
    have h2 : ¬ 5 < n := by omega
    go_enter Tryd.func28, Tryd.ntmps28
    go_wp2
    go_ret
    exact ⟨rfl, rfl⟩
def fitS (p : Nat) : ByteArray := ⟨fitR p⟩
theorem fit_cell (w : World) {p : Nat} (hp : p < 6) : (w.alloc (.cells #[.string ⟨#[49, 49, 49, 49, 49, 49]⟩, .string ⟨#[49, 49, 49, 49, 49, 48]⟩, .string ⟨#[49, 49, 49, 48, 48, 48]⟩, .string ⟨#[49, 49, 48, 49, 48, 48]⟩, .string ⟨#[49, 49, 48, 48, 48, 48]⟩, .string ⟨#[49, 48, 48, 48, 48, 48]⟩] 9)).cell? ⟨w.heap.size, p, none⟩ = some (.string (fitS p)) := by
  rw [(Blk.new w _ _).cell]
  match p, hp with
  | 0, _ | 1, _ | 2, _ | 3, _ | 4, _ | 5, _ => rfl
theorem byte_is {S : ByteArray} {q : Nat} {b : Bool} (hq : q < S.size) (h : S.data[q]? = some (if b then 49 else 48)) : ((S[q].toNat : Int) == 49) = b := by
  obtain ⟨_, e⟩ := Array.getElem?_eq_some_iff.1 h
  have e2 : S[q] = if b then 49 else 48 := e
  rw [e2]
  cases b <;> rfl
theorem ref_fits (a b : Int) (w : World) : Calls Tryd.prog 19 #[.int .i64 a, .int .i64 b] w fun e w' => e = .returned (.bool (fitB (mdN a) (mdN b))) ∧ Below w.heap.size w w' := by
  have hp := mdN_lt a
  have hq := mdN_lt b
  have hk := fun w => (mode_ a w).mono (fun _ _ h => (⟨h.1, h.2.symm⟩ : _ ∧ _ = w))
  have hk2 := fun w => (mode_ b w).mono (fun _ _ h => (⟨h.1, h.2.symm⟩ : _ ∧ _ = w))
  generalize mdN a = p at *
  generalize mdN b = q at *
  have HK := Lib.hid hk
  have HK2 := Lib.hid hk2
  have hp2 : (p : Int) < 6 := by omega
  have hq2 : (q : Int) < 6 := by omega
  have hs : (fitS p).size = 6 := fitR_size hp
  have hg : (fitS p).data[q]? = some (if fitB p q then 49 else 48) := fitR_eq hp hq
  have c1 := fit_cell w hp
  generalize fitS p = S at *
  have HG := Lib.hid hg
  clear hk hk2 hg
  have hb := alloc_below w (.cells #[.string ⟨#[49, 49, 49, 49, 49, 49]⟩, .string ⟨#[49, 49, 49, 49, 49, 48]⟩, .string ⟨#[49, 49, 49, 48, 48, 48]⟩, .string ⟨#[49, 49, 48, 49, 48, 48]⟩, .string ⟨#[49, 49, 48, 48, 48, 48]⟩, .string ⟨#[49, 48, 48, 48, 48, 48]⟩] 9)
  have HB := Lib.hid hb
  clear hb
  go_enter Tryd.func19, Tryd.ntmps19
  go_wp2_with fail
  generalize (w.alloc _) = W1 at *
  go_quiet (first | (go_at_call_of 28 a; refine Calls.quiet_of_same (HK.out _)) | (go_at_call_of 28 b; refine Calls.quiet_of_same (HK2.out _)))
  go_wp2_with fail
  go_ret
  exact ⟨congrArg (fun x => Ending.returned (Value.bool x)) (byte_is _ HG.out), below_drewN HB.out _⟩
def covS (p : Nat) : ByteArray := ⟨covR p⟩
theorem cov_cell (w : World) {p : Nat} (hp : p < 6) : (w.alloc (.cells #[.string ⟨#[49, 48, 48, 48, 48, 48]⟩, .string ⟨#[49, 49, 48, 48, 48, 48]⟩, .string ⟨#[49, 49, 49, 48, 48, 48]⟩, .string ⟨#[49, 49, 48, 49, 48, 48]⟩, .string ⟨#[49, 49, 49, 49, 49, 48]⟩, .string ⟨#[49, 49, 49, 49, 49, 49]⟩] 9)).cell? ⟨w.heap.size, p, none⟩ = some (.string (covS p)) := by
  rw [(Blk.new w _ _).cell]
  match p, hp with
  | 0, _ | 1, _ | 2, _ | 3, _ | 4, _ | 5, _ => rfl
theorem ref_covers (a b : Int) (w : World) : Calls Tryd.prog 20 #[.int .i64 a, .int .i64 b] w fun e w' => e = .returned (.bool (covB (mdN a) (mdN b))) ∧ Below w.heap.size w w' := by
  have hp := mdN_lt a
  have hq := mdN_lt b
  have hk := fun w => (mode_ a w).mono (fun _ _ h => (⟨h.1, h.2.symm⟩ : _ ∧ _ = w))
  have hk2 := fun w => (mode_ b w).mono (fun _ _ h => (⟨h.1, h.2.symm⟩ : _ ∧ _ = w))
  generalize mdN a = p at *
  generalize mdN b = q at *
  have HK := Lib.hid hk
  have HK2 := Lib.hid hk2
  have hp2 : (p : Int) < 6 := by omega
  have hq2 : (q : Int) < 6 := by omega
  have hs : (covS p).size = 6 := covR_size hp
  have hg : (covS p).data[q]? = some (if covB p q then 49 else 48) := covR_eq hp hq
  have c1 := cov_cell w hp
  generalize covS p = S at *
  have HG := Lib.hid hg
  clear hk hk2 hg
  have hb := alloc_below w (.cells #[.string ⟨#[49, 48, 48, 48, 48, 48]⟩, .string ⟨#[49, 49, 48, 48, 48, 48]⟩, .string ⟨#[49, 49, 49, 48, 48, 48]⟩, .string ⟨#[49, 49, 48, 49, 48, 48]⟩, .string ⟨#[49, 49, 49, 49, 49, 48]⟩, .string ⟨#[49, 49, 49, 49, 49, 49]⟩] 9)
  have HB := Lib.hid hb
  clear hb
  go_enter Tryd.func20, Tryd.ntmps20
  go_wp2_with fail
  generalize (w.alloc _) = W1 at *
  go_quiet (first | (go_at_call_of 28 a; refine Calls.quiet_of_same (HK.out _)) | (go_at_call_of 28 b; refine Calls.quiet_of_same (HK2.out _)))
  go_wp2_with fail
  go_ret
  exact ⟨congrArg (fun x => Ending.returned (Value.bool x)) (byte_is _ HG.out), below_drewN HB.out _⟩
def JoinG (w : World) (p q : Nat) (m : Nat) (i : Value) (wr : World) : Prop := ∃ j, j + m = 6 ∧ i = .int .i64 (j : Int) ∧ (∀ k, k < j → ¬ (covB k p = true ∧ covB k q = true)) ∧ Below w.heap.size w wr
theorem join_is {p q j : Nat} (hp : p < 6) (hq : q < 6) (hj : j < 6) (h : ∀ k, k < j → ¬ (covB k p = true ∧ covB k q = true)) (h1 : covB j p = true) (h2 : covB j q = true) : joinN p q = j := by
  have : ∀ p q j : Fin 6, (∀ k : Fin 6, k.1 < j.1 → ¬ (covB k p = true ∧ covB k q = true)) → covB j p = true → covB j q = true → joinN p q = j.1 := by decide
  exact this ⟨p, hp⟩ ⟨q, hq⟩ ⟨j, hj⟩ (fun k hk => h k.1 hk) h1 h2
set_option maxHeartbeats 400000 in
theorem ref_join (a b : Int) (w : World) : Calls Tryd.prog 30 #[.int .i64 a, .int .i64 b] w fun e w' => e = .returned (.int .i64 (joinN (mdN a) (mdN b) : Int)) ∧ Below w.heap.size w w' := by
  have hp := mdN_lt a
  have hq := mdN_lt b
  have ha := fun m W => ref_covers m a W
  have hb := fun m W => ref_covers m b W
  generalize mdN a = p at *
  generalize mdN b = q at *
  have HA := Lib.hid ha
  have HB := Lib.hid hb
  clear ha hb
  go_enter Tryd.func30, Tryd.ntmps30
  go_wp2_with fail
  go_loopg [5] 6 (fun m i wr => JoinG w p q m i wr)
  case atStart => exact ⟨0, rfl, rfl, fun k hk => absurd hk (Nat.not_lt_zero k), Below.refl _ _⟩
  case round =>
    obtain ⟨j, hj, rfl, h1, hbe⟩ := hrel
    have HJ := Lib.hid hj
    have H1 := Lib.hid h1
    have HBE := Lib.hid hbe
    clear hj h1 hbe
    have hlt : j < 6 := by
      rcases Nat.lt_or_ge j 6 with h | h
      · exact h
      · exact absurd ⟨covB_five p hp, covB_five q hq⟩ (H1.out 5 (by omega))
    have hl5 : (j : Int) ≤ 5 := by omega
    have hm : mdN (j : Int) = j := mdN_of hlt
    have hA := HA.out j
    have hB := HB.out j
    rw [hm] at hA hB
    have h2 : ¬ (covB j p = true ∧ covB j q = true) → ∀ k, k < j + 1 → ¬ (covB k p = true ∧ covB k q = true) := fun h k hk => by
      rcases Nat.lt_or_ge k j with h5 | h5
      · exact H1.out k h5
      · obtain rfl : k = j := by omega
        exact h
    have h3 : covB j p = true → covB j q = true → joinN p q = j := fun h h' => join_is hp hq hlt H1.out h h'
    have HA2 := Lib.hid hA
    have HB2 := Lib.hid hB
    have H2 := Lib.hid h2
    have H3 := Lib.hid h3
    clear hA hB h2 h3 hm
    generalize hcp : covB j p = x at *
    generalize hcq : covB j q = y at *
    cases x
    · go_wp2_with fail
      refine (HA2.out _).mono ?_
      rintro e w' ⟨rfl, hb1⟩
      have HB1 := Lib.hid (HBE.out.trans (hb1.mono HBE.out.size))
      clear hb1
      go_wp2_with fail
      go_roundg (6 - (j + 1))
      case measure => have := HJ.out; omega
      case rel => exact ⟨j + 1, by omega, by go_num, H2.out (by simp), HB1.out⟩
    · cases y
      · go_wp2_with fail
        refine (HA2.out _).mono ?_
        rintro e w' ⟨rfl, hb1⟩
        have HB1 := Lib.hid (HBE.out.trans (hb1.mono HBE.out.size))
        clear hb1
        go_wp2_with fail
        refine (HB2.out _).mono ?_
        rintro e w'' ⟨rfl, hb2⟩
        have HB3 := Lib.hid (HB1.out.trans (hb2.mono HB1.out.size))
        clear hb2
        go_wp2_with fail
        go_roundg (6 - (j + 1))
        case measure => have := HJ.out; omega
        case rel => exact ⟨j + 1, by omega, by go_num, H2.out (by simp), HB3.out⟩
      · go_wp2_with fail
        refine (HA2.out _).mono ?_
        rintro e w' ⟨rfl, hb1⟩
        have HB1 := Lib.hid (HBE.out.trans (hb1.mono HBE.out.size))
        clear hb1
        go_wp2_with fail
        refine (HB2.out _).mono ?_
        rintro e w'' ⟨rfl, hb2⟩
        have HB3 := Lib.hid (HB1.out.trans (hb2.mono HB1.out.size))
        clear hb2
        go_wp2_with fail
        go_ret
        exact ⟨by rw [H3.out (by simp) (by simp)]; rfl, HB3.out⟩
end Go.Proofs.YtillbjaejdkfdaaDoor
