/- The table of modes in memory, and package modes' calls over it. -/
import Derived.Test.YtnjhhndggfjjdaaDoorChecked
import Derived.Test.YtnjhhndggfjjdaaDoorModP
import Derived.WalkKit
import Derived.Below
import Derived.Laws.BitsLemmas
import Derived.Deep.QuietTactic
import Derived.Deep.RegionWith
import Derived.BigQuiet
import Derived.LoopTactic
import Derived.Deep.LoopGhost
import Derived.Lib.Hide
set_option maxRecDepth 4000
namespace Go.Proofs.YtnjhhndggfjjdaaDoor
open Go.RowKit
/-- package modes' table: what each mode allows, and what it keeps off -/
def Tab (w : World) : Prop := ∀ p, p < 6 → w.cell? ⟨0, p * 2, none⟩ = some (.int .i64 (alw p : Int)) ∧ w.cell? ⟨0, p * 2 + 1, none⟩ = some (.int .i64 (off p : Int))
theorem Tab.drewN {w : World} (h : Tab w) (n : Nat) : Tab (w.drewN n) := h
theorem Tab.lt {w : World} (h : Tab w) : 0 < w.heap.size := by
  have := (h 0 (by omega)).1
  rcases Nat.lt_or_ge 0 w.heap.size with hlt | hge
  · exact hlt
  · simp [World.cell?, Array.getElem?_eq_none hge] at this
theorem Tab.below {w w' : World} (h : Tab w) (k : Below w.heap.size w w') : Tab w' := fun p hp =>
  ⟨(k.cell (p := ⟨0, p * 2, none⟩) h.lt).trans (h p hp).1, (k.cell (p := ⟨0, p * 2 + 1, none⟩) h.lt).trans (h p hp).2⟩
theorem and_nat (a b : Nat) (ha : a < 16) (hb : b < 16) : bits .and .i64 (a : Int) (b : Int) = ((a &&& b : Nat) : Int) := by
  have : ∀ a b : Fin 16, bits .and .i64 (a.1 : Int) (b.1 : Int) = ((a.1 &&& b.1 : Nat) : Int) := by decide
  exact this ⟨a, ha⟩ ⟨b, hb⟩

theorem known_ (n : Int) (w : World) : Calls Tryd.prog 55 #[.int .i64 n] w fun e w' => e = .returned (.int .i64 (mdN n : Int)) ∧ w = w' := by
  by_cases h : n < 0 ∨ 5 < n
  · have e := mdN_out h
    rw [e]
    go_enter Tryd.func55, Tryd.ntmps55
    rcases h with h | h
    · go_wp2
      go_ret
      exact ⟨rfl, rfl⟩
    · by_cases h0 : n < 0
      · omega
      · go_wp2
        go_ret
        exact ⟨rfl, rfl⟩
  · have e := mdN_in h
    rw [e]
    have h1 : ¬ n < 0 := by omega
    have h2 : ¬ 5 < n := by omega
    go_enter Tryd.func55, Tryd.ntmps55
    go_wp2
    go_ret
    exact ⟨rfl, rfl⟩
theorem cov_num {p q : Nat} (hp : p < 6) (hq : q < 6) : (bits .and .i64 (alw p : Int) (alw q : Int) == (alw q : Int)) = covB p q := by
  rw [and_nat _ _ (alw_lt hp) (alw_lt hq)]
  have : ∀ p q : Fin 6, (((alw p &&& alw q : Nat) : Int) == (alw q : Int)) = covB p q := by decide
  exact this ⟨p, hp⟩ ⟨q, hq⟩
theorem fit_num {p q : Nat} (hp : p < 6) (hq : q < 6) : (bits .and .i64 (off p : Int) (alw q : Int) == 0) = fitB p q := by
  rw [and_nat _ _ (off_lt hp) (alw_lt hq)]
  have : ∀ p q : Fin 6, (((off p &&& alw q : Nat) : Int) == 0) = fitB p q := by decide
  exact this ⟨p, hp⟩ ⟨q, hq⟩
theorem covers_ (a b : Int) (w : World) (hT : Tab w) : Calls Tryd.prog 35 #[.int .i64 a, .int .i64 b] w fun e w' => e = .returned (.bool (covB (mdN a) (mdN b))) ∧ w = w' := by
  have hp := mdN_lt a
  have hq := mdN_lt b
  have hk := known_ a w
  have hk2 := known_ b w
  generalize mdN a = p at *
  generalize mdN b = q at *
  have HK := Lib.hid hk
  have HK2 := Lib.hid hk2
  have c1 := (hT p hp).1
  have c2 := (hT q hq).1
  have E1 := Lib.hid (cov_num hp hq)
  clear hk hk2 hT
  go_enter Tryd.func35, Tryd.ntmps35
  go_wp2_with fail
  refine HK2.out.mono ?_
  rintro e w' ⟨rfl, rfl⟩
  go_wp2_with fail
  refine HK.out.mono ?_
  rintro e w' ⟨rfl, rfl⟩
  go_wp2_with fail
  go_ret
  exact ⟨congrArg (fun x => Ending.returned (Value.bool x)) E1.out, rfl⟩
theorem fits_ (a b : Int) (w : World) (hT : Tab w) : Calls Tryd.prog 65 #[.int .i64 a, .int .i64 b] w fun e w' => e = .returned (.bool (fitB (mdN a) (mdN b))) ∧ ∃ n, w' = w.drewN n := by
  have hp := mdN_lt a
  have hq := mdN_lt b
  have hk := fun n => (known_ a (w.drewN n)).mono (fun _ _ h => (⟨h.1, h.2.symm⟩ : _ ∧ _ = w.drewN n))
  have hk2 := fun n => (known_ b (w.drewN n)).mono (fun _ _ h => (⟨h.1, h.2.symm⟩ : _ ∧ _ = w.drewN n))
  generalize mdN a = p at *
  generalize mdN b = q at *
  have HK := Lib.hid hk
  have HK2 := Lib.hid hk2
  have c1 := (hT p hp).2
  have c2 := (hT q hq).1
  have hp2 : (p : Int) < 6 := by omega
  have hq2 : (q : Int) < 6 := by omega
  have E1 := Lib.hid (fit_num hp hq)
  clear hk hk2 hT
  go_enter Tryd.func65, Tryd.ntmps65
  go_wp2_with fail
  go_quiet (first | (go_at_call_of 55 a; refine Calls.quiet_of_same (HK.out _)) | (go_at_call_of 55 b; refine Calls.quiet_of_same (HK2.out _)))
  go_wp2_with fail
  go_ret
  exact ⟨congrArg (fun x => Ending.returned (Value.bool x)) E1.out, ⟨_, rfl⟩⟩
def JoinF (p q : Nat) (m : Nat) (i : Value) : Prop := ∃ j, j + m = 5 ∧ i = .int .i64 (j : Int) ∧ joinN p q = joinF p q j m
set_option maxHeartbeats 400000 in
theorem join_ (a b : Int) (w : World) (hT : Tab w) : Calls Tryd.prog 38 #[.int .i64 a, .int .i64 b] w fun e w' => e = .returned (.int .i64 (joinN (mdN a) (mdN b) : Int)) ∧ w = w' := by
  have ha := fun m => covers_ m a w hT
  have hb := fun m => covers_ m b w hT
  generalize mdN a = p at *
  generalize mdN b = q at *
  have HA := Lib.hid ha
  have HB := Lib.hid hb
  clear ha hb hT
  go_enter Tryd.func38, Tryd.ntmps38
  go_wp2_with fail
  go_loopg [6] 5 (fun m i wr => JoinF p q m i ∧ w = wr)
  case atStart => exact ⟨⟨0, rfl, rfl, rfl⟩, rfl⟩
  case round =>
    obtain ⟨⟨j, hj, rfl, h1⟩, rfl⟩ := hrel
    have HJ := Lib.hid hj
    have H1 := Lib.hid h1
    clear hj h1
    by_cases hlt : j < 5
    · have hm : mdN (j : Int) = j := mdN_of (by omega)
      have hA := HA.out j
      have hB := HB.out j
      rw [hm] at hA hB
      have h2 : ¬ (covB j p = true ∧ covB j q = true) → joinN p q = joinF p q (j + 1) (4 - j) := fun h => by
        have e : gk = (4 - j) + 1 := by have := HJ.out; omega
        rw [H1.out, e, joinF_on h]
      have h3 : covB j p = true → covB j q = true → joinN p q = j := fun h h' => by
        have e : gk = (4 - j) + 1 := by have := HJ.out; omega
        rw [H1.out, e, joinF_at h h']
      have HA2 := Lib.hid hA
      have HB2 := Lib.hid hB
      have H2 := Lib.hid h2
      have H3 := Lib.hid h3
      clear hA hB h2 h3 hm
      generalize hcp : covB j p = x at *
      generalize hcq : covB j q = y at *
      have hl5 : (j : Int) < 5 := by omega
      cases x
      · go_wp2_with fail
        refine HA2.out.mono ?_
        rintro e w' ⟨rfl, rfl⟩
        go_wp2_with fail
        go_roundg (5 - (j + 1))
        case measure => have := HJ.out; omega
        case rel => exact ⟨⟨j + 1, by omega, by go_num, by rw [H2.out (by simp)]; congr 1; omega⟩, rfl⟩
      · cases y
        · go_wp2_with fail
          refine HA2.out.mono ?_
          rintro e w' ⟨rfl, rfl⟩
          go_wp2_with fail
          refine HB2.out.mono ?_
          rintro e w' ⟨rfl, rfl⟩
          go_wp2_with fail
          go_roundg (5 - (j + 1))
          case measure => have := HJ.out; omega
          case rel => exact ⟨⟨j + 1, by omega, by go_num, by rw [H2.out (by simp)]; congr 1; omega⟩, rfl⟩
        · go_wp2_with fail
          refine HA2.out.mono ?_
          rintro e w' ⟨rfl, rfl⟩
          go_wp2_with fail
          refine HB2.out.mono ?_
          rintro e w' ⟨rfl, rfl⟩
          go_wp2_with fail
          go_ret
          exact ⟨by rw [H3.out (by simp) (by simp)]; rfl, rfl⟩
    · have e : j = 5 := by have := HJ.out; omega
      have e2 : gk = 0 := by have := HJ.out; omega
      have h5 : joinN p q = 5 := by rw [H1.out, e2]; rfl
      have H5 := Lib.hid h5
      clear h5 e2
      subst e
      go_wp2_with fail
      go_ret
      exact ⟨by rw [H5.out]; rfl, rfl⟩
end Go.Proofs.YtnjhhndggfjjdaaDoor
