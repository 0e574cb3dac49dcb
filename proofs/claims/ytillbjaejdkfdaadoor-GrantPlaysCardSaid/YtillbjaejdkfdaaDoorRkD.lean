/- The document's Ask. -/
import Derived.Test.YtillbjaejdkfdaaDoorRkB
import Derived.Test.YtillbjaejdkfdaaDoorRkC
set_option maxRecDepth 4000
namespace Go.Proofs.YtillbjaejdkfdaaDoor
open Go.RowKit
theorem join_zero {q : Nat} (hq : q < 6) : joinN 0 q = q := by
  have : ∀ q : Fin 6, joinN 0 q.1 = q.1 := by decide
  exact this ⟨q, hq⟩
theorem rask_ {w : World} {base b : Nat} {s : Lk} (h : RLk base b s w) (hbase : base ≤ w.heap.size) (hok : Ok s) (hn : s.1.length ≤ 10000) (hm : s.2.length ≤ 10000) (who mode : Int) :
    Calls Tryd.prog 10 #[.pointer (some ⟨b, 0, none⟩), .int .i64 who, .int .i64 mode] w fun e w' => e = .returned (.bool (askP s who (mdN mode)).1) ∧ RLk base b (askP s who (mdN mode)).2 w' ∧ RKeep base b w w' := by
  have h0 := h
  obtain ⟨vH, vL, hk⟩ := h
  obtain ⟨H, L⟩ := s
  simp only at hn hm
  have hq := mdN_lt mode
  have same : ∀ {r : Bool}, askP (H, L) who (mdN mode) = (r, (H, L)) → Calls Tryd.prog 10 #[.pointer (some ⟨b, 0, none⟩), .int .i64 who, .int .i64 mode] w (fun e w' => e = .returned (.bool r) ∧ Below w.heap.size w w') →
      Calls Tryd.prog 10 #[.pointer (some ⟨b, 0, none⟩), .int .i64 who, .int .i64 mode] w fun e w' => e = .returned (.bool (askP (H, L) who (mdN mode)).1) ∧ RLk base b (askP (H, L) who (mdN mode)).2 w' ∧ RKeep base b w w' := fun e hc => by
    rw [e]
    exact hc.mono fun e w' ⟨h1, h2⟩ => ⟨h1, h0.below h2, Keep.of_below h2⟩
  by_cases hq0 : mdN mode = 0
  · exact same (ask_none hq0) (rask_none hk hbase hok hn hm who mode hq0)
  have mL := mode_ne hok.mL who
  have mH := mode_ne hok.mH who
  simp only at mL mH
  cases hl : hasP L who with
  | true =>
    rw [hl] at mL
    exact same (ask_waits hq0 (by simpa using mL)) (rask_line hk hbase hok hn hm who mode hq0 hl)
  | false =>
    rw [hl] at mL
    have mL0 : modeP L who = 0 := by simpa using mL
    cases hh : hasP H who with
    | true =>
      rw [hh] at mH
      have mH0 : modeP H who ≠ 0 := by simpa using mH
      cases hc : covB (modeP H who) (mdN mode) with
      | true => exact same (ask_has hq0 mL0 hc) (rask_has hk hbase hok hn hm who mode hq0 hl hh hc)
      | false =>
        cases hf : fitsP H (who, joinN (modeP H who) (mdN mode)) with
        | true =>
          rw [ask_granted (s := (H, L)) hq0 mL0 hc (.inl mH0) hf]
          exact rask_take hk hbase hok hn hm who mode hq0 hl hh hc hf
        | false =>
          rw [ask_wait (s := (H, L)) hq0 mL0 hc (by simp [hf])]
          exact rask_wait3 hk hbase hok hn hm who mode hq0 hl hh hc hf
    | false =>
      rw [hh] at mH
      have mH0 : modeP H who = 0 := by simpa using mH
      have hc : covB (modeP H who) (mdN mode) = false := by rw [mH0, cov_zero hq]; simpa using hq0
      have hj : joinN (modeP H who) (mdN mode) = mdN mode := by rw [mH0, join_zero hq]
      cases hf : fitsP H (who, mdN mode) with
      | true =>
        by_cases hL : L.length = 0
        · rw [ask_granted (s := (H, L)) hq0 mL0 hc (.inr (List.eq_nil_of_length_eq_zero hL)) (by simp only [hj]; exact hf)]
          simp only [hj]
          exact rask_new hk hbase hok hn hm who mode hq0 hl hh hL hf
        · rw [ask_wait (s := (H, L)) hq0 mL0 hc (fun h => h.1.elim (fun h => h mH0) (fun h => hL (by simp only at h; rw [h]; rfl)))]
          simp only [hj]
          exact rask_wait2 hk hbase hok hn hm who mode hq0 hl hh hL hf
      | false =>
        rw [ask_wait (s := (H, L)) hq0 mL0 hc (by simp only [hj, hf]; simp)]
        simp only [hj]
        exact rask_wait1 hk hbase hok hn hm who mode hq0 hl hh hf
end Go.Proofs.YtillbjaejdkfdaaDoor
