/- Plain facts: what a lock is at any time stays so; nothing of the program is named here. -/
import Derived.Test.YtnjhhndggfjjdaaDoorGqV
import Derived.Test.YtnjhhndggfjjdaaDoorGqE
set_option maxRecDepth 4000
namespace Go.Proofs.YtnjhhndggfjjdaaDoor
open Go
theorem join_pos {p q : Nat} (hp : p < 6) (hq : q < 6) (h : q ≠ 0) : 0 < joinN p q := by
  have : ∀ p q : Fin 6, q.1 ≠ 0 → 0 < joinN p q := by decide
  exact this ⟨p, hp⟩ ⟨q, hq⟩ h
theorem whos_grant {H : List Cl} {x : Cl} (h : (H.map (·.1)).Nodup) : ((grantP H x).map (·.1)).Nodup := by
  unfold grantP
  split
  · rename_i hh
    rcases idx_cases (isW x.1) H with ⟨_, h2⟩ | ⟨hlt, _, _, hhit⟩
    · unfold hasP at hh; rw [h2] at hh; cases hh
    · have e : (H.set (H.findIdx (isW x.1)) x).map (·.1) = H.map (·.1) := by
        apply List.ext_getElem?
        intro j
        rw [List.getElem?_map, List.getElem?_map, List.getElem?_set]
        by_cases hj : H.findIdx (isW x.1) = j
        · subst hj
          rw [if_pos rfl, if_pos hlt, List.getElem?_eq_getElem hlt]
          have : (H[H.findIdx (isW x.1)]).1 = x.1 := by simpa [isW] using hhit
          simp [this]
        · rw [if_neg hj]
      rw [e]; exact h
  · rename_i hh
    rw [List.map_append, List.nodup_append]
    refine ⟨h, by simp, fun a ha b hb e => ?_⟩
    have hb : b = x.1 := by simpa using hb
    subst e hb
    obtain ⟨c, hc, e⟩ := List.mem_map.1 ha
    apply hh
    unfold hasP
    rw [List.any_eq_true]
    exact ⟨c, hc, by simp [isW, e]⟩
theorem whos_without {l : List Cl} {who : Int} (h : (l.map (·.1)).Nodup) : ((withoutP l who).map (·.1)).Nodup := h.sublist ((List.filter_sublist).map _)
theorem not_has {l : List Cl} {who : Int} (h : hasP l who = false) : ∀ c ∈ l, c.1 ≠ who := fun c hc e => by
  unfold hasP at h
  rw [List.any_eq_false] at h
  exact absurd (h c hc) (by simp [isW, e])
theorem whos_ins {l : List Cl} {i : Nat} {x : Cl} (h : (l.map (·.1)).Nodup) (hx : hasP l x.1 = false) : ((l.take i ++ x :: l.drop i).map (·.1)).Nodup := by
  have hp : (l.take i ++ x :: l.drop i).Perm (x :: l) := by
    have := List.perm_middle (a := x) (l₁ := l.take i) (l₂ := l.drop i)
    rw [List.take_append_drop] at this
    exact this
  rw [(hp.map _).nodup_iff, List.map_cons, List.nodup_cons]
  refine ⟨fun hm => ?_, h⟩
  obtain ⟨c, hc, e⟩ := List.mem_map.1 hm
  exact not_has hx c hc e
theorem ok_none : Ok ([], []) := ⟨by simp, by simp, by simp, by simp⟩
theorem ok_ask {s : Lk} (h : Ok s) (who : Int) {q : Nat} (hq : q < 6) : Ok (askP s who q).2 := by
  obtain ⟨H, L⟩ := s
  have hlt := mode_lt h.mH who
  unfold askP
  simp only
  split
  · exact h
  · rename_i hq0
    split
    · exact h
    · rename_i hl0
      have hl : hasP L who = false := by
        have := mode_ne h.mL who
        simp only at this
        rw [← this]
        simpa using hl0
      split
      · exact h
      · have hx : 0 < joinN (modeP H who) q ∧ joinN (modeP H who) q < 6 := ⟨join_pos hlt hq hq0, joinN_lt hlt hq⟩
        split
        · exact ⟨whos_grant h.ndH, h.ndL, grant_modes h.mH hx, h.mL⟩
        · refine ⟨h.ndH, whos_ins h.ndL hl, h.mH, fun c hc => ?_⟩
          unfold waitP at hc
          rcases List.mem_append.1 hc with h1 | h1
          · exact h.mL c (List.mem_of_mem_take h1)
          · rcases List.mem_cons.1 h1 with h2 | h2
            · subst h2; exact hx
            · exact h.mL c (List.mem_of_mem_drop h2)
theorem ok_drain : ∀ (L H : List Cl), Ok (H, L) → Ok (drainP H L).2
  | [], H, h => h
  | x :: L, H, h => by
    by_cases hf : fitsP H x = true
    · rw [drain_go hf]
      have hm := h.mL x (by simp)
      have hn := h.ndL
      simp only [List.map_cons, List.nodup_cons] at hn
      exact ok_drain L _ ⟨whos_grant h.ndH, hn.2, grant_modes h.mH hm, fun c hc => h.mL c (by simp [hc])⟩
    · rw [drain_stop (by simpa using hf)]
      exact h
theorem ok_drop {s : Lk} (h : Ok s) (who : Int) : Ok (dropP s who).2 := ok_drain _ _ ⟨whos_without h.ndH, whos_without h.ndL, without_modes h.mH, without_modes h.mL⟩
theorem ask_length (s : Lk) (who : Int) (q : Nat) : (askP s who q).2.1.length ≤ s.1.length + 1 ∧ (askP s who q).2.2.length ≤ s.2.length + 1 := by
  obtain ⟨H, L⟩ := s
  unfold askP
  simp only
  split
  · exact ⟨by simp, by simp⟩
  · split
    · exact ⟨by simp, by simp⟩
    · split
      · exact ⟨by simp, by simp⟩
      · split
        · exact ⟨grant_length _ _, by simp⟩
        · refine ⟨by simp, ?_⟩
          have := congrArg List.length (List.take_append_drop (spotP H L who) L)
          unfold waitP
          simp only [List.length_append, List.length_cons] at this ⊢
          omega
theorem drain_length : ∀ (L H : List Cl), (drainP H L).2.1.length ≤ H.length + L.length ∧ (drainP H L).2.2.length ≤ L.length ∧ (drainP H L).1.length ≤ L.length
  | [], H => by simp [drainP]
  | x :: L, H => by
    by_cases hf : fitsP H x = true
    · rw [drain_go hf]
      have := drain_length L (grantP H x)
      have := grant_length H x
      simp only [List.length_cons]
      omega
    · rw [drain_stop (by simpa using hf)]
      simp
theorem drop_length (s : Lk) (who : Int) : (dropP s who).2.1.length ≤ s.1.length + s.2.length ∧ (dropP s who).2.2.length ≤ s.2.length ∧ (dropP s who).1.length ≤ s.2.length := by
  have h := drain_length (withoutP s.2 who) (withoutP s.1 who)
  have h1 := without_length s.1 who
  have h2 := without_length s.2 who
  unfold dropP
  omega
/-- all that have to do with the lock: in either list -/
def total (s : Lk) : Nat := s.1.length + s.2.length
theorem ask_total (s : Lk) (who : Int) (q : Nat) : total (askP s who q).2 ≤ total s + 1 := by
  obtain ⟨H, L⟩ := s
  unfold askP total
  simp only
  split
  · simp
  · split
    · simp
    · split
      · simp
      · split
        · have := grant_length H (who, joinN (modeP H who) q)
          simp only; omega
        · have := congrArg List.length (List.take_append_drop (spotP H L who) L)
          unfold waitP
          simp only [List.length_append, List.length_cons] at this ⊢
          omega
theorem drain_total : ∀ (L H : List Cl), total (drainP H L).2 ≤ H.length + L.length
  | [], H => by simp [drainP, total]
  | x :: L, H => by
    by_cases hf : fitsP H x = true
    · rw [drain_go hf]
      have := drain_total L (grantP H x)
      have := grant_length H x
      simp only [List.length_cons]
      omega
    · rw [drain_stop (by simpa using hf)]
      simp [total]
theorem drop_total (s : Lk) (who : Int) : total (dropP s who).2 ≤ total s := by
  have := drain_total (withoutP s.2 who) (withoutP s.1 who)
  have h1 := without_length s.1 who
  have h2 := without_length s.2 who
  unfold dropP
  unfold total at *
  omega
/-- numbers that rise, each once -/
theorem uniq_spec {zs : List Int} (hs : zs.Pairwise (· ≤ ·)) : ∀ m, m ≤ zs.length → (Lib.compactUpTo zs.toArray m).Pairwise (· < ·) ∧ (∀ x, x ∈ Lib.compactUpTo zs.toArray m ↔ x ∈ zs.take m) ∧ ∀ x ∈ Lib.compactUpTo zs.toArray m, ∀ h : m - 1 < zs.length, x ≤ zs[m - 1]
  | 0, _ => by simp [Lib.compactUpTo]
  | m + 1, hm => by
    obtain ⟨h1, h2, h3⟩ := uniq_spec hs m (by omega)
    have hml : m < zs.length := by omega
    have hd : (zs.toArray)[m]! = zs[m] := by simp [getElem!_pos, hml]
    rw [Lib.compactUpTo_succ, hd]
    have hord : ∀ x ∈ Lib.compactUpTo zs.toArray m, x ≤ zs[m] := fun x hx => by
      rw [h2] at hx
      obtain ⟨j, hj, rfl⟩ := List.getElem_of_mem hx
      rw [List.length_take] at hj
      rw [List.getElem_take]
      exact (List.pairwise_iff_getElem.1 hs) j m (by omega) hml (by omega)
    by_cases hk : Lib.keeps zs.toArray m = true
    · rw [hk, if_pos rfl]
      have hlt : ∀ x ∈ Lib.compactUpTo zs.toArray m, x < zs[m] := fun x hx => by
        rcases Nat.eq_zero_or_pos m with h0 | h0
        · subst h0; simp [Lib.compactUpTo] at hx
        · have hx2 := h3 x hx (by omega)
          have hle := (List.pairwise_iff_getElem.1 hs) (m - 1) m (by omega) hml (by omega)
          simp only [Lib.keeps, decide_eq_true_eq] at hk
          rcases hk with hk | hk
          · omega
          · rw [hd] at hk
            have : (zs.toArray)[m - 1]! = zs[m - 1]'(by omega) := by rw [getElem!_pos zs.toArray (m - 1) (by simp; omega)]; simp
            rw [this] at hk
            omega
      refine ⟨?_, fun x => ?_, fun x hx h => ?_⟩
      · rw [List.pairwise_append]
        refine ⟨h1, by simp, fun a ha b hb => ?_⟩
        have hb : b = zs[m] := by simpa using hb
        rw [hb]
        exact hlt a ha
      · rw [List.mem_append, h2, List.take_succ_eq_append_getElem hml, List.mem_append]
      · rcases List.mem_append.1 hx with hx | hx
        · exact hord x hx
        · have hx : x = zs[m] := by simpa using hx
          subst hx; exact Int.le_refl _
    · rw [if_neg hk, List.append_nil]
      have hk' : m ≠ 0 ∧ zs[m] = zs[m - 1]'(by omega) := by
        simp only [Lib.keeps, decide_eq_true_eq, not_or, Decidable.not_not] at hk
        refine ⟨hk.1, ?_⟩
        have h := hk.2
        rw [hd, getElem!_pos zs.toArray (m - 1) (by simp; omega)] at h
        simpa using h
      refine ⟨h1, fun x => ?_, fun x hx _ => hord x hx⟩
      rw [h2, List.take_succ_eq_append_getElem hml, List.mem_append]
      refine ⟨.inl, fun h => ?_⟩
      rcases h with h | h
      · exact h
      · have hx : x = zs[m] := by simpa using h
        rw [hx, hk'.2]
        rw [List.mem_iff_getElem]
        exact ⟨m - 1, by rw [List.length_take]; omega, by rw [List.getElem_take]⟩
theorem sorted_pairwise (zs : List Int) : (sortedI zs).Pairwise (· ≤ ·) := by
  have := List.pairwise_mergeSort (le := fun x y : Int => decide (x ≤ y)) (fun a b c h1 h2 => by simp only [decide_eq_true_eq] at *; omega) (fun a b => by simp only [Bool.or_eq_true, decide_eq_true_eq]; omega) zs
  exact this.imp fun h => by simpa using h
theorem uniqI_spec (zs : List Int) : (uniqI zs).Pairwise (· < ·) ∧ ∀ x, x ∈ uniqI zs ↔ x ∈ zs := by
  obtain ⟨h1, h2, _⟩ := uniq_spec (sorted_pairwise zs) (sortedI zs).length (Nat.le_refl _)
  refine ⟨h1, fun x => ?_⟩
  have := h2 x
  rw [List.take_length] at this
  unfold uniqI Lib.compact
  rw [this]
  exact (List.mergeSort_perm zs _).mem_iff
theorem uniqI_pos {zs : List Int} (h : zs ≠ []) : 0 < (uniqI zs).length := by
  rcases zs with _ | ⟨z, r⟩
  · exact absurd rfl h
  · have := (uniqI_spec (z :: r)).2 z
    exact List.length_pos_iff.2 (List.ne_nil_of_mem (this.2 (by simp)))
/-- two rows that rise and have the same are one -/
theorem rising_eq : ∀ {a b : List Int}, a.Pairwise (· < ·) → b.Pairwise (· < ·) → (∀ x, x ∈ a ↔ x ∈ b) → a = b
  | [], [], _, _, _ => rfl
  | [], y :: b, _, _, h => absurd ((h y).2 (by simp)) (by simp)
  | x :: a, [], _, _, h => absurd ((h x).1 (by simp)) (by simp)
  | x :: a, y :: b, h1, h2, h => by
    rw [List.pairwise_cons] at h1 h2
    have e : x = y := by
      rcases List.mem_cons.1 ((h x).1 (by simp)) with h3 | h3
      · exact h3
      · rcases List.mem_cons.1 ((h y).2 (by simp)) with h4 | h4
        · exact h4.symm
        · have := h1.1 y h4
          have := h2.1 x h3
          omega
    subst e
    rw [rising_eq h1.2 h2.2 fun z => ⟨fun hz => ?_, fun hz => ?_⟩]
    · rcases List.mem_cons.1 ((h z).1 (by simp [hz])) with h3 | h3
      · subst h3; exact absurd (h1.1 _ hz) (by omega)
      · exact h3
    · rcases List.mem_cons.1 ((h z).2 (by simp [hz])) with h3 | h3
      · subst h3; exact absurd (h2.1 _ hz) (by omega)
      · exact h3
end Go.Proofs.YtnjhhndggfjjdaaDoor
