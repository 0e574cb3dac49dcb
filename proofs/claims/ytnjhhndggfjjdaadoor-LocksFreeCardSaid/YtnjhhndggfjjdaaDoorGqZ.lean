/- Plain facts: at any time all holders fit each other, and the first of the line does not fit them all. -/
import Derived.Test.YtnjhhndggfjjdaaDoorGqQ
import Derived.Test.YtnjhhndggfjjdaaDoorGqX
set_option maxRecDepth 4000
namespace Go.Proofs.YtnjhhndggfjjdaaDoor
open Go
theorem mode_mem : ∀ {l : List Cl} {c : Cl}, (l.map (·.1)).Nodup → c ∈ l → modeP l c.1 = c.2
  | x :: l, c, hn, hc => by
    simp only [List.map_cons, List.nodup_cons] at hn
    unfold modeP
    rcases List.mem_cons.1 hc with rfl | h
    · simp [isW]
    · have hne : (x.1 == c.1) = false := by
        rw [beq_eq_false_iff_ne]
        intro e
        exact hn.1 (by rw [e]; exact List.mem_map.2 ⟨c, h, rfl⟩)
      have := mode_mem hn.2 h
      unfold modeP at this
      simp only [List.find?_cons, isW, hne]
      exact this
def Fit (s : Lk) : Prop := (∀ a ∈ s.1, ∀ c ∈ s.1, a.1 ≠ c.1 → fitB a.2 c.2 = true) ∧ ∀ x r, s.2 = x :: r → fitsP s.1 x = false
theorem grant_mem {H : List Cl} {x c : Cl} (hn : (H.map (·.1)).Nodup) (h : c ∈ grantP H x) : c = x ∨ (c ∈ H ∧ c.1 ≠ x.1) := by
  unfold grantP at h
  split at h
  · rename_i hh
    rcases idx_cases (isW x.1) H with ⟨_, h2⟩ | ⟨hlt, _, _, hhit⟩
    · unfold hasP at hh; rw [h2] at hh; cases hh
    · obtain ⟨j, hj, e⟩ := List.getElem_of_mem h
      rw [List.length_set] at hj
      rw [List.getElem_set] at e
      split at e
      · exact .inl e.symm
      · rename_i hne
        subst e
        refine .inr ⟨List.getElem_mem hj, fun e => hne ?_⟩
        have hw : (H[H.findIdx (isW x.1)]).1 = x.1 := by simpa [isW] using hhit
        have hp := List.pairwise_iff_getElem.1 hn
        rcases Nat.lt_trichotomy (H.findIdx (isW x.1)) j with h1 | h1 | h1
        · exact (hp _ j (by rw [List.length_map]; exact hlt) (by rw [List.length_map]; exact hj) h1 (by simp only [List.getElem_map]; rw [hw, e])).elim
        · exact h1
        · exact (hp j _ (by rw [List.length_map]; exact hj) (by rw [List.length_map]; exact hlt) h1 (by simp only [List.getElem_map]; rw [hw, e])).elim
  · rename_i hh
    rcases List.mem_append.1 h with h1 | h1
    · exact .inr ⟨h1, not_has (by simpa using hh) c h1⟩
    · exact .inl (by simpa using h1)
theorem grant_has (H : List Cl) (x : Cl) : x ∈ grantP H x := by
  unfold grantP
  split
  · rename_i hh
    rcases idx_cases (isW x.1) H with ⟨_, h2⟩ | ⟨hlt, _, _, _⟩
    · unfold hasP at hh; rw [h2] at hh; cases hh
    · rw [List.mem_iff_getElem]
      exact ⟨H.findIdx (isW x.1), by rw [List.length_set]; exact hlt, by rw [List.getElem_set, if_pos rfl]⟩
  · simp
theorem grant_keeps {H : List Cl} {x c : Cl} (h : c ∈ H) (hne : c.1 ≠ x.1) : c ∈ grantP H x := by
  unfold grantP
  split
  · rename_i hh
    rcases idx_cases (isW x.1) H with ⟨_, h2⟩ | ⟨hlt, _, _, hhit⟩
    · unfold hasP at hh; rw [h2] at hh; cases hh
    · obtain ⟨j, hj, rfl⟩ := List.getElem_of_mem h
      rw [List.mem_iff_getElem]
      refine ⟨j, by rw [List.length_set]; exact hj, ?_⟩
      rw [List.getElem_set, if_neg]
      intro e
      subst e
      exact hne (by simpa [isW] using hhit)
  · exact List.mem_append_left _ h
theorem fits_all {H : List Cl} {x : Cl} (h : fitsP H x = true) : ∀ c ∈ H, c.1 ≠ x.1 → fitB c.2 x.2 = true := by
  intro c hc hne
  unfold fitsP at h
  rw [Bool.not_eq_true', List.any_eq_false] at h
  have h1 : inwayP c x = false := by simpa using h c hc
  unfold inwayP at h1
  have h2 : (c.1 != x.1) = true := bne_iff_ne.2 hne
  rw [h2, Bool.true_and] at h1
  simpa using h1
theorem fits_some {H : List Cl} {x : Cl} (h : fitsP H x = false) : ∃ c ∈ H, c.1 ≠ x.1 ∧ fitB c.2 x.2 = false := by
  unfold fitsP at h
  rw [Bool.not_eq_false', List.any_eq_true] at h
  obtain ⟨c, hc, h1⟩ := h
  unfold inwayP at h1
  rw [Bool.and_eq_true] at h1
  exact ⟨c, hc, bne_iff_ne.1 h1.1, by simpa using h1.2⟩
theorem some_fits {H : List Cl} {x c : Cl} (hc : c ∈ H) (hne : c.1 ≠ x.1) (hf : fitB c.2 x.2 = false) : fitsP H x = false := by
  unfold fitsP
  rw [Bool.not_eq_false', List.any_eq_true]
  exact ⟨c, hc, by unfold inwayP; rw [hf, bne_iff_ne.2 hne]; rfl⟩
theorem pair_grant {H : List Cl} {x : Cl} (hn : (H.map (·.1)).Nodup) (hm : ∀ c ∈ H, 0 < c.2 ∧ c.2 < 6) (hx : x.2 < 6) (h : ∀ a ∈ H, ∀ c ∈ H, a.1 ≠ c.1 → fitB a.2 c.2 = true) (hf : fitsP H x = true) : ∀ a ∈ grantP H x, ∀ c ∈ grantP H x, a.1 ≠ c.1 → fitB a.2 c.2 = true := by
  intro a ha c hc hne
  rcases grant_mem hn ha with e1 | ⟨ha', ha2⟩
  · rcases grant_mem hn hc with e | ⟨hc', hc2⟩
    · exact absurd (by rw [e1, e]) hne
    · rw [e1, fit_comm hx (hm c hc').2]
      exact fits_all hf c hc' hc2
  · rcases grant_mem hn hc with e | ⟨hc', hc2⟩
    · rw [e]
      exact fits_all hf a ha' ha2
    · exact h a ha' c hc' hne
theorem fit_none : Fit ([], []) := ⟨by simp, fun x r h => by cases h⟩
theorem fit_ask {s : Lk} (ok : Ok s) (h : Fit s) (who : Int) {q : Nat} (hq : q < 6) : Fit (askP s who q).2 := by
  obtain ⟨H, L⟩ := s
  obtain ⟨h1, h2⟩ := h
  have hlt := mode_lt ok.mH who
  simp only at h1 h2 hlt
  have okH := ok.mH
  have okL := ok.mL
  have okN := ok.ndH
  simp only at okH okL okN
  unfold askP
  simp only
  split
  · exact ⟨h1, h2⟩
  · rename_i hq0
    split
    · exact ⟨h1, h2⟩
    · split
      · exact ⟨h1, h2⟩
      · have hj := joinN_lt hlt hq
        split
        · rename_i hg
          refine ⟨pair_grant okN okH hj h1 hg.2, fun y r hy => ?_⟩
          simp only at hy
          obtain ⟨c, hc, hcne, hcf⟩ := fits_some (h2 y r hy)
          by_cases hw : c.1 = who
          · have hm := mode_mem okN hc
            rw [hw] at hm
            refine some_fits (grant_has H _) (by simp only; rw [← hw]; exact hcne) ?_
            simp only
            by_cases hf : fitB (joinN (modeP H who) q) y.2 = true
            · have hcov := join_left hlt hq
              rw [hm] at hf hcov
              have hy6 := (okL y (by rw [hy]; simp)).2
              have := cov_fit (by rw [hm] at hj; exact hj) (okH c hc).2 hy6 hcov hf
              rw [hcf] at this
              cases this
            · simpa using hf
          · exact some_fits (grant_keeps hc hw) hcne hcf
        · rename_i hg
          refine ⟨h1, fun y r hy => ?_⟩
          simp only at hy ⊢
          unfold waitP at hy
          rcases Nat.eq_zero_or_pos (spotP H L who) with h0 | h0
          · rw [h0] at hy
            simp only [List.take_zero, List.nil_append, List.drop_zero] at hy
            injection hy with hy _
            subst hy
            by_cases hf : fitsP H (who, joinN (modeP H who) q) = true
            · exfalso
              apply hg
              refine ⟨?_, hf⟩
              by_cases hh : modeP H who = 0
              · right
                have hno : hasP H who = false := by
                  have := mode_ne okH who
                  rw [hh] at this
                  simpa using this.symm
                unfold spotP at h0
                rw [hno] at h0
                exact List.eq_nil_of_length_eq_zero h0
              · exact .inl hh
            · simpa using hf
          · rcases L with _ | ⟨z, L'⟩
            · have := spot_le H [] who
              simp only [List.length_nil] at this
              omega
            · obtain ⟨m, hm⟩ : ∃ m, spotP H (z :: L') who = m + 1 := ⟨spotP H (z :: L') who - 1, by omega⟩
              rw [hm, List.take_succ_cons] at hy
              injection hy with hy _
              subst hy
              exact h2 z L' rfl
theorem fit_drain : ∀ (L H : List Cl), Ok (H, L) → (∀ a ∈ H, ∀ c ∈ H, a.1 ≠ c.1 → fitB a.2 c.2 = true) → Fit (drainP H L).2
  | [], H, _, h => ⟨h, fun x r e => by cases e⟩
  | x :: L, H, ok, h => by
    have okn := ok.ndL
    simp only [List.map_cons, List.nodup_cons] at okn
    have hx := ok.mL x (by simp)
    by_cases hf : fitsP H x = true
    · rw [drain_go hf]
      exact fit_drain L _ ⟨whos_grant ok.ndH, okn.2, grant_modes ok.mH hx, fun c hc => ok.mL c (by simp [hc])⟩ (pair_grant ok.ndH ok.mH hx.2 h hf)
    · have hf : fitsP H x = false := by simpa using hf
      rw [drain_stop hf]
      refine ⟨h, fun y r e => ?_⟩
      simp only at e ⊢
      injection e with e _
      subst e
      exact hf
theorem fit_drop {s : Lk} (ok : Ok s) (h : Fit s) (who : Int) : Fit (dropP s who).2 :=
  fit_drain _ _ ⟨whos_without ok.ndH, whos_without ok.ndL, without_modes ok.mH, without_modes ok.mL⟩ fun a ha c hc hne => h.1 a (List.mem_filter.1 ha).1 c (List.mem_filter.1 hc).1 hne
theorem holds_nodup {s : Lk} (ok : Ok s) : ((holdsP s).map (·.1)).Nodup := by
  obtain ⟨H, L⟩ := s
  have okH := ok.mH
  have okN := ok.ndH
  have okL := ok.ndL
  simp only at okH okN okL
  unfold holdsP
  simp only
  rw [List.map_append, List.map_map, List.map_map, List.nodup_append]
  refine ⟨okN, okL.sublist ((List.filter_sublist).map _), fun a ha b hb e => ?_⟩
  obtain ⟨c, hc, rfl⟩ := List.mem_map.1 ha
  obtain ⟨d, hd, rfl⟩ := List.mem_map.1 hb
  have hd2 := (List.mem_filter.1 hd).2
  simp only [Function.comp, holdsA, holdsB] at e
  rw [← e, mode_mem okN hc] at hd2
  have := (okH c hc).1
  simp at hd2
  omega
theorem holds_held {s : Lk} {x : Ho} (hx : x ∈ holdsP s) (h : x.2.1 ≠ 0) : (x.1, x.2.1) ∈ s.1 := by
  unfold holdsP at hx
  rcases List.mem_append.1 hx with hx | hx
  · obtain ⟨c, hc, rfl⟩ := List.mem_map.1 hx
    exact hc
  · obtain ⟨c, hc, rfl⟩ := List.mem_map.1 hx
    exact absurd rfl h
theorem holds_wants {s : Lk} (ok : Ok s) {x : Ho} (hx : x ∈ holdsP s) (h : x.2.2 ≠ 0) : hasP s.2 x.1 = true := by
  unfold holdsP at hx
  rcases List.mem_append.1 hx with hx | hx
  · obtain ⟨c, hc, rfl⟩ := List.mem_map.1 hx
    simp only [holdsA] at h ⊢
    rw [← mode_ne ok.mL c.1]
    simpa using h
  · obtain ⟨c, hc, rfl⟩ := List.mem_map.1 hx
    unfold hasP
    rw [List.any_eq_true]
    exact ⟨c, (List.mem_filter.1 hc).1, by simp [isW, holdsB]⟩
theorem waits_some {s : Lk} (h : Fit s) {who : Int} (hw : hasP s.2 who = true) : 0 < (waitsP s who).length := by
  obtain ⟨H, L⟩ := s
  rcases idx_cases (isW who) L with ⟨_, h2⟩ | ⟨hlt, _, _, hhit⟩
  · unfold hasP at hw
    simp only at hw
    rw [h2] at hw
    cases hw
  · rw [waits_hit hlt (List.getElem?_eq_getElem hlt)]
    apply uniqI_pos
    unfold rawP
    simp only
    intro e
    rw [List.append_eq_nil_iff, List.map_eq_nil_iff, List.map_eq_nil_iff] at e
    rcases Nat.eq_zero_or_pos (L.findIdx (isW who)) with h0 | h0
    · rcases L with _ | ⟨y, r⟩
      · simp at hlt
      · have hf := h.2 y r rfl
        obtain ⟨c, hc, hne, hcf⟩ := fits_some hf
        have hy : (y :: r)[List.findIdx (isW who) (y :: r)] = y := by simp [h0]
        have e1 := e.1
        rw [hy, List.filter_eq_nil_iff] at e1
        exact e1 c hc (by unfold inwayP; rw [hcf, bne_iff_ne.2 hne]; rfl)
    · have := congrArg List.length e.2
      rw [List.length_take] at this
      simp only [List.length_nil] at this
      omega
end Go.Proofs.YtnjhhndggfjjdaaDoor
