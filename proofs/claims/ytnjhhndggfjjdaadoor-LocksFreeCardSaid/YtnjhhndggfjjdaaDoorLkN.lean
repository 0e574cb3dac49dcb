/- Plain facts: who has to do with a lock, behind whatever is done with it; how many there are. -/
import Derived.Test.YtnjhhndggfjjdaaDoorLkP
set_option maxRecDepth 4000
namespace Go.Proofs.YtnjhhndggfjjdaaDoor
open Go
theorem has_mem {l : List Cl} {x : Int} : hasP l x = true ↔ x ∈ l.map (·.1) := by
  unfold hasP
  rw [List.any_eq_true, List.mem_map]
  constructor
  · rintro ⟨c, hc, h⟩
    exact ⟨c, hc, by simpa [isW] using h⟩
  · rintro ⟨c, hc, rfl⟩
    exact ⟨c, hc, by simp [isW]⟩
/-- all that have to do with a lock -/
def whosP (s : Lk) : List Int := (holdsP s).map (·.1)
theorem whos_mem {s : Lk} (ok : Ok s) (x : Int) : x ∈ whosP s ↔ (hasP s.1 x = true ∨ hasP s.2 x = true) := by
  obtain ⟨H, L⟩ := s
  unfold whosP holdsP
  simp only [List.map_append, List.map_map, List.mem_append, List.mem_map, List.mem_filter, Function.comp]
  constructor
  · rintro (⟨c, hc, rfl⟩ | ⟨c, ⟨hc, _⟩, rfl⟩)
    · exact .inl (has_mem.2 (List.mem_map.2 ⟨c, hc, rfl⟩))
    · exact .inr (has_mem.2 (List.mem_map.2 ⟨c, hc, rfl⟩))
  · intro h
    cases hh : hasP H x
    · rcases h with h | h
      · rw [hh] at h; cases h
      · obtain ⟨c, hc, rfl⟩ := List.mem_map.1 (has_mem.1 h)
        refine .inr ⟨c, ⟨hc, ?_⟩, rfl⟩
        rw [mode_zero ok.mH c.1, hh]
        rfl
    · obtain ⟨c, hc, rfl⟩ := List.mem_map.1 (has_mem.1 hh)
      exact .inl ⟨c, hc, rfl⟩
theorem here_mem (s : Lk) (x : Int) : hereP s x = true ↔ x ∈ whosP s := by
  unfold hereP whosP
  rw [List.any_eq_true, List.mem_map]
  constructor
  · rintro ⟨c, hc, h⟩
    exact ⟨c, hc, by simpa using h⟩
  · rintro ⟨c, hc, rfl⟩
    exact ⟨c, hc, by simp⟩
theorem whos_nodup {s : Lk} (ok : Ok s) : (whosP s).Nodup := holds_nodup ok
theorem whos_length (s : Lk) : (whosP s).length = (holdsP s).length := List.length_map _
/-- two lists without doubles, the same but for one -/
theorem length_more {l m : List Int} {x : Int} (hl : l.Nodup) (hm : m.Nodup) (hx : x ∉ l) (h : ∀ y, y ∈ m ↔ y = x ∨ y ∈ l) : m.length = l.length + 1 := by
  have h2 : (x :: l).Nodup := List.nodup_cons.2 ⟨hx, hl⟩
  have := (List.perm_ext_iff_of_nodup hm h2).2 fun y => by rw [h y, List.mem_cons]
  rw [this.length_eq, List.length_cons]
theorem length_same {l m : List Int} (hl : l.Nodup) (hm : m.Nodup) (h : ∀ y, y ∈ m ↔ y ∈ l) : m.length = l.length := ((List.perm_ext_iff_of_nodup hm hl).2 h).length_eq
theorem grant_has_iff {H : List Cl} {x : Cl} {y : Int} : hasP (grantP H x) y = true ↔ y = x.1 ∨ hasP H y = true := by
  unfold grantP
  cases hh : hasP H x.1
  · rw [if_neg (by simp), has_mem, has_mem]
    simp [or_comm]
  · rw [if_pos rfl, has_mem, has_mem]
    rcases idx_cases (isW x.1) H with ⟨_, h2⟩ | ⟨hlt, _, _, hit⟩
    · unfold hasP at hh
      rw [h2] at hh; cases hh
    · have he : (H[H.findIdx (isW x.1)]).1 = x.1 := by simpa [isW] using hit
      have hs : (H.set (H.findIdx (isW x.1)) x).map (·.1) = H.map (·.1) := by
        rw [List.map_set]
        refine List.ext_getElem? fun i => ?_
        rw [List.getElem?_set]
        split
        · rename_i e
          subst e
          rw [if_pos (by simpa using hlt), List.getElem?_eq_getElem (by simpa using hlt), List.getElem_map, he]
        · rfl
      rw [hs]
      constructor
      · exact .inr
      · rintro (rfl | h)
        · exact has_mem.1 hh
        · exact h
theorem wait_has_iff {H L : List Cl} {x : Cl} {y : Int} : hasP (waitP H L x) y = true ↔ y = x.1 ∨ hasP L y = true := by
  unfold waitP
  rw [has_mem, has_mem]
  conv => rhs; rw [← List.take_append_drop (spotP H L x.1) L]
  simp only [List.map_append, List.map_cons, List.mem_append, List.mem_cons]
  constructor
  · rintro (h | h | h)
    · exact .inr (.inl h)
    · exact .inl h
    · exact .inr (.inr h)
  · rintro (h | h | h)
    · exact .inr (.inl h)
    · exact .inl h
    · exact .inr (.inr h)
/-- who has to do with it behind an Ask for something -/
theorem ask_whos {s : Lk} {who : Int} {q : Nat} (ok : Ok s) (hq : q ≠ 0) (hq6 : q < 6) (hl : hasP s.2 who = false) (y : Int) : (hasP (askP s who q).2.1 y = true ∨ hasP (askP s who q).2.2 y = true) ↔ (y = who ∨ hasP s.1 y = true ∨ hasP s.2 y = true) := by
  obtain ⟨H, L⟩ := s
  have ml : modeP L who = 0 := by
    have := mode_zero ok.mL who
    simp only at hl
    rw [hl] at this
    simpa using this
  unfold askP
  simp only at *
  rw [if_neg hq, if_neg (by simpa using ml)]
  by_cases h1 : covB (modeP H who) q = true
  · rw [if_pos h1]
    constructor
    · exact .inr
    · rintro (rfl | h)
      · left
        rw [← mode_ne ok.mH y]
        by_cases h0 : modeP H y = 0
        · rw [h0, cov_zero hq6] at h1
          exact absurd (of_decide_eq_true h1) hq
        · simpa using h0
      · exact h
  · rw [if_neg h1]
    split
    · simp only
      rw [grant_has_iff]
      simp only
      constructor
      · rintro ((h | h) | h)
        · exact .inl h
        · exact .inr (.inl h)
        · exact .inr (.inr h)
      · rintro (h | h | h)
        · exact .inl (.inl h)
        · exact .inl (.inr h)
        · exact .inr h
    · simp only
      rw [wait_has_iff]
      simp only
      constructor
      · rintro (h | h | h)
        · exact .inr (.inl h)
        · exact .inl h
        · exact .inr (.inr h)
      · rintro (h | h | h)
        · exact .inr (.inl h)
        · exact .inl h
        · exact .inr (.inr h)
/-- .. and in the line nobody else than was there, and who asked -/
theorem ask_line {s : Lk} {who : Int} {q : Nat} {y : Int} (h : hasP (askP s who q).2.2 y = true) : y = who ∨ hasP s.2 y = true := by
  obtain ⟨H, L⟩ := s
  unfold askP at h
  simp only at *
  split at h
  · exact .inr h
  · split at h
    · exact .inr h
    · split at h
      · exact .inr h
      · split at h
        · exact .inr h
        · exact wait_has_iff.1 h
theorem ask_count {s : Lk} {who : Int} {q : Nat} (ok : Ok s) (hq : q ≠ 0) (hq6 : q < 6) (hl : hasP s.2 who = false) : (holdsP (askP s who q).2).length = (holdsP s).length + (if hereP s who = true then 0 else 1) := by
  have ok2 := ok_ask ok who hq6
  have hm : ∀ y, y ∈ whosP (askP s who q).2 ↔ y = who ∨ y ∈ whosP s := fun y => by rw [whos_mem ok2, whos_mem ok, ask_whos ok hq hq6 hl]
  rw [← whos_length, ← whos_length]
  cases hh : hereP s who
  · exact length_more (whos_nodup ok) (whos_nodup ok2) (fun h => by rw [(here_mem s who).2 h] at hh; cases hh) hm
  · exact length_same (whos_nodup ok) (whos_nodup ok2) fun y => by
      rw [hm y]
      constructor
      · rintro (rfl | h)
        · exact (here_mem s y).1 hh
        · exact h
      · exact .inr
theorem drain_whos : ∀ (L H : List Cl) (y : Int), (hasP (drainP H L).2.1 y = true ∨ hasP (drainP H L).2.2 y = true) ↔ (hasP H y = true ∨ hasP L y = true)
  | [], H, y => by simp [drainP]
  | x :: L, H, y => by
    by_cases hf : fitsP H x = true
    · rw [drain_go hf]
      simp only
      rw [drain_whos L _ y, grant_has_iff]
      have : hasP (x :: L) y = true ↔ y = x.1 ∨ hasP L y = true := by rw [has_mem, has_mem]; simp
      rw [this]
      constructor
      · rintro ((h | h) | h)
        · exact .inr (.inl h)
        · exact .inl h
        · exact .inr (.inr h)
      · rintro (h | h | h)
        · exact .inl (.inr h)
        · exact .inl (.inl h)
        · exact .inr h
    · rw [drain_stop (by simpa using hf)]
theorem without_has {l : List Cl} {who y : Int} : hasP (withoutP l who) y = true ↔ y ≠ who ∧ hasP l y = true := by
  rw [has_mem, has_mem]
  unfold withoutP
  simp only [List.mem_map, List.mem_filter]
  constructor
  · rintro ⟨c, ⟨hc, h⟩, rfl⟩
    exact ⟨by simpa [isW] using h, c, hc, rfl⟩
  · rintro ⟨h, c, hc, rfl⟩
    exact ⟨c, ⟨hc, by simpa [isW] using h⟩, rfl⟩
theorem drop_whos {s : Lk} (who y : Int) : (hasP (dropP s who).2.1 y = true ∨ hasP (dropP s who).2.2 y = true) ↔ (y ≠ who ∧ (hasP s.1 y = true ∨ hasP s.2 y = true)) := by
  unfold dropP
  rw [drain_whos, without_has, without_has]
  constructor
  · rintro (⟨h, h2⟩ | ⟨h, h2⟩)
    · exact ⟨h, .inl h2⟩
    · exact ⟨h, .inr h2⟩
  · rintro ⟨h, h2 | h2⟩
    · exact .inl ⟨h, h2⟩
    · exact .inr ⟨h, h2⟩
theorem drain_line : ∀ (L H : List Cl) {y : Int}, hasP (drainP H L).2.2 y = true → hasP L y = true
  | [], H, y, h => by simp [drainP, hasP] at h
  | x :: L, H, y, h => by
    by_cases hf : fitsP H x = true
    · rw [drain_go hf] at h
      have := drain_line L _ h
      rw [has_mem] at *
      simp only [List.map_cons, List.mem_cons]
      exact .inr this
    · rw [drain_stop (by simpa using hf)] at h
      exact h
theorem drop_line {s : Lk} {who y : Int} (h : hasP (dropP s who).2.2 y = true) : hasP s.2 y = true := (without_has.1 (drain_line _ _ h)).2
theorem drop_count {s : Lk} {who : Int} (ok : Ok s) (hh : hereP s who = true) : (holdsP (dropP s who).2).length + 1 = (holdsP s).length := by
  have ok2 := ok_drop ok who
  rw [← whos_length, ← whos_length]
  refine (length_more (whos_nodup ok2) (whos_nodup ok) (x := who) (fun h => ?_) fun y => ?_).symm
  · rw [whos_mem ok2, drop_whos] at h
    exact h.1 rfl
  · rw [whos_mem ok2, whos_mem ok, drop_whos]
    constructor
    · intro h
      by_cases e : y = who
      · exact .inl e
      · exact .inr ⟨e, h⟩
    · rintro (rfl | h)
      · have := (here_mem s y).1 hh
        rwa [whos_mem ok] at this
      · exact h.2
end Go.Proofs.YtnjhhndggfjjdaaDoor
