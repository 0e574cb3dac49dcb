/- Plain facts on messages in order: what is put one by one rises, and comes out from the front. -/
import Derived.Test.YtglcdchjddnjgaaMqP
set_option maxRecDepth 4000
namespace Go.Proofs.Ytglcdchjddnjgaa
theorem cmpG_lt (a b : Mg) : cmpG a b < 0 ↔ a.pri < b.pri ∨ a.pri = b.pri ∧ a.id < b.id := by
  unfold cmpG cmpM cmpI
  repeat' split
  all_goals omega
theorem cmpG_ne {a b : Mg} (h : a.id ≠ b.id) (h2 : ¬ cmpG a b < 0) : cmpG b a < 0 := by
  rw [cmpG_lt] at *
  omega
theorem cmpG_trans {a b c : Mg} (h : cmpG a b < 0) (h2 : cmpG b c < 0) : cmpG a c < 0 := by
  rw [cmpG_lt] at *
  omega
/-- each is behind all that are ahead of it -/
def UpM (l : List Mg) : Prop := l.Pairwise fun a b => cmpG a b < 0
theorem add_perm (l : List Mg) (m : Mg) : (addM l m).Perm (m :: l) := by
  unfold addM
  rw [List.append_assoc]
  have h : (List.take (spotM l m) l ++ ([m] ++ List.drop (spotM l m) l)).Perm (m :: (List.take (spotM l m) l ++ List.drop (spotM l m) l)) := List.perm_middle
  rwa [List.take_append_drop] at h
theorem mem_add {l : List Mg} {m x : Mg} : x ∈ addM l m ↔ x = m ∨ x ∈ l := by
  rw [(add_perm l m).mem_iff, List.mem_cons]
theorem add_up {l : List Mg} {m : Mg} (h : UpM l) (hne : ∀ x ∈ l, m.id ≠ x.id) : UpM (addM l m) := by
  have ht : ∀ x ∈ l.take (spotM l m), cmpG x m < 0 := fun x hx => by
    obtain ⟨j, hj, rfl⟩ := List.getElem_of_mem hx
    have hj2 : j < spotM l m := by rw [List.length_take] at hj; omega
    have := List.not_of_lt_findIdx hj2
    rw [List.getElem_take]
    exact cmpG_ne (hne _ (List.getElem_mem _)) (by simpa [behM] using this)
  have hd : ∀ x ∈ l.drop (spotM l m), cmpG m x < 0 := by
    by_cases hs : spotM l m < l.length
    · have h0 : cmpG m l[spotM l m] < 0 := by
        have : behM m l[spotM l m] = true := List.findIdx_getElem (w := hs)
        simpa [behM] using this
      rw [List.drop_eq_getElem_cons hs]
      have hp := (List.pairwise_iff_getElem.1 h)
      intro x hx
      rcases List.mem_cons.1 hx with rfl | hx
      · exact h0
      · obtain ⟨j, hj, rfl⟩ := List.getElem_of_mem hx
        rw [List.getElem_drop]
        exact cmpG_trans h0 (hp _ _ hs (by rw [List.length_drop] at hj; omega) (by omega))
    · intro x hx
      rw [List.drop_of_length_le (by omega)] at hx
      cases hx
  unfold addM UpM
  rw [List.append_assoc, List.pairwise_append]
  refine ⟨h.sublist (List.take_sublist _ _), ?_, fun x hx y hy => ?_⟩
  · show (m :: l.drop (spotM l m)).Pairwise _
    rw [List.pairwise_cons]
    exact ⟨hd, h.sublist (List.drop_sublist _ _)⟩
  · rcases List.mem_append.1 hy with hy | hy
    · rw [List.mem_singleton.1 hy]; exact ht x hx
    · exact cmpG_trans (ht x hx) (hd y hy)
theorem rises_up {l : List Mg} (h : UpM l) (hn : (l.map (·.id)).Nodup) : risesM l = true := by
  unfold risesM
  rw [List.all_eq_true]
  intro i hi
  have hi := List.mem_range.1 hi
  unfold upM
  rw [List.getElem?_eq_getElem hi]
  simp only [Bool.and_eq_true, Bool.or_eq_true, Bool.not_eq_true', decide_eq_false_iff_not, beq_iff_eq]
  refine ⟨fun hm => ?_, ?_⟩
  · obtain ⟨x, hx, e⟩ := List.mem_map.1 hm
    obtain ⟨j, hj, rfl⟩ := List.getElem_of_mem hx
    rw [List.length_take] at hj
    rw [List.getElem_take] at e
    have := List.pairwise_iff_getElem.1 hn j i (by rw [List.length_map]; omega) (by rw [List.length_map]; omega) (by omega)
    rw [List.getElem_map, List.getElem_map] at this
    exact this e
  · rcases Nat.eq_zero_or_pos i with h0 | h0
    · exact .inl h0
    · refine .inr ?_
      rw [List.getElem?_eq_getElem (show i - 1 < l.length by omega)]
      exact decide_eq_true (List.pairwise_iff_getElem.1 h (i - 1) i (by omega) hi (by omega))
/-- messages that were put: those of these numbers, of which nobody has one -/
structure PutQ (ps : List Bool) (l : List Mg) : Prop where
  len : l.length = ps.count true
  up : UpM l
  ids : (l.map (·.id)).Nodup
  all : ∀ m ∈ l, 0 ≤ m.pri ∧ m.claimed = false ∧ ∃ k : Nat, ps[k]? = some true ∧ m.id = (k : Int) + 1
theorem putq_none (n : Nat) : PutQ (List.replicate n false) [] := ⟨by rw [List.count_replicate]; rfl, List.Pairwise.nil, by simp, fun _ h => (by cases h)⟩
theorem putq_more {ps : List Bool} {l : List Mg} (h : PutQ ps l) {k : Nat} (hk : ps[k]? = some false) {m : Mg} (h1 : m.id = (k : Int) + 1) (h2 : 0 ≤ m.pri) (h3 : m.claimed = false) : PutQ (ps.set k true) (addM l m) := by
  obtain ⟨hlt, he⟩ := List.getElem?_eq_some_iff.1 hk
  have hno : ∀ x ∈ l, m.id ≠ x.id := fun x hx e => by
    obtain ⟨_, _, j, hj, hid⟩ := h.all x hx
    have : j = k := by omega
    subst this
    rw [hk] at hj
    cases hj
  refine ⟨?_, add_up h.up hno, ?_, fun x hx => ?_⟩
  · rw [add_len, h.len, List.count_set hlt, he]; simp
  · rw [((add_perm l m).map (·.id)).nodup_iff, List.map_cons, List.nodup_cons]
    refine ⟨fun hm => ?_, h.ids⟩
    obtain ⟨x, hx, e⟩ := List.mem_map.1 hm
    exact hno x hx e.symm
  · rcases mem_add.1 hx with rfl | hx
    · exact ⟨h2, h3, k, by rw [List.getElem?_set, if_pos rfl]; simp [hlt], h1⟩
    · obtain ⟨a, b, j, hj, hid⟩ := h.all x hx
      refine ⟨a, b, j, ?_, hid⟩
      rw [List.getElem?_set]
      by_cases e : k = j
      · subst e; simp [hlt]
      · rw [if_neg e]; exact hj
/-- messages that come out from the front, behind one that came out last -/
structure LeftQ (was : Mg) (l : List Mg) : Prop where
  up : UpM l
  free : ∀ m ∈ l, m.claimed = false
  behind : ∀ m ∈ l, cmpG was m < 0
theorem leftq_first {l : List Mg} {ps : List Bool} (h : PutQ ps l) : LeftQ ⟨0, -1, 0, false, ⟨#[]⟩, ⟨#[]⟩⟩ l :=
  ⟨h.up, fun m hm => (h.all m hm).2.1, fun m hm => (cmpG_lt _ _).2 (.inl (by have := (h.all m hm).1; simp only; omega))⟩
theorem leftq_next {was m : Mg} {l : List Mg} (h : LeftQ was (m :: l)) : idxI freeM (m :: l) = 0 ∧ cmpG was m < 0 ∧ hasM (m :: l) m.id = true ∧ cutM (m :: l) m.id = l ∧ LeftQ m l := by
  have hf : freeM m = true := by unfold freeM; rw [h.free m (by simp)]; rfl
  have hi : isM m.id m = true := by simp [isM]
  obtain ⟨h1, h2⟩ := List.pairwise_cons.1 h.up
  refine ⟨?_, h.behind m (by simp), ?_, ?_, h2, fun x hx => h.free x (by simp [hx]), h1⟩
  · simp [idxI, List.findIdx_cons, hf]
  · simp [hasM, hi]
  · simp [cutM, List.findIdx_cons, hi]
end Go.Proofs.Ytglcdchjddnjgaa
