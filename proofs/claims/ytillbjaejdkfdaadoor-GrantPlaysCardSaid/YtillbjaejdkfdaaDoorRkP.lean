/- Plain facts: numbers put one by one into a row that rises. -/
import Derived.Test.YtillbjaejdkfdaaDoorRkI
set_option maxRecDepth 4000
namespace Go.Proofs.YtillbjaejdkfdaaDoor
open Go
theorem spot_before {l : List Int} {x : Int} {q : Nat} (hq : q < spotI l x) (hl : q < l.length) : l[q] < x := by
  have := List.not_of_lt_findIdx hq
  simpa using this
theorem spot_hit {l : List Int} {x : Int} (h : spotI l x < l.length) : x ≤ l[spotI l x] := by
  have := List.findIdx_getElem (w := h)
  exact of_decide_eq_true this
theorem ins_mem {l : List Int} {x y : Int} : y ∈ insI l x ↔ y = x ∨ y ∈ l := by
  unfold insI
  split
  · rename_i h
    have hm : x ∈ l := List.mem_of_getElem? h
    constructor
    · exact .inr
    · rintro (rfl | h)
      · exact hm
      · exact h
  · have hs : y ∈ l ↔ y ∈ l.take (spotI l x) ∨ y ∈ l.drop (spotI l x) := by
      rw [← List.mem_append, List.take_append_drop]
    rw [List.mem_append, List.mem_cons, hs]
    constructor
    · rintro (h | h | h)
      · exact .inr (.inl h)
      · exact .inl h
      · exact .inr (.inr h)
    · rintro (h | h | h)
      · exact .inr (.inl h)
      · exact .inl h
      · exact .inr (.inr h)
theorem ins_rises {l : List Int} {x : Int} (h : l.Pairwise (· < ·)) : (insI l x).Pairwise (· < ·) := by
  unfold insI
  split
  · exact h
  · rename_i hne
    have hp := h
    rw [← List.take_append_drop (spotI l x) l, List.pairwise_append] at hp
    have hbef : ∀ a ∈ l.take (spotI l x), a < x := fun a ha => by
      obtain ⟨q, hq, rfl⟩ := List.getElem_of_mem ha
      rw [List.length_take] at hq
      rw [List.getElem_take]
      exact spot_before (by omega) (by omega)
    have haft : ∀ a ∈ l.drop (spotI l x), x < a := fun a ha => by
      obtain ⟨q, hq, rfl⟩ := List.getElem_of_mem ha
      rw [List.length_drop] at hq
      have hs : spotI l x < l.length := by omega
      have h1 := spot_hit hs
      have h2 : l[spotI l x] ≠ x := fun e => hne (by rw [List.getElem?_eq_getElem hs, e])
      rw [List.getElem_drop]
      rcases Nat.eq_zero_or_pos q with h0 | h0
      · subst h0
        simp only [Nat.add_zero]
        omega
      · have := List.pairwise_iff_getElem.1 h (spotI l x) (spotI l x + q) hs (by omega) (by omega)
        omega
    rw [List.pairwise_append]
    refine ⟨hp.1, List.pairwise_cons.2 ⟨haft, hp.2.1⟩, fun a ha c hc => ?_⟩
    rcases List.mem_cons.1 hc with rfl | hc
    · exact hbef a ha
    · exact Int.lt_trans (hbef a ha) (haft c hc)
def foldI (zs : List Int) : List Int := zs.foldl insI []
theorem foldl_rises (zs : List Int) : ∀ {l : List Int}, l.Pairwise (· < ·) → (zs.foldl insI l).Pairwise (· < ·) := by
  induction zs with
  | nil => exact fun h => h
  | cons z r ih => exact fun h => ih (ins_rises h)
theorem foldl_mem (zs : List Int) : ∀ {l : List Int} {y : Int}, y ∈ zs.foldl insI l ↔ y ∈ zs ∨ y ∈ l := by
  induction zs with
  | nil => intro l y; simp
  | cons z r ih =>
    intro l y
    rw [List.foldl_cons, ih, ins_mem, List.mem_cons]
    constructor
    · rintro (h | h | h)
      · exact .inl (.inr h)
      · exact .inl (.inl h)
      · exact .inr h
    · rintro ((h | h) | h)
      · exact .inr (.inl h)
      · exact .inl h
      · exact .inr (.inr h)
theorem foldI_snoc (zs : List Int) (z : Int) : foldI (zs ++ [z]) = insI (foldI zs) z := by
  unfold foldI
  rw [List.foldl_append]
  rfl
theorem fold_uniq (zs : List Int) : foldI zs = uniqI zs := by
  obtain ⟨h1, h2⟩ := uniqI_spec zs
  refine rising_eq (foldl_rises zs List.Pairwise.nil) h1 fun x => ?_
  rw [h2]
  unfold foldI
  rw [foldl_mem]
  simp
theorem ins_length (l : List Int) (x : Int) : (insI l x).length ≤ l.length + 1 := by
  unfold insI
  split
  · omega
  · have := congrArg List.length (List.take_append_drop (spotI l x) l)
    simp only [List.length_append, List.length_cons] at this ⊢
    omega
theorem foldl_length (zs : List Int) : ∀ l : List Int, (zs.foldl insI l).length ≤ l.length + zs.length := by
  induction zs with
  | nil => intro l; simp
  | cons z r ih =>
    intro l
    have := ih (insI l z)
    have := ins_length l z
    simp only [List.foldl_cons, List.length_cons]
    omega
end Go.Proofs.YtillbjaejdkfdaaDoor
