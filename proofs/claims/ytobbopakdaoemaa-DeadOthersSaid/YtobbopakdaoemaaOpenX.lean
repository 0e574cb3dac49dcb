/- What the reading of a slice of whatever structs gives, once for all of them, by text ..Enc. -/
import Derived.Test.YtobbopakdaoemaaHeld
import Derived.Test.YtobbopakdaoemaaSl
import Derived.Deep.Slices
import Derived.ChangeArms
set_option maxRecDepth 4000
namespace Go.Proofs.Ytobbopakdaoemaa
open Go.ChangeShapes Go.WideShapes Go.ChangeAt Go.RowKit Go.Deep
section
variable {H : Type} {enc : TypeId × Value → H} {w : World} {base : Nat} {spare : Nat → Bool} {held : Bool}
theorem trod_sl {α : Type} (E : Enc α) {T S : TypeId} (und : Try.prog.underlying S = some (.slice T)) (ck : Try.prog.cellsOf T = E.k) (P : α → Prop) (inh : α)
    (hopen : ∀ (fuel : Nat) (cs : List Value) (x : DataW H × List MemPlace), cs.length = E.k → DataW.trod enc Try.prog w base spare held fuel T cs = some x → ∃ s, cs = E.enc s ∧ P s)
    {fuel : Nat} {cs : List Value} {x : DataW H × List MemPlace} (h : DataW.trod enc Try.prog w base spare held fuel S cs = some x) : ∃ v l, cs = [v] ∧ Sl w E v l ∧ ∀ s ∈ l, P s := by
  rcases open_slice und h with ⟨hcs, _⟩ | ⟨a, len, cap, m, n, D, Pl, hcs, _, hl, hm, hmm, _, hx⟩
  · exact ⟨_, [], hcs, Sl.nil _ _, fun s hs => by cases hs⟩
  · have hlm : len ≤ m := by rw [hmm]; split <;> omega
    have key : ∀ i, ∃ s : α, i < len → (∀ t v, (E.enc s)[t]? = some v → w.cell? (a.add (i * E.k + t)) = some v) ∧ P s := fun i => by
      by_cases hi : i < len
      · obtain ⟨cs', h1, h2⟩ := hx i (by omega)
        rw [ck] at h1
        obtain ⟨_, hlen, hat⟩ := World.cells?_some h1
        obtain ⟨s, e, hp⟩ := hopen _ _ _ hlen h2
        subst e
        refine ⟨s, fun _ => ⟨fun t v htv => ?_, hp⟩⟩
        obtain ⟨ht, e⟩ := List.getElem?_eq_some_iff.1 htv
        have := hat t (by rw [← hlen]; exact ht)
        rw [Go.Deep.add_add] at this
        rw [this]
        exact htv
      · exact ⟨inh, fun h => absurd h hi⟩
    obtain ⟨f, hfun⟩ := Classical.axiomOfChoice key
    refine ⟨_, (List.range len).map f, hcs, ⟨some a, cap, by simp, fun h0 => ?_, by simpa using hl, hm, fun h => by cases h⟩, fun s hs => ?_⟩
    · obtain ⟨ab, ao, spot⟩ := a
      have hl0 : 0 < len := by simpa using h0
      have hk0 : 0 < (E.enc (f 0)).length := by rw [E.len]; exact E.pos
      have hc0 := (hfun 0 hl0).1 0 _ (List.getElem?_eq_getElem hk0)
      have hspot : spot = none := by simpa [Addr.add] using World.cell?_spot hc0
      subst hspot
      have hbl : ab < w.heap.size := by simpa [Addr.add] using block_of_cell hc0
      refine ⟨ab, ao, rfl, trivial, hbl, fun z u hz => ?_⟩
      have hzl := (List.getElem?_eq_some_iff.1 hz).1
      rw [cellsE_length, List.length_map, List.length_range] at hzl
      have hd := Nat.div_add_mod z E.k
      have hmk : z % E.k < E.k := Nat.mod_lt _ E.pos
      have hj : z / E.k < len := by
        rw [Nat.div_lt_iff_lt_mul E.pos]; exact hzl
      have hj2 : z / E.k < ((List.range len).map f).length := by simpa using hj
      have hfj : ((List.range len).map f)[z / E.k] = f (z / E.k) := by simp
      have hil : z % E.k < (E.enc (f (z / E.k))).length := by rw [E.len]; exact hmk
      have hc := cellsE_at E hj2 (i := z % E.k) (v := (E.enc (f (z / E.k)))[z % E.k]) (by rw [hfj]; exact List.getElem?_eq_getElem hil)
      have he : z / E.k * E.k + z % E.k = z := by rw [Nat.mul_comm]; exact hd
      rw [he, hz] at hc
      injection hc with hc
      have := (hfun (z / E.k) hj).1 (z % E.k) _ (List.getElem?_eq_getElem hil)
      rw [he, add_none] at this
      rw [this, hc]
    · obtain ⟨i, hi, rfl⟩ := List.mem_map.1 hs
      exact (hfun i (List.mem_range.1 hi)).2
end
end Go.Proofs.Ytobbopakdaoemaa
