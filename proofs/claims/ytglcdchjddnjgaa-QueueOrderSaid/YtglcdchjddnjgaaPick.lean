/- Plain facts on picks: where the next number is that is left; a row of truths, as memory has it. -/
import Derived.Test.YtglcdchjddnjgaaProg
import Derived.Test.YtglcdchjddnjgaaKeep
import Derived.OwnWalk
import Derived.WalkKit
set_option maxRecDepth 4000
namespace Go.Proofs.Ytglcdchjddnjgaa
open Go.RowKit
/-- a number that is left, from any one on -/
theorem free_ahead {n i : Nat} {bs : List Bool} (hl : bs.length = n) (hc : bs.count true = i) (hi : i < n) {k : Nat} (hk : k < n) : ∃ d, d < n ∧ bs[(k + d) % n]? = some false := by
  have hf : ∃ f, f < n ∧ bs[f]? = some false := by
    refine Classical.byContradiction fun hno => ?_
    have hall : ∀ b ∈ bs, true = b := fun b hb => by
      obtain ⟨f, hf, rfl⟩ := List.getElem_of_mem hb
      cases hbf : bs[f] with
      | true => rfl
      | false => exact absurd ⟨f, by omega, by rw [List.getElem?_eq_getElem hf, hbf]⟩ hno
    have := List.count_eq_length.2 hall
    omega
  obtain ⟨f, hf, hb⟩ := hf
  by_cases h : k ≤ f
  · exact ⟨f - k, by omega, by rw [show k + (f - k) = f by omega, Nat.mod_eq_of_lt hf]; exact hb⟩
  · exact ⟨f + n - k, by omega, by rw [show k + (f + n - k) = f + n by omega, Nat.add_mod_right, Nat.mod_eq_of_lt hf]; exact hb⟩
theorem next_ahead {n k d : Nat} {bs : List Bool} (hk : k < n) (h : bs[(k + d) % n]? = some false) (ht : bs[k]? = some true) : ∃ d', d = d' + 1 ∧ (k + 1) % n < n ∧ bs[((k + 1) % n + d') % n]? = some false := by
  match d, h with
  | 0, h => rw [Nat.add_zero, Nat.mod_eq_of_lt hk, ht] at h; cases h
  | d + 1, h => exact ⟨d, rfl, Nat.mod_lt _ (by omega), by rw [Nat.mod_add_mod, show k + 1 + d = k + (d + 1) by omega]; exact h⟩
theorem count_set {n i k : Nat} {bs : List Bool} (hl : bs.length = n) (hc : bs.count true = i) (hk : bs[k]? = some false) : (bs.set k true).length = n ∧ (bs.set k true).count true = i + 1 := by
  obtain ⟨hlt, he⟩ := List.getElem?_eq_some_iff.1 hk
  refine ⟨by simp [hl], ?_⟩
  rw [List.count_set hlt, he, hc]; simp
theorem all_set {n : Nat} {bs : List Bool} (hl : bs.length = n) (hc : bs.count true = n) (k : Nat) : bs[k]? = some true ↔ k < n := by
  have hall := List.count_eq_length.1 (hc.trans hl.symm)
  constructor
  · intro h; have := (List.getElem?_eq_some_iff.1 h).1; omega
  · intro h
    have hk : k < bs.length := by omega
    rw [List.getElem?_eq_getElem hk, ← hall _ (List.getElem_mem hk)]
theorem set_at (bs : List Bool) (k j : Nat) (hk : k < bs.length) : (bs.set k true)[j]? = some true ↔ (j = k ∨ bs[j]? = some true) := by
  rw [List.getElem?_set]
  by_cases e : k = j
  · subst e; simp [hk]
  · rw [if_neg e]
    constructor
    · exact .inr
    · rintro (h | h)
      · exact absurd h.symm e
      · exact h
theorem none_at (n k : Nat) : ¬ (List.replicate n false)[k]? = some true := by
  rw [List.getElem?_replicate]
  split <;> simp
/-- the cells of a row of truths -/
def cellsT (bs : List Bool) : Array Value := (bs.map Value.bool).toArray
theorem cellsT_at {bs : List Bool} {k : Nat} {b : Bool} (h : bs[k]? = some b) : (cellsT bs)[k]? = some (.bool b) := by simp [cellsT, h]
theorem cellsT_set (bs : List Bool) (k : Nat) (b : Bool) : (cellsT bs).setIfInBounds k (.bool b) = cellsT (bs.set k b) := by
  apply Array.ext'
  simp [cellsT, List.map_set]
theorem infoBool : (Try.prog.info? 4).map (fun i => (i.zero, i.size, i.bytes)) = some (some (.bool false), 1, 1) := by kernel_rfl
theorem made_truths (n : Nat) (hn : n ≤ 1000000) (w : World) : (Instr.makeSlice 25 (.int .i64 (n : Int)) (.int .i64 (n : Int))).run Try.prog w =
    .ok (.slice (some ⟨w.heap.size, 0, none⟩) n n) (w.alloc (.cells (cellsT (List.replicate n false)) 4)) := by
  obtain ⟨i0, hi, hz0, hz1, hz2⟩ := info_parts infoBool
  have h := run_make (P := Try.prog) w 25 4 i0 _ Try.underlying25 hi hz0 .i64 .i64 n n (by omega) (by omega) (by rw [hz2]; omega) (by omega)
  rw [h]
  simp only [Int.toNat_natCast, hz1, Nat.mul_one]
  congr 3
  apply Array.ext
  · simp [madeCells, cellsT]
  · intro i h1 h2
    simp [madeCells, cellsT, Value.cells]
    simp [Nat.mod_one]
end Go.Proofs.Ytglcdchjddnjgaa
