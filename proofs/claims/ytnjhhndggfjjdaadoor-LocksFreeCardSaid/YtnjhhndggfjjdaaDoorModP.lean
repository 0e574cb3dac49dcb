/- Plain facts on modes of locks; nothing of the program is named here. -/
import GoSem.Op.String
set_option maxRecDepth 4000
namespace Go.Proofs.YtnjhhndggfjjdaaDoor
open Go
/-- the mode that a number stands for -/
def mdN (n : Int) : Nat := if n < 0 ∨ 5 < n then 5 else n.toNat
/-- what a mode allows, what it keeps off: one bit for each of the four ways -/
def alw (p : Nat) : Nat := [0, 1, 3, 5, 7, 15].getD p 0
def off (p : Nat) : Nat := [0, 8, 12, 10, 14, 15].getD p 0
def fitB (p q : Nat) : Bool := (off p &&& alw q) == 0
def covB (p q : Nat) : Bool := (alw p &&& alw q) == alw q
/-- the first mode from i on that covers both -/
def joinF (p q : Nat) : Nat → Nat → Nat
  | _, 0 => 5
  | i, k + 1 => if covB i p && covB i q then i else joinF p q (i + 1) k
def joinN (p q : Nat) : Nat := joinF p q 0 5
def abvN (p : Nat) : Nat := if p = 0 then 0 else if p = 1 ∨ p = 3 then 1 else 2

theorem mdN_lt (n : Int) : mdN n < 6 := by unfold mdN; split <;> omega
theorem mdN_of {p : Nat} (h : p < 6) : mdN (p : Int) = p := by unfold mdN; rw [if_neg (by omega)]; rfl
theorem mdN_out {n : Int} (h : n < 0 ∨ 5 < n) : mdN n = 5 := by unfold mdN; rw [if_pos h]
theorem mdN_in {n : Int} (h : ¬ (n < 0 ∨ 5 < n)) : (mdN n : Int) = n := by unfold mdN; rw [if_neg h]; omega
theorem alw_lt {p : Nat} (h : p < 6) : alw p < 16 := by
  have : ∀ p : Fin 6, alw p < 16 := by decide
  exact this ⟨p, h⟩
theorem off_lt {p : Nat} (h : p < 6) : off p < 16 := by
  have : ∀ p : Fin 6, off p < 16 := by decide
  exact this ⟨p, h⟩
theorem abvN_lt (p : Nat) : abvN p < 6 := by unfold abvN; split <;> (try split) <;> omega
theorem joinN_lt {p q : Nat} (hp : p < 6) (hq : q < 6) : joinN p q < 6 := by
  have : ∀ p q : Fin 6, joinN p q < 6 := by decide
  exact this ⟨p, hp⟩ ⟨q, hq⟩
theorem covB_five (p : Nat) (hp : p < 6) : covB 5 p = true := by
  have : ∀ p : Fin 6, covB 5 p = true := by decide
  exact this ⟨p, hp⟩
/-- the document's rows, letter by letter -/
def fitR (p : Nat) : Array UInt8 := [#[49, 49, 49, 49, 49, 49], #[49, 49, 49, 49, 49, 48], #[49, 49, 49, 48, 48, 48], #[49, 49, 48, 49, 48, 48], #[49, 49, 48, 48, 48, 48], #[49, 48, 48, 48, 48, 48]].getD p #[]
def covR (p : Nat) : Array UInt8 := [#[49, 48, 48, 48, 48, 48], #[49, 49, 48, 48, 48, 48], #[49, 49, 49, 48, 48, 48], #[49, 49, 48, 49, 48, 48], #[49, 49, 49, 49, 49, 48], #[49, 49, 49, 49, 49, 49]].getD p #[]
theorem fitR_eq {p q : Nat} (hp : p < 6) (hq : q < 6) : (fitR p)[q]? = some (if fitB p q then 49 else 48) := by
  have : ∀ p q : Fin 6, (fitR p)[q.1]? = some (if fitB p q then 49 else 48) := by decide
  exact this ⟨p, hp⟩ ⟨q, hq⟩
theorem covR_eq {p q : Nat} (hp : p < 6) (hq : q < 6) : (covR p)[q]? = some (if covB p q then 49 else 48) := by
  have : ∀ p q : Fin 6, (covR p)[q.1]? = some (if covB p q then 49 else 48) := by decide
  exact this ⟨p, hp⟩ ⟨q, hq⟩
theorem fitR_size {p : Nat} (hp : p < 6) : (fitR p).size = 6 := by
  have : ∀ p : Fin 6, (fitR p).size = 6 := by decide
  exact this ⟨p, hp⟩
theorem covR_size {p : Nat} (hp : p < 6) : (covR p).size = 6 := by
  have : ∀ p : Fin 6, (covR p).size = 6 := by decide
  exact this ⟨p, hp⟩

-- what ModesLaws asks
theorem fit_comm {p q : Nat} (hp : p < 6) (hq : q < 6) : fitB p q = fitB q p := by
  have : ∀ p q : Fin 6, fitB p q = fitB q p := by decide
  exact this ⟨p, hp⟩ ⟨q, hq⟩
theorem cov_fit {p q r : Nat} (hp : p < 6) (hq : q < 6) (hr : r < 6) : covB p q = true → fitB p r = true → fitB q r = true := by
  have : ∀ p q r : Fin 6, covB p q = true → fitB p r = true → fitB q r = true := by decide
  exact this ⟨p, hp⟩ ⟨q, hq⟩ ⟨r, hr⟩
theorem join_left {p q : Nat} (hp : p < 6) (hq : q < 6) : covB (joinN p q) p = true := by
  have : ∀ p q : Fin 6, covB (joinN p q) p = true := by decide
  exact this ⟨p, hp⟩ ⟨q, hq⟩
theorem join_right {p q : Nat} (hp : p < 6) (hq : q < 6) : covB (joinN p q) q = true := by
  have : ∀ p q : Fin 6, covB (joinN p q) q = true := by decide
  exact this ⟨p, hp⟩ ⟨q, hq⟩
theorem join_comm {p q : Nat} (hp : p < 6) (hq : q < 6) : joinN q p = joinN p q := by
  have : ∀ p q : Fin 6, joinN q p = joinN p q := by decide
  exact this ⟨p, hp⟩ ⟨q, hq⟩
theorem join_self {p : Nat} (hp : p < 6) : joinN p p = p := by
  have : ∀ p : Fin 6, joinN p p = p := by decide
  exact this ⟨p, hp⟩
theorem join_least {p q r : Nat} (hp : p < 6) (hq : q < 6) (hr : r < 6) : covB r p = true → covB r q = true → covB r (joinN p q) = true := by
  have : ∀ p q r : Fin 6, covB r p = true → covB r q = true → covB r (joinN p q) = true := by decide
  exact this ⟨p, hp⟩ ⟨q, hq⟩ ⟨r, hr⟩
theorem cov_anti {p q : Nat} (hp : p < 6) (hq : q < 6) : covB p q = true → covB q p = true → p = q := by
  have : ∀ p q : Fin 6, covB p q = true → covB q p = true → p.1 = q.1 := by decide
  exact this ⟨p, hp⟩ ⟨q, hq⟩
-- what ModesAbove asks
theorem above_cov {p q : Nat} (hp : p < 6) (hq : q < 6) : covB p q = true → covB (abvN p) (abvN q) = true := by
  have : ∀ p q : Fin 6, covB p q = true → covB (abvN p) (abvN q) = true := by decide
  exact this ⟨p, hp⟩ ⟨q, hq⟩
theorem cov_above {p : Nat} (hp : p < 6) : covB p (abvN p) = true := by
  have : ∀ p : Fin 6, covB p (abvN p) = true := by decide
  exact this ⟨p, hp⟩
theorem fit_above {p q : Nat} (hp : p < 6) (hq : q < 6) : fitB (abvN p) (abvN q) = true := by
  have : ∀ p q : Fin 6, fitB (abvN p) (abvN q) = true := by decide
  exact this ⟨p, hp⟩ ⟨q, hq⟩
-- the search
theorem joinF_on {p q i k : Nat} (h : ¬ (covB i p = true ∧ covB i q = true)) : joinF p q i (k + 1) = joinF p q (i + 1) k := by
  have : (covB i p && covB i q) = false := by
    cases h1 : covB i p <;> cases h2 : covB i q <;> simp_all
  simp [joinF, this]
theorem joinF_at {p q i k : Nat} (h1 : covB i p = true) (h2 : covB i q = true) : joinF p q i (k + 1) = i := by simp [joinF, h1, h2]
end Go.Proofs.YtnjhhndggfjjdaaDoor
