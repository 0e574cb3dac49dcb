/- Plain facts for the law on who wants more: every number that it speaks of, reckoned through. -/
import Derived.Test.YtillbjaejdkfdaaDoorGrE
import Derived.KernelRfl
set_option maxRecDepth 100000
namespace Go.Proofs.YtillbjaejdkfdaaDoor
open Go
def lsC (k : Nat) (o : Int) (m : Nat) : List Cl := (List.range k).map fun (i : Nat) => ((i : Int) + o, m)
def stM (n m k : Nat) : Lk := if k + 1 = n then ([(0, 5)], lsC m 100 5) else ((0, 3) :: lsC (n - 1 - k) (k + 1 : Nat) 3, (0, 5) :: lsC m 100 5)
def check1 : Bool := (List.range 20).all fun k => askP (lsC k 0 3, []) k 3 == (true, (lsC (k + 1) 0 3, []))
def check2 : Bool := (List.range 21).all fun n => n == 0 || (List.range 20).all fun k => askP (lsC n 0 3, lsC k 100 5) (100 + k : Nat) 5 == (false, (lsC n 0 3, lsC (k + 1) 100 5))
def check3 : Bool := (List.range 21).all fun n => n == 0 || (List.range 21).all fun m => askP (lsC n 0 3, lsC m 100 5) 0 5 == (n == 1, stM n m 0)
def check4 : Bool := (List.range 21).all fun n => (List.range 21).all fun m => (List.range n).all fun k => k + 1 == n || dropP (stM n m k) (k + 1 : Nat) == (if k + 2 == n then [0] else [], stM n m (k + 1))
def check5 : Bool := (List.range 21).all fun m => (holdsP ([(0, 5)], lsC m 100 5)).length == m + 1 && (holdsP ([(0, 5)], lsC m 100 5))[0]? == some (0, 5, 0)
def check6 : Bool := (List.range 21).all fun m => (dropP ([(0, 5)], lsC m 100 5) 0).1 == if m == 0 then [] else [100]
theorem check1_ok : check1 = true := by kernel_rfl
theorem check2_ok : check2 = true := by kernel_rfl
theorem check3_ok : check3 = true := by kernel_rfl
theorem check4_ok : check4 = true := by kernel_rfl
theorem check5_ok : check5 = true := by kernel_rfl
theorem check6_ok : check6 = true := by kernel_rfl
theorem more1 {k : Nat} (h : k < 20) : askP (lsC k 0 3, []) k 3 = (true, (lsC (k + 1) 0 3, [])) := by
  have := List.all_eq_true.1 check1_ok k (List.mem_range.2 h)
  simpa using this
theorem more2 {n k : Nat} (h0 : 0 < n) (hn : n ≤ 20) (h : k < 20) : askP (lsC n 0 3, lsC k 100 5) (100 + k : Nat) 5 = (false, (lsC n 0 3, lsC (k + 1) 100 5)) := by
  have := List.all_eq_true.1 check2_ok n (List.mem_range.2 (by omega))
  rcases Bool.or_eq_true_iff.1 this with h1 | h1
  · exact absurd (by simpa using h1) (show ¬ n = 0 by omega)
  · exact eq_of_beq (List.all_eq_true.1 h1 k (List.mem_range.2 h))
theorem more3 {n m : Nat} (h0 : 0 < n) (hn : n ≤ 20) (hm : m ≤ 20) : askP (lsC n 0 3, lsC m 100 5) 0 5 = (n == 1, stM n m 0) := by
  have := List.all_eq_true.1 check3_ok n (List.mem_range.2 (by omega))
  rcases Bool.or_eq_true_iff.1 this with h1 | h1
  · exact absurd (by simpa using h1) (show ¬ n = 0 by omega)
  · exact eq_of_beq (List.all_eq_true.1 h1 m (List.mem_range.2 (by omega)))
theorem more4 {n m k : Nat} (hn : n ≤ 20) (hm : m ≤ 20) (hk : k + 1 < n) : dropP (stM n m k) (k + 1 : Nat) = (if k + 2 == n then [0] else [], stM n m (k + 1)) := by
  have h1 := List.all_eq_true.1 check4_ok n (List.mem_range.2 (by omega))
  have h2 := List.all_eq_true.1 h1 m (List.mem_range.2 (by omega))
  have h3 := List.all_eq_true.1 h2 k (List.mem_range.2 (by omega))
  rcases Bool.or_eq_true_iff.1 h3 with h4 | h4
  · exact absurd (by simpa using h4) (show ¬ k + 1 = n by omega)
  · exact eq_of_beq h4
theorem more5 {m : Nat} (hm : m ≤ 20) : (holdsP ([(0, 5)], lsC m 100 5)).length = m + 1 ∧ (holdsP ([(0, 5)], lsC m 100 5))[0]? = some (0, 5, 0) := by
  have := List.all_eq_true.1 check5_ok m (List.mem_range.2 (by omega))
  rw [Bool.and_eq_true] at this
  exact ⟨eq_of_beq this.1, eq_of_beq this.2⟩
theorem more6 {m : Nat} (hm : m ≤ 20) : (dropP ([(0, 5)], lsC m 100 5) 0).1 = if m == 0 then [] else [100] :=
  eq_of_beq (List.all_eq_true.1 check6_ok m (List.mem_range.2 (by omega)))
theorem stM_last {n m : Nat} (h : 0 < n) : stM n m (n - 1) = ([(0, 5)], lsC m 100 5) := by unfold stM; rw [if_pos (by omega)]
end Go.Proofs.YtillbjaejdkfdaaDoor
