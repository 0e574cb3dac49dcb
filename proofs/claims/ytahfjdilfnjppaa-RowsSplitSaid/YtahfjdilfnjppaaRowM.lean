/- Words for memory: rows of keys and values that lie somewhere; append of rows behind a row of the call's own. -/
import Derived.Test.YtahfjdilfnjppaaProg
import Derived.Test.YtahfjdilfnjppaaKeep
import Derived.Test.YtahfjdilfnjppaaRowP
import Derived.WalkKit
import Derived.ProofKit
import Derived.Lib.Hide
import Derived.WalkSpells
import Derived.Maps.AppendAt
set_option maxRecDepth 4000
namespace Go.Proofs.Ytahfjdilfnjppaa
open Go.RowKit

def cellR (r : Rw) : List Value := [.string r.1, .string r.2]
def cellsR : List Rw → List Value
  | [] => []
  | r :: l => .string r.1 :: .string r.2 :: cellsR l
theorem cellsR_length (l : List Rw) : (cellsR l).length = l.length * 2 := by
  induction l with
  | nil => rfl
  | cons x r ih => simp [cellsR, ih]; omega
theorem cellsR_append (l m : List Rw) : cellsR (l ++ m) = cellsR l ++ cellsR m := by
  induction l with
  | nil => rfl
  | cons x r ih => simp [cellsR, ih]
theorem cellsR_one (l : List Rw) : ∀ v ∈ cellsR l, v.oneCell' = true := by
  induction l with
  | nil => intro v hv; cases hv
  | cons x r ih =>
    intro v hv
    rcases List.mem_cons.1 hv with rfl | hv
    · rfl
    · rcases List.mem_cons.1 hv with rfl | hv
      · rfl
      · exact ih v hv
theorem cellsR_key {l : List Rw} {j : Nat} (h : j < l.length) : (cellsR l)[j * 2]? = some (.string l[j].1) ∧ (cellsR l)[j * 2 + 1]? = some (.string l[j].2) := by
  induction l generalizing j with
  | nil => simp at h
  | cons x r ih =>
    cases j with
    | zero => simp [cellsR]
    | succ j =>
      have := ih (j := j) (by simpa using h)
      rw [show (j + 1) * 2 = j * 2 + 1 + 1 by omega, cellsR]
      simpa using this
theorem cellsR_take (l : List Rw) (k : Nat) : cellsR (l.take k) = (cellsR l).take (k * 2) := by
  induction l generalizing k with
  | nil => simp [cellsR]
  | cons x r ih =>
    cases k with
    | zero => simp [cellsR]
    | succ k =>
      rw [List.take_succ_cons, cellsR, cellsR, ih, show (k + 1) * 2 = k * 2 + 1 + 1 by omega]
      simp
theorem cellsR_drop (l : List Rw) (k : Nat) : cellsR (l.drop k) = (cellsR l).drop (k * 2) := by
  induction l generalizing k with
  | nil => simp [cellsR]
  | cons x r ih =>
    cases k with
    | zero => simp
    | succ k =>
      rw [List.drop_succ_cons, cellsR, ih, show (k + 1) * 2 = k * 2 + 1 + 1 by omega]
      simp

/-- the slice of address A holds these rows, in a block of which K says so -/
def Rws (w : World) (K : Nat → Prop) (A : Option Addr) (l : List Rw) : Prop :=
  0 < l.length → ∃ b o, A = some ⟨b, o, none⟩ ∧ K b ∧ b < w.heap.size ∧ ∀ j u, (cellsR l)[j]? = some u → w.cell? ⟨b, o + j, none⟩ = some u
section
variable {w w' : World} {K K' : Nat → Prop} {A : Option Addr} {l : List Rw}
theorem Rws.nil (w : World) (K : Nat → Prop) (A : Option Addr) : Rws w K A [] := fun h => absurd h (by simp)
theorem Rws.keep (h : Rws w K A l) (k : Keep (fun i _ => K i) w w') : Rws w' K A l := fun h0 => by
  obtain ⟨b, o, e, hk, hb, hc⟩ := h h0
  have hbl : w'.heap[b]? = w.heap[b]? := by
    rw [Array.getElem?_eq_getElem hb]
    exact k.block b _ (Array.getElem?_eq_getElem hb) hk
  exact ⟨b, o, e, hk, Nat.lt_of_lt_of_le hb k.size, fun j x hx => (cell_of_heap hbl _).trans (hc j x hx)⟩
theorem Rws.below (h : Rws w K A l) (k : Below w.heap.size w w') : Rws w' K A l := fun h0 => by
  obtain ⟨b, o, e, hk, hb, hc⟩ := h h0
  exact ⟨b, o, e, hk, Nat.lt_of_lt_of_le hb k.size, fun j x hx => (cell_of_heap (k.block b hb) _).trans (hc j x hx)⟩
theorem Rws.more (h : Rws w K A l) (hk : ∀ i, i < w.heap.size → K i → K' i) : Rws w K' A l := fun h0 => by
  obtain ⟨b, o, e, hb, hl, hc⟩ := h h0
  exact ⟨b, o, e, hk b hl hb, hl, hc⟩
theorem Rws.drew (h : Rws w K A l) : Rws w.drew K A l := h
theorem Rws.take (h : Rws w K A l) (k : Nat) : Rws w K A (l.take k) := fun h0 => by
  obtain ⟨b, o, e, hk, hb, hc⟩ := h (by rw [List.length_take] at h0; omega)
  refine ⟨b, o, e, hk, hb, fun j x hx => hc j x ?_⟩
  rw [cellsR_take, List.getElem?_take] at hx
  split at hx
  · exact hx
  · cases hx
theorem Rws.drop (h : Rws w K A l) {k c : Nat} (hc : l.length ≤ c) : Rws w K (if c = k then A else A.map (·.add (k * 2))) (l.drop k) := fun h0 => by
  rw [List.length_drop] at h0
  obtain ⟨b, o, e, hk, hb, hcell⟩ := h (by omega)
  rw [if_neg (by omega), e]
  refine ⟨b, o + k * 2, ?_, hk, hb, fun j x hx => ?_⟩
  · rw [Option.map_some, add_none]
  · rw [Nat.add_assoc]
    exact hcell _ x (by rw [← hx, cellsR_drop, List.getElem?_drop])
/-- the cells of the j-th row -/
theorem Rws.at_ (h : Rws w K A l) {j : Nat} (hj : j < l.length) :
    ∃ b o, A = some ⟨b, o, none⟩ ∧ w.cell? ⟨b, o + j * 2, none⟩ = some (.string l[j].1) ∧ w.cell? ⟨b, o + j * 2 + 1, none⟩ = some (.string l[j].2) := by
  obtain ⟨b, o, e, _, hb, hc⟩ := h (by omega)
  obtain ⟨h1, h2⟩ := cellsR_key hj
  exact ⟨b, o, e, hc _ _ h1, by rw [Nat.add_assoc]; exact hc _ _ h2⟩
end
theorem rws_one (w : World) (r : Rw) : Rws (w.alloc (.cells #[.string r.1, .string r.2] 31)) (fun i => w.heap.size ≤ i) (some ⟨w.heap.size, 0, none⟩) [r] := fun _ =>
  ⟨_, 0, rfl, Nat.le_refl _, by simp, fun j u hu => by rw [(Blk.new w 31 _).cell, Nat.zero_add]; simpa [cellsR] using hu⟩

theorem infoRow : (Try.prog.info? 31).map (fun i => (i.zero, i.size, i.bytes)) = some (some (.agg #[.string ⟨#[]⟩, .string ⟨#[]⟩]), 2, 32) := by kernel_rfl
theorem infoRows : (Try.prog.info? 22).map (fun i => (i.zero, i.size, i.bytes)) = some (some (.slice none 0 0), 1, 24) := by kernel_rfl
/-- rows behind rows of the call's own -/
theorem append_rws {W : World} {base : Nat} {v : Value} {n : Nat} {ys : List Rw} (hown : W.ownsRow base 31 2 v n (cellsR ys)) {K : Nat → Prop} {A : Option Addr} {m : Nat} {xs : List Rw} (hr : Rws W K A xs) (hm : xs.length = m) (c : Nat)
    (hb : n + m ≤ 1000000) (hbase : base ≤ W.heap.size) : ∃ v' W', (Builtin.append_ #[22, 22] 22 #[v, .slice A m c]).run Try.prog W = .ok v' W' ∧ W'.ownsRow base 31 2 v' (n + m) (cellsR (ys ++ xs)) ∧ W.grownBy W' v.ownBlock ∧
      (v'.ownBlock = v.ownBlock ∨ v'.ownBlock = some W.heap.size) := by
  obtain ⟨i0, hi, hz0, hz1, hz2⟩ := info_parts infoRow
  subst hm
  rcases A with _ | a
  · have hx : xs = [] := by
      rcases Nat.eq_zero_or_pos xs.length with h0 | h0
      · exact List.eq_nil_of_length_eq_zero h0
      · obtain ⟨_, _, h, _⟩ := hr h0
        cases h
    subst hx
    refine ⟨v, W, ?_, by simpa using hown, World.grownBy.refl W _, .inl rfl⟩
    rcases hown.2 with ⟨rfl, rfl⟩ | ⟨g, cap, cur, rfl, _, _, hnc, _⟩
    · simp [Builtin.append_, run_underlying Try.underlying22, sizeOf, typeInfo, hi, Builtin.lenOf, Builtin.firstCells]
    · simp [Builtin.append_, run_underlying Try.underlying22, sizeOf, typeInfo, hi, Builtin.lenOf, Builtin.firstCells, hnc, storeCells]
  · have hcells : ∀ j u, (cellsR xs)[j]? = some u → W.cell? (a.add j) = some u := by
      intro j u hu
      have hj := (List.getElem?_eq_some_iff.1 hu).1
      rw [cellsR_length] at hj
      obtain ⟨b, o, h, _, _, hcell⟩ := hr (by omega)
      injection h with h
      subst h
      rw [add_none]
      exact hcell j u hu
    obtain ⟨v', w', hrun, h2, h3, _, h5⟩ := run_append_own_at (P := Try.prog) W base 22 22 31 i0 _ 2 32 Try.underlying22 hi hz0 hz1 hz2 rfl (by omega) v n (cellsR ys) hown a xs.length c (cellsR xs) (cellsR_length xs) hcells (cellsR_one _) (by unfold maxLen; omega) (by omega) hbase
    exact ⟨v', w', hrun, by rw [cellsR_append]; exact h2, h3, h5⟩
theorem own_rws {W : World} {base : Nat} {v : Value} {n : Nat} {ys : List Rw} (hown : W.ownsRow base 31 2 v n (cellsR ys)) : ∃ A c, v = .slice A n c ∧ Rws W (fun i => base ≤ i) A ys ∧ ys.length = n ∧ n ≤ c ∧ c ≤ maxLen ∧ (A = none → c = 0) := by
  have hl : ys.length = n := by have := hown.1; rw [cellsR_length] at this; omega
  rcases hown.2 with ⟨rfl, rfl⟩ | ⟨g, cap, cur, rfl, hb, hh, hnc, hcm, hcs, htk⟩
  · exact ⟨none, 0, rfl, fun h => absurd h (by omega), hl, Nat.le_refl _, by unfold maxLen; omega, fun _ => rfl⟩
  · refine ⟨_, cap, rfl, fun _ => ⟨g, 0, rfl, hb, lt_of_some hh, fun j x hx => ?_⟩, hl, hnc, hcm, fun h => by cases h⟩
    rw [show W.cell? ⟨g, 0 + j, none⟩ = cur[0 + j]? from cell_of_row W g _ cur 31 (0, 0) hh, Nat.zero_add]
    have hj := (List.getElem?_eq_some_iff.1 hx).1
    rw [cellsR_length] at hj
    rw [← htk, List.getElem?_take_of_lt (by omega)] at hx
    simpa using hx
theorem empty_rws (W : World) (base : Nat) (hb : base ≤ W.heap.size) : (W.alloc (.cells #[] 31)).ownsRow base 31 2 (.slice (some ⟨W.heap.size, 0, none⟩) 0 0) 0 (cellsR []) :=
  ⟨rfl, .inr ⟨W.heap.size, 0, #[], rfl, hb, Blk.new W 31 #[], Nat.le_refl _, by unfold maxLen; omega, rfl, rfl⟩⟩
end Go.Proofs.Ytahfjdilfnjppaa
