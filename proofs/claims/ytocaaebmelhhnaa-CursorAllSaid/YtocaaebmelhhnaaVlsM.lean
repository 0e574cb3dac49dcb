/- Words for memory: parts that lie side by side; append of parts behind a row of the call's own. -/
import Derived.Test.YtocaaebmelhhnaaProg
import Derived.Test.YtocaaebmelhhnaaKeep
import Derived.WalkKit
import Derived.ProofKit
import Derived.Lib.Hide
import Derived.WalkSpells
import Derived.Maps.AppendAt
set_option maxRecDepth 4000
namespace Go.Proofs.Ytocaaebmelhhnaa
open Go.RowKit

/-- the slice of address A holds these values, in a block of which K says so -/
def Vls (w : World) (K : Nat → Prop) (A : Option Addr) (l : List Value) : Prop :=
  0 < l.length → ∃ b o, A = some ⟨b, o, none⟩ ∧ K b ∧ b < w.heap.size ∧ ∀ j u, l[j]? = some u → w.cell? ⟨b, o + j, none⟩ = some u
section
variable {w w' : World} {K K' : Nat → Prop} {A : Option Addr} {l : List Value}
theorem Vls.nil (w : World) (K : Nat → Prop) (A : Option Addr) : Vls w K A [] := fun h => absurd h (by simp)
theorem Vls.keep (h : Vls w K A l) (k : Keep (fun i _ => K i) w w') : Vls w' K A l := fun h0 => by
  obtain ⟨b, o, e, hk, hb, hc⟩ := h h0
  have hbl : w'.heap[b]? = w.heap[b]? := by
    rw [Array.getElem?_eq_getElem hb]
    exact k.block b _ (Array.getElem?_eq_getElem hb) hk
  exact ⟨b, o, e, hk, Nat.lt_of_lt_of_le hb k.size, fun j x hx => (cell_of_heap hbl _).trans (hc j x hx)⟩
theorem Vls.below (h : Vls w K A l) (k : Below w.heap.size w w') : Vls w' K A l := fun h0 => by
  obtain ⟨b, o, e, hk, hb, hc⟩ := h h0
  exact ⟨b, o, e, hk, Nat.lt_of_lt_of_le hb k.size, fun j x hx => (cell_of_heap (k.block b hb) _).trans (hc j x hx)⟩
theorem Vls.more (h : Vls w K A l) (hk : ∀ i, i < w.heap.size → K i → K' i) : Vls w K' A l := fun h0 => by
  obtain ⟨b, o, e, hb, hl, hc⟩ := h h0
  exact ⟨b, o, e, hk b hl hb, hl, hc⟩
theorem Vls.take (h : Vls w K A l) (k : Nat) : Vls w K A (l.take k) := fun h0 => by
  obtain ⟨b, o, e, hk, hb, hc⟩ := h (by rw [List.length_take] at h0; omega)
  refine ⟨b, o, e, hk, hb, fun j x hx => hc j x ?_⟩
  rw [List.getElem?_take] at hx
  split at hx
  · exact hx
  · cases hx
theorem Vls.drop (h : Vls w K A l) {k c : Nat} (hc : l.length ≤ c) : Vls w K (if c = k then A else A.map (·.add (k * 1))) (l.drop k) := fun h0 => by
  rw [List.length_drop] at h0
  obtain ⟨b, o, e, hk, hb, hcell⟩ := h (by omega)
  rw [if_neg (by omega), e]
  refine ⟨b, o + k * 1, ?_, hk, hb, fun j x hx => ?_⟩
  · rw [Option.map_some, add_none]
  · rw [Nat.add_assoc, Nat.mul_one]
    exact hcell _ x (by rw [← hx, List.getElem?_drop])
/-- the cell of the j-th value -/
theorem Vls.at_ (h : Vls w K A l) {j : Nat} {u : Value} (hj : l[j]? = some u) : ∃ b o, A = some ⟨b, o, none⟩ ∧ w.cell? ⟨b, o + j, none⟩ = some u := by
  have hl := (List.getElem?_eq_some_iff.1 hj).1
  obtain ⟨b, o, e, _, hb, hc⟩ := h (by omega)
  exact ⟨b, o, e, hc _ _ hj⟩
end
theorem infoPart : (Try.prog.info? 59).map (fun i => (i.zero, i.size, i.bytes)) = some (some .nilIface, 1, 16) := by kernel_rfl
theorem infoParts : (Try.prog.info? 69).map (fun i => (i.zero, i.size, i.bytes)) = some (some (.slice none 0 0), 1, 24) := by kernel_rfl
/-- parts behind parts of the call's own -/
theorem append_vls {W : World} {base : Nat} {v : Value} {n : Nat} {ys : List Value} (hown : W.ownsRow base 59 1 v n ys) {K : Nat → Prop} {A : Option Addr} {m : Nat} {xs : List Value} (hr : Vls W K A xs) (hm : xs.length = m) (c : Nat) (h1 : ∀ v ∈ xs, v.oneCell' = true)
    (hb : n + m ≤ 1000000) (hbase : base ≤ W.heap.size) : ∃ v' W', (Builtin.append_ #[69, 69] 69 #[v, .slice A m c]).run Try.prog W = .ok v' W' ∧ W'.ownsRow base 59 1 v' (n + m) (ys ++ xs) ∧ W.grownBy W' v.ownBlock ∧
      (v'.ownBlock = v.ownBlock ∨ v'.ownBlock = some W.heap.size) := by
  obtain ⟨i0, hi, hz0, hz1, hz2⟩ := info_parts infoPart
  subst hm
  rcases A with _ | a
  · have hx : xs = [] := by
      rcases Nat.eq_zero_or_pos xs.length with h0 | h0
      · exact List.eq_nil_of_length_eq_zero h0
      · obtain ⟨_, _, h, _⟩ := hr h0
        cases h
    subst hx
    refine ⟨v, W, ?_, by simpa using hown, World.grownBy.refl W _, .inl rfl⟩
    rcases hown.2 with ⟨rfl, rfl⟩ | ⟨g, cap, cur, rfl, _, _, hnc, _⟩
    · simp [Builtin.append_, run_underlying Try.underlying69, sizeOf, typeInfo, hi, Builtin.lenOf, Builtin.firstCells]
    · simp [Builtin.append_, run_underlying Try.underlying69, sizeOf, typeInfo, hi, Builtin.lenOf, Builtin.firstCells, hnc, storeCells]
  · have hcells : ∀ j u, xs[j]? = some u → W.cell? (a.add j) = some u := by
      intro j u hu
      have hj := (List.getElem?_eq_some_iff.1 hu).1
      obtain ⟨b, o, h, _, _, hcell⟩ := hr (by omega)
      injection h with h
      subst h
      rw [add_none]
      exact hcell j u hu
    obtain ⟨v', w', hrun, h2, h3, _, h5⟩ := run_append_own_at (P := Try.prog) W base 69 69 59 i0 _ 1 16 Try.underlying69 hi hz0 hz1 hz2 rfl (by omega) v n ys hown a xs.length c xs (by omega) hcells h1 (by unfold maxLen; omega) (by omega) hbase
    exact ⟨v', w', hrun, h2, h3, h5⟩
theorem own_vls {W : World} {base : Nat} {v : Value} {n : Nat} {ys : List Value} (hown : W.ownsRow base 59 1 v n ys) : ∃ A c, v = .slice A n c ∧ Vls W (fun i => base ≤ i) A ys ∧ ys.length = n ∧ n ≤ c ∧ c ≤ maxLen ∧ (A = none → c = 0) := by
  have hl : ys.length = n := by have := hown.1; omega
  rcases hown.2 with ⟨rfl, rfl⟩ | ⟨g, cap, cur, rfl, hb, hh, hnc, hcm, hcs, htk⟩
  · exact ⟨none, 0, rfl, fun h => absurd h (by omega), hl, Nat.le_refl _, by unfold maxLen; omega, fun _ => rfl⟩
  · refine ⟨_, cap, rfl, fun _ => ⟨g, 0, rfl, hb, lt_of_some hh, fun j x hx => ?_⟩, hl, hnc, hcm, fun h => by cases h⟩
    rw [show W.cell? ⟨g, 0 + j, none⟩ = cur[0 + j]? from cell_of_row W g _ cur 59 (0, 0) hh, Nat.zero_add]
    have hj := (List.getElem?_eq_some_iff.1 hx).1
    rw [← htk, List.getElem?_take_of_lt (by omega)] at hx
    simpa using hx
theorem empty_vls (W : World) (base : Nat) (hb : base ≤ W.heap.size) : (W.alloc (.cells #[] 59)).ownsRow base 59 1 (.slice (some ⟨W.heap.size, 0, none⟩) 0 0) 0 [] :=
  ⟨rfl, .inr ⟨W.heap.size, 0, #[], rfl, hb, Blk.new W 59 #[], Nat.le_refl _, by unfold maxLen; omega, rfl, rfl⟩⟩
end Go.Proofs.Ytocaaebmelhhnaa
