/- A new reader: of a copy of the bytes. -/
import Derived.Test.YtlapicjbnheioaaBBytes
import Derived.Test.YtlapicjbnheioaaStep
import Derived.WalkSpells
import Derived.Maps.AppendAt
namespace Go.Proofs.Ytlapicjbnheioaa
open Go.RowKit
/-- bytes behind a row of the call's own -/
theorem append_rb {W : World} {base : Nat} {v : Value} {n : Nat} {ys : List UInt8} (hown : W.ownsRow base 5 1 v n (cellsB ys)) {B : Nat} {A : Option Addr} {m : Nat} {xs : List UInt8} (hr : RB W B A m xs) (c : Nat)
    (hb : n + m ≤ 1000000) (hbase : base ≤ W.heap.size) : ∃ v' W', (Builtin.append_ #[30, 30] 30 #[v, .slice A m c]).run Try.prog W = .ok v' W' ∧ W'.ownsRow base 5 1 v' (n + m) (cellsB (ys ++ xs)) ∧ W.grownBy W' v.ownBlock ∧
      (v'.ownBlock = v.ownBlock ∨ v'.ownBlock = some W.heap.size) := by
  obtain ⟨i0, hi, hz0, hz1, hz2⟩ := info_parts info5
  obtain ⟨hl, hc⟩ := hr
  rcases A with _ | a
  · have hm : m = 0 := by
      rcases Nat.eq_zero_or_pos m with h0 | h0
      · exact h0
      · obtain ⟨_, _, h, _⟩ := hc h0
        cases h
    subst hm
    obtain rfl : xs = [] := List.eq_nil_of_length_eq_zero hl
    refine ⟨v, W, ?_, by simpa using hown, World.grownBy.refl W _, .inl rfl⟩
    rcases hown.2 with ⟨rfl, rfl⟩ | ⟨g, cap, cur, rfl, _, _, hnc, _⟩
    · simp [Builtin.append_, run_underlying Try.underlying30, sizeOf, typeInfo, hi, Builtin.lenOf, Builtin.firstCells]
    · simp [Builtin.append_, run_underlying Try.underlying30, sizeOf, typeInfo, hi, Builtin.lenOf, Builtin.firstCells, hnc, storeCells]
  · have hcells : ∀ j u, (cellsB xs)[j]? = some u → W.cell? (a.add j) = some u := by
      intro j u hu
      rw [cellsB_get] at hu
      cases hx : xs[j]? with
      | none => rw [hx] at hu; cases hu
      | some x =>
        rw [hx] at hu
        simp only [Option.map_some, Option.some.injEq] at hu
        subst hu
        have hj := (List.getElem?_eq_some_iff.1 hx).1
        obtain ⟨b, o, h, _, hcell⟩ := hc (by omega)
        injection h with h
        subst h
        rw [add_none]
        exact hcell j x hx
    obtain ⟨v', w', hrun, h2, h3, _, h5⟩ := run_append_own_at (P := Try.prog) W base 30 30 5 i0 _ 1 1 Try.underlying30 hi hz0 hz1 hz2 rfl (by omega) v n (cellsB ys) hown a m c (cellsB xs) (by rw [cellsB_length, hl]; omega) hcells (cellsB_one _) (by unfold maxLen; omega) (by omega) hbase
    exact ⟨v', w', hrun, by rw [cellsB_append]; exact h2, h3, h5⟩
theorem own_rb {W : World} {base : Nat} {v : Value} {n : Nat} {ys : List UInt8} (hown : W.ownsRow base 5 1 v n (cellsB ys)) : ∃ A c, v = .slice A n c ∧ RB W W.heap.size A n ys ∧ n ≤ c ∧ c ≤ maxLen := by
  have hl : ys.length = n := by have := hown.1; rw [cellsB_length] at this; omega
  rcases hown.2 with ⟨rfl, rfl⟩ | ⟨g, cap, cur, rfl, _, hh, hnc, hcm, hcs, htk⟩
  · exact ⟨none, 0, rfl, ⟨hl, fun h => absurd h (by omega)⟩, Nat.le_refl _, by unfold maxLen; omega⟩
  · refine ⟨_, cap, rfl, ⟨hl, fun _ => ⟨g, 0, rfl, lt_of_some hh, fun j x hx => ?_⟩⟩, hnc, hcm⟩
    rw [show W.cell? ⟨g, 0 + j, none⟩ = cur[0 + j]? from cell_of_row W g _ cur 5 (0, 0) hh, Nat.zero_add]
    have hj : j < n := by have := (List.getElem?_eq_some_iff.1 hx).1; omega
    have : (cellsB ys)[j]? = some (u8 x) := by rw [cellsB_get, hx]; rfl
    rw [← htk, List.getElem?_take_of_lt (by omega)] at this
    simpa using this
theorem empty_own (W : World) (base : Nat) (hb : base ≤ W.heap.size) : (W.alloc (.cells #[] 5)).ownsRow base 5 1 (.slice (some ⟨W.heap.size, 0, none⟩) 0 0) 0 (cellsB []) :=
  ⟨rfl, .inr ⟨W.heap.size, 0, #[], rfl, hb, Blk.new W 5 #[], Nat.le_refl _, by unfold maxLen; omega, rfl, rfl⟩⟩
def CloneP (w : World) (n : Nat) (xs : List UInt8) (e : Ending) (w' : World) : Prop :=
  ∃ A' c', e = .returned (.slice A' n c') ∧ RB w' w'.heap.size A' n xs ∧ n ≤ c' ∧ c' ≤ maxLen ∧ Below w.heap.size w w'
set_option maxHeartbeats 400000 in
theorem clone_ (w : World) (A : Option Addr) (n c : Nat) (xs : List UInt8) (h : RB w w.heap.size A n xs) (hn : n ≤ 1000000) (hA : A = none → c = 0) :
    Calls Try.prog 49 #[.slice A n c] w (CloneP w n xs) := by
  rcases A with _ | a
  · have hc := hA rfl
    have h0 : n = 0 := by
      rcases Nat.eq_zero_or_pos n with h0 | h0
      · exact h0
      · obtain ⟨_, _, h, _⟩ := h.2 h0
        cases h
    subst hc h0
    have H := Lib.hid h
    clear h hA
    have hnil := fun (W : World) => Lib.run_eql_slice_nil (P := Try.prog) W 30 5 none 0 0 0 0 Try.underlying30
    simp only [Option.isNone_none] at hnil
    go_enter Try.func49, Try.ntmps49
    go_wp2
    go_ret
    exact ⟨none, 0, rfl, H.out, Nat.le_refl _, by unfold maxLen; omega, Below.refl _ _⟩
  · have hnil := fun (W : World) => Lib.run_eql_slice_nil (P := Try.prog) W 30 5 (some a) n c 0 0 Try.underlying30
    simp only [Option.isNone_some] at hnil
    obtain ⟨v', W', hap, ho, hg, hat⟩ := append_rb (empty_own w w.heap.size (Nat.le_refl _)) (h.below ((Below.refl _ _).alloc (Nat.le_refl _) (.cells #[] 5))) c (by omega) (by simp)
    rw [List.nil_append, Nat.zero_add] at ho
    obtain ⟨A', c', rfl, hr, h1, h2⟩ := own_rb ho
    have hbel : Below w.heap.size w W' := ((Below.refl _ _).alloc (Nat.le_refl _) _).grown hg (by simp) (by intro k hk; simp [Value.ownBlock] at hk; omega)
    have HBE := Lib.hid hbel
    have HR := Lib.hid hr
    clear ho hg hat hbel hr h hA
    go_enter Try.func49, Try.ntmps49
    go_wp2_with (at_builtin; refine wpList_append_run rfl (.tmp 5) (.tmp 6) 30 30 rfl _ _ rfl rfl hap ?_)
    go_ret
    exact ⟨A', c', rfl, HR.out, h1, h2, HBE.out⟩
def RdNewP (w : World) (xs : List UInt8) (e : Ending) (w' : World) : Prop :=
  ∃ g, e = .returned (.pointer (some ⟨g, 0, none⟩)) ∧ w.heap.size ≤ g ∧ ReaderAt 79 w' g g ⟨xs, false⟩ ∧ Below w.heap.size w w'
set_option maxHeartbeats 400000 in
theorem newReader (w : World) (A : Option Addr) (n c : Nat) (xs : List UInt8) (h : RB w w.heap.size A n xs) (hn : n ≤ 1000000) (hA : A = none → c = 0) :
    Calls Try.prog 30 #[.slice A n c] w (RdNewP w xs) := by
  go_enter Try.func30, Try.ntmps30
  go_wp2_with fail
  refine (clone_ w A n c xs h hn hA).mono ?_
  rintro e w1 ⟨A', c', rfl, hr, h1, h2, hb⟩
  have HBE := Lib.hid hb
  have HR := Lib.hid hr
  clear hb hr h hA
  go_wp2
  go_ret
  refine ⟨w1.heap.size, rfl, HBE.out.size, ⟨A', n, c', Blk.new w1 79 _, h1, h2, HR.out.below ((Below.refl _ _).alloc (Nat.le_refl _) _), Nat.le_refl _⟩, HBE.out.alloc HBE.out.size _⟩
end Go.Proofs.Ytlapicjbnheioaa
