/- What the reading of a slice of bytes, and of a slice of items, gives. -/
import Derived.Test.YtbpipjkfgijjcaaHeld
import Derived.Test.YtbpipjkfgijjcaaRead
import Derived.Deep.Slices
import Derived.ChangeArms
namespace Go.Proofs.Ytbpipjkfgijjcaa
open Go.ChangeShapes Go.WideShapes Go.ChangeAt Go.RowKit Go.Deep

theorem block_of_cell {w : World} {a : Addr} {v : Value} (h : w.cell? a = some v) : a.block < w.heap.size := by
  rcases Nat.lt_or_ge a.block w.heap.size with hlt | hge
  · exact hlt
  · simp [World.cell?, Array.getElem?_eq_none hge] at h
theorem cells5 : Try.prog.cellsOf 5 = 1 := by kernel_rfl
theorem cells33 : Try.prog.cellsOf 33 = 4 := by kernel_rfl
section
variable {H : Type} {enc : TypeId × Value → H} {w : World} {base b0 : Nat} {spare : Nat → Bool} {held : Bool} {r : Reach} {v : Value} {d : DataW H} {p : List MemPlace}
theorem open_bytes (hv : Value.okWide Try.prog w r b0 29 v) (h : DataW.Trod enc Try.prog w base spare held 29 v d p) :
    ∃ A n c xs, v = .slice A n c ∧ RB w w.heap.size A n xs ∧ n ≤ c ∧ c ≤ maxLen ∧ (A = none → c = 0) := by
  obtain ⟨a1, len, cap, rfl⟩ := okWide_slice Try.underlying29 hv
  obtain ⟨fuel, hf⟩ := h
  rcases open_slice1 Try.underlying29 cells5 hf with ⟨hcs, _⟩ | ⟨a, len', cap', m, n, V, D, Pl, hcs, _, hl, hm, hmm, _, hx⟩
  · simp [Value.cells] at hcs
    obtain ⟨rfl, rfl, rfl⟩ := hcs
    exact ⟨none, 0, 0, [], rfl, RB.nil_ none, Nat.le_refl _, by unfold maxLen; omega, fun _ => rfl⟩
  · simp [Value.cells] at hcs
    obtain ⟨rfl, rfl, rfl⟩ := hcs
    have hlm : len ≤ m := by rw [hmm]; split <;> omega
    have key : ∀ i, ∃ x : UInt8, i < len → w.cell? (a.add i) = some (u8 x) := fun i => by
      by_cases hi : i < len
      · obtain ⟨h1, h2⟩ := hx i (by omega)
        obtain ⟨z, hz, _, hwf⟩ := DataW.trod_int Try.underlying5 h2
        simp only [List.cons.injEq, and_true] at hz
        simp [Lit.wf, IntKind.min, IntKind.max, IntKind.signed, IntKind.bits] at hwf
        refine ⟨UInt8.ofNat z.toNat, fun _ => ?_⟩
        rw [h1, hz]
        have : ((UInt8.ofNat z.toNat).toNat : Int) = z := by simp; omega
        unfold u8
        rw [this]
      · exact ⟨0, fun h => absurd h hi⟩
    obtain ⟨f, hfun⟩ := Classical.axiomOfChoice key
    refine ⟨some a, len, cap, (List.range len).map f, rfl, ⟨by simp, fun h0 => ?_⟩, hl, hm, fun h => by cases h⟩
    obtain ⟨ab, ao, spot⟩ := a
    have hc0 := hfun 0 h0
    have hspot : spot = none := by simpa [Addr.add] using World.cell?_spot hc0
    subst hspot
    refine ⟨ab, ao, rfl, by simpa [Addr.add] using block_of_cell hc0, fun j x hjx => ?_⟩
    have hj : j < len := by have := (List.getElem?_eq_some_iff.1 hjx).1; simpa using this
    have := hfun j hj
    rw [add_none] at this
    rw [this]
    simp [hj] at hjx
    rw [hjx]
theorem open_items (hv : Value.okWide Try.prog w r b0 22 v) (h : DataW.Trod enc Try.prog w base spare held 22 v d p) :
    ∃ L k c it, v = .slice L k c ∧ ItemsAt w w.heap.size L k it ∧ k ≤ c ∧ c ≤ maxLen ∧ ∀ i, i < k → (-9223372036854775808 ≤ (it i).n ∧ (it i).n ≤ 9223372036854775807 ∧ (it i).s.size ≤ maxLen) := by
  obtain ⟨a1, len, cap, rfl⟩ := okWide_slice Try.underlying22 hv
  obtain ⟨fuel, hf⟩ := h
  rcases open_slice Try.underlying22 hf with ⟨hcs, _⟩ | ⟨a, len', cap', m, n, D, Pl, hcs, _, hl, hm, hmm, _, hx⟩
  · simp [Value.cells] at hcs
    obtain ⟨rfl, rfl, rfl⟩ := hcs
    exact ⟨none, 0, 0, fun _ => ⟨0, 0, ⟨#[]⟩, false⟩, rfl, fun i hi => absurd hi (by omega), Nat.le_refl _, by unfold maxLen; omega, fun i hi => absurd hi (by omega)⟩
  · simp [Value.cells] at hcs
    obtain ⟨rfl, rfl, rfl⟩ := hcs
    have hlm : len ≤ m := by rw [hmm]; split <;> omega
    have key : ∀ i, ∃ x : It, i < len → (w.cell? (a.add (i * 4)) = some (.int .i64 x.way) ∧ w.cell? (a.add (i * 4 + 1)) = some (.int .i64 x.n) ∧ w.cell? (a.add (i * 4 + 2)) = some (.string x.s) ∧ w.cell? (a.add (i * 4 + 3)) = some (.bool x.ok)) ∧
        (-9223372036854775808 ≤ x.n ∧ x.n ≤ 9223372036854775807 ∧ x.s.size ≤ maxLen) := fun i => by
      by_cases hi : i < len
      · obtain ⟨cs, h1, h2⟩ := hx i (by omega)
        rw [cells33] at h1
        obtain ⟨_, hlen, hat⟩ := World.cells?_some h1
        obtain ⟨ys, n', _, _, _, hys, hg⟩ := DataW.trod_struct Try.underlying33 h2
        have k3 : Try.prog.cellsOf 3 = 1 := by kernel_rfl
        have k9 : Try.prog.cellsOf 9 = 1 := by kernel_rfl
        have k4 : Try.prog.cellsOf 4 = 1 := by kernel_rfl
        match cs, hlen with
        | [c0, c1, c2, c3], _ =>
          have y0 : ys[0]? = some (ys[0]'(by rw [hys]; decide)) := List.getElem?_eq_getElem _
          have y1 : ys[1]? = some (ys[1]'(by rw [hys]; decide)) := List.getElem?_eq_getElem _
          have y2 : ys[2]? = some (ys[2]'(by rw [hys]; decide)) := List.getElem?_eq_getElem _
          have y3 : ys[3]? = some (ys[3]'(by rw [hys]; decide)) := List.getElem?_eq_getElem _
          obtain ⟨z0, e0, _, _⟩ := DataW.trod_int Try.underlying3 ((hg 0 _ rfl).trans y0)
          obtain ⟨z1, e1, _, wf1⟩ := DataW.trod_int Try.underlying3 ((hg 1 _ rfl).trans y1)
          obtain ⟨z2, e2, _, wf2⟩ := DataW.trod_string Try.underlying9 ((hg 2 _ rfl).trans y2)
          obtain ⟨z3, e3, _⟩ := DataW.trod_bool Try.underlying4 ((hg 3 _ rfl).trans y3)
          simp [k3, k9, k4] at e0 e1 e2 e3
          have a0 := hat 0 (by omega)
          have a1 := hat 1 (by omega)
          have a2 := hat 2 (by omega)
          have a3 := hat 3 (by omega)
          rw [Go.Deep.add_add] at a0 a1 a2 a3
          exact ⟨⟨z0, z1, z2, z3⟩, fun _ => ⟨⟨by rw [Nat.add_zero] at a0; rw [a0, ← e0]; rfl, by rw [a1, ← e1]; rfl, by rw [a2, ← e2]; rfl, by rw [a3, ← e3]; rfl⟩, wf_lo wf1, wf_hi wf1, wf2⟩⟩
      · exact ⟨⟨0, 0, ⟨#[]⟩, false⟩, fun h => absurd h hi⟩
    obtain ⟨f, hfun⟩ := Classical.axiomOfChoice key
    refine ⟨some a, len, cap, f, rfl, fun i hi => ?_, hl, hm, fun i hi => (hfun i hi).2⟩
    obtain ⟨ab, ao, spot⟩ := a
    have hc0 := (hfun 0 (by omega)).1.1
    have hspot : spot = none := by simpa [Addr.add] using World.cell?_spot hc0
    subst hspot
    have hci := (hfun i hi).1
    simp only [add_none, ← Nat.add_assoc] at hci
    exact ⟨ab, ao, rfl, by simpa [Addr.add] using block_of_cell hc0, hci⟩
end
end Go.Proofs.Ytbpipjkfgijjcaa
