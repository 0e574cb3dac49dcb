/- A tree's rows from a key on: what the function that From answers hands over. -/
import Derived.Test.YtocaaebmelhhnaaTop
set_option maxRecDepth 4000
namespace Go.Proofs.Ytocaaebmelhhnaa
open Go.RowKit
theorem below_grown {A B : World} (h : Below A.heap.size A B) : A.grownBy B none := ⟨h.os, h.tape, h.output, h.size, fun k hk _ => h.block k hk⟩
def fromTe (T : Te) (k : ByteArray) : List Rw := fromT (topT T).1 (topT T).2 k
/-- a leaf of no rows hands over none -/
theorem from_empty {l n₀ : Nat} {N : List Rw} {J Jx : List Rw → World → Prop} (R : Rounds l n₀ N J Jx) {w : World} {K : Nat → Prop} {T bt : Nat} (a : TrAt 0 w K (.iface T (.pointer (some ⟨bt, 0, none⟩))) ([] : List Rw)) (h0 : n₀ ≤ w.heap.size) (k : ByteArray) (hJ : J [] w) :
    Calls Try.prog 53 #[.pointer (some ⟨bt, 0, none⟩), .string k, .func (.yield l) #[] #[]] w (FromE n₀ J Jx [] [] w) := by
  obtain ⟨A, n, c, hc, _, hl, hnc, _⟩ := a.leaf
  exact leaf_from R (xs := []) hc (Rws.nil _ _ _) hl (by simp at hl; omega) hnc h0 k hJ List.nil_prefix
/-- its root, and that the root's from may be called in whatever world is next -/
def TopF (l n₀ : Nat) (J Jx : List Rw → World → Prop) (T : Te) (k : ByteArray) (W : World) (e : Ending) (W' : World) : Prop :=
  ∃ bt, e = .returned (.iface (tyT (topT T).1) (.pointer (some ⟨bt, 0, none⟩))) ∧ Below W.heap.size W W' ∧
    ∀ W2, Below W'.heap.size W' W2 → J [] W2 → Calls Try.prog (fnFrom (topT T).1) #[.pointer (some ⟨bt, 0, none⟩), .string k, .func (.yield l) #[] #[]] W2 (FromE n₀ J Jx [] (fromTe T k) W2)
set_option maxHeartbeats 1000000 in
theorem top_from {l n₀ : Nat} {N : List Rw} {J Jx : List Rw → World → Prop} (R : Rounds l n₀ N J Jx) {W : World} {K : Nat → Prop} {b : Nat} {T : Te} (a : TeAt W K b T) (ok : OkTe T) (hK : ∀ i, i < W.heap.size → K i → i < n₀) (h0 : n₀ ≤ W.heap.size) (k : ByteArray) (hN : fromTe T k <+: N) :
    Calls Try.prog 28 #[.pointer (some ⟨b, 0, none⟩)] W (TopF l n₀ J Jx T k W) := by
  match T, a, ok, hN with
  | none, a, _, _ =>
    have a2 : TeAt W (fun i => i ≠ b) b none := ⟨fun h => h rfl, a.2⟩
    refine (top_ a2 (fun i hi => by have := a2.lt; omega)).mono ?_
    rintro e w1 ⟨bt, rfl, ht1, hb1⟩
    exact ⟨bt, rfl, hb1, fun W2 hb2 hJ => from_empty R (TrAt.below (h := 0) ht1 hb2) (Nat.le_trans h0 (Nat.le_trans hb1.size hb2.size)) k hJ⟩
  | some ⟨h, t⟩, a, ok, hN =>
    obtain ⟨_, bt, h1, h2⟩ := a
    have hc := h1.cell 0
    simp only [List.getElem?_toArray, List.getElem?_cons_zero] at hc
    have hall : ∀ W2, Below W.heap.size W W2 → J [] W2 → Calls Try.prog (fnFrom h) #[.pointer (some ⟨bt, 0, none⟩), .string k, .func (.yield l) #[] #[]] W2 (FromE n₀ J Jx [] (fromT h t k) W2) :=
      fun W2 hb2 hJ => from_part R h W2 bt t k [] ok ((h2.more hK).below hb2) (Nat.le_trans h0 hb2.size) hJ hN
    have HA := Lib.hid hall
    have qn : ∀ (W : World) (v : Value), (binOp .eql 59 (.iface (tyT h) v) .nilIface).run Try.prog W = .ok (.bool false) W := fun W v => by cases h <;> rfl
    clear h1 h2 hall R ok hN
    go_enter Try.func28, Try.ntmps28
    go_wp2_with fail
    go_ret
    exact ⟨bt, rfl, Below.refl _ _, HA.out⟩
theorem fromE_one {n₀ : Nat} {J Jx : List Rw → World → Prop} {pre ys : List Rw} {w w' : World} {e : Ending} (h : FromE n₀ J Jx pre ys w e w') : ∃ v : Bool, e = .returned (.bool v) ∧ (J (pre ++ ys) w' ∨ ∃ q, q <+: ys ∧ Jx (pre ++ q) w') := by
  rcases h with ⟨h1, h2, _⟩ | ⟨h1, h2⟩
  · exact ⟨true, h1, .inl h2⟩
  · exact ⟨false, h1, .inr h2⟩
set_option maxHeartbeats 1000000 in
theorem iter_ {l n₀ : Nat} {N : List Rw} {J Jx : List Rw → World → Prop} (R : Rounds l n₀ N J Jx) {W : World} {K : Nat → Prop} {b B1 B2 : Nat} {T : Te} (a : TeAt W K b T) (ok : OkTe T) (hK : ∀ i, i < W.heap.size → K i → i < n₀) (h0 : n₀ ≤ W.heap.size) {k : ByteArray} (hN : fromTe T k <+: N)
    (c1 : W.cell? ⟨B1, 0, none⟩ = some (.pointer (some ⟨b, 0, none⟩))) (c2 : W.cell? ⟨B2, 0, none⟩ = some (.string k)) (hJ : J [] W) :
    Calls Try.prog 33 #[.func (.yield l) #[] #[], .pointer (some ⟨B1, 0, none⟩), .pointer (some ⟨B2, 0, none⟩)] W fun e W' => (∃ v, e = .returned v) ∧ ((∃ ys, ys = fromTe T k ∧ J ys W') ∨ (∃ pre, pre <+: fromTe T k ∧ Jx pre W')) := by
  have hB2 := block_of_cell c2
  have ht := top_from R (a.below (Below.refl _ _).drew) (W := W.drew) ok hK h0 k hN
  have HJ : Hid (∀ W1, Below W.heap.size W W1 → J [] W1) := fun W1 hb => R.abide _ _ _ hJ (below_grown hb)
  have HC2 : Hid (∀ W1, Below W.heap.size W W1 → W1.cell? ⟨B2, 0, none⟩ = some (.string k)) := fun W1 hb => (cell_of_heap (hb.block _ hB2) _).trans c2
  have HT := Lib.hid ht
  unfold TopF at HT
  clear a ok hK hN R ht hJ
  generalize fromTe T k = ys at *
  generalize (topT T).2 = t at *
  generalize (topT T).1 = h at *
  have hcf := c_from h
  go_enter Try.func33, Try.ntmps33
  go_wp2_with fail
  go_region_with (first | (go_at_call 28; refine HT.out.mono ?_; rintro e w1 ⟨bt, rfl, hb1, hcall⟩; have HB1 := Lib.hid ((Below.refl W.heap.size W).drew.trans hb1); have HCALL := Lib.hid hcall; have hmt := (fun n => m_from h n bt); have hnt := (fun n => n_from h n bt); have q2 := HC2.out _ HB1.out; clear hb1 hcall) | (guard_target =~ Calls _ (fnFrom h) _ _ _; refine (HCALL.out _ (Below.refl _ _) (HJ.out _ HB1.out)).mono ?_; rintro e w3 h3; obtain ⟨v3, rfl, h4⟩ := fromE_one h3; have H4 := Lib.hid h4; clear h3 h4))
  all_goals
    go_wp2_with fail
    go_end0
    refine ⟨⟨_, rfl⟩, ?_⟩
    rcases H4.out with h4 | ⟨q, h5, h6⟩
    · exact .inl ⟨_, rfl, h4⟩
    · exact .inr ⟨_, h5, h6⟩
end Go.Proofs.Ytocaaebmelhhnaa
