/- The law on what the document answers of keys and messages, walked. -/
import Derived.Test.YtlljfehlgfgdpaaRefs
import Derived.Deep.RegionHeld3
namespace Go.Proofs.Ytlljfehlgfgdpaa
open Go.RowKit

theorem msgsB (i p : Int) (x2 x3 x4 x5 : Value) (j q : Int) (y2 y3 y4 y5 : Value) (w : World) :
    Calls Try.prog 10 #[.agg #[.int .i64 i, .int .i64 p, x2, x3, x4, x5], .agg #[.int .i64 j, .int .i64 q, y2, y3, y4, y5]] w fun e w' => e = .returned (.int .i64 (cmpM p i q j)) ∧ Below w.heap.size w w' :=
  (msgs i p x2 x3 x4 x5 j q y2 y3 y4 y5 w).mono fun _ _ ⟨he, hw⟩ => ⟨he, by rw [← hw]; exact ((Below.refl _ _).alloc (Nat.le_refl _) _).alloc (by simp) _⟩
theorem refMsgsB (i p : Int) (x2 x3 x4 x5 : Value) (j q : Int) (y2 y3 y4 y5 : Value) (w : World) :
    Calls Try.prog 11 #[.agg #[.int .i64 i, .int .i64 p, x2, x3, x4, x5], .agg #[.int .i64 j, .int .i64 q, y2, y3, y4, y5]] w fun e w' => e = .returned (.int .i64 (cmpM p i q j)) ∧ Below w.heap.size w w' :=
  (refMsgs i p x2 x3 x4 x5 j q y2 y3 y4 y5 w).mono fun _ _ ⟨he, hw⟩ => ⟨he, by rw [← hw]; exact ((Below.refl _ _).alloc (Nat.le_refl _) _).alloc (by simp) _⟩
theorem refKeysB (a b : ByteArray) (w : World) (ha : a.size ≤ 100) : Calls Try.prog 9 #[.string a, .string b] w fun e w' => e = .returned (.int .i64 (cmpS a b)) ∧ Below w.heap.size w w' :=
  (refKeys a b w ha).mono fun _ _ ⟨he, n, hw⟩ => ⟨he, by rw [hw]; exact ⟨rfl, rfl, rfl, Nat.le_refl _, fun _ _ => rfl⟩⟩
theorem refInB (k f t : ByteArray) (w : World) (hk : k.size ≤ 100) : Calls Try.prog 15 #[.string k, .string f, .string t] w fun e w' => e = .returned (.bool (inS k f t)) ∧ Below w.heap.size w w' :=
  (refIn k f t w hk).mono fun _ _ ⟨he, n, hw⟩ => ⟨he, by rw [hw]; exact ⟨rfl, rfl, rfl, Nat.le_refl _, fun _ _ => rfl⟩⟩
theorem keepB (i p : Int) (x2 x3 x4 x5 : Value) (j q : Int) (y2 y3 y4 y5 : Value) {w w1 w2 : World} (hb : Below w1.heap.size w1 w2)
    (h : (Below w.heap.size w w1 ∧ w.heap.size + 1 < w1.heap.size) ∧ w1.cell? ⟨w.heap.size, 0, none⟩ = some (.int .i64 i) ∧ w1.cell? ⟨w.heap.size, 1, none⟩ = some (.int .i64 p) ∧ w1.cell? ⟨w.heap.size, 2, none⟩ = some (x2) ∧ w1.cell? ⟨w.heap.size, 3, none⟩ = some (x3) ∧ w1.cell? ⟨w.heap.size, 4, none⟩ = some (x4) ∧ w1.cell? ⟨w.heap.size, 5, none⟩ = some (x5) ∧ w1.cell? ⟨w.heap.size + 1, 0, none⟩ = some (.int .i64 j) ∧ w1.cell? ⟨w.heap.size + 1, 1, none⟩ = some (.int .i64 q) ∧ w1.cell? ⟨w.heap.size + 1, 2, none⟩ = some (y2) ∧ w1.cell? ⟨w.heap.size + 1, 3, none⟩ = some (y3) ∧ w1.cell? ⟨w.heap.size + 1, 4, none⟩ = some (y4) ∧ w1.cell? ⟨w.heap.size + 1, 5, none⟩ = some (y5)) :
    (Below w.heap.size w w2 ∧ w.heap.size + 1 < w2.heap.size) ∧ w2.cell? ⟨w.heap.size, 0, none⟩ = some (.int .i64 i) ∧ w2.cell? ⟨w.heap.size, 1, none⟩ = some (.int .i64 p) ∧ w2.cell? ⟨w.heap.size, 2, none⟩ = some (x2) ∧ w2.cell? ⟨w.heap.size, 3, none⟩ = some (x3) ∧ w2.cell? ⟨w.heap.size, 4, none⟩ = some (x4) ∧ w2.cell? ⟨w.heap.size, 5, none⟩ = some (x5) ∧ w2.cell? ⟨w.heap.size + 1, 0, none⟩ = some (.int .i64 j) ∧ w2.cell? ⟨w.heap.size + 1, 1, none⟩ = some (.int .i64 q) ∧ w2.cell? ⟨w.heap.size + 1, 2, none⟩ = some (y2) ∧ w2.cell? ⟨w.heap.size + 1, 3, none⟩ = some (y3) ∧ w2.cell? ⟨w.heap.size + 1, 4, none⟩ = some (y4) ∧ w2.cell? ⟨w.heap.size + 1, 5, none⟩ = some (y5) := by
  obtain ⟨⟨hw, hs⟩, c0, c1, c2, c3, c4, c5, d0, d1, d2, d3, d4, d5⟩ := h
  have k : ∀ o, w2.cell? ⟨w.heap.size, o, none⟩ = w1.cell? ⟨w.heap.size, o, none⟩ := fun o => hb.cell (p := ⟨w.heap.size, o, none⟩) (by show w.heap.size < _; omega)
  have l : ∀ o, w2.cell? ⟨w.heap.size + 1, o, none⟩ = w1.cell? ⟨w.heap.size + 1, o, none⟩ := fun o => hb.cell (p := ⟨w.heap.size + 1, o, none⟩) hs
  refine ⟨⟨hw.trans (hb.mono hw.size), Nat.lt_of_lt_of_le hs hb.size⟩, ?_⟩
  simp only [k, l]
  exact ⟨c0, c1, c2, c3, c4, c5, d0, d1, d2, d3, d4, d5⟩

theorem keepStart (i p : Int) (x2 x3 x4 x5 : Value) (j q : Int) (y2 y3 y4 y5 : Value) (w w' : World) (hw : w' = ((w.alloc (.cells #[.int .i64 i, .int .i64 p, x2, x3, x4, x5] 23)).alloc (.cells #[.int .i64 j, .int .i64 q, y2, y3, y4, y5] 23)).drew) :
    (Below w.heap.size w w' ∧ w.heap.size + 1 < w'.heap.size) ∧ w'.cell? ⟨w.heap.size, 0, none⟩ = some (.int .i64 i) ∧ w'.cell? ⟨w.heap.size, 1, none⟩ = some (.int .i64 p) ∧ w'.cell? ⟨w.heap.size, 2, none⟩ = some (x2) ∧ w'.cell? ⟨w.heap.size, 3, none⟩ = some (x3) ∧ w'.cell? ⟨w.heap.size, 4, none⟩ = some (x4) ∧ w'.cell? ⟨w.heap.size, 5, none⟩ = some (x5) ∧ w'.cell? ⟨w.heap.size + 1, 0, none⟩ = some (.int .i64 j) ∧ w'.cell? ⟨w.heap.size + 1, 1, none⟩ = some (.int .i64 q) ∧ w'.cell? ⟨w.heap.size + 1, 2, none⟩ = some (y2) ∧ w'.cell? ⟨w.heap.size + 1, 3, none⟩ = some (y3) ∧ w'.cell? ⟨w.heap.size + 1, 4, none⟩ = some (y4) ∧ w'.cell? ⟨w.heap.size + 1, 5, none⟩ = some (y5) := by
  subst hw
  refine ⟨⟨(((Below.refl _ _).alloc (Nat.le_refl _) _).alloc (by simp) _).drew, by simp⟩, ?_⟩
  simp [go_sem]
set_option maxRecDepth 100000 in
set_option maxHeartbeats 4000000 in
theorem orderTells (a b c : ByteArray) (i p : Int) (x2 x3 x4 x5 : Value) (j q : Int) (y2 y3 y4 y5 : Value) (ha : a.size ≤ maxLen) (hb : b.size ≤ maxLen) (hc : c.size ≤ maxLen) (w : World) :
    Calls Try.prog 3 #[.string a, .string b, .string c, .agg #[.int .i64 i, .int .i64 p, x2, x3, x4, x5], .agg #[.int .i64 j, .int .i64 q, y2, y3, y4, y5]] w
      fun e w' => e = .returned (.bool true) ∧ Below w.heap.size w w' := by
  unfold maxLen at ha hb hc
  by_cases h : 100 < a.size ∨ 100 < b.size ∨ 100 < c.size
  case pos =>
    go_enter Try.func3, Try.ntmps3
    go_wp2_with (go_at_call 7; refine (alive _).mono ?_; rintro e w' ⟨rfl, rfl⟩)
    all_goals go_ret
    all_goals refine ⟨retB rfl, ?_⟩
    all_goals exact ((Below.refl _ _).alloc (Nat.le_refl _) _).alloc (by simp) _
  case neg =>
    have h1 : a.size ≤ 100 := by omega
    have h2 : b.size ≤ 100 := by omega
    have h3 : c.size ≤ 100 := by omega
    clear h
    go_enter Try.func3, Try.ntmps3
    go_wp2_with (go_at_call 7; refine (alive _).mono ?_; rintro e w' ⟨rfl, rfl⟩)
    go_region_held3 (fun w' => (Below w.heap.size w w' ∧ w.heap.size + 1 < w'.heap.size) ∧ w'.cell? ⟨w.heap.size, 0, none⟩ = some (.int .i64 i) ∧ w'.cell? ⟨w.heap.size, 1, none⟩ = some (.int .i64 p) ∧ w'.cell? ⟨w.heap.size, 2, none⟩ = some (x2) ∧ w'.cell? ⟨w.heap.size, 3, none⟩ = some (x3) ∧ w'.cell? ⟨w.heap.size, 4, none⟩ = some (x4) ∧ w'.cell? ⟨w.heap.size, 5, none⟩ = some (x5) ∧ w'.cell? ⟨w.heap.size + 1, 0, none⟩ = some (.int .i64 j) ∧ w'.cell? ⟨w.heap.size + 1, 1, none⟩ = some (.int .i64 q) ∧ w'.cell? ⟨w.heap.size + 1, 2, none⟩ = some (y2) ∧ w'.cell? ⟨w.heap.size + 1, 3, none⟩ = some (y3) ∧ w'.cell? ⟨w.heap.size + 1, 4, none⟩ = some (y4) ∧ w'.cell? ⟨w.heap.size + 1, 5, none⟩ = some (y5)) (first | exact keepStart i p x2 x3 x4 x5 j q y2 y3 y4 y5 w _ rfl | exact keepB i p x2 x3 x4 x5 j q y2 y3 y4 y5 (by assumption) (by assumption) | assumption)
      (first | (go_at_call 8; refine (keys _ _ _).mono ?_; rintro e w' ⟨rfl, rfl⟩) | (go_at_call 9; refine (refKeysB _ _ _ h1).mono ?_; rintro e w' ⟨rfl, hb⟩) | (go_at_call 10; refine (msgsB _ _ _ _ _ _ _ _ _ _ _ _ _).mono ?_; rintro e w' ⟨rfl, hb⟩) | (go_at_call 11; refine (refMsgsB _ _ _ _ _ _ _ _ _ _ _ _ _).mono ?_; rintro e w' ⟨rfl, hb⟩) | (go_at_call 12; refine (next _ _ h1).mono ?_; rintro e w' ⟨rfl, rfl⟩) | (go_at_call 13; refine (refNext _ _ h1).mono ?_; rintro e w' ⟨rfl, rfl⟩) | (go_at_call 14; refine (inn _ _ _ _).mono ?_; rintro e w' ⟨rfl, rfl⟩) | (go_at_call 15; refine (refInB _ _ _ _ h1).mono ?_; rintro e w' ⟨rfl, hb⟩))
    rename_i hH
    have hB := hH.1.1
    clear hH
    go_wp2
    go_ret
    exact ⟨rfl, hB⟩
end Go.Proofs.Ytlljfehlgfgdpaa
