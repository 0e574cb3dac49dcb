/- The document's Ask: rows of holds cut in two. -/
import Derived.Test.YtillbjaejdkfdaaDoorRkA
set_option maxRecDepth 4000
namespace Go.Proofs.YtillbjaejdkfdaaDoor
open Go.RowKit
theorem elemH : Tryd.prog.elem 29 = 42 := by simp [Program.elem, Tryd.underlying29]
theorem sizeH : ∀ w, (Go.sizeOf 42).run Tryd.prog w = .ok 3 w := Tryd.sizeOf42
theorem head_holds (A : Option Addr) (l c q : Nat) (h : q ≤ c) (W : World) : (Instr.slice 29 (.slice A l c) none (some (.int .i64 (q : Int))) none).run Tryd.prog W = .ok (.slice A q c) W := by
  rw [run_slice_h W 29 _ _ _ (by rw [elemH]; exact Tryd.underlying29) .i64 _ (by omega) (by omega), elemH, sizeH]
  have : A.map (·.add (0 * 3)) = A := by cases A <;> simp [Addr.add]
  simp [Result.andThen, sliced]
  cases A <;> simp [Addr.add]
theorem tail_holds {w : World} {K : Nat → Prop} {A : Option Addr} {l : List Ho} {n c : Nat} (h : Lst w K eH A l) (hl : l.length = n) (hc : n ≤ c) {q m : Nat} (hq : q ≤ n) (hm : n - q = m) :
    ∃ A', (∀ W, (Instr.slice 29 (.slice A n c) (some (.int .i64 (q : Int))) none none).run Tryd.prog W = .ok (.slice A' m (c - q)) W) ∧ Lst w K eH A' (l.drop q) ∧ (A' = none → A = none) := by
  subst hl hm
  refine ⟨_, fun W => ?_, h.drop (k := q) hc, fun e => by split at e <;> simpa using e⟩
  rw [run_slice_l W 29 _ _ _ (by rw [elemH]; exact Tryd.underlying29) .i64 _ (by omega) (by omega), elemH, sizeH]
  rfl
theorem own_form {α : Type} {E : Enc α} {T : TypeId} {W : World} {base : Nat} {v : Value} {ys : List α} (h : Own W base E T v ys) : ∃ A n c, v = .slice A n c := by
  obtain ⟨A, c, e, _⟩ := own_lst h
  exact ⟨A, _, c, e⟩
theorem hold_one (W : World) (who : Int) (q : Nat) : Lst (W.alloc (.cells #[.int .i64 who, .int .i64 0, .int .i64 (q : Int)] 42)) (fun i => W.heap.size ≤ i) eH (some ⟨W.heap.size, 0, none⟩) [lnA (who, q)] := lst_hold W (who, 0, q)
/-- the line with one more put at j -/
theorem line_put (L : List Cl) (j : Nat) (x : Cl) : (L.map lnA).take j ++ [lnA x] ++ (L.map lnA).drop j = (L.take j ++ x :: L.drop j).map lnA := by
  rw [List.map_append, List.map_cons, List.map_take, List.map_drop, List.append_assoc, List.singleton_append]
/-- the end of Ask where it waits -/
theorem rk_wait {w wr W : World} {base b : Nat} {H L : List Cl} {vH vL v : Value} (h : RK base b (H, L) vH vL w) (hb : Below w.heap.size w wr) (hbase : base ≤ w.heap.size) (k : Below wr.heap.size wr W) {who : Int} {q j : Nat}
    (ho : Own W wr.heap.size eH 42 v ((L.map lnA).take j ++ [lnA (who, q)] ++ (L.map lnA).drop j)) (hs : spotP H L who = j) :
    RLk base b (H, waitP H L (who, q)) (W.setCell ⟨b, 1, none⟩ v) ∧ RKeep base b w (W.setCell ⟨b, 1, none⟩ v) := by
  rw [line_put] at ho
  have h2 := rk_line (h.below hb) k ho (Nat.le_trans hbase hb.size)
  refine ⟨⟨vH, v, ?_⟩, (Keep.of_below hb).trans (h2.2.mono fun i o _ hi => hi)⟩
  have e : waitP H L (who, q) = L.take j ++ (who, q) :: L.drop j := by
    unfold waitP
    simp only [hs]
  rw [e]
  exact h2.1
end Go.Proofs.YtillbjaejdkfdaaDoor
