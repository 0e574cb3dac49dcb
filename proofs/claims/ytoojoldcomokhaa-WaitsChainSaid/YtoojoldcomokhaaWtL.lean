/- The examples of the document: Ring of nothing, a ring of two. -/
import Derived.Test.YtoojoldcomokhaaWtC
set_option maxRecDepth 4000
namespace Go.Proofs.Ytoojoldcomokhaa
open Go.RowKit
theorem ring_two : IsRing [(1, 2), (2, 1)] 1 [1, 2] := by
  have h12 : Reach [(1, 2), (2, 1)] 1 2 := .one (by simp)
  have h21 : Reach [(1, 2), (2, 1)] 2 1 := .one (by simp)
  refine ⟨by simp, fun x => ⟨fun hx => ?_, fun ⟨h, _⟩ => ?_⟩⟩
  · simp at hx
    rcases hx with rfl | rfl
    · exact ⟨h12.trans h21, h12.trans h21⟩
    · exact ⟨h12, h21⟩
  · obtain ⟨y, hy⟩ := h.target
    simp at hy
    simp
    omega
theorem ring_nil (who : Int) : IsRing [] who [] := ⟨by simp, fun x => ⟨fun h => (by cases h), fun ⟨h, _⟩ => (by obtain ⟨y, hy⟩ := h.target; cases hy)⟩⟩
/-- edges in a block of their own -/
theorem lst_new (W : World) (l : List (Int × Int)) {cs : Array Value} (h : cs = (cellsE eE l).toArray) : Lst (W.alloc (.cells cs 30)) (fun i => W.heap.size ≤ i) eE (some ⟨W.heap.size, 0, none⟩) l := fun _ =>
  ⟨_, 0, rfl, Nat.le_refl _, by simp, fun j u hu => by rw [(Blk.new W 30 _).cell, Nat.zero_add, h]; simpa using hu⟩
theorem wf_small {x : Int} (h : 0 ≤ x ∧ x ≤ 1000000) : Wf x := WalkArith.wf_i64 (by omega)
set_option maxHeartbeats 1000000 in
theorem alive (w : World) : Calls Try.prog 6 #[] w fun e w' => e = .returned (.bool true) ∧ Below w.heap.size w w' := by
  go_enter Try.func6, Try.ntmps6
  go_wp2_with fail
  refine (victim_ (n := 2) (lst_new w [(1, 2), (2, 1)] rfl) rfl (by omega) (fun e he => ?_) (wf_small (by omega))).mono ?_
  · simp at he
    rcases he with rfl | rfl <;> exact ⟨wf_small (by simp), wf_small (by simp)⟩
  rintro e w1 ⟨r, hr, rfl, hb⟩
  obtain rfl := hr.unique ring_two
  have HB := Lib.hid ((alloc_below w _).trans (hb.mono (alloc_below w _).size))
  clear hr hb
  have e1 : lastI [1, 2] = 2 := rfl
  rw [e1]
  go_wp2_with fail
  refine (ring_ (l := []) (n := 0) (K := fun _ => True) (Lst.nil _ _ _ _) rfl (by omega) (fun e he => (by cases he)) (wf_small (by omega))).mono ?_
  rintro e w2 ⟨v, r, rfl, ho, hr, hb⟩
  obtain rfl := hr.unique (ring_nil 1)
  obtain ⟨A, c, rfl, _⟩ := own_lst ho
  have HB2 := Lib.hid (HB.out.trans (hb.mono HB.out.size))
  clear ho hr hb
  go_wp2_with fail
  go_ret
  exact ⟨rfl, HB2.out⟩
end Go.Proofs.Ytoojoldcomokhaa
