/- The example of the document, and a write: what 'alive' answers. -/
import Derived.Test.YtkgafnfbnpbacaaCrash
import Derived.Laws.IdiomStrings
namespace Go.Proofs.Ytkgafnfbnpbacaa
open Go.RowKit
/-- all blocks from B on -/
abbrev Hi (B : Nat) : Nat → Prop := fun i => B ≤ i
/-- all blocks from B on but b -/
abbrev HiBut (B b : Nat) : Nat → Prop := fun i => B ≤ i ∧ i ≠ b
theorem keep_hi {B : Nat} {w w' : World} (h : Keep (Out (Hi B)) w w') (hB : B ≤ w.heap.size) : Below B w w' := h.below hB fun i _ hi => by simp only [Out, Hi]; omega
theorem below_of_keep {B : Nat} {w w' : World} (h : Keep (fun i _ => i < B) w w') (hB : B ≤ w.heap.size) : Below B w w' := h.below hB fun _ _ hi => hi
theorem keep_lo {B : Nat} {O : Nat → Prop} {w w' : World} (h : Keep (Out O) w w') (hO : ∀ i, O i → B ≤ i) : Keep (fun i _ => i < B) w w' := h.mono fun i _ _ hi ho => by have := hO i ho; omega
theorem alloc_below (w : World) (o : Obj) : Below w.heap.size w (w.alloc o) := (Below.refl _ _).alloc (Nat.le_refl _) _
theorem convert_blk {w : World} {g : Nat} {xs : List UInt8} {n : Nat} (h : Blk w g 5 (cellsB xs).toArray) (hn : xs.length = n) (c : Nat) : (convert 32 9 (.slice (some ⟨g, 0, none⟩) n c)).run Try.prog w = .ok (.string ⟨xs.toArray⟩) w := by
  subst hn
  exact run_convert_bytes_back w 32 9 5 ⟨g, 0, none⟩ c xs Try.underlying32 Try.underlying5 Try.underlying9 (fun j hj => by
    rw [Addr.add_mid, h.cell, Nat.zero_add, List.getElem?_toArray, cellsB_get, List.getElem?_eq_getElem hj]; rfl)
theorem convert_none (w : World) : (convert 32 9 (.slice none 0 0)).run Try.prog w = .ok (.string ⟨#[]⟩) w := by
  rw [run_convert_bytes_string w 32 9 5 none 0 0 Try.underlying32 Try.underlying5 Try.underlying9]; rfl
set_option maxHeartbeats 400000 in
theorem alive (w : World) : Calls Try.prog 7 #[] w fun e w' => e = .returned (.bool true) ∧ Below w.heap.size w w' := by
  have hmk := make64
  go_enter Try.func7, Try.ntmps7
  go_wp2_with fail
  refine (new_ w 3).mono ?_
  rintro e w1 ⟨rfl, hd, hb, hz⟩
  have hd2 := hd.below (alloc_below w1 (.cells (cellsB (zeros 64)).toArray 5))
  have HD := Lib.hid hd2
  have HB := Lib.hid hb
  have HN := Lib.hid (Blk.new w1 5 (cellsB (zeros 64)).toArray)
  have HZ := Lib.hid hz
  clear hd hd2 hb hz
  go_wp2_with fail
  refine (write_ HD.out rfl (by simp [St.new]) (by simp [St.new]) (by simp [St.new]) 1 (by rw [St.n_new]; decide) _ _ (zeros_length 64) HN.out).mono ?_
  rintro e w2 ⟨rfl, hd, hk⟩
  have hd2 : DiskAt w2 (w.heap.size + 1) (Hi w.heap.size) _ := hd.more (O' := Hi w.heap.size) fun i hi => by
    have := HZ.out
    simp at hi
    simp only [Hi]; omega
  have HD2 := Lib.hid hd2
  have HK := Lib.hid (((Keep.of_below (K := Out (Hi w.heap.size)) HB.out).alloc _).trans hk)
  clear hd hd2 hk HD HN
  go_wp2_with fail
  refine (len_ HD2.out).mono ?_
  rintro e w3 ⟨rfl, rfl⟩
  rw [St.n_wr, St.n_new, show ((cutN 3 : Nat) : Int) = 3 from rfl]
  go_wp2_with fail
  refine (read_ HD2.out 1 (by rw [St.n_wr, St.n_new]; decide)).mono ?_
  rintro e w3 ⟨rfl, _, hb3, _⟩
  have HD3 := Lib.hid (HD2.out.below hb3)
  have HB3 := Lib.hid hb3
  clear hb3
  go_wp2_with fail
  refine (writes_ HD3.out).mono ?_
  rintro e w4 ⟨rfl, rfl⟩
  rw [show (((St.new (cutN 3)).wr 1 (zeros 64)).count : Int) = 1 from rfl]
  go_wp2
  go_ret
  exact ⟨rfl, keep_hi (HK.out.trans (Keep.of_below HB3.out)) (Nat.le_refl _)⟩
end Go.Proofs.Ytkgafnfbnpbacaa
