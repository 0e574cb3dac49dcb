/- A new tree of some rows; the document's example. -/
import Derived.Test.YtocaaebmelhhnaaTreeG
import Derived.Deep.LoopGhost
import Derived.Laws.StructEq
set_option maxRecDepth 4000
namespace Go.Proofs.Ytocaaebmelhhnaa
open Go.RowKit
theorem fold_len (xs : List Rw) : ∀ l : List Rw, (xs.foldl putR l).length ≤ l.length + xs.length := by
  induction xs with
  | nil => intro l; simp
  | cons x r ih =>
    intro l
    have := ih (putR l x)
    have h2 := put_len l x
    rw [List.foldl_cons, List.length_cons]
    split at h2 <;> omega
theorem fold_succ {xs : List Rw} {j : Nat} (h : j < xs.length) (l : List Rw) : (xs.take (j + 1)).foldl putR l = putR ((xs.take j).foldl putR l) xs[j] := by
  rw [List.take_succ_eq_append_getElem h, List.foldl_append]; rfl
def NewRel (w : World) (xs : List Rw) (k : Nat) (i : Value) (wr : World) : Prop := ∃ j, j + k = xs.length ∧ i = .int .i64 (j : Int) ∧ Tree wr (fun i => i ≠ w.heap.size) w.heap.size ((xs.take j).foldl putR []) ∧ Below w.heap.size w wr
theorem below_of_keep {w w1 w2 : World} {B : Nat} (h : Below B w w1) (k : Keep (fun i _ => i ≠ B) w1 w2) (hB : B ≤ w1.heap.size) : Below B w w2 := h.trans (k.below hB fun i _ hi => by omega)
set_option maxHeartbeats 1000000 in
theorem new_tree {w : World} {K : Nat → Prop} {A : Option Addr} {n c : Nat} {xs : List Rw} (h : Rws w K A xs) (hl : xs.length = n) (hn : n ≤ 700) :
    Calls Try.prog 8 #[.slice A n c] w fun e w' => e = .returned (.pointer (some ⟨w.heap.size, 0, none⟩)) ∧ Tree w' (fun i => i ≠ w.heap.size) w.heap.size (xs.foldl putR []) ∧ Below w.heap.size w w' := by
  have H := Lib.hid h
  have HL := Lib.hid hl
  clear h hl
  go_enter Try.func8, Try.ntmps8
  go_wp2_with fail
  go_loopg [10] n (fun k i wr => NewRel w xs k i wr)
  case atStart =>
    refine ⟨0, by rw [HL.out]; omega, rfl, ⟨List.Pairwise.nil, none, ⟨fun h => h rfl, Blk.new _ _ _⟩, Nat.zero_le _, rfl⟩, alloc_below _ _⟩
  case round =>
    obtain ⟨j, hj, rfl, ht, hb⟩ := hrel
    have HJ := Lib.hid hj
    have HT := Lib.hid ht
    have HB := Lib.hid hb
    clear hj ht hb
    by_cases hlt : j < n
    · have hx : j < xs.length := by rw [HL.out]; exact hlt
      obtain ⟨b, o, rfl, hc1, hc2⟩ := (H.out.below HB.out).at_ hx
      have hfs := fold_succ hx []
      have hln := fold_len (xs.take j) []
      have hl8 : ((xs.take j).foldl putR []).length ≤ 800 := by
        have := List.length_take (i := j) (l := xs); simp at hln; omega
      obtain ⟨k1, v1, e1⟩ : ∃ k v, xs[j] = (k, v) := ⟨_, _, rfl⟩
      rw [e1] at hfs hc1 hc2
      simp only at hc1 hc2
      have hnt := HT.out.lt
      have hal := alloc_below wr (.cells #[.string k1, .string v1] 29)
      have hpt := put_tree (HT.out.below hal) hl8 (fun i hi => by have := hal.size; omega) (k1, v1)
      rw [← hfs] at hpt
      have HPT := Lib.hid hpt
      have HAL := Lib.hid hal
      clear e1 hfs hln hl8 hpt hal
      go_wp2_with fail
      refine HPT.out.mono ?_
      rintro e w2 ⟨rfl, ht2, hk2⟩
      have HT2 := Lib.hid ht2
      have HB2 := Lib.hid (below_of_keep (HB.out.trans (HAL.out.mono HB.out.size)) hk2 (Nat.le_trans HB.out.size HAL.out.size))
      clear ht2 hk2
      go_wp2_with fail
      go_roundg (n - (j + 1))
      case measure => have := HJ.out; have := HL.out; omega
      case rel => exact ⟨j + 1, by have := HL.out; omega, by go_num, HT2.out, HB2.out⟩
    · have he : j = n := by have := HJ.out; have := HL.out; omega
      subst he
      have ht2 := HT.out
      rw [List.take_of_length_le (by rw [HL.out]; exact Nat.le_refl _)] at ht2
      have HT2 := Lib.hid ht2
      clear ht2
      go_wp2_with fail
      go_ret
      exact ⟨rfl, HT2.out, HB.out⟩
end Go.Proofs.Ytocaaebmelhhnaa
