/- What a disk's Read answers. -/
import Derived.Test.YteilbaabnhogbaaMake
import Derived.Lib.LazyBuf
namespace Go.Proofs.Yteilbaabnhogbaa
open Go.RowKit
theorem size5 : (Try.prog.info? 5).map (·.size) = some 1 := by kernel_rfl
/-- a copy of a whole range of bytes into a range as long -/
theorem copy_range {W : World} {b o : Nat} {A : Option Addr} {n dc c : Nat} {xs : List UInt8} (hn : xs.length = n) (hr : ∀ a, A = some a → ∀ j v, (cellsB xs)[j]? = some v → W.cell? (a.add j) = some v) (hA : A = none → n = 0) (ht : W.there b o n) :
    (Builtin.copy_ #[31, 31] 3 #[.slice (some ⟨b, o, none⟩) n dc, .slice A n c]).run Try.prog W = .ok (.int .i64 (n : Int)) (W.setCells b o (cellsB xs)) := by
  cases A with
  | none =>
    have h0 := hA rfl
    subst h0
    obtain rfl : xs = [] := List.eq_nil_of_length_eq_zero hn
    exact run_copy_none W 31 31 3 5 (some ⟨b, o, none⟩) none 0 dc 0 c Try.underlying31 size5 rfl
  | some a =>
    have := run_copy_cells (P := Try.prog) W 31 31 3 5 b o n dc a n c (cellsB xs) Try.underlying31 size5 (by rw [cellsB_length, hn]; exact (Nat.min_self _).symm) (hr a rfl)
      (fun j hj => (ht j (by rw [cellsB_length] at hj; omega)).1) (fun j hj => (ht j (by rw [cellsB_length] at hj; omega)).2) (cellsB_one xs)
    rw [this, cellsB_length, hn]; rfl
theorem blk_there {W : World} {g : Nat} {t : TypeId} {l : List Value} (h : Blk W g t l.toArray) : W.there g 0 l.length := fun j hj =>
  ⟨by rw [h.cell, Nat.zero_add, List.getElem?_toArray, List.getElem?_eq_getElem hj]; rfl, h.frozen _⟩
theorem sec_get {s : List Sec} {i : Nat} (h : i < s.length) : (thereL s)[i]? = some (cellsB (s.getD i [])) := by
  simp [thereL, h]
theorem DiskM.range {w : World} {g : Nat} {O : Nat → Prop} {gt : Nat} {v : Value} {t : List Sec} {u : List Wr} {s : St} (h : DiskM w g O gt v t u s) (hs : secs t) {i : Nat} (hi : i < t.length) : w.rangeAt gt (i * 64) (cellsB (t.getD i [])) := by
  have := h.there
  rw [← List.append_nil (thereL t).flatten] at this
  exact part_range this (thereL_each hs) (sec_get hi)
theorem DiskM.room {w : World} {g : Nat} {O : Nat → Prop} {gt : Nat} {v : Value} {t : List Sec} {u : List Wr} {s : St} (h : DiskM w g O gt v t u s) (hs : secs t) {i : Nat} (hi : i < t.length) : w.there gt (i * 64) 64 := by
  have := h.there
  rw [← List.append_nil (thereL t).flatten] at this
  exact part_there this (thereL_each hs) (sec_get hi)
theorem read_copy {w : World} {gt o : Nat} {xs zs : List UInt8} (hx : xs.length = 64) (hz : zs.length = 64) (hr : w.rangeAt gt o (cellsB xs)) :
    ∃ W2, (Builtin.copy_ #[31, 31] 3 #[.slice (some ⟨w.heap.size, 0, none⟩) 64 64, .slice (some ⟨gt, o, none⟩) 64 64]).run Try.prog (w.alloc (.cells (cellsB zs).toArray 5)) = .ok (.int .i64 64) W2 ∧
      Blk W2 w.heap.size 5 (cellsB xs).toArray ∧ Below w.heap.size w W2 ∧ W2.heap.size = w.heap.size + 1 := by
  have hb := Blk.new w 5 (cellsB zs).toArray
  have ht := blk_there hb
  rw [cellsB_length, hz] at ht
  refine ⟨_, copy_range hx (fun a ha j v hv => ?_) (fun h => by cases h) ht, ?_, ?_, ?_⟩
  · cases ha
    rw [Addr.add_mid]
    exact (World.rangeAt_alloc hr _) j v hv
  · have := blk_setCells (g := w.heap.size) (t := 5) (cellsB xs) [] (cellsB zs) [] _ (by rw [cellsB_length, cellsB_length, hx, hz]) (by simpa using hb)
    simpa using this
  · exact below_setCells (Nat.le_refl _) _ _ _ ((Below.refl _ _).alloc (Nat.le_refl _) _)
  · rw [(setCells_plain _ _ _ _).2.2.2]; simp
section
variable {w : World} {g : Nat} {O : Nat → Prop} {s : St}
theorem read_no (h : DiskAt w g O s) (i : Int) (hi : i < 0 ∨ (s.n : Int) ≤ i) : Calls Try.prog 29 #[ptr g, .int .i64 i] w fun e w' => e = .returned (.slice none 0 0) ∧ w = w' := by
  have H := Lib.hid h
  have HI := Lib.hid hi
  clear h hi
  go_enter Try.func29, Try.ntmps29
  go_wp2_with (go_at_call 36; refine (has_no H.out _ HI.out).mono ?_; rintro e w' ⟨rfl, rfl⟩)
  go_ret
  exact ⟨rfl, rfl⟩
theorem read_ (h : DiskAt w g O s) (i : Nat) (hi : i < s.n) : Calls Try.prog 29 #[ptr g, .int .i64 (i : Int)] w fun e w' =>
    e = .returned (.slice (some ⟨w.heap.size, 0, none⟩) 64 64) ∧ Blk w' w.heap.size 5 (cellsB (s.now.getD i [])).toArray ∧ Below w.heap.size w w' ∧ w'.heap.size = w.heap.size + 1 := by
  have H := Lib.hid h
  obtain ⟨gt, v, h⟩ := h
  have hlt := h.head.lt
  have c0 := h.head.cell 0
  simp at c0
  have hmk := make64
  have HM := Lib.hid h
  have hn : s.n ≤ 4096 := h.ok.many
  have hnl : i < s.now.length := by rw [St.now_length]; exact hi
  obtain ⟨W2, hcp, hb, hbel, hsz⟩ := read_copy (secs_getD h.ok.now hnl) (zeros_length 64) (h.range h.ok.now hnl)
  have HB := Lib.hid hb
  have HL := Lib.hid hbel
  have HZ := Lib.hid hsz
  clear h hb hbel hsz hnl
  go_enter Try.func29, Try.ntmps29
  go_wp2_with (go_at_call 36; refine (has_yes H.out _ hi).mono ?_; rintro e w' ⟨rfl, rfl⟩)
  go_ret
  exact ⟨rfl, HB.out, HL.out, HZ.out⟩
end
end Go.Proofs.Yteilbaabnhogbaa
