/- What is made: bytes, sectors, a disk; a sector that is filled. -/
import Derived.Test.YteilbaabnhogbaaSmall
namespace Go.Proofs.Yteilbaabnhogbaa
open Go.RowKit
theorem info5 : (Try.prog.info? 5).map (fun i => (i.zero, i.size, i.bytes)) = some (some (.int .u8 0), 1, 1) := by kernel_rfl
theorem info54 : (Try.prog.info? 50).map (fun i => (i.zero, i.size, i.bytes)) = some (some (.agg (Array.replicate 64 (.int .u8 0))), 64, 64) := by kernel_rfl
theorem made5 (n : Nat) (hn : n ≤ 1000000) (w : World) : (Instr.makeSlice 31 (.int .i64 (n : Int)) (.int .i64 (n : Int))).run Try.prog w =
    .ok (.slice (some ⟨w.heap.size, 0, none⟩) n n) (w.alloc (.cells (cellsB (List.replicate n 0)).toArray 5)) := by
  obtain ⟨i0, hi, hz0, hz1, hz2⟩ := info_parts info5
  have h := run_make (P := Try.prog) w 31 5 i0 _ Try.underlying31 hi hz0 .i64 .i64 n n (by omega) (by omega) (by rw [hz2]; omega) (by omega)
  rw [h]
  simp only [Int.toNat_natCast, hz1, Nat.mul_one]
  congr 3
  apply Array.ext
  · simp [madeCells, cellsB]
  · intro i h1 h2
    simp [madeCells, cellsB, Value.cells]
    simp [Nat.mod_one, u8]
theorem zeros_flat (n c : Nat) : (thereL (List.replicate n (List.replicate c 0))).flatten = List.replicate (n * c) (.int .u8 0) := by
  simp [thereL, cellsB, u8]
def zeroT (n : Nat) : Array Value := (thereL (List.replicate n (List.replicate 64 0))).flatten.toArray
theorem made54 (n : Nat) (hn : n ≤ 4096) (w : World) : (Instr.makeSlice 39 (.int .i64 (n : Int)) (.int .i64 (n : Int))).run Try.prog w =
    .ok (.slice (some ⟨w.heap.size, 0, none⟩) n n) (w.alloc (.cells (zeroT n) 50)) := by
  unfold zeroT
  obtain ⟨i0, hi, hz0, hz1, hz2⟩ := info_parts info54
  have h := run_make (P := Try.prog) w 39 50 i0 _ Try.underlying39 hi hz0 .i64 .i64 n n (by omega) (by omega) (by rw [hz2]; omega) (by omega)
  rw [h, zeros_flat]
  simp only [Int.toNat_natCast, hz1]
  congr 3
  apply Array.ext
  · simp [madeCells]
  · intro i h1 h2
    have : i % 64 < 64 := Nat.mod_lt _ (by omega)
    simp [madeCells, Value.cells, this]
theorem fill_at (k m : Nat) (c : UInt8) (h : k < m) : (cellsB (List.replicate k c ++ List.replicate (m - k) 0))[k]? = some (u8 0) := by
  rw [cellsB_get, List.getElem?_append_right (by simp), List.length_replicate, Nat.sub_self, List.getElem?_replicate, if_pos (by omega)]
  rfl
theorem fill_set (k m c : Nat) (hc : c < 256) (h : k < m) : (cellsB (List.replicate k (UInt8.ofNat c) ++ List.replicate (m - k) 0)).set k (.int .u8 (c : Int)) = cellsB (List.replicate (k + 1) (UInt8.ofNat c) ++ List.replicate (m - (k + 1)) 0) := by
  have e1 : List.replicate (m - k) (0 : UInt8) = 0 :: List.replicate (m - (k + 1)) 0 := by
    rw [← List.replicate_succ]; congr 1; omega
  have e2 : (Value.int IntKind.u8 (c : Int)) = u8 (UInt8.ofNat c) := by
    unfold u8; congr 1; simp; omega
  rw [e1, e2, List.replicate_succ', cellsB_append, cellsB_append, cellsB_append]
  simp [cellsB, List.append_assoc]
def fillN (bad : Bool) : Nat := if bad then 63 else 64
def filled (c : Nat) (bad : Bool) : List UInt8 := List.replicate (fillN bad) (UInt8.ofNat c)
theorem filled_length (c : Nat) (bad : Bool) : (filled c bad).length = fillN bad := by simp [filled]
def zeros (n : Nat) : List UInt8 := List.replicate n 0
theorem zeros_length (n : Nat) : (zeros n).length = n := by simp [zeros]
theorem make64 (w : World) : (Instr.makeSlice 31 (.int .i64 64) (.int .i64 64)).run Try.prog w = .ok (.slice (some ⟨w.heap.size, 0, none⟩) 64 64) (w.alloc (.cells (cellsB (zeros 64)).toArray 5)) := made5 64 (by omega) w
theorem made64 (w : World) : (Instr.makeSlice 31 (.int .i64 64) (.int .i64 64)).run Try.prog w = .ok (.slice (some ⟨w.heap.size, 0, none⟩) 64 64) (w.alloc (.cells (cellsB (List.replicate 64 0)).toArray 5)) := made5 64 (by omega) w
theorem made63 (w : World) : (Instr.makeSlice 31 (.int .i64 63) (.int .i64 63)).run Try.prog w = .ok (.slice (some ⟨w.heap.size, 0, none⟩) 63 63) (w.alloc (.cells (cellsB (List.replicate 63 0)).toArray 5)) := made5 63 (by omega) w
/-- how many sectors a disk of n has -/
def cutN (n : Int) : Nat := (min (max n 0) 4096).toNat
def NewP (w : World) (n : Nat) (e : Ending) (w' : World) : Prop :=
  e = .returned (ptr (w.heap.size + 1)) ∧ DiskAt w' (w.heap.size + 1) (fun i => w.heap.size ≤ i) (St.new n) ∧ Below w.heap.size w w' ∧ w'.heap.size = w.heap.size + 2
theorem new_post (w : World) (n : Nat) (hn : n ≤ 4096) : NewP w n (.returned (ptr (w.heap.size + 1)))
    ((w.alloc (.cells (zeroT n) 50)).alloc (.cells #[.slice (some ⟨w.heap.size, 0, none⟩) n n, .slice none 0 0, .int .i64 0, .bool false, .int .i64 0] 42)) := by
  unfold zeroT
  refine ⟨rfl, ⟨w.heap.size, .slice none 0 0, ⟨?_, (Blk.new w 50 _).alloc _, World.ownsRow_nil _ _ _ _, by omega, Nat.le_refl _, fun k hk => (by cases hk), St.ok.new hn⟩⟩, ?_, by simp⟩
  · rw [St.n_new]
    have := Blk.new (w.alloc (.cells (thereL (List.replicate n (List.replicate 64 0))).flatten.toArray 50)) 42 #[.slice (some ⟨w.heap.size, 0, none⟩) n n, .slice none 0 0, .int .i64 0, .bool false, .int .i64 0]
    simp only [World.size_alloc] at this
    exact this
  · exact ((Below.refl _ _).alloc (Nat.le_refl _) _).alloc (by simp) _
set_option maxHeartbeats 400000 in
theorem new_ (w : World) (n : Int) : Calls Try.prog 6 #[.int .i64 n] w (NewP w (cutN n)) := by
  have h1 : ∀ m : Nat, m ≤ 4096 → (m : Int) = min (max n 0) 4096 → cutN n = m := fun m _ h => by unfold cutN; omega
  have H1 := Lib.hid h1
  clear h1
  rcases Int.lt_or_le n 0 with h0 | h0
  · have hmk : ∀ W, (Instr.makeSlice 39 (.int .i64 0) (.int .i64 0)).run Try.prog W = .ok (.slice (some ⟨W.heap.size, 0, none⟩) 0 0) (W.alloc (.cells (zeroT 0) 50)) := made54 0 (by omega)
    have HP := Lib.hid (new_post w 0 (by omega))
    rw [H1.out 0 (by omega) (by omega)]
    go_enter Try.func6, Try.ntmps6
    go_wp2
    go_ret
    exact HP.out
  · rcases Int.lt_or_le 4096 n with h2 | h2
    · have hmk : ∀ W, (Instr.makeSlice 39 (.int .i64 4096) (.int .i64 4096)).run Try.prog W = .ok (.slice (some ⟨W.heap.size, 0, none⟩) 4096 4096) (W.alloc (.cells (zeroT 4096) 50)) := made54 4096 (by omega)
      have HP := Lib.hid (new_post w 4096 (by omega))
      rw [H1.out 4096 (by omega) (by omega)]
      go_enter Try.func6, Try.ntmps6
      go_wp2
      go_ret
      exact HP.out
    · obtain ⟨m, rfl⟩ := Int.eq_ofNat_of_zero_le h0
      have hmk := made54 m (by omega)
      have HP := Lib.hid (new_post w m (by omega))
      rw [H1.out m (by omega) (by omega)]
      go_enter Try.func6, Try.ntmps6
      go_wp2
      go_ret
      exact HP.out
end Go.Proofs.Yteilbaabnhogbaa
