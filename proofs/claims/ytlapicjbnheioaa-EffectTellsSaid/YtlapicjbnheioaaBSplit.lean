/- What the small functions of package bytes do: a number cut into bytes, a part added. -/
import Derived.Test.YtlapicjbnheioaaProg
import Derived.Test.YtlapicjbnheioaaBMem
import Derived.Test.YtlapicjbnheioaaBytMk
import Derived.WalkKit
import Derived.ProofKit
import Derived.LoopTactic
import Derived.Laws.Cover1
import Derived.Lib.Hide
import Derived.Laws.MakeOwn
import Derived.Laws.NewBlocks
import Derived.WalkLawsBesides
import Derived.Laws.IdiomStrings
namespace Go.Proofs.Ytlapicjbnheioaa
open Go.RowKit
theorem split_at (k m V : Nat) (h : k < m) : (cellsB (leN k V ++ List.replicate (m - k) 0))[k]? = some (u8 0) := by
  rw [cellsB_get, List.getElem?_append_right (by rw [leN_length]; exact Nat.le_refl _), leN_length, Nat.sub_self, List.getElem?_replicate, if_pos (by omega)]
  rfl
theorem split_set (k m : Nat) (v : Int) (h : k < m) (h0 : 0 ≤ v) : (cellsB (leN k v.toNat ++ List.replicate (m - k) 0)).set k (.int .u8 (v / 2 ^ (8 * k) % 256)) =
    cellsB (leN (k + 1) v.toNat ++ List.replicate (m - (k + 1)) 0) := by
  obtain ⟨V, rfl⟩ := Int.eq_ofNat_of_zero_le h0
  rw [Int.toNat_natCast]
  have e1 : List.replicate (m - k) (0 : UInt8) = 0 :: List.replicate (m - (k + 1)) 0 := by
    rw [← List.replicate_succ]; congr 1; omega
  have e2 : (Value.int IntKind.u8 ((V : Int) / 2 ^ (8 * k) % 256)) = u8 (UInt8.ofNat (V / 256 ^ k % 256)) := by
    unfold u8
    rw [toNat_ofMod]
    have : ((2 : Int) ^ (8 * k)) = ((256 ^ k : Nat) : Int) := by
      rw [Int.pow_mul, Int.natCast_pow]; rfl
    rw [this]
    congr 1
  rw [leN_snoc, e1, cellsB_append, cellsB_append, cellsB_append, e2]
  simp [cellsB, leN_length, List.append_assoc]
theorem convert_row (xs : List UInt8) (w : World) (A : Option Addr) (B n c : Nat) (h : RB w B A n xs) :
    (convert 30 9 (.slice A n c)).run Try.prog w = .ok (.string ⟨xs.toArray⟩) w := by
  obtain ⟨hl, hr⟩ := h
  subst hl
  by_cases h0 : 0 < xs.length
  · obtain ⟨b, o, rfl, _, hc⟩ := hr h0
    exact run_convert_bytes_back w 30 9 5 ⟨b, o, none⟩ c xs Try.underlying30 Try.underlying5 Try.underlying9 (fun j hj => by
      have e : (⟨b, o, none⟩ : Addr).add j = ⟨b, o + j, none⟩ := by
        unfold Addr.add; split
        · simp
        · rfl
      rw [e]; exact hc j _ (List.getElem?_eq_getElem hj))
  · obtain rfl : xs = [] := List.eq_nil_of_length_eq_zero (by omega)
    rcases A with _ | a
    · rw [run_convert_bytes_string w 30 9 5 none _ c Try.underlying30 Try.underlying5 Try.underlying9]; rfl
    · exact run_convert_bytes_back w 30 9 5 a c [] Try.underlying30 Try.underlying5 Try.underlying9 (fun j hj => by cases hj)
set_option maxHeartbeats 400000 in
theorem split_ (v n : Int) (hv0 : 0 ≤ v) (h0 : 0 ≤ n) (h8 : n ≤ 8) (w : World) :
    Calls Try.prog 46 #[.int .u64 v, .int .i64 n] w fun e w' => e = .returned (.string ⟨(leN n.toNat v.toNat).toArray⟩) ∧ Below w.heap.size w w' := by
  obtain ⟨m, rfl⟩ := Int.eq_ofNat_of_zero_le h0
  have hmk := fun W => made5 m (by omega) W
  go_enter Try.func46, Try.ntmps46
  go_wp2
  go_loopw [11] (fun i wr => ∃ k : Nat, k ≤ m ∧ i = .int .i64 k ∧ wr = w.alloc (.cells (cellsB (leN k v.toNat ++ List.replicate (m - k) 0)).toArray 5)) (fun i _ => m - (intOf i).toNat)
  case atStart => exact ⟨0, Nat.zero_le _, rfl, by simp [leN]⟩
  case round =>
    obtain ⟨k, hk, rfl, rfl⟩ := hrel
    by_cases hlt : k < m
    · have hc := split_at k m v.toNat hlt
      go_wp2
      go_roundw
      case rel => exact ⟨k + 1, by omega, by go_num, by rw [split_set k m v hlt hv0]⟩
      case measure => simp [intOf]; omega
    · obtain rfl : k = m := by omega
      rw [show leN k v.toNat ++ List.replicate (k - k) 0 = leN k v.toNat by simp]
      have hcv := convert_row (leN k v.toNat) (w.alloc (.cells (cellsB (leN k v.toNat)).toArray 5)) (some ⟨w.heap.size, 0, none⟩) (w.heap.size + 1) k k
        ⟨leN_length _ _, fun _ => ⟨_, _, rfl, by omega, fun j x hx => by
          have := (Blk.new w 5 (cellsB (leN k v.toNat)).toArray).cell (0 + j)
          rw [this]
          simp [cellsB, hx]⟩⟩
      go_wp2
      go_ret
      exact ⟨by simp, (Below.refl _ _).alloc (Nat.le_refl _) _⟩
end Go.Proofs.Ytlapicjbnheioaa

