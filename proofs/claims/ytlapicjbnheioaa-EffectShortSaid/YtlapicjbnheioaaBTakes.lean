/- What a reader takes, and what bytes join to. -/
import Derived.Test.YtlapicjbnheioaaBNews
import Derived.Laws.BitsAllLaws
namespace Go.Proofs.Ytlapicjbnheioaa
open Go.RowKit
theorem elem29 : Try.prog.elem 30 = 5 := by simp [Program.elem, Try.underlying30]
theorem headRun (A : Option Addr) (l c n : Nat) (h : n ≤ c) (W : World) : (Instr.slice 30 (.slice A l c) none (some (.int .i64 (n : Int))) none).run Try.prog W = .ok (.slice A n c) W := by
  rw [run_slice_h W 30 _ _ _ (by rw [elem29]; exact Try.underlying30) .i64 _ (by omega) (by omega), elem29, size5r]
  have : A.map (·.add (0 * 1)) = A := by cases A <;> simp [Addr.add]
  simp [Result.andThen, sliced]
  cases A <;> simp [Addr.add]
theorem tailRun (A : Option Addr) (l c n : Nat) (h : n ≤ l) (W : World) : (Instr.slice 30 (.slice A l c) (some (.int .i64 (n : Int))) none none).run Try.prog W = .ok (.slice (if c = n then A else A.map (·.add (n * 1))) (l - n) (c - n)) W := by
  rw [run_slice_l W 30 _ _ _ (by rw [elem29]; exact Try.underlying30) .i64 _ (by omega) (by omega), elem29, size5r]
  rfl
def TakeP (T : TypeId) (w : World) (g B : Nat) (r : Rd) (n : Nat) (e : Ending) (w' : World) : Prop :=
  ∃ A m c, e = .returned (.slice A m c) ∧ RB w' B A m (r.take n).1 ∧ ReaderAt T w' g B (r.take n).2 ∧ Keep (But g) w w'
theorem reader_set1 {T : TypeId} {w : World} {g B : Nat} {l : List UInt8} {b : Bool} (h : ReaderAt T w g B ⟨l, b⟩) : ReaderAt T (w.setCell ⟨g, 1, none⟩ (.bool true)) g B ⟨l, true⟩ ∧ Keep (But g) w (w.setCell ⟨g, 1, none⟩ (.bool true)) := by
  obtain ⟨A, m, c, hb, h1, h2, hr, hB⟩ := h
  have hk : Keep (But g) w (w.setCell ⟨g, 1, none⟩ (.bool true)) := (Keep.refl w).setBut 1 _
  have hlt := hb.lt
  refine ⟨⟨A, m, c, by simpa using hb.set_ 1 (.bool true), h1, h2, hr.below (hk.below (by omega) fun i _ hi => by simp only [But]; omega), hB⟩, hk⟩
set_option maxHeartbeats 400000 in
theorem take_ (w : World) (g B : Nat) (r : Rd) (n : Int) (h : ReaderAt 79 w g B r) (hn : 0 ≤ n) (hn2 : n ≤ 1000000) :
    Calls Try.prog 51 #[.pointer (some ⟨g, 0, none⟩), .int .i64 n] w (TakeP 79 w g B r n.toNat) := by
  obtain ⟨k, rfl⟩ := Int.eq_ofNat_of_zero_le hn
  rw [Int.toNat_natCast]
  obtain ⟨rest, bad⟩ := r
  have H := Lib.hid h
  obtain ⟨A, m, c, hb, h1, h2, hr, hB⟩ := h
  have c0 := hb.cell 0
  have c1 := hb.cell 1
  have f0 := hb.frozen 0
  have f1 := hb.frozen 1
  simp at c0 c1
  have hm := hr.1
  simp only at hm
  unfold maxLen at h2
  cases bad
  · by_cases hlt : m < k
    · have HT := Lib.hid (take_short rest k (by omega))
      clear hb hr hm
      go_enter Try.func51, Try.ntmps51
      go_wp2
      go_ret
      exact ⟨none, 0, 0, rfl, by rw [HT.out]; exact RB.nil_ none, by rw [HT.out]; exact (reader_set1 H.out).1, (reader_set1 H.out).2⟩
    · have HT : Hid ((⟨rest, false⟩ : Rd).take k = (rest.take k, ⟨rest.drop k, false⟩)) := by
        have : ¬ rest.length < k := by omega
        show _ = _
        simp [Rd.take, this]
      have hh := headRun A m c k (by omega)
      have ht := tailRun A m c k (by omega)
      have hr2 := hr.drop (k := k) (c := c) (by omega) h1
      generalize (if c = k then A else A.map (·.add (k * 1))) = A2 at ht hr2
      have HR := Lib.hid hr
      have HR2 := Lib.hid hr2
      have HB := Lib.hid hb
      have hgl := hb.lt
      clear hb hr hm hr2
      go_enter Try.func51, Try.ntmps51
      go_wp2
      go_ret
      have hk : Keep (But g) w (w.setCell ⟨g, 0, none⟩ (.slice A2 (m - k) (c - k))) := (Keep.refl w).setBut 0 _
      have hbel := hk.below (B := B) (by omega) fun i _ hi => by simp only [But]; omega
      refine ⟨A, k, c, rfl, ?_, ?_, hk⟩
      · rw [HT.out]; exact (HR.out.take (by omega)).below hbel
      · rw [HT.out]
        exact ⟨A2, m - k, c - k, by simpa using HB.out.set_ 0 _, by omega, by unfold maxLen; omega, HR2.out.below hbel, hB⟩
  · clear hb hr hm
    go_enter Try.func51, Try.ntmps51
    go_wp2
    go_ret
    exact ⟨none, 0, 0, rfl, RB.nil_ none, H.out, Keep.refl w⟩
end Go.Proofs.Ytlapicjbnheioaa

