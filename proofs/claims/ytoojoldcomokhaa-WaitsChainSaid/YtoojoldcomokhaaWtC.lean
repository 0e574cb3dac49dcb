/- Victim, package waits' and the document's. -/
import Derived.Test.YtoojoldcomokhaaWtG
import Derived.Test.YtoojoldcomokhaaWtV
set_option maxRecDepth 4000
namespace Go.Proofs.Ytoojoldcomokhaa
open Go.RowKit
def lastI (r : List Int) : Int := r.getLastD 0
set_option maxHeartbeats 1000000 in
theorem victim_ {w : World} {K : Nat → Prop} {A : Option Addr} {l : List (Int × Int)} {n c : Nat} (hl : Lst w K eE A l) (hn : l.length = n) (hmax : n ≤ 10000) (hw : ∀ e ∈ l, Wf e.1 ∧ Wf e.2) {who : Int} (hwho : Wf who) :
    Calls Try.prog 7 #[.slice A n c, .int .i64 who] w fun e w' => ∃ r, IsRing l who r ∧ e = .returned (.tuple #[.int .i64 (lastI r), .bool (!r.isEmpty)]) ∧ Below w.heap.size w w' := by
  have hr := fun (_ : Unit) => ring_ (c := c) hl hn hmax hw hwho
  have HR := Lib.hid hr
  have HN := Lib.hid hn
  clear hl hn hr
  go_enter Try.func7, Try.ntmps7
  go_wp2_with fail
  refine (HR.out ()).mono ?_
  rintro e w1 ⟨v, r, rfl, ho, hri, hb⟩
  have HRI := Lib.hid hri
  have HB := Lib.hid hb
  clear hb
  rcases List.eq_nil_or_concat r with rfl | ⟨r', z, rfl⟩
  · obtain ⟨A1, c1, rfl, _⟩ := own_lst ho
    clear ho hri
    go_wp2_with fail
    exact bodyPost_ret (v := .tuple #[.int .i64 0, .bool false]) (by simp [results, Try.results7, go_sem]) rfl ⟨[], HRI.out, rfl, HB.out⟩
  · rw [List.concat_eq_append] at *
    obtain ⟨A1, c1, rfl, hls, hnc, _⟩ := own_lst ho
    obtain ⟨m, hm⟩ : ∃ m, r'.length = m := ⟨_, rfl⟩
    have hm1 : (r' ++ [z]).length = m + 1 := by simp [hm]
    have hmb : m ≤ 10000 := by
      have := hri.short
      rw [hm1, HN.out] at this
      omega
    rw [hm1] at hnc ⊢
    obtain ⟨g, o, rfl, _, d0⟩ := hls.atI (j := m) (by rw [hm1]; omega)
    have hz : (r' ++ [z])[m]'(by rw [hm1]; omega) = z := by
      rw [List.getElem_append_right (by omega)]; simp [hm]
    rw [hz] at d0
    have hne : (((m + 1 : Nat) : Int) == 0) = false := by simp; omega
    clear ho hri hls hz hm hm1
    go_wp2_with fail
    exact bodyPost_ret (v := .tuple #[.int .i64 z, .bool true]) (by simp [results, Try.results7, go_sem]) rfl ⟨r' ++ [z], HRI.out, by simp [lastI], HB.out⟩
set_option maxHeartbeats 1000000 in
theorem rvictim_ {w : World} {K : Nat → Prop} {A : Option Addr} {l : List (Int × Int)} {n c : Nat} (hl : Lst w K eE A l) (hn : l.length = n) (hmax : n ≤ 10000) (who : Int) :
    Calls Try.prog 8 #[.slice A n c, .int .i64 who] w fun e w' => ∃ r, IsRing l who r ∧ e = .returned (.tuple #[.int .i64 (lastI r), .bool (!r.isEmpty)]) ∧ Below w.heap.size w w' := by
  have hr := fun (_ : Unit) => rring_ (c := c) hl hn hmax who
  have HR := Lib.hid hr
  have HN := Lib.hid hn
  clear hl hn hr
  go_enter Try.func8, Try.ntmps8
  go_wp2_with fail
  refine (HR.out ()).mono ?_
  rintro e w1 ⟨v, r, rfl, ho, hri, hb⟩
  have HRI := Lib.hid hri
  have HB := Lib.hid hb
  clear hb
  rcases List.eq_nil_or_concat r with rfl | ⟨r', z, rfl⟩
  · obtain ⟨A1, c1, rfl, _⟩ := own_lst ho
    clear ho hri
    go_wp2_with fail
    exact bodyPost_ret (v := .tuple #[.int .i64 0, .bool false]) (by simp [results, Try.results8, go_sem]) rfl ⟨[], HRI.out, rfl, HB.out⟩
  · rw [List.concat_eq_append] at *
    obtain ⟨A1, c1, rfl, hls, hnc, _⟩ := own_lst ho
    obtain ⟨m, hm⟩ : ∃ m, r'.length = m := ⟨_, rfl⟩
    have hm1 : (r' ++ [z]).length = m + 1 := by simp [hm]
    have hmb : m ≤ 10000 := by
      have := hri.short
      rw [hm1, HN.out] at this
      omega
    rw [hm1] at hnc ⊢
    obtain ⟨g, o, rfl, _, d0⟩ := hls.atI (j := m) (by rw [hm1]; omega)
    have hz : (r' ++ [z])[m]'(by rw [hm1]; omega) = z := by
      rw [List.getElem_append_right (by omega)]; simp [hm]
    rw [hz] at d0
    have hne : (((m + 1 : Nat) : Int) == 0) = false := by simp; omega
    clear ho hri hls hz hm hm1
    go_wp2_with fail
    exact bodyPost_ret (v := .tuple #[.int .i64 z, .bool true]) (by simp [results, Try.results8, go_sem]) rfl ⟨r' ++ [z], HRI.out, by simp [lastI], HB.out⟩
end Go.Proofs.Ytoojoldcomokhaa
