/- What modes' calls answer, joined with what they leave; the first law of modes. -/
import Derived.Test.YtdcoodofchielaaDoorModR
set_option maxRecDepth 4000
namespace Go.Proofs.YtdcoodofchielaaDoor
open Go.RowKit
/-- of number, joined or not: what a call answers and leaves -/
def Says (w : World) (v : Value) (e : Ending) (w' : World) : Prop := e = .returned v ∧ Tab w' ∧ Below w.heap.size w w'
theorem says_fits (a b : Int) (w : World) (hT : Tab w) : Calls Tryd.prog 7 #[.int .i64 a, .int .i64 b] w (Says w (.bool (fitB (mdN a) (mdN b)))) :=
  (fits_ a b w hT).mono fun _ _ ⟨he, n, hw⟩ => ⟨he, by rw [hw]; exact hT.drewN n, by rw [hw]; exact below_drewN (Below.refl _ _) n⟩
theorem says_covers (a b : Int) (w : World) (hT : Tab w) : Calls Tryd.prog 9 #[.int .i64 a, .int .i64 b] w (Says w (.bool (covB (mdN a) (mdN b)))) :=
  (covers_ a b w hT).mono fun _ _ ⟨he, hw⟩ => ⟨he, hw ▸ hT, hw ▸ Below.refl _ _⟩
theorem says_join (a b : Int) (w : World) (hT : Tab w) : Calls Tryd.prog 11 #[.int .i64 a, .int .i64 b] w (Says w (.int .i64 (joinN (mdN a) (mdN b) : Int))) :=
  (join_ a b w hT).mono fun _ _ ⟨he, hw⟩ => ⟨he, hw ▸ hT, hw ▸ Below.refl _ _⟩
theorem says_above (a : Int) (w : World) (hT : Tab w) : Calls Tryd.prog 13 #[.int .i64 a] w (Says w (.int .i64 (abvN (mdN a) : Int))) :=
  (above_ a w).mono fun _ _ ⟨he, hw⟩ => ⟨he, hw ▸ hT, hw ▸ Below.refl _ _⟩
theorem alive_ (w : World) (hT : Tab w) : Calls Tryd.prog 6 #[] w (Says w (.bool true)) := by
  have h1 := says_join 3 2
  have h2 := says_fits 1 2
  have h3 := says_fits 3 5
  rw [show ((joinN (mdN 3) (mdN 2) : Nat) : Int) = 4 by decide] at h1
  rw [show fitB (mdN 1) (mdN 2) = true by decide] at h2
  rw [show fitB (mdN 3) (mdN 5) = false by decide] at h3
  have H1 := Lib.hid h1
  have H2 := Lib.hid h2
  have H3 := Lib.hid h3
  have HT := Lib.hid hT
  clear h1 h2 h3 hT
  go_enter Tryd.func6, Tryd.ntmps6
  go_wp2_with fail
  refine (H1.out _ HT.out).mono ?_
  rintro e w1 ⟨rfl, t1, b1⟩
  have T1 := Lib.hid t1
  have B1 := Lib.hid b1
  clear t1 b1
  go_wp2_with fail
  refine (H2.out _ T1.out).mono ?_
  rintro e w2 ⟨rfl, t2, b2⟩
  have T2 := Lib.hid t2
  have B2 := Lib.hid (B1.out.trans (b2.mono B1.out.size))
  clear t2 b2
  go_wp2_with fail
  refine (H3.out _ T2.out).mono ?_
  rintro e w3 ⟨rfl, t3, b3⟩
  have T3 := Lib.hid t3
  have B3 := Lib.hid (B2.out.trans (b3.mono B2.out.size))
  clear t3 b3
  go_wp2_with fail
  go_ret
  exact ⟨rfl, T3.out, B3.out⟩
set_option maxHeartbeats 1000000 in
theorem modesTell (a b : Int) (w : World) (hT : Tab w) : Calls Tryd.prog 3 #[.int .i64 a, .int .i64 b] w fun e w' => e = .returned (.bool true) ∧ Below w.heap.size w w' := by
  have h0 := alive_
  have h1 := says_fits a b
  have h2 := ref_fits a b
  have h3 := says_covers a b
  have h4 := ref_covers a b
  have h5 := says_join a b
  have h6 := ref_join a b
  have h7 := says_above a
  have h8 := ref_above a
  generalize fitB (mdN a) (mdN b) = x at *
  generalize covB (mdN a) (mdN b) = y at *
  generalize ((joinN (mdN a) (mdN b) : Nat) : Int) = j at *
  generalize ((abvN (mdN a) : Nat) : Int) = v at *
  have H0 := Lib.hid h0
  have H1 := Lib.hid h1
  have H2 := Lib.hid h2
  have H3 := Lib.hid h3
  have H4 := Lib.hid h4
  have H5 := Lib.hid h5
  have H6 := Lib.hid h6
  have H7 := Lib.hid h7
  have H8 := Lib.hid h8
  have HT := Lib.hid hT
  clear h0 h1 h2 h3 h4 h5 h6 h7 h8 hT
  go_enter Tryd.func3, Tryd.ntmps3
  go_wp2_with fail
  refine (H0.out _ HT.out).mono ?_
  rintro e w1 ⟨rfl, t, b⟩
  have T := Lib.hid t
  have B := Lib.hid b
  clear t b
  go_wp2_with fail
  refine (H1.out _ T.out).mono ?_
  rintro e w2 ⟨rfl, t, b⟩
  have B2 := Lib.hid (B.out.trans (b.mono B.out.size))
  have T2 := Lib.hid t
  clear t b
  go_wp2_with fail
  refine (H2.out _).mono ?_
  rintro e w3 ⟨rfl, b⟩
  have B3 := Lib.hid (B2.out.trans (b.mono B2.out.size))
  have T3 := Lib.hid (T2.out.below b)
  clear b
  go_wp2_with fail
  refine (H3.out _ T3.out).mono ?_
  rintro e w4 ⟨rfl, t, b⟩
  have B4 := Lib.hid (B3.out.trans (b.mono B3.out.size))
  have T4 := Lib.hid t
  clear t b
  go_wp2_with fail
  refine (H4.out _).mono ?_
  rintro e w5 ⟨rfl, b⟩
  have B5 := Lib.hid (B4.out.trans (b.mono B4.out.size))
  have T5 := Lib.hid (T4.out.below b)
  clear b
  go_wp2_with fail
  refine (H5.out _ T5.out).mono ?_
  rintro e w6 ⟨rfl, t, b⟩
  have B6 := Lib.hid (B5.out.trans (b.mono B5.out.size))
  have T6 := Lib.hid t
  clear t b
  go_wp2_with fail
  refine (H6.out _).mono ?_
  rintro e w7 ⟨rfl, b⟩
  have B7 := Lib.hid (B6.out.trans (b.mono B6.out.size))
  have T7 := Lib.hid (T6.out.below b)
  clear b
  go_wp2_with fail
  refine (H7.out _ T7.out).mono ?_
  rintro e w8 ⟨rfl, t, b⟩
  have B8 := Lib.hid (B7.out.trans (b.mono B7.out.size))
  clear t b
  go_wp2_with fail
  refine (H8.out _).mono ?_
  rintro e w9 ⟨rfl, rfl⟩
  go_wp2_with fail
  go_ret
  exact ⟨rfl, B8.out⟩
end Go.Proofs.YtdcoodofchielaaDoor
