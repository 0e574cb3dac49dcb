/- NodeHalf, walked. -/
import Derived.Test.YtajhaakbplfleaaNodeV
import Derived.Test.YtajhaakbplfleaaRowS
namespace Go.Proofs.Ytajhaakbplfleaa
open Go.RowKit
set_option maxHeartbeats 1000000 in
theorem nodeHalf (A : Option Addr) (n c : Nat) (xs : List Rw) (w : World) {K : Nat → Prop} (h : Rws w K A xs) (hl : xs.length = n) (hc : n ≤ c) (hA : A = none → c = 0) :
    Calls Try.prog 3 #[.slice A n c] w fun e w' => e = .returned (.bool true) ∧ Below w.heap.size w w' := by
  have H := Lib.hid h
  have HL := Lib.hid hl
  have HA := Lib.hid hA
  clear h hl hA
  by_cases hn : n ≤ 60
  · go_enter Try.func3, Try.ntmps3
    go_wp2_with (go_at_call 5; refine (alive_ _).mono ?_; rintro e w1 ⟨rfl, hb1⟩; have HB1 := Lib.hid hb1; clear hb1)
    refine (halves_ (H.out.below HB1.out) HL.out (by omega) hc HA.out).mono ?_
    rintro e w2 ⟨A1, c1, A2, c2, rfl, r1, r2, p1, p2, p3, p4, p5, p6, hb2⟩
    have hq1 : (n + 1) / 2 ≤ n := by omega
    have hq2 : (n + 1) / 2 = n - (n + 1) / 2 ∨ (n + 1) / 2 = n - (n + 1) / 2 + 1 := by omega
    have l1 : (xs.take ((n + 1) / 2)).length = (n + 1) / 2 := by rw [List.length_take, HL.out]; omega
    have l2 : (xs.drop ((n + 1) / 2)).length = n - (n + 1) / 2 := by rw [List.length_drop, HL.out]
    have hall : xs.take ((n + 1) / 2) ++ xs.drop ((n + 1) / 2) = xs := List.take_append_drop _ _
    have hs : (n + 1) / 2 + (n - (n + 1) / 2) = n := by omega
    generalize (n + 1) / 2 = q at *
    generalize n - q = m at *
    obtain ⟨v3, w3, hap3, ho3, hg3, _⟩ := append_rws (n := 0) (ys := []) (World.ownsRow_nil w2 w2.heap.size _ 2) r1 l1 c1 (by omega) (Nat.le_refl _)
    rw [List.nil_append, Nat.zero_add] at ho3
    have hb3 : Below w2.heap.size w2 w3 := (Below.refl _ _).grown hg3 (Nat.le_refl _) (fun k hk => by simp [Value.ownBlock] at hk)
    obtain ⟨v4, w4, hap4, ho4, hg4, _⟩ := append_rws ho3 (r2.below hb3) l2 c2 (by omega) hb3.size
    rw [hall, hs] at ho4
    have hb4 : Below w2.heap.size w2 w4 := hb3.grown hg4 hb3.size (fun k hk => by
      rcases ho3.2 with ⟨h, _⟩ | ⟨q', cap, cur, h, hq', _⟩
      · rw [h] at hk; cases hk
      · rw [h] at hk; simp [Value.ownBlock] at hk; omega)
    obtain ⟨A4, c4, rfl, r4, l4, _, _, _⟩ := own_rws ho4
    have hbe : Below w.heap.size w w4 := (HB1.out.trans (hb2.mono HB1.out.size)).trans (hb4.mono (Nat.le_trans HB1.out.size hb2.size))
    have hsm := same_ (c := c4) (c2 := c) r4 (H.out.below hbe) l4 HL.out (by omega)
    rw [decide_eq_true rfl] at hsm
    have HSM := Lib.hid hsm
    have HBE := Lib.hid hbe
    clear hsm hbe r4 l4 ho4 hg4 hb4 ho3 hg3 hb3 l1 l2 r1 r2 p3 p6 hall hb2 p1 p2 p4 p5
    rcases hq2 with rfl | hq2
    · go_wp2_with (first | (at_builtin; refine wpList_append_run_g (by rfl) _ _ 22 22 rfl _ _ rfl rfl hap3 ?_) | (at_builtin; refine wpList_append_run_g (by rfl) _ _ 22 22 rfl _ _ rfl rfl hap4 ?_) | (go_at_call 7; refine HSM.out.mono ?_; rintro e w5 ⟨rfl, hb5⟩; have HB5 := Lib.hid hb5; clear hb5))
      go_ret
      exact ⟨rfl, HBE.out.trans (HB5.out.mono HBE.out.size)⟩
    · have hqa : ((q : Int) == (m : Int)) = false := by rw [beq_eq_false_iff_ne]; omega
      have hqb : ((q : Int) == (m : Int) + 1) = true := by rw [beq_iff_eq]; omega
      have hm : m ≤ 60 := by omega
      clear hq2 hs hq1
      go_wp2_with (first | (at_builtin; refine wpList_append_run_g (by rfl) _ _ 22 22 rfl _ _ rfl rfl hap3 ?_) | (at_builtin; refine wpList_append_run_g (by rfl) _ _ 22 22 rfl _ _ rfl rfl hap4 ?_) | (go_at_call 7; refine HSM.out.mono ?_; rintro e w5 ⟨rfl, hb5⟩; have HB5 := Lib.hid hb5; clear hb5))
      go_ret
      exact ⟨rfl, HBE.out.trans (HB5.out.mono HBE.out.size)⟩
  · go_enter Try.func3, Try.ntmps3
    go_wp2_with (go_at_call 5; refine (alive_ _).mono ?_; rintro e w1 ⟨rfl, hb1⟩; have HB1 := Lib.hid hb1; clear hb1)
    go_ret
    exact ⟨rfl, HB1.out⟩
end Go.Proofs.Ytajhaakbplfleaa
