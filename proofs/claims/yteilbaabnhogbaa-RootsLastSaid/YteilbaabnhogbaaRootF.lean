/- Which root stands at the place of a turn, if any. -/
import Derived.Test.YteilbaabnhogbaaRootB
namespace Go.Proofs.Yteilbaabnhogbaa
open Go.RowKit
/-- a fact that no unification runs into ('Hid' unfolds) -/
structure Shut (P : Prop) : Prop where
  out : P
theorem isRoot_def {p : Pl} {s : St} {t : Nat} {had : Sec} {E M : Int} (h : s.at_ (p.a + t) = had) (hE : toldE had = E) (hM : toldN had = M) :
    p.isRoot s t = (decide (0 < E) && (decide (E.toNat % 2 = t) && (p.fits M && (p.there s E.toNat M.toNat && decide (had = rootB E M))))) := by
  subst h hE hM; rfl
/-- places in a block of their own -/
def Box (w : World) (g a ar : Nat) : Prop := w.cell? ⟨g, 0, none⟩ = some (.int .i64 (a : Int)) ∧ w.cell? ⟨g, 1, none⟩ = some (.int .i64 (ar : Int)) ∧ g < w.heap.size
theorem Box.below {w w' : World} {g a ar : Nat} (h : Box w g a ar) (k : Below w.heap.size w w') : Box w' g a ar :=
  ⟨(k.cell (p := ⟨g, 0, none⟩) h.2.2).trans h.1, (k.cell (p := ⟨g, 1, none⟩) h.2.2).trans h.2.1, Nat.lt_of_lt_of_le h.2.2 k.size⟩
theorem Box.new (w : World) (a ar : Nat) : Box (w.alloc (.cells #[.int .i64 (a : Int), .int .i64 (ar : Int)] 44)) w.heap.size a ar :=
  ⟨by rw [cell_of_row _ w.heap.size _ #[.int .i64 (a : Int), .int .i64 (ar : Int)] 44 _ (heap_alloc_new w _)]; rfl, by rw [cell_of_row _ w.heap.size _ #[.int .i64 (a : Int), .int .i64 (ar : Int)] 44 _ (heap_alloc_new w _)]; rfl, by simp⟩
set_option maxRecDepth 100000 in
set_option maxHeartbeats 1000000 in
theorem find_ {w : World} {gd : Nat} {R : Nat → Prop} {s : St} (h : DiskR w gd R s) (a ar t : Nat) (ha : a ≤ 1048576) (har : ar ≤ 1000) (ht : t < 2) :
    Calls Try.prog 21 #[.agg #[.int .i64 (a : Int), .int .i64 (ar : Int)], ptr gd, .int .i64 (t : Int)] w
      fun e w' => e = .returned (.tuple #[.int .i64 (toldE (s.at_ (a + t))), .int .i64 (toldN (s.at_ (a + t))), .bool ((⟨a, ar⟩ : Pl).isRoot s t)]) ∧ Below w.heap.size w w' := by
  have hbox := alloc_below w (.cells #[.int .i64 (a : Int), .int .i64 (ar : Int)] 44)
  have HX0 := Lib.hid (Box.new w a ar)
  have HB0 := Lib.hid hbox
  have H := Lib.hid h
  have hal := at_length (by obtain ⟨O, hd, _⟩ := h; obtain ⟨_, _, hd⟩ := hd; exact hd.ok) (a + t)
  obtain ⟨had, hhad⟩ : ∃ x, s.at_ (a + t) = x := ⟨_, rfl⟩
  obtain ⟨E, hE⟩ : ∃ E, toldE had = E := ⟨_, rfl⟩
  obtain ⟨M, hM⟩ : ∃ M, toldN had = M := ⟨_, rfl⟩
  have hrd := isRoot_def (p := ⟨a, ar⟩) hhad hE hM
  obtain ⟨r, hr⟩ : ∃ r, (⟨a, ar⟩ : Pl).isRoot s t = r := ⟨_, rfl⟩
  rw [hr] at hrd ⊢
  clear hr
  have her := toldE_range had
  have hmr := toldN_range had
  have hro := fun w => root_ a ar t ha w
  rw [show (⟨a, ar⟩ : Pl).root t = a + t by simp [Pl.root]; omega] at hro
  have hre := fun w' (k : Below w.heap.size w w') => d_read (h.below k) (a + t)
  have hth := fun w' (k : Below w.heap.size w w') => there_ (h.below k) a ar
  rw [hhad] at hal hre ⊢
  rw [hE] at her ⊢
  rw [hM] at hmr ⊢
  obtain ⟨m, hm⟩ : ∃ m, had.length = m := ⟨_, rfl⟩
  rw [hm] at hal
  have HM := Lib.hid hm
  have HRO := Lib.hid hro
  have HRE := Lib.hid hre
  have HTH := Lib.hid hth
  have HRD := Lib.hid hrd
  have HEE := Lib.hid hE
  have HMM := Lib.hid hM
  have HER := Lib.hid her
  have HMR := Lib.hid hmr
  clear h hbox hre hro hrd hE hM hm hhad hth her hmr
  go_enter Try.func21, Try.ntmps21
  go_wp2_with fail
  refine (HRO.out _).mono ?_
  rintro e w1 ⟨rfl, hb1⟩
  have HB1 := Lib.hid (HB0.out.trans (hb1.mono HB0.out.size))
  have HX1 := Lib.hid (HX0.out.below hb1)
  clear hb1
  go_wp2_with fail
  refine (HRE.out _ HB1.out).mono ?_
  rintro e w2 ⟨A2, c2, rfl, hh2, hb2, _, _, hA2⟩
  rw [HM.out]
  have HH2 := Lib.hid hh2
  have HB2 := Lib.hid (HB1.out.trans (hb2.mono HB1.out.size))
  have HX2 := Lib.hid (HX1.out.below hb2)
  have HA2 := Lib.hid hA2
  clear hh2 hb2 hA2
  go_wp2_with fail
  refine (told_ (n := m) HH2.out HM.out (by omega) HA2.out).mono ?_
  rw [HEE.out, HMM.out]
  rintro e w3 ⟨rfl, hb3⟩
  have HB3 := Lib.hid (HB2.out.trans (hb3.mono HB2.out.size))
  have HX3 := Lib.hid (HX2.out.below hb3)
  have HH3 := Lib.hid (HH2.out.below hb3)
  clear hb3
  clear HEE HMM
  rcases Int.lt_or_le 0 E with hpos | hneg
  · obtain ⟨n, hn⟩ : ∃ n : Nat, E = (n : Int) := ⟨E.toNat, by omega⟩
    subst hn
    go_wp2_with fail
    refine (turn_ n _).mono ?_
    rintro e w' ⟨rfl, rfl⟩
    by_cases hte : n % 2 = t
    · obtain ⟨k0, k1, _⟩ := HX3.out
      have hte2 : ((n % 2 : Nat) : Int) = (t : Int) := by omega
      go_wp2_with fail
      refine (fits_ a ar har M _).mono ?_
      rintro e w4 ⟨rfl, hb4⟩
      have HB4 := Lib.hid (HB3.out.trans (hb4.mono HB3.out.size))
      have HX4 := Lib.hid (HX3.out.below hb4)
      have HH4 := Lib.hid (HH3.out.below hb4)
      clear hb4 k0 k1
      cases hf : (⟨a, ar⟩ : Pl).fits M
      · have hr : r = false := by rw [HRD.out, hf, Bool.false_and, Bool.and_false, Bool.and_false]
        subst hr
        clear HRD hf
        go_wp2_with fail
        go_ret3
        exact ⟨rfl, HB4.out⟩
      · have hfm := pl_fits_iff.1 hf
        obtain ⟨k, hk⟩ : ∃ k : Nat, M = (k : Int) := ⟨M.toNat, by omega⟩
        subst hk
        have hk2 : k ≤ 64000 := by simp only at hfm; omega
        have hr : r = ((⟨a, ar⟩ : Pl).there s n k && decide (had = rootB (n : Int) (k : Int))) := by
          rw [HRD.out, hf, decide_eq_true hpos, Int.toNat_natCast, Int.toNat_natCast, decide_eq_true hte, Bool.true_and, Bool.true_and, Bool.true_and]
        have HRD := Lib.hid hr
        clear hr hf hfm
        obtain ⟨k0, k1, _⟩ := HX4.out
        go_wp2_with fail
        refine (HTH.out _ HB4.out n k ha har hk2).mono ?_
        rintro e w5 ⟨rfl, hb5⟩
        have HB5 := Lib.hid (HB4.out.trans (hb5.mono HB4.out.size))
        have HH5 := Lib.hid (HH4.out.below hb5)
        clear hb5 k0 k1
        cases ht' : (⟨a, ar⟩ : Pl).there s n k
        · have hr : r = false := by rw [HRD.out, ht', Bool.false_and]
          subst hr
          clear HRD ht'
          go_wp2_with fail
          go_ret3
          exact ⟨rfl, HB5.out⟩
        · have HRR : Hid (r = decide (had = rootB (n : Int) (k : Int))) := by rw [HRD.out, ht', Bool.true_and]; exact rfl
          clear HRD ht'
          go_wp2_with fail
          refine (rootBytes_ HER.out HMR.out _).mono ?_
          rintro e w6 ⟨b6, rfl, _, hh6, hb6⟩
          have HB6 := Lib.hid (HB5.out.trans (hb6.mono HB5.out.size))
          have HH6 := Lib.hid (HH5.out.below hb6)
          have HD6 := Lib.hid (Has.of_blk (K := fun _ => True) hh6 trivial)
          have HHL := Lib.hid (rootB_length (n : Int) (k : Int))
          clear hb6 hh6
          go_wp2_with fail
          refine (equal_ HH6.out HD6.out HM.out HHL.out (by omega)).mono ?_
          rintro e w7 ⟨rfl, hb7⟩
          have HB7 := Lib.hid (HB6.out.trans (hb7.mono HB6.out.size))
          clear hb7
          rw [← HRR.out]
          go_wp2_with fail
          go_ret3
          exact ⟨rfl, HB7.out⟩
    · have hr : r = false := by rw [HRD.out, Int.toNat_natCast, decide_eq_false hte, Bool.false_and, Bool.and_false]
      subst hr
      have hte2 : ¬ ((n % 2 : Nat) : Int) = (t : Int) := by omega
      clear HRD
      go_wp2
      go_ret3
      exact ⟨rfl, HB3.out⟩
  · have hr : r = false := by rw [HRD.out, decide_eq_false (by omega : ¬ 0 < E), Bool.false_and]
    subst hr
    clear HRD
    go_wp2
    go_ret3
    exact ⟨rfl, HB3.out⟩
end Go.Proofs.Yteilbaabnhogbaa
