/- The document's lock in memory; who fits. -/
import Derived.Test.YtillbjaejdkfdaaDoorRkF
import Derived.Test.YtillbjaejdkfdaaDoorModR
set_option maxRecDepth 4000
namespace Go.Proofs.YtillbjaejdkfdaaDoor
open Go.RowKit
/-- the document's lock at block b has these two slices -/
def RTwo (w : World) (b : Nat) (vH vL : Value) : Prop := Blk w b 31 #[vH, vL]
theorem RTwo.c0 {w : World} {b : Nat} {vH vL : Value} (h : RTwo w b vH vL) : w.cell? ⟨b, 0, none⟩ = some vH := Blk.cell h 0
theorem RTwo.c1 {w : World} {b : Nat} {vH vL : Value} (h : RTwo w b vH vL) : w.cell? ⟨b, 1, none⟩ = some vL := Blk.cell h 1
theorem RTwo.lt {w : World} {b : Nat} {vH vL : Value} (h : RTwo w b vH vL) : b < w.heap.size := Blk.lt h
theorem RTwo.below {w w' : World} {B b : Nat} {vH vL : Value} (h : RTwo w b vH vL) (k : Below B w w') (hb : b < B) : RTwo w' b vH vL := Blk.below h k hb
def FitR (w : World) (H : List Cl) (x : Cl) (k : Nat) (i : Value) (wr : World) : Prop := ∃ j, j + k = H.length ∧ i = .int .i64 (j : Int) ∧ (∀ q (hq : q < j) (hl : q < H.length), inwayP H[q] x = false) ∧ Below w.heap.size w wr
set_option maxHeartbeats 1000000 in
theorem rfits_ {w : World} {b : Nat} {vL : Value} {K : Nat → Prop} {A : Option Addr} {n c : Nat} {H : List Cl} (h2 : RTwo w b (.slice A n c) vL) (h : Lst w K eH A (H.map hdA)) (hl : H.length = n) (hn : n ≤ 1000000) (hm : ∀ c ∈ H, 0 < c.2 ∧ c.2 < 6) (x : Cl) (hx : x.2 < 6) :
    Calls Tryd.prog 31 #[.pointer (some ⟨b, 0, none⟩), .int .i64 x.1, .int .i64 (x.2 : Int)] w fun e w' => e = .returned (.bool (fitsP H x)) ∧ Below w.heap.size w w' := by
  have HH := Lib.hid h
  have HL := Lib.hid hl
  have H2 := Lib.hid h2
  have HM := Lib.hid hm
  obtain ⟨x1, x2⟩ := x
  simp only at hx ⊢
  clear h hl h2 hm
  go_enter Tryd.func31, Tryd.ntmps31
  go_wp2_with fail
  go_loopg [7] n (fun k i wr => FitR w H (x1, x2) k i wr)
  case atStart => exact ⟨0, by rw [HL.out]; omega, rfl, fun q hq => absurd hq (Nat.not_lt_zero q), Below.refl _ _⟩
  case round =>
    obtain ⟨j, hj, rfl, h1, hb⟩ := hrel
    have HJ := Lib.hid hj
    have HB := Lib.hid hb
    have H1 := Lib.hid h1
    clear hj hb h1
    have b0 := (H2.out.below HB.out H2.out.lt).c0
    by_cases hlt : j < n
    · have hxl : j < H.length := by rw [HL.out]; exact hlt
      have hxm : j < (H.map hdA).length := by rw [List.length_map]; exact hxl
      have hmm := HM.out _ (List.getElem_mem hxl)
      obtain ⟨g, o, rfl, _, c0, c1, c2⟩ := (HH.out.below HB.out).atH hxm
      rw [List.getElem_map] at c0 c1
      have d0 : wr.cell? ⟨g, o + j * 3, none⟩ = some (.int .i64 (H[j]).1) := c0
      have d1 : wr.cell? ⟨g, o + j * 3 + 1, none⟩ = some (.int .i64 ((H[j]).2 : Int)) := c1
      clear c0 c1 c2
      have hnx : inwayP H[j] (x1, x2) = false → ∀ q (hq : q < j + 1) (hl : q < H.length), inwayP H[q] (x1, x2) = false := fun h q hq hql => by
        rcases Nat.lt_or_ge q j with h5 | h5
        · exact H1.out q h5 hql
        · obtain rfl : q = j := by omega
          exact h
      have hbad : inwayP H[j] (x1, x2) = true → fitsP H (x1, x2) = false := fun h => by
        unfold fitsP
        rw [Bool.not_eq_false', List.any_eq_true]
        exact ⟨_, List.getElem_mem hxl, h⟩
      have HN := Lib.hid hnx
      have HBAD := Lib.hid hbad
      have hrf := fun W => ref_fits (x2 : Int) ((H[j]).2 : Int) W
      rw [mdN_of hx, mdN_of hmm.2, fit_comm hx hmm.2] at hrf
      clear hnx hbad
      by_cases hw : (H[j]).1 = x1
      · have hi : inwayP H[j] (x1, x2) = false := by simp [inwayP, hw]
        have HNX := Lib.hid (HN.out hi)
        rw [hw] at d0
        have e0 : (x1 != x1) = false := by simp
        clear hi hw hrf hmm HN HBAD
        go_wp2_with fail
        go_roundg (n - (j + 1))
        case measure => have := HJ.out; have := HL.out; omega
        case rel => exact ⟨j + 1, by rw [HL.out]; omega, by go_num, HNX.out, HB.out⟩
      · have hwb : ((H[j]).1 != x1) = true := by simpa using hw
        have hi : inwayP H[j] (x1, x2) = !fitB (H[j]).2 x2 := by simp [inwayP, hw]
        rw [hi] at HN HBAD
        have HRF := Lib.hid hrf
        clear hi hw hrf hmm
        generalize (H[j]).1 = y1 at *
        generalize (H[j]).2 = y2 at *
        generalize fitB y2 x2 = f at *
        go_wp2_with fail
        refine (HRF.out _).mono ?_
        rintro e w4 ⟨rfl, hb4⟩
        have HB4 := Lib.hid (HB.out.trans (hb4.mono HB.out.size))
        clear hb4 HRF
        cases f with
        | true =>
          go_wp2_with fail
          go_roundg (n - (j + 1))
          case measure => have := HJ.out; have := HL.out; omega
          case rel => exact ⟨j + 1, by rw [HL.out]; omega, by go_num, HN.out rfl, HB4.out⟩
        | false =>
          have HE := Lib.hid (HBAD.out rfl)
          clear HBAD HN
          go_wp2_with fail
          go_ret
          exact ⟨by rw [HE.out]; rfl, HB4.out⟩
    · have hjn : j = n := by have := HJ.out; have := HL.out; omega
      have he : fitsP H (x1, x2) = true := by
        unfold fitsP
        rw [Bool.not_eq_true', List.any_eq_false]
        intro c hc
        obtain ⟨q, hq, rfl⟩ := List.getElem_of_mem hc
        rw [H1.out q (by have := HL.out; omega) hq]
        simp
      have HE := Lib.hid he
      clear he
      subst hjn
      go_wp2_with fail
      go_ret
      exact ⟨by rw [HE.out]; rfl, HB.out⟩
end Go.Proofs.YtillbjaejdkfdaaDoor
