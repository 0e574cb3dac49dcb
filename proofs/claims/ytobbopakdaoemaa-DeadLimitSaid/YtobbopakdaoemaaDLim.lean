/- DeadLimit, walked. -/
import Derived.Test.YtobbopakdaoemaaLmS
import Derived.Test.YtobbopakdaoemaaOpenB
import Derived.Laws.StructEq
import Derived.Deep.RegionHeld3
import Derived.Deep.DeepCutAuto
set_option maxRecDepth 4000
namespace Go.Proofs.Ytobbopakdaoemaa
open Go.RowKit
/-- at the loop's head: tried k times -/
def LimR (w : World) (P : Nat) (L : Int) (len : Nat) (mz : Nat) (n i : Value) (wr : World) : Prop :=
  ∃ (j k : Nat) (r m d : Value), j + mz = len ∧ i = .int .i64 (j : Int) ∧ n = .int .i64 (k : Int) ∧ (k : Int) < L ∧ LmS w P (obL L k false) r m d wr
set_option maxHeartbeats 2000000 in
theorem deadLimit (L : Int) (A : Option Addr) (n c : Nat) (xs : List Bool) (w : World) (hbs : Bools w A n xs) :
    Calls Try.prog 4 #[.int .i64 L, .slice A n c] w fun e w' => e = .returned (.bool true) ∧ Below w.heap.size w w' := by
  have HXS := Lib.hid hbs
  clear hbs
  go_enter Try.func4, Try.ntmps4
  go_wp2_with fail
  refine (alive16_ _).mono ?_
  rintro e w1 ⟨rfl, hb1⟩
  have HB1 := Lib.hid hb1
  clear hb1
  by_cases g1 : L < 1
  · have e1 : decide (L < 1) = true := decide_eq_true (by omega)
    go_wp2_with fail
    go_ret
    exact ⟨rfl, HB1.out⟩
  by_cases g2 : 20 < L
  · have e1 : decide (L < 1) = false := decide_eq_false (by omega)
    have e2 : decide (20 < L) = true := decide_eq_true (by omega)
    go_wp2_with fail
    go_ret
    exact ⟨rfl, HB1.out⟩
  by_cases g3 : 60 < n
  · have e1 : decide (L < 1) = false := decide_eq_false (by omega)
    have e2 : decide (20 < L) = false := decide_eq_false (by omega)
    have e3 : decide ((60 : Int) < (n : Int)) = true := decide_eq_true (by omega)
    have e3n : decide (60 < n) = true := decide_eq_true (by omega)
    go_wp2_with fail
    go_ret
    exact ⟨rfl, HB1.out⟩
  have e1 : decide (L < 1) = false := decide_eq_false g1
  have e2 : decide (20 < L) = false := decide_eq_false g2
  have e3 : decide ((60 : Int) < (n : Int)) = false := decide_eq_false (by omega)
  have e3n : decide (60 < n) = false := decide_eq_false g3
  have hL : 1 ≤ L ∧ L ≤ 20 := by omega
  have HL := Lib.hid hL
  have hn60 : n ≤ 60 := by omega
  clear g1 g2 g3 hL
  go_wp2_with fail
  have hn0 := lim_new L HB1.out
  have HN0 := Lib.hid hn0
  clear hn0 HB1
  generalize ((w1.alloc (.cells #[.int .i64 1, .int .i64 (-1), .int .i64 0, .bool false, .string ⟨#[]⟩, .string ⟨#[]⟩, .int .i64 2, .int .i64 0, .int .i64 0, .bool false, .string ⟨#[]⟩, .string ⟨#[]⟩, .int .i64 3, .int .i64 1, .int .i64 0, .bool false, .string ⟨#[]⟩, .string ⟨#[]⟩] 34)).alloc
      (.cells #[.string ⟨#[113]⟩, .int .i64 2, .int .i64 L, .slice none 0 0, .slice (some ⟨w1.heap.size, 0, none⟩) 3 3, .slice none 0 0] 25)) = w0 at *
  generalize w1.heap.size + 1 = P at *
  go_loopg [7, 8] n (fun mz v i wr => LimR w P L n mz v i wr)
  case atStart => exact ⟨0, 0, _, _, _, by omega, rfl, rfl, by have := HL.out; show (0 : Int) < L; omega, HN0.out⟩
  case round =>
    obtain ⟨j, k, r, m, d, hj, rfl, rfl, hk, hs⟩ := hrel
    have HJ := Lib.hid hj
    have HS := Lib.hid hs
    have HK := Lib.hid hk
    have k1 : decide ((k : Int) < L) = true := decide_eq_true hk
    clear hj hs HN0
    by_cases hlt : j < n
    · have j1 : decide ((j : Int) < (n : Int)) = true := decide_eq_true (by omega)
      have j1n : decide (j < n) = true := decide_eq_true hlt
      obtain ⟨A1, c1, rfl⟩ := own_shape HS.out.own.rows (n := 0) rfl
      obtain ⟨A2, c2, rfl⟩ := own_shape HS.out.own.msgs (n := 3) rfl
      obtain ⟨A3, c3, rfl⟩ := own_shape HS.out.own.dead (n := 0) rfl
      obtain ⟨g, rfl, gg, x0, x1, x2, x3, x4, x5, fz⟩ := own_at (q := 1) (by show 1 < 3; omega) HS.out.own.msgs
      have y3 : wr.cell? ⟨g, 9, none⟩ = some (.bool false) := x3
      have f3 := fz 9
      have hP4 := HS.out.obj.cell 4
      have hs2 := HS.out.turn (g := g) rfl ((Keep.refl wr).setCell (p := ⟨g, 9, none⟩) (fun _ _ e => e rfl) (.bool true)) (own_set1 HS.out.own.msgs (q := 1) (by show 1 < 3; omega) ⟨2, 0, (k : Int), true, ⟨#[]⟩, ⟨#[]⟩⟩ (i := 3) (u := .bool true) (by show 3 < 6; omega) rfl)
      have hs2' : LmS w P (obL L k true) (.slice A1 0 c1) (.slice (some ⟨g, 0, none⟩) 3 c2) (.slice A3 0 c3) (wr.setCell ⟨g, 9, none⟩ (.bool true)) := hs2
      have HS2 := Lib.hid hs2'
      clear gg x0 x1 x2 x3 x4 x5 fz hs2 hs2'
      simp only [obL, Ob.cells, List.getElem?_toArray, List.getElem?_cons_zero, List.getElem?_cons_succ] at hP4
      have hwb : Below wr.heap.size wr wr := Below.refl _ _
      go_upto_region 10 with fail
      generalize wr.setCell ⟨g, 9, none⟩ (.bool true) = w2 at *
      clear y3 f3 hP4 hwb HS
      have hjx : j < xs.length := by have := HXS.out.1; omega
      obtain ⟨bb, oo, rfl, _, hbl, hcb⟩ := (HXS.out.below HS2.out.below).2.atB hjx
      obtain ⟨t, ht⟩ : ∃ t, xs[j] = t := ⟨_, rfl⟩
      rw [ht] at hcb
      clear hbl ht hjx
      obtain ⟨o', hfr, hcase⟩ := lim_cases L k t hk HL.out.2
      have hcall := fun W (hb : Below w2.heap.size w2 W) => (free_ (HS2.out.own.at_.below hb) ⟨by show 0 ≤ _; omega, by show 3 ≤ _; omega, by show 0 ≤ _; omega⟩ (lim_fits L k (by have := HL.out.2; omega) true) 2 t).mono (Freed.as hfr)
      have hP0 := HS2.out.obj.cell 0
      have hP1 := HS2.out.obj.cell 1
      have hP2 := HS2.out.obj.cell 2
      have hP3 := HS2.out.obj.cell 3
      have hP4 := HS2.out.obj.cell 4
      have hP5 := HS2.out.obj.cell 5
      simp only [obL, Ob.val, Ob.cells, List.getElem?_toArray, List.getElem?_cons_zero, List.getElem?_cons_succ] at hP0 hP1 hP2 hP3 hP4 hP5 hcall
      have HCALL := ShutF.mk hcall
      have HCASE := Lib.hid hcase
      clear hcall hcase hfr
      have hsb : ∀ W, Below w2.heap.size w2 W → (fun W : World => W.cell? ⟨P, 0, none⟩ = some (.string ⟨#[113]⟩) ∧ W.cell? ⟨P, 1, none⟩ = some (.int .i64 2) ∧ W.cell? ⟨P, 2, none⟩ = some (.int .i64 L) ∧ W.cell? ⟨P, 3, none⟩ = some (.slice A1 0 c1) ∧ W.cell? ⟨P, 4, none⟩ = some (.slice (some ⟨g, 0, none⟩) 3 c2) ∧ W.cell? ⟨P, 5, none⟩ = some (.slice A3 0 c3) ∧ W.cell? ⟨bb, oo + j, none⟩ = some (.bool t)) W := fun W hb => ⟨(cell_of_heap (hb.block _ (block_of_cell hP0)) _).trans hP0, (cell_of_heap (hb.block _ (block_of_cell hP1)) _).trans hP1, (cell_of_heap (hb.block _ (block_of_cell hP2)) _).trans hP2, (cell_of_heap (hb.block _ (block_of_cell hP3)) _).trans hP3, (cell_of_heap (hb.block _ (block_of_cell hP4)) _).trans hP4, (cell_of_heap (hb.block _ (block_of_cell hP5)) _).trans hP5, (cell_of_heap (hb.block _ (block_of_cell hcb)) _).trans hcb⟩
      have hsp : Below w2.heap.size w2 (w2.alloc (.cells #[.string ⟨#[]⟩, .int .i64 0, .int .i64 0, .slice none 0 0, .slice none 0 0, .slice none 0 0] 25)).drew := (alloc_below w2 _).drew
      have hS0 : ShutF ((fun W : World => W.cell? ⟨P, 0, none⟩ = some (.string ⟨#[113]⟩) ∧ W.cell? ⟨P, 1, none⟩ = some (.int .i64 2) ∧ W.cell? ⟨P, 2, none⟩ = some (.int .i64 L) ∧ W.cell? ⟨P, 3, none⟩ = some (.slice A1 0 c1) ∧ W.cell? ⟨P, 4, none⟩ = some (.slice (some ⟨g, 0, none⟩) 3 c2) ∧ W.cell? ⟨P, 5, none⟩ = some (.slice A3 0 c3) ∧ W.cell? ⟨bb, oo + j, none⟩ = some (.bool t)) w2.drew) := ⟨hsb _ (Below.refl _ _).drew⟩
      have hS1 : ShutF ((fun W : World => W.cell? ⟨P, 0, none⟩ = some (.string ⟨#[113]⟩) ∧ W.cell? ⟨P, 1, none⟩ = some (.int .i64 2) ∧ W.cell? ⟨P, 2, none⟩ = some (.int .i64 L) ∧ W.cell? ⟨P, 3, none⟩ = some (.slice A1 0 c1) ∧ W.cell? ⟨P, 4, none⟩ = some (.slice (some ⟨g, 0, none⟩) 3 c2) ∧ W.cell? ⟨P, 5, none⟩ = some (.slice A3 0 c3) ∧ W.cell? ⟨bb, oo + j, none⟩ = some (.bool t)) (w2.alloc (.cells #[.string ⟨#[]⟩, .int .i64 0, .int .i64 0, .slice none 0 0, .slice none 0 0, .slice none 0 0] 25)).drew) := ⟨hsb _ hsp⟩
      have HSB := ShutF.mk hsb
      have HSP := ShutF.mk hsp
      clear hsb hsp hP0 hP1 hP2 hP3 hP4 hP5 hcb
      go_cut [9, 10] (fun p v wx => v = .bool true ∧ ∃ X r' m' d', p = .pointer (some ⟨X, 0, none⟩) ∧ Got w2 o' X r' m' d' wx)
      case first =>
        obtain ⟨os, ok, ol, ors, oms, ods⟩ := o'
        generalize hn1 : ors.length = n1
        generalize hn2 : oms.length = n2
        generalize hn3 : ods.length = n3
        have HN1 := Lib.hid hn1
        have HN2 := Lib.hid hn2
        have HN3 := Lib.hid hn3
        clear hn1 hn2 hn3 HCASE
        go_region_held3 (fun W : World => W.cell? ⟨P, 0, none⟩ = some (.string ⟨#[113]⟩) ∧ W.cell? ⟨P, 1, none⟩ = some (.int .i64 2) ∧ W.cell? ⟨P, 2, none⟩ = some (.int .i64 L) ∧ W.cell? ⟨P, 3, none⟩ = some (.slice A1 0 c1) ∧ W.cell? ⟨P, 4, none⟩ = some (.slice (some ⟨g, 0, none⟩) 3 c2) ∧ W.cell? ⟨P, 5, none⟩ = some (.slice A3 0 c3) ∧ W.cell? ⟨bb, oo + j, none⟩ = some (.bool t))
          (first | with_reducible exact hS0.out | with_reducible exact hS1.out | with_reducible exact hS2.out | with_reducible exact hS3.out | with_reducible exact hS4.out | with_reducible exact hS5.out)
          (first | (go_at_call 7; refine (HCALL.out _ (by first | exact HSP.out | exact (Below.refl _ _).drew)).mono ?_; rintro e w3 ⟨r', m', d', rfl, ho3, hb3⟩; obtain ⟨B1, b1, rfl⟩ := own_shape ho3.rows HN1.out; obtain ⟨B2, b2, rfl⟩ := own_shape ho3.msgs HN2.out; obtain ⟨B3, b3, rfl⟩ := own_shape ho3.dead HN3.out; first | (have hz3 := blk_behind hb3; have HB3 := Lib.hid (HSP.out.trans (hb3.mono HSP.out.size)); have hS2 : ShutF ((fun W : World => W.cell? ⟨P, 0, none⟩ = some (.string ⟨#[113]⟩) ∧ W.cell? ⟨P, 1, none⟩ = some (.int .i64 2) ∧ W.cell? ⟨P, 2, none⟩ = some (.int .i64 L) ∧ W.cell? ⟨P, 3, none⟩ = some (.slice A1 0 c1) ∧ W.cell? ⟨P, 4, none⟩ = some (.slice (some ⟨g, 0, none⟩) 3 c2) ∧ W.cell? ⟨P, 5, none⟩ = some (.slice A3 0 c3) ∧ W.cell? ⟨bb, oo + j, none⟩ = some (.bool t)) w3) := ⟨HSB.out _ HB3.out⟩; have hS3 : ShutF ((fun W : World => W.cell? ⟨P, 0, none⟩ = some (.string ⟨#[113]⟩) ∧ W.cell? ⟨P, 1, none⟩ = some (.int .i64 2) ∧ W.cell? ⟨P, 2, none⟩ = some (.int .i64 L) ∧ W.cell? ⟨P, 3, none⟩ = some (.slice A1 0 c1) ∧ W.cell? ⟨P, 4, none⟩ = some (.slice (some ⟨g, 0, none⟩) 3 c2) ∧ W.cell? ⟨P, 5, none⟩ = some (.slice A3 0 c3) ∧ W.cell? ⟨bb, oo + j, none⟩ = some (.bool t)) ((((((w3.setCell ⟨w2.heap.size, 0, none⟩ (.string os)).setCell ⟨w2.heap.size, 1, none⟩ (.int .i64 ok)).setCell ⟨w2.heap.size, 2, none⟩ (.int .i64 ol)).setCell ⟨w2.heap.size, 3, none⟩ (.slice B1 n1 b1)).setCell ⟨w2.heap.size, 4, none⟩ (.slice B2 n2 b2)).setCell ⟨w2.heap.size, 5, none⟩ (.slice B3 n3 b3))) := ⟨HSB.out _ (below_six HB3.out (Nat.le_refl _) _ _ _ _ _ _)⟩; have HF3 := ShutF.mk (Got.later HB3.out hz3 ho3 (by simp)); have z0 := hz3.cell 0; have z1 := hz3.cell 1; have z2 := hz3.cell 2; have z3 := hz3.cell 3; have z4 := hz3.cell 4; have z5 := hz3.cell 5; have fz0 := hz3.frozen 0; have fz1 := hz3.frozen 1; have fz2 := hz3.frozen 2; have fz3 := hz3.frozen 3; have fz4 := hz3.frozen 4; have fz5 := hz3.frozen 5; clear hz3 hb3 ho3) | (have HB3 := Lib.hid ((Below.refl w2.heap.size w2).drew.trans hb3); have hS2 : ShutF ((fun W : World => W.cell? ⟨P, 0, none⟩ = some (.string ⟨#[113]⟩) ∧ W.cell? ⟨P, 1, none⟩ = some (.int .i64 2) ∧ W.cell? ⟨P, 2, none⟩ = some (.int .i64 L) ∧ W.cell? ⟨P, 3, none⟩ = some (.slice A1 0 c1) ∧ W.cell? ⟨P, 4, none⟩ = some (.slice (some ⟨g, 0, none⟩) 3 c2) ∧ W.cell? ⟨P, 5, none⟩ = some (.slice A3 0 c3) ∧ W.cell? ⟨bb, oo + j, none⟩ = some (.bool t)) w3) := ⟨HSB.out _ HB3.out⟩; have hS4 : ShutF ((fun W : World => W.cell? ⟨P, 0, none⟩ = some (.string ⟨#[113]⟩) ∧ W.cell? ⟨P, 1, none⟩ = some (.int .i64 2) ∧ W.cell? ⟨P, 2, none⟩ = some (.int .i64 L) ∧ W.cell? ⟨P, 3, none⟩ = some (.slice A1 0 c1) ∧ W.cell? ⟨P, 4, none⟩ = some (.slice (some ⟨g, 0, none⟩) 3 c2) ∧ W.cell? ⟨P, 5, none⟩ = some (.slice A3 0 c3) ∧ W.cell? ⟨bb, oo + j, none⟩ = some (.bool t)) (w3.alloc (.cells #[.string ⟨#[]⟩, .int .i64 0, .int .i64 0, .slice none 0 0, .slice none 0 0, .slice none 0 0] 25))) := ⟨HSB.out _ (HB3.out.alloc HB3.out.size _)⟩; have hS5 : ShutF ((fun W : World => W.cell? ⟨P, 0, none⟩ = some (.string ⟨#[113]⟩) ∧ W.cell? ⟨P, 1, none⟩ = some (.int .i64 2) ∧ W.cell? ⟨P, 2, none⟩ = some (.int .i64 L) ∧ W.cell? ⟨P, 3, none⟩ = some (.slice A1 0 c1) ∧ W.cell? ⟨P, 4, none⟩ = some (.slice (some ⟨g, 0, none⟩) 3 c2) ∧ W.cell? ⟨P, 5, none⟩ = some (.slice A3 0 c3) ∧ W.cell? ⟨bb, oo + j, none⟩ = some (.bool t)) (w3.alloc (.cells #[.string os, .int .i64 ok, .int .i64 ol, .slice B1 n1 b1, .slice B2 n2 b2, .slice B3 n3 b3] 25))) := ⟨HSB.out _ (HB3.out.alloc HB3.out.size _)⟩; have HF3 := ShutF.mk (Got.first HB3.out ho3); clear hb3 ho3)))
        all_goals (go_wp2_with fail; go_meet; exact ⟨rfl, _, _, _, _, rfl, HF3.out⟩)
      case rest =>
        obtain ⟨rfl, X, r', m', d', rfl, hgot⟩ := hcut
        have hcb : wc.cell? ⟨bb, oo + j, none⟩ = some (.bool t) := (HSB.out wc hgot.2.2).2.2.2.2.2.2
        obtain ⟨hX, ho, hbw⟩ := hgot
        rcases HCASE.out with ⟨rfl, rfl⟩ | ⟨rfl, hk2, rfl⟩ | ⟨rfl, hk2, rfl⟩
        · have kl : decide (L ≤ (k : Int)) = false := decide_eq_false (by omega)
          obtain ⟨E1, e1', rfl⟩ := own_shape ho.rows (n := 0) rfl
          obtain ⟨E2, e2', rfl⟩ := own_shape ho.msgs (n := 3) rfl
          obtain ⟨E3, e3', rfl⟩ := own_shape ho.dead (n := 0) rfl
          obtain ⟨h, rfl, hh, y0, y1, y2, y3, y4, y5, fz⟩ := own_at (q := 1) (by show 1 < 3; omega) ho.msgs
          have v0 : wc.cell? ⟨h, 6, none⟩ = some (.int .i64 2) := y0
          have v1 : wc.cell? ⟨h, 7, none⟩ = some (.int .i64 0) := y1
          have v2 : wc.cell? ⟨h, 8, none⟩ = some (.int .i64 (k : Int)) := y2
          have v3 : wc.cell? ⟨h, 9, none⟩ = some (.bool false) := y3
          have v4 : wc.cell? ⟨h, 10, none⟩ = some (.string ⟨#[]⟩) := y4
          have v5 : wc.cell? ⟨h, 11, none⟩ = some (.string ⟨#[]⟩) := y5
          have hput := HS2.out.put hbw ho
          have hput' : LmS w P (obL L k false) _ _ _ ((((((wc.setCell ⟨P, 0, none⟩ (.string ⟨#[113]⟩)).setCell ⟨P, 1, none⟩ (.int .i64 2)).setCell ⟨P, 2, none⟩ (.int .i64 L)).setCell ⟨P, 3, none⟩ (.slice E1 0 e1')).setCell ⟨P, 4, none⟩ (.slice (some ⟨h, 0, none⟩) 3 e2')).setCell ⟨P, 5, none⟩ (.slice E3 0 e3')) := hput
          have HPUT := ShutF.mk hput'
          have ps := HS2.out.step hbw
          have p0 := ps.obj.cell 0
          have p1 := ps.obj.cell 1
          have p2 := ps.obj.cell 2
          have p3 := ps.obj.cell 3
          have p4 := ps.obj.cell 4
          have p5 := ps.obj.cell 5
          have pf0 := ps.obj.frozen 0
          have pf1 := ps.obj.frozen 1
          have pf2 := ps.obj.frozen 2
          have pf3 := ps.obj.frozen 3
          have pf4 := ps.obj.frozen 4
          have pf5 := ps.obj.frozen 5
          have q0 := hX.cell 0
          have q1 := hX.cell 1
          have q2 := hX.cell 2
          have q3 := hX.cell 3
          have q4 := hX.cell 4
          have q5 := hX.cell 5
          simp only [obL, Ob.cells, List.getElem?_toArray, List.getElem?_cons_zero, List.getElem?_cons_succ] at p0 p1 p2 p3 p4 p5 q0 q1 q2 q3 q4 q5
          clear y0 y1 y2 y3 y4 y5 fz hh hput hput' ps hX ho hbw HSB HSP hS0 hS1 HCALL HS2
          go_wp2_with fail
          go_roundg (n - (j + 1))
          case measure => have := HJ.out; omega
          case rel => exact ⟨j + 1, k, _, _, _, by have := HJ.out; omega, by go_num, rfl, HK.out, HPUT.out⟩
        · have kl : decide (L ≤ (k : Int) + 1) = false := decide_eq_false (by omega)
          have hwr : IntKind.i64.wrap ((k : Int) + 1) = (k : Int) + 1 := by have := HL.out.2; rw [IntKind.wrap_i64]; omega
          have HK2 := Lib.hid hk2
          obtain ⟨E1, e1', rfl⟩ := own_shape ho.rows (n := 0) rfl
          obtain ⟨E2, e2', rfl⟩ := own_shape ho.msgs (n := 3) rfl
          obtain ⟨E3, e3', rfl⟩ := own_shape ho.dead (n := 0) rfl
          obtain ⟨h, rfl, hh, y0, y1, y2, y3, y4, y5, fz⟩ := own_at (q := 1) (by show 1 < 3; omega) ho.msgs
          have v0 : wc.cell? ⟨h, 6, none⟩ = some (.int .i64 2) := y0
          have v1 : wc.cell? ⟨h, 7, none⟩ = some (.int .i64 0) := y1
          have v2 : wc.cell? ⟨h, 8, none⟩ = some (.int .i64 ((k : Int) + 1)) := y2
          have v3 : wc.cell? ⟨h, 9, none⟩ = some (.bool false) := y3
          have v4 : wc.cell? ⟨h, 10, none⟩ = some (.string ⟨#[]⟩) := y4
          have v5 : wc.cell? ⟨h, 11, none⟩ = some (.string ⟨#[]⟩) := y5
          have hput := HS2.out.put hbw ho
          have hput' : LmS w P (obL L (k + 1) false) _ _ _ ((((((wc.setCell ⟨P, 0, none⟩ (.string ⟨#[113]⟩)).setCell ⟨P, 1, none⟩ (.int .i64 2)).setCell ⟨P, 2, none⟩ (.int .i64 L)).setCell ⟨P, 3, none⟩ (.slice E1 0 e1')).setCell ⟨P, 4, none⟩ (.slice (some ⟨h, 0, none⟩) 3 e2')).setCell ⟨P, 5, none⟩ (.slice E3 0 e3')) := hput
          have HPUT := ShutF.mk hput'
          have ps := HS2.out.step hbw
          have p0 := ps.obj.cell 0
          have p1 := ps.obj.cell 1
          have p2 := ps.obj.cell 2
          have p3 := ps.obj.cell 3
          have p4 := ps.obj.cell 4
          have p5 := ps.obj.cell 5
          have pf0 := ps.obj.frozen 0
          have pf1 := ps.obj.frozen 1
          have pf2 := ps.obj.frozen 2
          have pf3 := ps.obj.frozen 3
          have pf4 := ps.obj.frozen 4
          have pf5 := ps.obj.frozen 5
          have q0 := hX.cell 0
          have q1 := hX.cell 1
          have q2 := hX.cell 2
          have q3 := hX.cell 3
          have q4 := hX.cell 4
          have q5 := hX.cell 5
          simp only [obL, Ob.cells, List.getElem?_toArray, List.getElem?_cons_zero, List.getElem?_cons_succ] at p0 p1 p2 p3 p4 p5 q0 q1 q2 q3 q4 q5
          clear y0 y1 y2 y3 y4 y5 fz hh hput hput' ps hX ho hbw HSB HSP hS0 hS1 HCALL HS2
          clear hk2
          go_wp2_with fail
          go_roundg (n - (j + 1))
          case measure => have := HJ.out; omega
          case rel => exact ⟨j + 1, k + 1, _, _, _, by have := HJ.out; omega, by go_num, by go_num, by have := HK2.out; omega, HPUT.out⟩
        · have kl : decide (L ≤ (k : Int) + 1) = true := decide_eq_true (by omega)
          have hwr : IntKind.i64.wrap ((k : Int) + 1) = (k : Int) + 1 := by have := HL.out.2; rw [IntKind.wrap_i64]; omega
          obtain ⟨E1, e1', rfl⟩ := own_shape ho.rows (n := 0) rfl
          obtain ⟨E2, e2', rfl⟩ := own_shape ho.msgs (n := 2) rfl
          obtain ⟨E3, e3', rfl⟩ := own_shape ho.dead (n := 1) rfl
          obtain ⟨h, rfl, hh, y0, y1, y2, y3, y4, y5, fz⟩ := own_at (q := 0) (by show 0 < 1; omega) ho.dead
          have v0 : wc.cell? ⟨h, 0, none⟩ = some (.int .i64 2) := y0
          have v1 : wc.cell? ⟨h, 1, none⟩ = some (.int .i64 0) := y1
          have v2 : wc.cell? ⟨h, 2, none⟩ = some (.int .i64 L) := y2
          have v3 : wc.cell? ⟨h, 3, none⟩ = some (.bool false) := y3
          have v4 : wc.cell? ⟨h, 4, none⟩ = some (.string ⟨#[]⟩) := y4
          have v5 : wc.cell? ⟨h, 5, none⟩ = some (.string ⟨#[]⟩) := y5
          have hwa := fun W (hb : Below wc.heap.size wc W) => where_ (ho.at_.below hb) ⟨by show 0 ≤ _; omega, by show 2 ≤ _; omega, by show 1 ≤ _; omega⟩ 2
          have hwb := fun W (hb : Below wc.heap.size wc W) => where_ (ho.at_.below hb) ⟨by show 0 ≤ _; omega, by show 2 ≤ _; omega, by show 1 ≤ _; omega⟩ 3
          rw [(lim_where L).1] at hwa
          rw [(lim_where L).2] at hwb
          have q0 := hX.cell 0
          have q1 := hX.cell 1
          have q2 := hX.cell 2
          have q3 := hX.cell 3
          have q4 := hX.cell 4
          have q5 := hX.cell 5
          simp only [obD, Ob.val, Ob.cells, List.getElem?_toArray, List.getElem?_cons_zero, List.getElem?_cons_succ] at q0 q1 q2 q3 q4 q5 hwa hwb
          have HWA := ShutF.mk hwa
          have HWB := ShutF.mk hwb
          have HX := Lib.hid hX
          have HBW := Lib.hid (HS2.out.below.trans (hbw.mono HS2.out.below.size))
          clear y0 y1 y2 y3 y4 y5 fz hh hX ho hbw hwa hwb HSB HSP hS0 hS1 HCALL HS2 hk2
          go_wp2_with fail
          refine (HWA.out _ (Below.refl _ _)).mono ?_
          rintro e w5 ⟨rfl, hb5⟩
          have hx5 := HX.out.below hb5 HX.out.lt
          have u0 := hx5.cell 0
          have u1 := hx5.cell 1
          have u2 := hx5.cell 2
          have u3 := hx5.cell 3
          have u4' := hx5.cell 4
          have u5 := hx5.cell 5
          simp only [obD, Ob.cells, List.getElem?_toArray, List.getElem?_cons_zero, List.getElem?_cons_succ] at u0 u1 u2 u3 u4' u5
          have HB5 := Lib.hid hb5
          clear hx5 hb5 HWA
          go_wp2_with fail
          refine (HWB.out _ HB5.out).mono ?_
          rintro e w6 ⟨rfl, hb6⟩
          have HB6 := Lib.hid (HBW.out.trans ((HB5.out.trans (hb6.mono HB5.out.size)).mono HBW.out.size))
          clear hb6
          go_wp2_with fail
          go_ret
          exact ⟨rfl, HB6.out⟩
    · have j1 : decide ((j : Int) < (n : Int)) = false := decide_eq_false (by omega)
      have j1n : decide (j < n) = false := decide_eq_false hlt
      go_wp2_with fail
      go_ret
      exact ⟨rfl, HS.out.below⟩
end Go.Proofs.Ytobbopakdaoemaa
