/- . -/
import Derived.Test.YtjfoflbaoceemaaGreatJ25
import Derived.Test.YtjfoflbaoceemaaGreatJ26
import Derived.Test.YtjfoflbaoceemaaGreatJ24
import Derived.Deep.RegionWith
import Derived.Deep.DeepCutAuto
import Derived.Deep.RegionHeld3
set_option maxRecDepth 4000
namespace Go.Proofs.YtjfoflbaoceemaaGreat
open Go.RowKit
set_option maxHeartbeats 1000000 in
theorem free_ {w : World} {o : Ob} {r m d : Value} (h : ObAt w o r m d) (hn : o.short 100000) (hf : o.fits) (id : Int) (tried : Bool) :
    Calls Tryz.prog 230 #[o.val r m d, .int .i64 id, .bool tried] w (Freed w o id tried) := by
  obtain ⟨s, k, l, rs, ms, ds⟩ := o
  have hT0 := TwoB.new w 77 #[.string s, .int .i64 k, .int .i64 l, r, m, d] #[.string ⟨#[]⟩, .int .i64 0, .int .i64 0, .slice none 0 0, .slice none 0 0, .slice none 0 0]
  have hcp := copied_ (h.below hT0.below) hn
  obtain ⟨⟨A1, c1, rfl, hx1⟩, ⟨A2, c2, rfl, hx2⟩, ⟨A3, c3, rfl, hx3⟩⟩ := h
  simp only [Ob.val, Ob.cells] at hcp ⊢
  have HT0 := Lib.hid hT0
  have HCP := Lib.hid hcp
  have HF := Lib.hid hf.1
  clear hT0 hcp hx1 hx2 hx3 hf
  obtain ⟨s1, s2, s3⟩ := hn
  simp only at s1 s2 s3 HF
  generalize hm1 : rs.length = m1 at *
  generalize hm2 : ms.length = m2 at *
  generalize hm3 : ds.length = m3 at *
  have HM1 := Lib.hid hm1
  have HM2 := Lib.hid hm2
  have HM3 := Lib.hid hm3
  clear hm1 hm2 hm3
  go_enter Tryz.func230, Tryz.ntmps230
  go_wp2_with fail
  refine HCP.out.mono ?_
  rintro e w1 ⟨v1, v2, v3, rfl, ho, hb1⟩
  have hs1 := FrS.new HT0.out ho hb1
  obtain ⟨B1, b1, rfl⟩ := own_shape ho.rows HM1.out
  obtain ⟨B2, b2, rfl⟩ := own_shape ho.msgs HM2.out
  obtain ⟨B3, b3, rfl⟩ := own_shape ho.dead HM3.out
  have hfd := find_m (c := b2) (own_lst2 hs1.own.msgs) HM2.out (by omega) id
  have HS1 := Lib.hid hs1
  have FD := Lib.hid hfd
  clear ho hb1 hs1 hfd HCP HT0
  go_wp2_with fail
  refine FD.out.mono ?_
  rintro e w2 ⟨rfl, hb2⟩
  have hs2 := HS1.out.step hb2
  have HS2 := Lib.hid hs2
  have HMQ := Lib.hid (own_cap hs2.own.msgs)
  clear hs2 hb2 HS1 FD
  rcases idx_cases (isM id) ms with ⟨e1, e2⟩ | ⟨hlt0, e1, e2, e5⟩
  · rw [e1]
    have hfin := HS2.out.freed (free_none (o := ⟨s, k, l, rs, ms, ds⟩) tried e2)
    have hres := HS2.out.last.2.1
    have o0 := HS2.out.obj.cell 0
    have o1 := HS2.out.obj.cell 1
    have o2 := HS2.out.obj.cell 2
    have o3 := HS2.out.obj.cell 3
    have o4 := HS2.out.obj.cell 4
    have o5 := HS2.out.obj.cell 5
    have r0 := HS2.out.res.cell 0
    have r1 := HS2.out.res.cell 1
    have r2 := HS2.out.res.cell 2
    have r3 := HS2.out.res.cell 3
    have r4 := HS2.out.res.cell 4
    have r5 := HS2.out.res.cell 5
    have x0 := HS2.out.res.frozen 0
    have x1 := HS2.out.res.frozen 1
    have x2 := HS2.out.res.frozen 2
    have x3 := HS2.out.res.frozen 3
    have x4 := HS2.out.res.frozen 4
    have x5 := HS2.out.res.frozen 5
    have t0 := hres.cell 0
    have t1 := hres.cell 1
    have t2 := hres.cell 2
    have t3 := hres.cell 3
    have t4 := hres.cell 4
    have t5 := hres.cell 5
    have HFIN := ShutF.mk hfin
    clear hfin hres e1 e2 HMQ
    simp only [Ob.cells, List.getElem?_toArray, List.getElem?_cons_zero, List.getElem?_cons_succ] at o0 o1 o2 o3 o4 o5 r0 r1 r2 r3 r4 r5 t0 t1 t2 t3 t4 t5 HFIN
    go_wp2_with fail
    refine bodyPost_ret (v := .tuple #[.agg #[.string s, .int .i64 k, .int .i64 l, .slice B1 m1 b1, .slice B2 m2 b2, .slice B3 m3 b3], .bool false]) (by simp [results, Tryz.results230, go_sem, t0, t1, t2, t3, t4, t5]) rfl ?_
    exact HFIN.out
  · obtain ⟨q, hq⟩ : ∃ q, ms.findIdx (isM id) = q := ⟨_, rfl⟩
    rw [e1, hq]
    have hlt : q < ms.length := hq ▸ hlt0
    have hqm : q < m2 := by have := HM2.out; omega
    obtain ⟨y, hy⟩ : ∃ y, ms[q]? = some y := ⟨_, List.getElem?_eq_getElem hlt⟩
    have hyf : y.fits := HF.out y (List.mem_of_getElem? hy)
    have hsl := own_at hlt HS2.out.own.msgs
    rw [(List.getElem?_eq_some_iff.1 hy).2] at hsl
    obtain ⟨g, rfl, hgb, c0, c1, c2, c3, c4, c5, fz⟩ := hsl
    have hqb : q < b2 := by have := HMQ.out.2.1; omega
    have HQ := Lib.hid hq
    have HY := Lib.hid hy
    have HYF := Lib.hid hyf
    have HLT := Lib.hid hlt
    have HGB := Lib.hid hgb
    clear hlt0 e1 e2 e5 hq hy hyf hlt HF HMQ hgb
    obtain ⟨y0, y1, y2, cl, y4, y5⟩ := y
    simp only at c0 c1 c2 c3 c4 c5
    cases cl
    · clear c0 c1 c2 c4 c5 fz
      have hfin := HS2.out.freed (free_off (o := ⟨s, k, l, rs, ms, ds⟩) tried HQ.out HY.out rfl)
      have hres := HS2.out.last.2.1
      have o0 := HS2.out.obj.cell 0
      have o1 := HS2.out.obj.cell 1
      have o2 := HS2.out.obj.cell 2
      have o3 := HS2.out.obj.cell 3
      have o4 := HS2.out.obj.cell 4
      have o5 := HS2.out.obj.cell 5
      have r0 := HS2.out.res.cell 0
      have r1 := HS2.out.res.cell 1
      have r2 := HS2.out.res.cell 2
      have r3 := HS2.out.res.cell 3
      have r4 := HS2.out.res.cell 4
      have r5 := HS2.out.res.cell 5
      have x0 := HS2.out.res.frozen 0
      have x1 := HS2.out.res.frozen 1
      have x2 := HS2.out.res.frozen 2
      have x3 := HS2.out.res.frozen 3
      have x4 := HS2.out.res.frozen 4
      have x5 := HS2.out.res.frozen 5
      have t0 := hres.cell 0
      have t1 := hres.cell 1
      have t2 := hres.cell 2
      have t3 := hres.cell 3
      have t4 := hres.cell 4
      have t5 := hres.cell 5
      have HFIN := ShutF.mk hfin
      clear hfin hres HQ HY HYF HGB
      simp only [Ob.cells, List.getElem?_toArray, List.getElem?_cons_zero, List.getElem?_cons_succ] at o0 o1 o2 o3 o4 o5 r0 r1 r2 r3 r4 r5 t0 t1 t2 t3 t4 t5 HFIN
      go_wp2_with fail
      refine bodyPost_ret (v := .tuple #[.agg #[.string s, .int .i64 k, .int .i64 l, .slice B1 m1 b1, .slice (some ⟨g, 0, none⟩) m2 b2, .slice B3 m3 b3], .bool false]) (by simp [results, Tryz.results230, go_sem, t0, t1, t2, t3, t4, t5]) rfl ?_
      exact HFIN.out
    · cases tried
      · have f3 := fz (q * 6 + 3)
        have hs3 := HS2.out.turn (g := g) rfl ((Keep.refl w2).setCell (p := ⟨g, q * 6 + 3, none⟩) (fun _ _ e => e rfl) (.bool false)) (own_set1 HS2.out.own.msgs HLT.out ⟨y0, y1, y2, false, y4, y5⟩ (i := 3) (u := .bool false) (by show 3 < 6; omega) (by rw [(List.getElem?_eq_some_iff.1 HY.out).2]; rfl))
        have HS3 := Lib.hid hs3
        have hO4 := HS2.out.obj.cell 4
        simp only [Ob.cells, List.getElem?_toArray, List.getElem?_cons_zero, List.getElem?_cons_succ] at hO4
        clear c0 c1 c2 c4 c5 fz hs3
        go_upto_region 7 with fail
        generalize w2.setCell ⟨g, q * 6 + 3, none⟩ (.bool false) = w3 at *
        clear c3 f3 hO4
        have hfin := HS3.out.freed (free_back (o := ⟨s, k, l, rs, ms, ds⟩) HQ.out HY.out rfl)
        have hres := HS3.out.last.2.1
        have o0 := HS3.out.obj.cell 0
        have o1 := HS3.out.obj.cell 1
        have o2 := HS3.out.obj.cell 2
        have o3 := HS3.out.obj.cell 3
        have o4 := HS3.out.obj.cell 4
        have o5 := HS3.out.obj.cell 5
        have r0 := HS3.out.res.cell 0
        have r1 := HS3.out.res.cell 1
        have r2 := HS3.out.res.cell 2
        have r3 := HS3.out.res.cell 3
        have r4 := HS3.out.res.cell 4
        have r5 := HS3.out.res.cell 5
        have x0 := HS3.out.res.frozen 0
        have x1 := HS3.out.res.frozen 1
        have x2 := HS3.out.res.frozen 2
        have x3 := HS3.out.res.frozen 3
        have x4 := HS3.out.res.frozen 4
        have x5 := HS3.out.res.frozen 5
        have t0 := hres.cell 0
        have t1 := hres.cell 1
        have t2 := hres.cell 2
        have t3 := hres.cell 3
        have t4 := hres.cell 4
        have t5 := hres.cell 5
        have HFIN := ShutF.mk hfin
        clear hfin hres HQ HY HYF HGB HS2
        simp only [Ob.cells, List.getElem?_toArray, List.getElem?_cons_zero, List.getElem?_cons_succ] at o0 o1 o2 o3 o4 o5 r0 r1 r2 r3 r4 r5 t0 t1 t2 t3 t4 t5 HFIN
        go_wp2_with fail
        refine bodyPost_ret (v := .tuple #[.agg #[.string s, .int .i64 k, .int .i64 l, .slice B1 m1 b1, .slice (some ⟨g, 0, none⟩) m2 b2, .slice B3 m3 b3], .bool true]) (by simp [results, Tryz.results230, go_sem, t0, t1, t2, t3, t4, t5]) rfl ?_
        exact HFIN.out
      · have hO2 := HS2.out.obj.cell 2
        have hO4 := HS2.out.obj.cell 4
        simp only [Ob.cells, List.getElem?_toArray, List.getElem?_cons_zero, List.getElem?_cons_succ] at hO2 hO4
        have htr := fun W => tried_ ⟨y0, y1, y2, true, y4, y5⟩ HYF.out l W
        simp only [Mg.tried, Mg.val, Mg.cells] at htr
        generalize hmr : more1 y2 = n2 at *
        generalize htb : triedB y2 l = ov at *
        have HMR := Lib.hid hmr
        have HTB := Lib.hid htb
        have HTR := Lib.hid htr
        clear hmr htb htr
        have hsb : ∀ W, Below w2.heap.size w2 W → (fun W : World => W.cell? ⟨g, q * 6, none⟩ = some (.int .i64 y0) ∧ W.cell? ⟨g, q * 6 + 1, none⟩ = some (.int .i64 y1) ∧ W.cell? ⟨g, q * 6 + 2, none⟩ = some (.int .i64 y2) ∧ W.cell? ⟨g, q * 6 + 3, none⟩ = some (.bool true) ∧ W.cell? ⟨g, q * 6 + 4, none⟩ = some (.string y4) ∧ W.cell? ⟨g, q * 6 + 5, none⟩ = some (.string y5) ∧ W.cell? ⟨w1.heap.size, 2, none⟩ = some (.int .i64 l) ∧ W.cell? ⟨w1.heap.size, 4, none⟩ = some (.slice (some ⟨g, 0, none⟩) m2 b2)) W := fun W hb => ⟨(cell_of_heap (hb.block _ (block_of_cell c0)) _).trans c0, (cell_of_heap (hb.block _ (block_of_cell c1)) _).trans c1, (cell_of_heap (hb.block _ (block_of_cell c2)) _).trans c2, (cell_of_heap (hb.block _ (block_of_cell c3)) _).trans c3, (cell_of_heap (hb.block _ (block_of_cell c4)) _).trans c4, (cell_of_heap (hb.block _ (block_of_cell c5)) _).trans c5, (cell_of_heap (hb.block _ (block_of_cell hO2)) _).trans hO2, (cell_of_heap (hb.block _ (block_of_cell hO4)) _).trans hO4⟩
        have hsp : Below w2.heap.size w2 (w2.alloc (.cells #[.int .i64 0, .int .i64 0, .int .i64 0, .bool false, .string ⟨#[]⟩, .string ⟨#[]⟩] 44)).drew := (alloc_below w2 _).drew
        have hS0 : ShutF ((fun W : World => W.cell? ⟨g, q * 6, none⟩ = some (.int .i64 y0) ∧ W.cell? ⟨g, q * 6 + 1, none⟩ = some (.int .i64 y1) ∧ W.cell? ⟨g, q * 6 + 2, none⟩ = some (.int .i64 y2) ∧ W.cell? ⟨g, q * 6 + 3, none⟩ = some (.bool true) ∧ W.cell? ⟨g, q * 6 + 4, none⟩ = some (.string y4) ∧ W.cell? ⟨g, q * 6 + 5, none⟩ = some (.string y5) ∧ W.cell? ⟨w1.heap.size, 2, none⟩ = some (.int .i64 l) ∧ W.cell? ⟨w1.heap.size, 4, none⟩ = some (.slice (some ⟨g, 0, none⟩) m2 b2)) w2.drew) := ⟨hsb _ (Below.refl _ _).drew⟩
        have hS1 : ShutF ((fun W : World => W.cell? ⟨g, q * 6, none⟩ = some (.int .i64 y0) ∧ W.cell? ⟨g, q * 6 + 1, none⟩ = some (.int .i64 y1) ∧ W.cell? ⟨g, q * 6 + 2, none⟩ = some (.int .i64 y2) ∧ W.cell? ⟨g, q * 6 + 3, none⟩ = some (.bool true) ∧ W.cell? ⟨g, q * 6 + 4, none⟩ = some (.string y4) ∧ W.cell? ⟨g, q * 6 + 5, none⟩ = some (.string y5) ∧ W.cell? ⟨w1.heap.size, 2, none⟩ = some (.int .i64 l) ∧ W.cell? ⟨w1.heap.size, 4, none⟩ = some (.slice (some ⟨g, 0, none⟩) m2 b2)) (w2.alloc (.cells #[.int .i64 0, .int .i64 0, .int .i64 0, .bool false, .string ⟨#[]⟩, .string ⟨#[]⟩] 44)).drew) := ⟨hsb _ hsp⟩
        have HSB := ShutF.mk hsb
        have HSP := ShutF.mk hsp
        clear hsb hsp
        go_upto_region 8 with fail
        clear c0 c1 c2 c3 c4 c5 hO2 hO4
        go_cut [10, 11] (fun p v wx => v = .bool ov ∧ ∃ N, p = .pointer (some ⟨N, 0, none⟩) ∧ w2.heap.size ≤ N ∧ FrS w #[.string s, .int .i64 k, .int .i64 l, .slice A1 m1 c1, .slice A2 m2 c2, .slice A3 m3 c3] w1.heap.size ⟨s, k, l, rs, ms, ds⟩ (.slice B1 m1 b1) (.slice (some ⟨g, 0, none⟩) m2 b2) (.slice B3 m3 b3) wx ∧ Blk wx N 44 #[.int .i64 y0, .int .i64 y1, .int .i64 n2, .bool false, .string y4, .string y5])
        case first =>
          go_region_held3 (fun W : World => W.cell? ⟨g, q * 6, none⟩ = some (.int .i64 y0) ∧ W.cell? ⟨g, q * 6 + 1, none⟩ = some (.int .i64 y1) ∧ W.cell? ⟨g, q * 6 + 2, none⟩ = some (.int .i64 y2) ∧ W.cell? ⟨g, q * 6 + 3, none⟩ = some (.bool true) ∧ W.cell? ⟨g, q * 6 + 4, none⟩ = some (.string y4) ∧ W.cell? ⟨g, q * 6 + 5, none⟩ = some (.string y5) ∧ W.cell? ⟨w1.heap.size, 2, none⟩ = some (.int .i64 l) ∧ W.cell? ⟨w1.heap.size, 4, none⟩ = some (.slice (some ⟨g, 0, none⟩) m2 b2))
            (first | with_reducible exact hS0.out | with_reducible exact hS1.out | with_reducible exact hS2.out | with_reducible exact hS3.out | with_reducible exact hS4.out | with_reducible exact hS5.out)
            (first | (go_at_call 245; refine (HTR.out _).mono ?_; rintro e w3 ⟨rfl, hb3⟩; first | (have hz3 := blk_behind hb3; have HB3 := Lib.hid (HSP.out.trans (hb3.mono HSP.out.size)); have hS2 : ShutF ((fun W : World => W.cell? ⟨g, q * 6, none⟩ = some (.int .i64 y0) ∧ W.cell? ⟨g, q * 6 + 1, none⟩ = some (.int .i64 y1) ∧ W.cell? ⟨g, q * 6 + 2, none⟩ = some (.int .i64 y2) ∧ W.cell? ⟨g, q * 6 + 3, none⟩ = some (.bool true) ∧ W.cell? ⟨g, q * 6 + 4, none⟩ = some (.string y4) ∧ W.cell? ⟨g, q * 6 + 5, none⟩ = some (.string y5) ∧ W.cell? ⟨w1.heap.size, 2, none⟩ = some (.int .i64 l) ∧ W.cell? ⟨w1.heap.size, 4, none⟩ = some (.slice (some ⟨g, 0, none⟩) m2 b2)) w3) := ⟨HSB.out _ HB3.out⟩; have hS3 : ShutF ((fun W : World => W.cell? ⟨g, q * 6, none⟩ = some (.int .i64 y0) ∧ W.cell? ⟨g, q * 6 + 1, none⟩ = some (.int .i64 y1) ∧ W.cell? ⟨g, q * 6 + 2, none⟩ = some (.int .i64 y2) ∧ W.cell? ⟨g, q * 6 + 3, none⟩ = some (.bool true) ∧ W.cell? ⟨g, q * 6 + 4, none⟩ = some (.string y4) ∧ W.cell? ⟨g, q * 6 + 5, none⟩ = some (.string y5) ∧ W.cell? ⟨w1.heap.size, 2, none⟩ = some (.int .i64 l) ∧ W.cell? ⟨w1.heap.size, 4, none⟩ = some (.slice (some ⟨g, 0, none⟩) m2 b2)) ((((((w3.setCell ⟨w2.heap.size, 0, none⟩ (.int .i64 y0)).setCell ⟨w2.heap.size, 1, none⟩ (.int .i64 y1)).setCell ⟨w2.heap.size, 2, none⟩ (.int .i64 n2)).setCell ⟨w2.heap.size, 3, none⟩ (.bool false)).setCell ⟨w2.heap.size, 4, none⟩ (.string y4)).setCell ⟨w2.heap.size, 5, none⟩ (.string y5))) := ⟨HSB.out _ (below_six HB3.out (Nat.le_refl _) _ _ _ _ _ _)⟩; have z0 := hz3.cell 0; have z1 := hz3.cell 1; have z2 := hz3.cell 2; have z3 := hz3.cell 3; have z4 := hz3.cell 4; have z5 := hz3.cell 5; have fz0 := hz3.frozen 0; have fz1 := hz3.frozen 1; have fz2 := hz3.frozen 2; have fz3 := hz3.frozen 3; have fz4 := hz3.frozen 4; have fz5 := hz3.frozen 5; have HF3 := ShutF.mk (And.intro (HS2.out.step (below_six HB3.out (Nat.le_refl _) (.int .i64 y0) (.int .i64 y1) (.int .i64 n2) (.bool false) (.string y4) (.string y5))) (blk_store6 (a' := .int .i64 y0) (b' := .int .i64 y1) (c' := .int .i64 n2) (d' := .bool false) (e' := .string y4) (f' := .string y5) hz3)); have HNN := Lib.hid (Nat.le_refl w2.heap.size); clear hz3 hb3) | (have HB3 := Lib.hid ((Below.refl w2.heap.size w2).drew.trans hb3); have hS2 : ShutF ((fun W : World => W.cell? ⟨g, q * 6, none⟩ = some (.int .i64 y0) ∧ W.cell? ⟨g, q * 6 + 1, none⟩ = some (.int .i64 y1) ∧ W.cell? ⟨g, q * 6 + 2, none⟩ = some (.int .i64 y2) ∧ W.cell? ⟨g, q * 6 + 3, none⟩ = some (.bool true) ∧ W.cell? ⟨g, q * 6 + 4, none⟩ = some (.string y4) ∧ W.cell? ⟨g, q * 6 + 5, none⟩ = some (.string y5) ∧ W.cell? ⟨w1.heap.size, 2, none⟩ = some (.int .i64 l) ∧ W.cell? ⟨w1.heap.size, 4, none⟩ = some (.slice (some ⟨g, 0, none⟩) m2 b2)) w3) := ⟨HSB.out _ HB3.out⟩; have hS4 : ShutF ((fun W : World => W.cell? ⟨g, q * 6, none⟩ = some (.int .i64 y0) ∧ W.cell? ⟨g, q * 6 + 1, none⟩ = some (.int .i64 y1) ∧ W.cell? ⟨g, q * 6 + 2, none⟩ = some (.int .i64 y2) ∧ W.cell? ⟨g, q * 6 + 3, none⟩ = some (.bool true) ∧ W.cell? ⟨g, q * 6 + 4, none⟩ = some (.string y4) ∧ W.cell? ⟨g, q * 6 + 5, none⟩ = some (.string y5) ∧ W.cell? ⟨w1.heap.size, 2, none⟩ = some (.int .i64 l) ∧ W.cell? ⟨w1.heap.size, 4, none⟩ = some (.slice (some ⟨g, 0, none⟩) m2 b2)) (w3.alloc (.cells #[.int .i64 0, .int .i64 0, .int .i64 0, .bool false, .string ⟨#[]⟩, .string ⟨#[]⟩] 44))) := ⟨HSB.out _ (HB3.out.alloc HB3.out.size _)⟩; have hS5 : ShutF ((fun W : World => W.cell? ⟨g, q * 6, none⟩ = some (.int .i64 y0) ∧ W.cell? ⟨g, q * 6 + 1, none⟩ = some (.int .i64 y1) ∧ W.cell? ⟨g, q * 6 + 2, none⟩ = some (.int .i64 y2) ∧ W.cell? ⟨g, q * 6 + 3, none⟩ = some (.bool true) ∧ W.cell? ⟨g, q * 6 + 4, none⟩ = some (.string y4) ∧ W.cell? ⟨g, q * 6 + 5, none⟩ = some (.string y5) ∧ W.cell? ⟨w1.heap.size, 2, none⟩ = some (.int .i64 l) ∧ W.cell? ⟨w1.heap.size, 4, none⟩ = some (.slice (some ⟨g, 0, none⟩) m2 b2)) (w3.alloc (.cells #[.int .i64 y0, .int .i64 y1, .int .i64 n2, .bool false, .string y4, .string y5] 44))) := ⟨HSB.out _ (HB3.out.alloc HB3.out.size _)⟩; have HF3 := ShutF.mk (And.intro (HS2.out.step (HB3.out.alloc HB3.out.size (.cells #[.int .i64 y0, .int .i64 y1, .int .i64 n2, .bool false, .string y4, .string y5] 44))) (Blk.new w3 44 #[.int .i64 y0, .int .i64 y1, .int .i64 n2, .bool false, .string y4, .string y5])); have HNN := Lib.hid HB3.out.size; clear hb3)))
          all_goals (go_wp2_with fail; go_meet; exact ⟨rfl, _, rfl, HNN.out, HF3.out.1, HF3.out.2⟩)
        case rest =>
          obtain ⟨rfl, N, rfl, hNw, hs4, hN⟩ := hcut
          have htr1 : Mg.tried ⟨y0, y1, y2, true, y4, y5⟩ = ⟨y0, y1, n2, false, y4, y5⟩ := by simp only [Mg.tried, HMR.out]
          have HTR1 := Lib.hid htr1
          have hO4 := hs4.obj.cell 4
          have n0 := hN.cell 0
          have n1 := hN.cell 1
          have n2' := hN.cell 2
          have n3 := hN.cell 3
          have n4 := hN.cell 4
          have n5 := hN.cell 5
          simp only [Ob.cells, List.getElem?_toArray, List.getElem?_cons_zero, List.getElem?_cons_succ] at hO4 n0 n1 n2' n3 n4 n5
          cases ov
          · obtain ⟨g', eg, _, c0, c1, c2, c3, c4, c5, fz⟩ := own_at HLT.out hs4.own.msgs
            injection eg with eg
            injection eg with eg _ _
            subst eg
            have f0 := fz (q * 6)
            have f1 := fz (q * 6 + 1)
            have f2 := fz (q * 6 + 2)
            have f3 := fz (q * 6 + 3)
            have f4 := fz (q * 6 + 4)
            have f5 := fz (q * 6 + 5)
            have hs5 := hs4.turn (g := g) rfl (keep_six_at wc g (q * 6) (.int .i64 y0) (.int .i64 y1) (.int .i64 n2) (.bool false) (.string y4) (.string y5)) (own_set6 hs4.own.msgs HLT.out ⟨y0, y1, n2, false, y4, y5⟩)
            have hst := free_stay (o := ⟨s, k, l, rs, ms, ds⟩) HQ.out HY.out rfl HTB.out
            rw [HTR1.out] at hst
            have HST := Lib.hid hst
            have HS5 := Lib.hid hs5
            clear fz hs4 hN hs5 hst htr1 HTR HSB HSP hS0 hS1 HGB HYF HMR HTB HTR1 HS2
            go_upto_region 13 with fail
            generalize ((((((wc.setCell ⟨g, q * 6, none⟩ (.int .i64 y0)).setCell ⟨g, q * 6 + 1, none⟩ (.int .i64 y1)).setCell ⟨g, q * 6 + 2, none⟩ (.int .i64 n2)).setCell ⟨g, q * 6 + 3, none⟩ (.bool false)).setCell ⟨g, q * 6 + 4, none⟩ (.string y4)).setCell ⟨g, q * 6 + 5, none⟩ (.string y5)) = w5 at *
            clear c0 c1 c2 c3 c4 c5 f0 f1 f2 f3 f4 f5 n0 n1 n2' n3 n4 n5 hO4
            have hfin := HS5.out.freed (HST.out)
            have hres := HS5.out.last.2.1
            have o0 := HS5.out.obj.cell 0
            have o1 := HS5.out.obj.cell 1
            have o2 := HS5.out.obj.cell 2
            have o3 := HS5.out.obj.cell 3
            have o4 := HS5.out.obj.cell 4
            have o5 := HS5.out.obj.cell 5
            have r0 := HS5.out.res.cell 0
            have r1 := HS5.out.res.cell 1
            have r2 := HS5.out.res.cell 2
            have r3 := HS5.out.res.cell 3
            have r4 := HS5.out.res.cell 4
            have r5 := HS5.out.res.cell 5
            have x0 := HS5.out.res.frozen 0
            have x1 := HS5.out.res.frozen 1
            have x2 := HS5.out.res.frozen 2
            have x3 := HS5.out.res.frozen 3
            have x4 := HS5.out.res.frozen 4
            have x5 := HS5.out.res.frozen 5
            have t0 := hres.cell 0
            have t1 := hres.cell 1
            have t2 := hres.cell 2
            have t3 := hres.cell 3
            have t4 := hres.cell 4
            have t5 := hres.cell 5
            have HFIN := ShutF.mk hfin
            clear hfin hres HS5 HST
            simp only [Ob.cells, List.getElem?_toArray, List.getElem?_cons_zero, List.getElem?_cons_succ] at o0 o1 o2 o3 o4 o5 r0 r1 r2 r3 r4 r5 t0 t1 t2 t3 t4 t5 HFIN
            go_wp2_with fail
            refine bodyPost_ret (v := .tuple #[.agg #[.string s, .int .i64 k, .int .i64 l, .slice B1 m1 b1, .slice (some ⟨g, 0, none⟩) m2 b2, .slice B3 m3 b3], .bool true]) (by simp [results, Tryz.results230, go_sem, t0, t1, t2, t3, t4, t5]) rfl ?_
            exact HFIN.out
          · have hwr : IntKind.i64.wrap ((q : Int) + 1) = (q : Int) + 1 := by rw [IntKind.wrap_i64]; omega
            have hdl := delete_m hs4.own.msgs HLT.out (by show ms.length ≤ 100000; have := HM2.out; omega)
            have hdd := free_dead (o := ⟨s, k, l, rs, ms, ds⟩) HQ.out HY.out rfl HTB.out
            rw [HTR1.out] at hdd
            have hnO : N ≠ w1.heap.size := by have := HS2.out.obj.lt; omega
            have hng : N ≠ g := by have := (own_blk HS2.out.own.msgs (g := g) rfl).2.1; omega
            have HDL := Lib.hid hdl
            have HDD := Lib.hid hdd
            have HS4 := Lib.hid hs4
            have HN := Lib.hid hN
            clear hs4 hN hdl hdd htr1 HTR HSB HSP hS0 hS1 HGB HYF HMR HTB HTR1 HS2 n0 n1 n2' n3 n4 n5
            go_wp2_with fail
            refine HDL.out.mono ?_
            rintro e w5 ⟨v5, rfl, ho5, hv5, hg5⟩
            obtain ⟨A5, b5, rfl⟩ := own_shape ho5 (n := m2 - 1) (by rw [List.length_eraseIdx_of_lt HLT.out, HM2.out])
            have hk5 : Keep (fun i _ => i ≠ g) wc w5 := (Keep.refl wc).grown hg5 fun g' o' e _ => by injection e with e; exact fun h => h e.symm
            obtain ⟨hO5, hs6⟩ := HS4.out.recut (g := g) rfl hk5 hv5 ho5
            have hN6 := (HN.out.keep hk5 hng).far (p := ⟨w1.heap.size, 4, none⟩) hnO (.slice A5 (m2 - 1) b5)
            have k4 := hO5.cell 4
            have k4f := hO5.frozen 4
            have k5 := hs6.obj.cell 5
            have n0 := hN6.cell 0
            have n1 := hN6.cell 1
            have n2' := hN6.cell 2
            have n3 := hN6.cell 3
            have n4 := hN6.cell 4
            have n5 := hN6.cell 5
            obtain ⟨A7, b7, w7, hap, ho7, hg7, hv7⟩ := append_m hs6.own.dead HM3.out s3 (by have := hs6.below.size; have := hs6.out; have := hs6.obj.lt; omega) ⟨y0, y1, n2, false, y4, y5⟩
            obtain ⟨hO7, hs8⟩ := (hs6.step (alloc_below _ (.cells (Mg.cells ⟨y0, y1, n2, false, y4, y5⟩) 44))).dead hg7 ho7 hv7
            have j5 := hO7.cell 5
            have j5f := hO7.frozen 5
            rw [show (w5.setCell ⟨w1.heap.size, 4, none⟩ (.slice A5 (m2 - 1) b5)).heap.size = w5.heap.size by simp [World.setCell]] at hap
            have HAP := ShutF.mk hap
            have HS8 := Lib.hid hs8
            clear ho5 hv5 hg5 hk5 hO5 hs6 hN6 hap ho7 hg7 hv7 hO7 hs8 HDL HS4 HN
            simp only [Ob.cells, List.getElem?_toArray, List.getElem?_cons_zero, List.getElem?_cons_succ] at k4 k5 n0 n1 n2' n3 n4 n5 j5
            go_upto_region 13 with (at_builtin; refine wpList_append_run rfl (.tmp 58) (.tmp 60) 75 75 rfl (.slice B3 m3 b3) (.slice (some ⟨w5.heap.size, 0, none⟩) 1 1) rfl rfl HAP.out ?_)
            generalize w7.setCell ⟨w1.heap.size, 5, none⟩ (.slice A7 (m3 + 1) b7) = w8 at *
            clear k4 k4f k5 n0 n1 n2' n3 n4 n5 j5 j5f HAP
            have hfin := HS8.out.freed (HDD.out)
            have hres := HS8.out.last.2.1
            have o0 := HS8.out.obj.cell 0
            have o1 := HS8.out.obj.cell 1
            have o2 := HS8.out.obj.cell 2
            have o3 := HS8.out.obj.cell 3
            have o4 := HS8.out.obj.cell 4
            have o5 := HS8.out.obj.cell 5
            have r0 := HS8.out.res.cell 0
            have r1 := HS8.out.res.cell 1
            have r2 := HS8.out.res.cell 2
            have r3 := HS8.out.res.cell 3
            have r4 := HS8.out.res.cell 4
            have r5 := HS8.out.res.cell 5
            have x0 := HS8.out.res.frozen 0
            have x1 := HS8.out.res.frozen 1
            have x2 := HS8.out.res.frozen 2
            have x3 := HS8.out.res.frozen 3
            have x4 := HS8.out.res.frozen 4
            have x5 := HS8.out.res.frozen 5
            have t0 := hres.cell 0
            have t1 := hres.cell 1
            have t2 := hres.cell 2
            have t3 := hres.cell 3
            have t4 := hres.cell 4
            have t5 := hres.cell 5
            have HFIN := ShutF.mk hfin
            clear hfin hres HS8 HDD
            simp only [Ob.cells, List.getElem?_toArray, List.getElem?_cons_zero, List.getElem?_cons_succ] at o0 o1 o2 o3 o4 o5 r0 r1 r2 r3 r4 r5 t0 t1 t2 t3 t4 t5 HFIN
            go_wp2_with fail
            refine bodyPost_ret (v := .tuple #[.agg #[.string s, .int .i64 k, .int .i64 l, .slice B1 m1 b1, .slice A5 (m2 - 1) b5, .slice A7 (m3 + 1) b7], .bool true]) (by simp [results, Tryz.results230, go_sem, t0, t1, t2, t3, t4, t5]) rfl ?_
            exact HFIN.out
end Go.Proofs.YtjfoflbaoceemaaGreat
