/- Plain: a state of one queue and one table, and what eighteen changes come to behind one that can be done (tools/r19_errs.py writes it). StateErrors walked (tools/r19_errs.py writes it). -/
import Derived.Test.YtdjmjckmbclhiaaJ18
import Derived.Test.YtdjmjckmbclhiaaJ19
import Derived.Test.YtdjmjckmbclhiaaJ16
import Derived.Deep.RegionHeld3
import Derived.Deep.DeepCutAuto
import Derived.Deep.RegionWith
set_option maxRecDepth 4000
namespace Go.Proofs.Ytdjmjckmbclhiaa
def oQ : Ob := ⟨⟨#[113]⟩, 2, 2, [], [⟨3, 0, 0, false, ⟨#[]⟩, ⟨#[]⟩⟩, ⟨4, 0, 0, true, ⟨#[]⟩, ⟨#[]⟩⟩], [⟨5, 0, 2, false, ⟨#[]⟩, ⟨#[]⟩⟩]⟩
def oT : Ob := ⟨⟨#[116]⟩, 1, 0, [(⟨#[97]⟩, ⟨#[98]⟩)], [], []⟩
def stE : St := ⟨9, [oQ, oT]⟩
def putZ : Ef := ⟨2, ⟨#[116]⟩, ⟨#[122]⟩, ⟨#[121]⟩, 0, 0, false, Mg.zero⟩
def effE : List Ef := [⟨1, ⟨#[113]⟩, ⟨#[]⟩, ⟨#[]⟩, 1, 0, false, Mg.zero⟩, ⟨2, ⟨#[113]⟩, ⟨#[97]⟩, ⟨#[]⟩, 0, 0, false, Mg.zero⟩, ⟨2, ⟨#[120]⟩, ⟨#[97]⟩, ⟨#[]⟩, 0, 0, false, Mg.zero⟩, ⟨3, ⟨#[116]⟩, ⟨#[98]⟩, ⟨#[]⟩, 0, 0, false, Mg.zero⟩, ⟨4, ⟨#[116]⟩, ⟨#[]⟩, ⟨#[]⟩, 0, 0, false, ⟨1, 0, 0, false, ⟨#[]⟩, ⟨#[]⟩⟩⟩, ⟨4, ⟨#[113]⟩, ⟨#[]⟩, ⟨#[]⟩, 0, 0, false, ⟨9, 0, 0, false, ⟨#[]⟩, ⟨#[]⟩⟩⟩, ⟨4, ⟨#[113]⟩, ⟨#[]⟩, ⟨#[]⟩, 0, 0, false, ⟨5, 0, 0, false, ⟨#[]⟩, ⟨#[]⟩⟩⟩, ⟨4, ⟨#[113]⟩, ⟨#[]⟩, ⟨#[]⟩, 0, 0, false, ⟨1, 0, 0, true, ⟨#[]⟩, ⟨#[]⟩⟩⟩, ⟨5, ⟨#[113]⟩, ⟨#[]⟩, ⟨#[]⟩, 5, 0, false, Mg.zero⟩, ⟨6, ⟨#[113]⟩, ⟨#[]⟩, ⟨#[]⟩, 4, 0, false, Mg.zero⟩, ⟨6, ⟨#[113]⟩, ⟨#[]⟩, ⟨#[]⟩, 5, 0, false, Mg.zero⟩, ⟨7, ⟨#[113]⟩, ⟨#[]⟩, ⟨#[]⟩, 3, 0, false, Mg.zero⟩, ⟨8, ⟨#[]⟩, ⟨#[]⟩, ⟨#[]⟩, 8, 0, false, Mg.zero⟩, ⟨0, ⟨#[]⟩, ⟨#[]⟩, ⟨#[]⟩, 0, 0, false, Mg.zero⟩, ⟨5, ⟨#[116]⟩, ⟨#[]⟩, ⟨#[]⟩, 3, 0, false, Mg.zero⟩, ⟨4, ⟨#[113]⟩, ⟨#[]⟩, ⟨#[]⟩, 0, 0, false, ⟨8, 0, 0, false, ⟨#[]⟩, ⟨#[]⟩⟩⟩, ⟨8, ⟨#[]⟩, ⟨#[]⟩, ⟨#[]⟩, 9, 0, false, Mg.zero⟩, ⟨5, ⟨#[113]⟩, ⟨#[]⟩, ⟨#[]⟩, 4, 0, false, Mg.zero⟩]
def wantE : List Int := [4, 5, 3, 7, 5, 1, 4, 1, 7, 2, 7, 7, 1, 1, 5, 0, 0, 0]
theorem eff_len : effE.length = 18 := rfl
theorem want_len : wantE.length = 18 := rfl
theorem run_zero : ∀ (l : List Ef) (s : St), (runS s l).1 ≠ 0 → (runS s l).2 = St.zero
  | [], _, h => absurd rfl h
  | e :: l, s, h => by
    rw [runS] at h ⊢
    split
    · rename_i h1
      rw [if_pos h1] at h
      exact run_zero l _ h
    · rfl
theorem apply_zero {s : St} {l : List Ef} (h : (applyS s l).1 ≠ 0) : (applyS s l).2 = St.zero := by
  unfold applyS at h ⊢
  split
  · rename_i h1
    rw [if_pos h1] at h
    exact run_zero l s h
  · rfl
theorem runE : ∀ i : Fin 18, (applyS stE [putZ, effE[i.1]'(by rw [eff_len]; exact i.2)]).1 = wantE[i.1]'(by rw [want_len]; exact i.2) := by decide +kernel
theorem runE2 : ∀ i : Fin 18, (applyS stE [putZ, effE[i.1]'(by rw [eff_len]; exact i.2)]).1 = 0 → (applyS stE [putZ, effE[i.1]'(by rw [eff_len]; exact i.2)]).2.objs.length = 2 := by decide +kernel
end Go.Proofs.Ytdjmjckmbclhiaa
namespace Go.Proofs.Ytdjmjckmbclhiaa
open Go.RowKit
def svE (N : Nat) : Sv := ⟨some ⟨N + 3, 0, none⟩, 2, 2⟩
def xsE (N : Nat) : List Oc := [⟨oQ, ⟨none, 0, 0⟩, ⟨some ⟨N, 0, none⟩, 2, 2⟩, ⟨some ⟨N + 1, 0, none⟩, 1, 1⟩⟩, ⟨oT, ⟨some ⟨N + 2, 0, none⟩, 1, 1⟩, ⟨none, 0, 0⟩, ⟨none, 0, 0⟩⟩]
theorem lst_blk {α : Type} {E : Enc α} {W : World} {g : Nat} {T : TypeId} {cs : Array Value} {l : List α} (h : Blk W g T cs) (e : cs.toList = cellsE E l) : Lst W (fun _ => True) E (some ⟨g, 0, none⟩) l := fun _ =>
  ⟨g, 0, rfl, trivial, h.lt, fun j u hu => by rw [Nat.zero_add, h.cell, ← Array.getElem?_toList, e]; exact hu⟩
theorem max_small {n : Nat} (h : n ≤ 1000) : n ≤ maxLen := by unfold maxLen; omega
theorem objs_of {W : World} {N : Nat} {T0 T1 T2 T3 : TypeId} {c0 c1 c2 c3 : Array Value} (h0 : Blk W N T0 c0) (h1 : Blk W (N + 1) T1 c1) (h2 : Blk W (N + 2) T2 c2) (h3 : Blk W (N + 3) T3 c3)
    (e0 : c0.toList = cellsE eM oQ.msgs) (e1 : c1.toList = cellsE eM oQ.dead) (e2 : c2.toList = cellsE eR oT.rows) (e3 : c3.toList = cellsE eO (xsE N)) : ObsAt W (fun _ => True) (svE N) (xsE N) := by
  refine ⟨⟨rfl, lst_blk h3 e3, Nat.le_refl _, max_small (by show 2 ≤ 1000; omega), fun h => by cases h⟩, fun x hx => ?_⟩
  rcases List.mem_cons.1 hx with rfl | hx
  · exact ⟨SlK.none_ _ _ _, ⟨rfl, lst_blk h0 e0, Nat.le_refl _, max_small (by show 2 ≤ 1000; omega), fun h => by cases h⟩, ⟨rfl, lst_blk h1 e1, Nat.le_refl _, max_small (by show 1 ≤ 1000; omega), fun h => by cases h⟩⟩
  · rw [List.mem_singleton] at hx
    subst hx
    exact ⟨⟨rfl, lst_blk h2 e2, Nat.le_refl _, max_small (by show 1 ≤ 1000; omega), fun h => by cases h⟩, SlK.none_ _ _ _, SlK.none_ _ _ _⟩
theorem alloc_sz (w : World) (o : Obj) : (w.alloc o).heap.size = w.heap.size + 1 := by simp
/-- five blocks one behind the other -/
theorem five_blk (w : World) (T0 T1 T2 T3 T4 : TypeId) (c0 c1 c2 c3 c4 : Array Value) :
    Blk (((((w.alloc (.cells c0 T0)).alloc (.cells c1 T1)).alloc (.cells c2 T2)).alloc (.cells c3 T3)).alloc (.cells c4 T4)) w.heap.size T0 c0 ∧ Blk (((((w.alloc (.cells c0 T0)).alloc (.cells c1 T1)).alloc (.cells c2 T2)).alloc (.cells c3 T3)).alloc (.cells c4 T4)) (w.heap.size + 1) T1 c1 ∧
    Blk (((((w.alloc (.cells c0 T0)).alloc (.cells c1 T1)).alloc (.cells c2 T2)).alloc (.cells c3 T3)).alloc (.cells c4 T4)) (w.heap.size + 2) T2 c2 ∧ Blk (((((w.alloc (.cells c0 T0)).alloc (.cells c1 T1)).alloc (.cells c2 T2)).alloc (.cells c3 T3)).alloc (.cells c4 T4)) (w.heap.size + 3) T3 c3 ∧
    Blk (((((w.alloc (.cells c0 T0)).alloc (.cells c1 T1)).alloc (.cells c2 T2)).alloc (.cells c3 T3)).alloc (.cells c4 T4)) (w.heap.size + 4) T4 c4 ∧ Below w.heap.size w (((((w.alloc (.cells c0 T0)).alloc (.cells c1 T1)).alloc (.cells c2 T2)).alloc (.cells c3 T3)).alloc (.cells c4 T4)) := by
  have b0 := Blk.new w T0 c0
  have b1 := Blk.new (w.alloc (.cells c0 T0)) T1 c1
  have b2 := Blk.new ((w.alloc (.cells c0 T0)).alloc (.cells c1 T1)) T2 c2
  have b3 := Blk.new (((w.alloc (.cells c0 T0)).alloc (.cells c1 T1)).alloc (.cells c2 T2)) T3 c3
  have b4 := Blk.new ((((w.alloc (.cells c0 T0)).alloc (.cells c1 T1)).alloc (.cells c2 T2)).alloc (.cells c3 T3)) T4 c4
  simp only [alloc_sz] at b1 b2 b3 b4
  have k1 := alloc_below w (.cells c0 T0)
  have k2 := k1.alloc k1.size (.cells c1 T1)
  have k3 := k2.alloc k2.size (.cells c2 T2)
  have k4 := k3.alloc k3.size (.cells c3 T3)
  exact ⟨(((b0.alloc _).alloc _).alloc _).alloc _, ((b1.alloc _).alloc _).alloc _, (b2.alloc _).alloc _, b3.alloc _, b4, k4.alloc k4.size _⟩
theorem xsE_short (N : Nat) : ∀ x ∈ xsE N, x.o.short 450 := fun x hx => by
  rcases List.mem_cons.1 hx with rfl | hx
  · exact ⟨Nat.le_of_ble_eq_true rfl, Nat.le_of_ble_eq_true rfl, Nat.le_of_ble_eq_true rfl⟩
  · rw [List.mem_singleton] at hx
    subst hx
    exact ⟨Nat.le_of_ble_eq_true rfl, Nat.le_of_ble_eq_true rfl, Nat.le_of_ble_eq_true rfl⟩
theorem oQ_fits : oQ.fits := by constructor <;> simp [oQ, Mg.fits]
theorem oT_fits : oT.fits := by constructor <;> simp [oT]
theorem xsE_fits (N : Nat) : ∀ x ∈ xsE N, x.o.fits := fun x hx => by
  rcases List.mem_cons.1 hx with rfl | hx
  · exact oQ_fits
  · rw [List.mem_singleton] at hx
    subst hx
    exact oT_fits
/-- a row built, by an equation -/
theorem wpList_build {P : Program} {w : World} {ops : Array Oper} {rest : List Oper} {o : Oper} {a : Act} {Q : Exit → Act → World → Prop} (hgd : o.guard = none) {t : TypeId} {n : Nat} {es : Array (Nat × Operand)}
    (ho : o.op = .buildSlice t n es) {v : Value} {w' : World} (he : o.op = .buildSlice t n es → (execOp a.eval o).run P w = .ok (.value v) w') (h : wpList P ops Q rest (a.put o.dst v) w') : wpList P ops Q (o :: rest) a w := by
  refine wpList_plain hgd fun K hK => ?_
  unfold Oper.wp
  simp only [he ho, Oper.upon]
  exact hK _ _ h
structure ShutE5 (p : Prop) : Prop where out : p
/-- what the law holds -/
structure ErS (w : World) (N : Nat) (W : World) : Prop where
  bel : Below w.heap.size w W
  st : HeldS (N + 4) 9 (svE N) (xsE N) W
theorem ErS.step {w W W' : World} {N : Nat} (h : ErS w N W) (k : Below W.heap.size W W') : ErS w N W' := ⟨h.bel.trans (k.mono h.bel.size), h.st.step k⟩
set_option maxHeartbeats 8000000 in
theorem stateErrors (i : Int) (w : World) : Calls Try.prog 4 #[.int .i64 i] w fun e w' => e = .returned (.bool true) ∧ Below w.heap.size w w' := by
  go_enter Try.func4, Try.ntmps4
  go_upto_region 2 with (go_at_call 6; refine (alive_s _).mono ?_; rintro e w1 ⟨rfl, hb1⟩)
  go_cut [4] (fun p wx => p = .pointer (some ⟨w1.heap.size + 4, 0, none⟩) ∧ ErS w w1.heap.size wx)
  case first =>
    have HB1 := ShutE5.mk hb1
    clear hb1
    go_wp2_with fail
    go_meet
    obtain ⟨b0, b1, b2, b3, b4, k⟩ := five_blk w1 38 38 43 36 24 (cellsE eM oQ.msgs).toArray (cellsE eM oQ.dead).toArray (cellsE eR oT.rows).toArray (cellsE eO (xsE w1.heap.size)).toArray #[.int .i64 9, .slice (some ⟨w1.heap.size + 3, 0, none⟩) 2 2]
    exact ⟨rfl, HB1.out.trans (k.mono HB1.out.size), b4, objs_of b0 b1 b2 b3 rfl rfl rfl rfl⟩
  case rest =>
    obtain ⟨rfl, hst⟩ := hcut
    have HST := ShutE5.mk hst
    clear hst hb1
    generalize w1.heap.size = N at *
    go_upto_region 3 with fail
    go_cut [5] (fun v wx => ∃ g, v = .slice (some ⟨g, 0, none⟩) 18 18 ∧ Lst wx (fun _ => True) eEf (some ⟨g, 0, none⟩) effE ∧ Below wc.heap.size wc wx)
    case first =>
      go_wp2_with (refine wpList_build rfl (t := 30) (n := 18) rfl (v := .slice (some ⟨wc.heap.size, 0, none⟩) 18 18) (w' := wc.alloc (.cells (cellsE eEf effE).toArray 45)) (fun _ => by kernel_rfl) ?_)
      go_meet
      have hb := Blk.new wc 45 (cellsE eEf effE).toArray
      exact ⟨_, rfl, lst_blk hb rfl, alloc_below _ _⟩
    case rest =>
      obtain ⟨g, rfl, hl, hb2⟩ := hcut
      have HST2 := ShutE5.mk (HST.out.step hb2)
      have HL := ShutE5.mk hl
      clear hl hb2 HST
      go_upto_region 4 with fail
      go_cut [6] (fun v wx => ∃ g2, v = .slice (some ⟨g2, 0, none⟩) 18 18 ∧ Lst wx (fun _ => True) eI (some ⟨g2, 0, none⟩) wantE ∧ Below wc.heap.size wc wx)
      case first =>
        go_wp2_with (refine wpList_build rfl (t := 46) (n := 18) rfl (v := .slice (some ⟨wc.heap.size, 0, none⟩) 18 18) (w' := wc.alloc (.cells (cellsE eI wantE).toArray 3)) (fun _ => by kernel_rfl) ?_)
        go_meet
        have hb := Blk.new wc 3 (cellsE eI wantE).toArray
        exact ⟨_, rfl, lst_blk hb rfl, alloc_below _ _⟩
      case rest =>
        obtain ⟨g2, rfl, hl2, hb3⟩ := hcut
        have HST3 := ShutE5.mk (HST2.out.step hb3)
        have HL1 := ShutE5.mk (HL.out.below hb3)
        have HL2 := ShutE5.mk hl2
        clear hl2 hb3 HST2 HL
        generalize wc = w5 at *
        by_cases hi0 : i < 0
        · go_wp2_with fail
          go_ret
          exact ⟨rfl, HST3.out.bel⟩
        by_cases hi1 : 18 ≤ i
        · go_wp2_with fail
          go_ret
          exact ⟨rfl, HST3.out.bel⟩
        obtain ⟨q, rfl⟩ := Int.eq_ofNat_of_zero_le (show 0 ≤ i by omega)
        have hq : q < 18 := by omega
        have hq2 : (q : Int) < 18 := by omega
        have hr1 := runE ⟨q, hq⟩
        have hr2 := runE2 ⟨q, hq⟩
        have hr3 := fun h => apply_zero (s := stE) (l := [putZ, effE[q]'(by rw [eff_len]; exact hq)]) h
        obtain ⟨b', o', e', _, hw⟩ := HL2.out.atI (j := q) (by rw [want_len]; exact hq)
        injection e' with e'
        injection e' with e1 e2
        subst e1 e2
        rw [Nat.zero_add] at hw
        obtain ⟨b', o', e', hgl, c0, c1, c2, c3, c4, c5, c6, c7, c8, c9, c10, c11, c12⟩ := HL1.out.atEf (j := q) (by rw [eff_len]; exact hq)
        injection e' with e'
        injection e' with e1 e2
        subst e1 e2
        rw [Nat.zero_add] at c0 c1 c2 c3 c4 c5 c6 c7 c8 c9 c10 c11 c12
        have hcall : ∀ W gg, Below w5.heap.size w5 W → Blk W gg 45 (putZ.cells ++ (effE[q]'(by rw [eff_len]; exact hq)).cells) → Calls Try.prog 9 #[.agg #[.int .i64 9, .slice (some ⟨N + 3, 0, none⟩) 2 2], .slice (some ⟨gg, 0, none⟩) 2 2] W (Applied W (applyS stE [putZ, effE[q]'(by rw [eff_len]; exact hq)])) := fun W gg k hg => by
          have := apply_o (c2 := 2) (HST3.out.st.obs.below k) (xsE_short N) (xsE_fits N) 9 (lst_blk (E := eEf) (l := [putZ, effE[q]'(by rw [eff_len]; exact hq)]) hg (by simp [cellsE, eEf])) rfl (by show 2 ≤ 50000; omega)
          exact this
        generalize effE[q]'(by rw [eff_len]; exact hq) = ee at *
        generalize wantE[q]'(by rw [want_len]; exact hq) = wv at *
        generalize applyS stE [putZ, ee] = PP at *
        obtain ⟨k, o, ky, v, en, li, t, ⟨m0, m1, m2, m3, m4, m5⟩⟩ := ee
        simp only at c0 c1 c2 c3 c4 c5 c6 c7 c8 c9 c10 c11 c12
        have d0 := HST3.out.st.blk.cell 0
        have d1 := HST3.out.st.blk.cell 1
        have dl := HST3.out.st.blk.lt
        have hgl2 := block_of_cell hw
        simp only [List.getElem?_toArray, List.getElem?_cons_zero, List.getElem?_cons_succ, svE] at d0 d1
        have HCALL := ShutE5.mk hcall
        have HR1 := ShutE5.mk hr1
        have HR2 := ShutE5.mk hr2
        have HR3 := ShutE5.mk hr3
        have HW := ShutE5.mk hw
        clear hcall hr1 hr2 hr3 HL1 HL2
        have hsb : ∀ W, Below w5.heap.size w5 W → (fun W : World => W.cell? ⟨N + 4, 0, none⟩ = some (.int .i64 9) ∧ W.cell? ⟨N + 4, 1, none⟩ = some (.slice (some ⟨N + 3, 0, none⟩) 2 2) ∧ W.cell? ⟨g, q * 13, none⟩ = some (.int .i64 k) ∧ W.cell? ⟨g, q * 13 + 1, none⟩ = some (.string o) ∧ W.cell? ⟨g, q * 13 + 2, none⟩ = some (.string ky) ∧ W.cell? ⟨g, q * 13 + 3, none⟩ = some (.string v) ∧ W.cell? ⟨g, q * 13 + 4, none⟩ = some (.int .i64 en) ∧ W.cell? ⟨g, q * 13 + 5, none⟩ = some (.int .i64 li) ∧ W.cell? ⟨g, q * 13 + 6, none⟩ = some (.bool t) ∧ W.cell? ⟨g, q * 13 + 7, none⟩ = some (.int .i64 m0) ∧ W.cell? ⟨g, q * 13 + 8, none⟩ = some (.int .i64 m1) ∧ W.cell? ⟨g, q * 13 + 9, none⟩ = some (.int .i64 m2) ∧ W.cell? ⟨g, q * 13 + 10, none⟩ = some (.bool m3) ∧ W.cell? ⟨g, q * 13 + 11, none⟩ = some (.string m4) ∧ W.cell? ⟨g, q * 13 + 12, none⟩ = some (.string m5)) W := fun W hb => ⟨(cell_of_heap (hb.block _ dl) _).trans d0, (cell_of_heap (hb.block _ dl) _).trans d1, (cell_of_heap (hb.block _ hgl) _).trans c0, (cell_of_heap (hb.block _ hgl) _).trans c1, (cell_of_heap (hb.block _ hgl) _).trans c2, (cell_of_heap (hb.block _ hgl) _).trans c3, (cell_of_heap (hb.block _ hgl) _).trans c4, (cell_of_heap (hb.block _ hgl) _).trans c5, (cell_of_heap (hb.block _ hgl) _).trans c6, (cell_of_heap (hb.block _ hgl) _).trans c7, (cell_of_heap (hb.block _ hgl) _).trans c8, (cell_of_heap (hb.block _ hgl) _).trans c9, (cell_of_heap (hb.block _ hgl) _).trans c10, (cell_of_heap (hb.block _ hgl) _).trans c11, (cell_of_heap (hb.block _ hgl) _).trans c12⟩
        go_wp2_with fail
        have b1 := alloc_below w5 (.cells #[.int .i64 0, .slice none 0 0] 24)
        have b2 := alloc_below w5 (.cells #[.int .i64 2, .string ⟨#[116]⟩, .string ⟨#[122]⟩, .string ⟨#[121]⟩, .int .i64 0, .int .i64 0, .bool false, .int .i64 0, .int .i64 0, .int .i64 0, .bool false, .string ⟨#[]⟩, .string ⟨#[]⟩, .int .i64 k, .string o, .string ky, .string v, .int .i64 en, .int .i64 li, .bool t, .int .i64 m0, .int .i64 m1, .int .i64 m2, .bool m3, .string m4, .string m5] 45)
        have hS0 : ShutE5 ((fun W : World => W.cell? ⟨N + 4, 0, none⟩ = some (.int .i64 9) ∧ W.cell? ⟨N + 4, 1, none⟩ = some (.slice (some ⟨N + 3, 0, none⟩) 2 2) ∧ W.cell? ⟨g, q * 13, none⟩ = some (.int .i64 k) ∧ W.cell? ⟨g, q * 13 + 1, none⟩ = some (.string o) ∧ W.cell? ⟨g, q * 13 + 2, none⟩ = some (.string ky) ∧ W.cell? ⟨g, q * 13 + 3, none⟩ = some (.string v) ∧ W.cell? ⟨g, q * 13 + 4, none⟩ = some (.int .i64 en) ∧ W.cell? ⟨g, q * 13 + 5, none⟩ = some (.int .i64 li) ∧ W.cell? ⟨g, q * 13 + 6, none⟩ = some (.bool t) ∧ W.cell? ⟨g, q * 13 + 7, none⟩ = some (.int .i64 m0) ∧ W.cell? ⟨g, q * 13 + 8, none⟩ = some (.int .i64 m1) ∧ W.cell? ⟨g, q * 13 + 9, none⟩ = some (.int .i64 m2) ∧ W.cell? ⟨g, q * 13 + 10, none⟩ = some (.bool m3) ∧ W.cell? ⟨g, q * 13 + 11, none⟩ = some (.string m4) ∧ W.cell? ⟨g, q * 13 + 12, none⟩ = some (.string m5)) w5.drew) := ⟨hsb _ (Below.refl _ _).drew⟩
        have hS1 : ShutE5 ((fun W : World => W.cell? ⟨N + 4, 0, none⟩ = some (.int .i64 9) ∧ W.cell? ⟨N + 4, 1, none⟩ = some (.slice (some ⟨N + 3, 0, none⟩) 2 2) ∧ W.cell? ⟨g, q * 13, none⟩ = some (.int .i64 k) ∧ W.cell? ⟨g, q * 13 + 1, none⟩ = some (.string o) ∧ W.cell? ⟨g, q * 13 + 2, none⟩ = some (.string ky) ∧ W.cell? ⟨g, q * 13 + 3, none⟩ = some (.string v) ∧ W.cell? ⟨g, q * 13 + 4, none⟩ = some (.int .i64 en) ∧ W.cell? ⟨g, q * 13 + 5, none⟩ = some (.int .i64 li) ∧ W.cell? ⟨g, q * 13 + 6, none⟩ = some (.bool t) ∧ W.cell? ⟨g, q * 13 + 7, none⟩ = some (.int .i64 m0) ∧ W.cell? ⟨g, q * 13 + 8, none⟩ = some (.int .i64 m1) ∧ W.cell? ⟨g, q * 13 + 9, none⟩ = some (.int .i64 m2) ∧ W.cell? ⟨g, q * 13 + 10, none⟩ = some (.bool m3) ∧ W.cell? ⟨g, q * 13 + 11, none⟩ = some (.string m4) ∧ W.cell? ⟨g, q * 13 + 12, none⟩ = some (.string m5)) (w5.alloc (.cells #[.int .i64 0, .slice none 0 0] 24)).drew) := ⟨hsb _ b1.drew⟩
        have hS2 : ShutE5 ((fun W : World => W.cell? ⟨N + 4, 0, none⟩ = some (.int .i64 9) ∧ W.cell? ⟨N + 4, 1, none⟩ = some (.slice (some ⟨N + 3, 0, none⟩) 2 2) ∧ W.cell? ⟨g, q * 13, none⟩ = some (.int .i64 k) ∧ W.cell? ⟨g, q * 13 + 1, none⟩ = some (.string o) ∧ W.cell? ⟨g, q * 13 + 2, none⟩ = some (.string ky) ∧ W.cell? ⟨g, q * 13 + 3, none⟩ = some (.string v) ∧ W.cell? ⟨g, q * 13 + 4, none⟩ = some (.int .i64 en) ∧ W.cell? ⟨g, q * 13 + 5, none⟩ = some (.int .i64 li) ∧ W.cell? ⟨g, q * 13 + 6, none⟩ = some (.bool t) ∧ W.cell? ⟨g, q * 13 + 7, none⟩ = some (.int .i64 m0) ∧ W.cell? ⟨g, q * 13 + 8, none⟩ = some (.int .i64 m1) ∧ W.cell? ⟨g, q * 13 + 9, none⟩ = some (.int .i64 m2) ∧ W.cell? ⟨g, q * 13 + 10, none⟩ = some (.bool m3) ∧ W.cell? ⟨g, q * 13 + 11, none⟩ = some (.string m4) ∧ W.cell? ⟨g, q * 13 + 12, none⟩ = some (.string m5)) (w5.alloc (.cells #[.int .i64 2, .string ⟨#[116]⟩, .string ⟨#[122]⟩, .string ⟨#[121]⟩, .int .i64 0, .int .i64 0, .bool false, .int .i64 0, .int .i64 0, .int .i64 0, .bool false, .string ⟨#[]⟩, .string ⟨#[]⟩, .int .i64 k, .string o, .string ky, .string v, .int .i64 en, .int .i64 li, .bool t, .int .i64 m0, .int .i64 m1, .int .i64 m2, .bool m3, .string m4, .string m5] 45)).drew) := ⟨hsb _ b2.drew⟩
        have hS3 : ShutE5 ((fun W : World => W.cell? ⟨N + 4, 0, none⟩ = some (.int .i64 9) ∧ W.cell? ⟨N + 4, 1, none⟩ = some (.slice (some ⟨N + 3, 0, none⟩) 2 2) ∧ W.cell? ⟨g, q * 13, none⟩ = some (.int .i64 k) ∧ W.cell? ⟨g, q * 13 + 1, none⟩ = some (.string o) ∧ W.cell? ⟨g, q * 13 + 2, none⟩ = some (.string ky) ∧ W.cell? ⟨g, q * 13 + 3, none⟩ = some (.string v) ∧ W.cell? ⟨g, q * 13 + 4, none⟩ = some (.int .i64 en) ∧ W.cell? ⟨g, q * 13 + 5, none⟩ = some (.int .i64 li) ∧ W.cell? ⟨g, q * 13 + 6, none⟩ = some (.bool t) ∧ W.cell? ⟨g, q * 13 + 7, none⟩ = some (.int .i64 m0) ∧ W.cell? ⟨g, q * 13 + 8, none⟩ = some (.int .i64 m1) ∧ W.cell? ⟨g, q * 13 + 9, none⟩ = some (.int .i64 m2) ∧ W.cell? ⟨g, q * 13 + 10, none⟩ = some (.bool m3) ∧ W.cell? ⟨g, q * 13 + 11, none⟩ = some (.string m4) ∧ W.cell? ⟨g, q * 13 + 12, none⟩ = some (.string m5)) ((w5.alloc (.cells #[.int .i64 0, .slice none 0 0] 24)).alloc (.cells #[.int .i64 2, .string ⟨#[116]⟩, .string ⟨#[122]⟩, .string ⟨#[121]⟩, .int .i64 0, .int .i64 0, .bool false, .int .i64 0, .int .i64 0, .int .i64 0, .bool false, .string ⟨#[]⟩, .string ⟨#[]⟩, .int .i64 k, .string o, .string ky, .string v, .int .i64 en, .int .i64 li, .bool t, .int .i64 m0, .int .i64 m1, .int .i64 m2, .bool m3, .string m4, .string m5] 45)).drew) := ⟨hsb _ (b1.alloc b1.size _).drew⟩
        have hS4 : ShutE5 ((fun W : World => W.cell? ⟨N + 4, 0, none⟩ = some (.int .i64 9) ∧ W.cell? ⟨N + 4, 1, none⟩ = some (.slice (some ⟨N + 3, 0, none⟩) 2 2) ∧ W.cell? ⟨g, q * 13, none⟩ = some (.int .i64 k) ∧ W.cell? ⟨g, q * 13 + 1, none⟩ = some (.string o) ∧ W.cell? ⟨g, q * 13 + 2, none⟩ = some (.string ky) ∧ W.cell? ⟨g, q * 13 + 3, none⟩ = some (.string v) ∧ W.cell? ⟨g, q * 13 + 4, none⟩ = some (.int .i64 en) ∧ W.cell? ⟨g, q * 13 + 5, none⟩ = some (.int .i64 li) ∧ W.cell? ⟨g, q * 13 + 6, none⟩ = some (.bool t) ∧ W.cell? ⟨g, q * 13 + 7, none⟩ = some (.int .i64 m0) ∧ W.cell? ⟨g, q * 13 + 8, none⟩ = some (.int .i64 m1) ∧ W.cell? ⟨g, q * 13 + 9, none⟩ = some (.int .i64 m2) ∧ W.cell? ⟨g, q * 13 + 10, none⟩ = some (.bool m3) ∧ W.cell? ⟨g, q * 13 + 11, none⟩ = some (.string m4) ∧ W.cell? ⟨g, q * 13 + 12, none⟩ = some (.string m5)) ((w5.alloc (.cells #[.int .i64 2, .string ⟨#[116]⟩, .string ⟨#[122]⟩, .string ⟨#[121]⟩, .int .i64 0, .int .i64 0, .bool false, .int .i64 0, .int .i64 0, .int .i64 0, .bool false, .string ⟨#[]⟩, .string ⟨#[]⟩, .int .i64 k, .string o, .string ky, .string v, .int .i64 en, .int .i64 li, .bool t, .int .i64 m0, .int .i64 m1, .int .i64 m2, .bool m3, .string m4, .string m5] 45)).alloc (.cells #[.int .i64 0, .slice none 0 0] 24)).drew) := ⟨hsb _ (b2.alloc b2.size _).drew⟩
        have HSB := ShutE5.mk hsb
        have B2 := ShutE5.mk b2.drew
        have B3 := ShutE5.mk (b1.alloc b1.size (.cells #[.int .i64 2, .string ⟨#[116]⟩, .string ⟨#[122]⟩, .string ⟨#[121]⟩, .int .i64 0, .int .i64 0, .bool false, .int .i64 0, .int .i64 0, .int .i64 0, .bool false, .string ⟨#[]⟩, .string ⟨#[]⟩, .int .i64 k, .string o, .string ky, .string v, .int .i64 en, .int .i64 li, .bool t, .int .i64 m0, .int .i64 m1, .int .i64 m2, .bool m3, .string m4, .string m5] 45)).drew
        have B4 := ShutE5.mk (b2.alloc b2.size (.cells #[.int .i64 0, .slice none 0 0] 24)).drew
        have E2 := ShutE5.mk (Blk.new w5 45 (#[.int .i64 2, .string ⟨#[116]⟩, .string ⟨#[122]⟩, .string ⟨#[121]⟩, .int .i64 0, .int .i64 0, .bool false, .int .i64 0, .int .i64 0, .int .i64 0, .bool false, .string ⟨#[]⟩, .string ⟨#[]⟩, .int .i64 k, .string o, .string ky, .string v, .int .i64 en, .int .i64 li, .bool t, .int .i64 m0, .int .i64 m1, .int .i64 m2, .bool m3, .string m4, .string m5])).drew
        have z1 : (w5.alloc (.cells #[.int .i64 0, .slice none 0 0] 24)).heap.size = w5.heap.size + 1 := by simp
        have z2 : (w5.alloc (.cells #[.int .i64 2, .string ⟨#[116]⟩, .string ⟨#[122]⟩, .string ⟨#[121]⟩, .int .i64 0, .int .i64 0, .bool false, .int .i64 0, .int .i64 0, .int .i64 0, .bool false, .string ⟨#[]⟩, .string ⟨#[]⟩, .int .i64 k, .string o, .string ky, .string v, .int .i64 en, .int .i64 li, .bool t, .int .i64 m0, .int .i64 m1, .int .i64 m2, .bool m3, .string m4, .string m5] 45)).heap.size = w5.heap.size + 1 := by simp
        have e3 := Blk.new (w5.alloc (.cells #[.int .i64 0, .slice none 0 0] 24)) 45 (#[.int .i64 2, .string ⟨#[116]⟩, .string ⟨#[122]⟩, .string ⟨#[121]⟩, .int .i64 0, .int .i64 0, .bool false, .int .i64 0, .int .i64 0, .int .i64 0, .bool false, .string ⟨#[]⟩, .string ⟨#[]⟩, .int .i64 k, .string o, .string ky, .string v, .int .i64 en, .int .i64 li, .bool t, .int .i64 m0, .int .i64 m1, .int .i64 m2, .bool m3, .string m4, .string m5])
        rw [z1] at e3
        have E3 := ShutE5.mk e3.drew
        have E4 := ShutE5.mk ((Blk.new w5 45 (#[.int .i64 2, .string ⟨#[116]⟩, .string ⟨#[122]⟩, .string ⟨#[121]⟩, .int .i64 0, .int .i64 0, .bool false, .int .i64 0, .int .i64 0, .int .i64 0, .bool false, .string ⟨#[]⟩, .string ⟨#[]⟩, .int .i64 k, .string o, .string ky, .string v, .int .i64 en, .int .i64 li, .bool t, .int .i64 m0, .int .i64 m1, .int .i64 m2, .bool m3, .string m4, .string m5])).alloc (.cells #[.int .i64 0, .slice none 0 0] 24)).drew
        have X3 := ShutE5.mk ((Blk.new w5 24 #[.int .i64 0, .slice none 0 0]).alloc (.cells #[.int .i64 2, .string ⟨#[116]⟩, .string ⟨#[122]⟩, .string ⟨#[121]⟩, .int .i64 0, .int .i64 0, .bool false, .int .i64 0, .int .i64 0, .int .i64 0, .bool false, .string ⟨#[]⟩, .string ⟨#[]⟩, .int .i64 k, .string o, .string ky, .string v, .int .i64 en, .int .i64 li, .bool t, .int .i64 m0, .int .i64 m1, .int .i64 m2, .bool m3, .string m4, .string m5] 45)).drew
        have x4 := Blk.new (w5.alloc (.cells #[.int .i64 2, .string ⟨#[116]⟩, .string ⟨#[122]⟩, .string ⟨#[121]⟩, .int .i64 0, .int .i64 0, .bool false, .int .i64 0, .int .i64 0, .int .i64 0, .bool false, .string ⟨#[]⟩, .string ⟨#[]⟩, .int .i64 k, .string o, .string ky, .string v, .int .i64 en, .int .i64 li, .bool t, .int .i64 m0, .int .i64 m1, .int .i64 m2, .bool m3, .string m4, .string m5] 45)) 24 #[.int .i64 0, .slice none 0 0]
        rw [z2] at x4
        have X4 := ShutE5.mk x4.drew
        clear hsb b1 b2 z1 z2 e3 x4 d0 d1 c0 c1 c2 c3 c4 c5 c6 c7 c8 c9 c10 c11 c12 hw
        go_cut [7, 8] (fun p v wx => ∃ X, p = .pointer (some ⟨X, 0, none⟩) ∧ v = .int .i64 PP.1 ∧ GotS w5 PP X wx)
        case first =>
          refine wp_region_noPanic ?_
          refine wp_region_K (k := 12) (S := (fun W : World => W.cell? ⟨N + 4, 0, none⟩ = some (.int .i64 9) ∧ W.cell? ⟨N + 4, 1, none⟩ = some (.slice (some ⟨N + 3, 0, none⟩) 2 2) ∧ W.cell? ⟨g, q * 13, none⟩ = some (.int .i64 k) ∧ W.cell? ⟨g, q * 13 + 1, none⟩ = some (.string o) ∧ W.cell? ⟨g, q * 13 + 2, none⟩ = some (.string ky) ∧ W.cell? ⟨g, q * 13 + 3, none⟩ = some (.string v) ∧ W.cell? ⟨g, q * 13 + 4, none⟩ = some (.int .i64 en) ∧ W.cell? ⟨g, q * 13 + 5, none⟩ = some (.int .i64 li) ∧ W.cell? ⟨g, q * 13 + 6, none⟩ = some (.bool t) ∧ W.cell? ⟨g, q * 13 + 7, none⟩ = some (.int .i64 m0) ∧ W.cell? ⟨g, q * 13 + 8, none⟩ = some (.int .i64 m1) ∧ W.cell? ⟨g, q * 13 + 9, none⟩ = some (.int .i64 m2) ∧ W.cell? ⟨g, q * 13 + 10, none⟩ = some (.bool m3) ∧ W.cell? ⟨g, q * 13 + 11, none⟩ = some (.string m4) ∧ W.cell? ⟨g, q * 13 + 12, none⟩ = some (.string m5))) (by kernel_rfl) ?_
          refine wpAnyK_take (i := 0) (oi := { dst := some 60, op := Op.load 24 (Operand.tmp 4), type := 24, pos := "law.go:101", after := #[], guard := none }) (v := .agg #[.int .i64 9, .slice (some ⟨N + 3, 0, none⟩) 2 2]) rfl (by kernel_rfl) (by kernel_rfl) (by kernel_rfl) (by kernel_rfl) (by kernel_rfl) (fun _ _ _ h => h) (by decide) (hS0.out) (by rfl) ?_ ?_
          · intro W9 hSw; obtain ⟨s0, s1, s2, s3, s4, s5, s6, s7, s8, s9, s10, s11, s12, s13, s14⟩ := hSw; go_simp
          try simp only [Act.put, List.setIfInBounds_toArray, List.set_cons_zero, List.set_cons_succ]
          refine wpAnyK_takeW (i := 1) (oi := { dst := some 61, op := Op.build 45 #[(0, Operand.const (Value.int IntKind.i64 2)), (1, Operand.const (Value.string { data := #[116] })), (2, Operand.const (Value.string { data := #[122] })), (3, Operand.const (Value.string { data := #[121] }))], type := 45, pos := "law.go:101", after := #[], guard := none }) (v := .agg #[.int .i64 2, .string ⟨#[116]⟩, .string ⟨#[122]⟩, .string ⟨#[121]⟩, .int .i64 0, .int .i64 0, .bool false, .int .i64 0, .int .i64 0, .int .i64 0, .bool false, .string ⟨#[]⟩, .string ⟨#[]⟩]) rfl (by kernel_rfl) (by kernel_rfl) (by kernel_rfl) (fun _ _ _ h => h) (by decide) (hS0.out) (by rfl) ?_ ?_
          · intro W9; go_simp
          try simp only [Act.put, List.setIfInBounds_toArray, List.set_cons_zero, List.set_cons_succ]
          refine wpAnyK_takeW (i := 2) (oi := { dst := some 62, op := Op.move (Operand.tmp 5), type := 30, pos := "law.go:101", after := #[], guard := none }) (v := .slice (some ⟨g, 0, none⟩) 18 18) rfl (by kernel_rfl) (by kernel_rfl) (by kernel_rfl) (fun _ _ _ h => h) (by decide) (hS0.out) (by rfl) ?_ ?_
          · intro W9; go_simp
          try simp only [Act.put, List.setIfInBounds_toArray, List.set_cons_zero, List.set_cons_succ]
          refine wpAnyK_takeW (i := 3) (oi := { dst := some 63, op := Op.move (Operand.tmp 0), type := 3, pos := "law.go:101", after := #[], guard := none }) (v := .int .i64 (q : Int)) rfl (by kernel_rfl) (by kernel_rfl) (by kernel_rfl) (fun _ _ _ h => h) (by decide) (hS0.out) (by rfl) ?_ ?_
          · intro W9; go_simp
          try simp only [Act.put, List.setIfInBounds_toArray, List.set_cons_zero, List.set_cons_succ]
          refine wpAnyK_takeW (i := 4) (oi := { dst := some 64, op := Op.indexAddr 30 (Operand.tmp 62) (Operand.tmp 63), type := 0, pos := "law.go:101", after := #[{ on := 2, ground := Ground.data }, { on := 3, ground := Ground.data }], guard := none }) (v := .pointer (some ⟨g, q * 13, none⟩)) rfl (by kernel_rfl) (by kernel_rfl) (by kernel_rfl) (fun _ _ _ h => h) (by decide) (hS0.out) (by rfl) ?_ ?_
          · intro W9; go_simp
          try simp only [Act.put, List.setIfInBounds_toArray, List.set_cons_zero, List.set_cons_succ]
          refine wpAnyK_take (i := 5) (oi := { dst := some 65, op := Op.load 45 (Operand.tmp 64), type := 45, pos := "law.go:101", after := #[{ on := 4, ground := Ground.data }], guard := none }) (v := .agg #[.int .i64 k, .string o, .string ky, .string v, .int .i64 en, .int .i64 li, .bool t, .int .i64 m0, .int .i64 m1, .int .i64 m2, .bool m3, .string m4, .string m5]) rfl (by kernel_rfl) (by kernel_rfl) (by kernel_rfl) (by kernel_rfl) (by kernel_rfl) (fun _ _ _ h => h) (by decide) (hS0.out) (by rfl) ?_ ?_
          · intro W9 hSw; obtain ⟨s0, s1, s2, s3, s4, s5, s6, s7, s8, s9, s10, s11, s12, s13, s14⟩ := hSw; go_simp
          try simp only [Act.put, List.setIfInBounds_toArray, List.set_cons_zero, List.set_cons_succ]
          refine wpAnyK_two (i := 6) (j := 11) (oi := { dst := some 66, op := Op.buildSlice 30 2 #[(0, Operand.tmp 61), (1, Operand.tmp 65)], type := 30, pos := "law.go:101", after := #[{ on := 1, ground := Ground.data }, { on := 5, ground := Ground.data }], guard := none }) (oj := { dst := some 7, op := Op.alloc 24, type := 0, pos := "law.go:101", after := #[], guard := none }) (E := True) (F := True) (by kernel_rfl) rfl (by rfl) rfl (by rfl) ?_ ?_
          · refine if_exec (by rfl) (v := .slice (some ⟨w5.heap.size, 0, none⟩) 2 2) (w' := (w5.alloc (.cells #[.int .i64 2, .string ⟨#[116]⟩, .string ⟨#[122]⟩, .string ⟨#[121]⟩, .int .i64 0, .int .i64 0, .bool false, .int .i64 0, .int .i64 0, .int .i64 0, .bool false, .string ⟨#[]⟩, .string ⟨#[]⟩, .int .i64 k, .string o, .string ky, .string v, .int .i64 en, .int .i64 li, .bool t, .int .i64 m0, .int .i64 m1, .int .i64 m2, .bool m3, .string m4, .string m5] 45)).drew) (by first | (go_simp; done) | (go_simp; rfl)) ?_
            refine ⟨fun _ _ => hS2.out, ?_⟩
            try simp only [Act.put, List.setIfInBounds_toArray, List.set_cons_zero, List.set_cons_succ]
            refine wpAnyK_two (i := 7) (j := 11) (oi := { dst := some 67, op := Op.call { callee := Callee.value (Operand.func 9), args := #[Operand.tmp 60, Operand.tmp 66], argTypes := #[24, 30] }, type := 28, pos := "law.go:101", after := #[{ on := 0, ground := Ground.data }, { on := 6, ground := Ground.data }], guard := none }) (oj := { dst := some 7, op := Op.alloc 24, type := 0, pos := "law.go:101", after := #[], guard := none }) (E := True) (F := True) (by kernel_rfl) rfl (by rfl) rfl (by rfl) ?_ ?_
            · refine step_call rfl (f := 9) (by go_simp) ((HCALL.out _ _ B2.out E2.out).mono ?_)
              rintro e9 w3 ⟨⟨A3, n3, c3⟩, ys, rfl, hat, hys, hb3⟩
              have HB3 := ShutE5.mk (B2.out.trans (hb3.mono B2.out.size))
              have hS5 : ShutE5 ((fun W : World => W.cell? ⟨N + 4, 0, none⟩ = some (.int .i64 9) ∧ W.cell? ⟨N + 4, 1, none⟩ = some (.slice (some ⟨N + 3, 0, none⟩) 2 2) ∧ W.cell? ⟨g, q * 13, none⟩ = some (.int .i64 k) ∧ W.cell? ⟨g, q * 13 + 1, none⟩ = some (.string o) ∧ W.cell? ⟨g, q * 13 + 2, none⟩ = some (.string ky) ∧ W.cell? ⟨g, q * 13 + 3, none⟩ = some (.string v) ∧ W.cell? ⟨g, q * 13 + 4, none⟩ = some (.int .i64 en) ∧ W.cell? ⟨g, q * 13 + 5, none⟩ = some (.int .i64 li) ∧ W.cell? ⟨g, q * 13 + 6, none⟩ = some (.bool t) ∧ W.cell? ⟨g, q * 13 + 7, none⟩ = some (.int .i64 m0) ∧ W.cell? ⟨g, q * 13 + 8, none⟩ = some (.int .i64 m1) ∧ W.cell? ⟨g, q * 13 + 9, none⟩ = some (.int .i64 m2) ∧ W.cell? ⟨g, q * 13 + 10, none⟩ = some (.bool m3) ∧ W.cell? ⟨g, q * 13 + 11, none⟩ = some (.string m4) ∧ W.cell? ⟨g, q * 13 + 12, none⟩ = some (.string m5)) w3) := ⟨HSB.out _ HB3.out⟩
              have HF3 := ShutE5.mk (GotS.first HB3.out hat hys)
              have hS6 : ShutE5 ((fun W : World => W.cell? ⟨N + 4, 0, none⟩ = some (.int .i64 9) ∧ W.cell? ⟨N + 4, 1, none⟩ = some (.slice (some ⟨N + 3, 0, none⟩) 2 2) ∧ W.cell? ⟨g, q * 13, none⟩ = some (.int .i64 k) ∧ W.cell? ⟨g, q * 13 + 1, none⟩ = some (.string o) ∧ W.cell? ⟨g, q * 13 + 2, none⟩ = some (.string ky) ∧ W.cell? ⟨g, q * 13 + 3, none⟩ = some (.string v) ∧ W.cell? ⟨g, q * 13 + 4, none⟩ = some (.int .i64 en) ∧ W.cell? ⟨g, q * 13 + 5, none⟩ = some (.int .i64 li) ∧ W.cell? ⟨g, q * 13 + 6, none⟩ = some (.bool t) ∧ W.cell? ⟨g, q * 13 + 7, none⟩ = some (.int .i64 m0) ∧ W.cell? ⟨g, q * 13 + 8, none⟩ = some (.int .i64 m1) ∧ W.cell? ⟨g, q * 13 + 9, none⟩ = some (.int .i64 m2) ∧ W.cell? ⟨g, q * 13 + 10, none⟩ = some (.bool m3) ∧ W.cell? ⟨g, q * 13 + 11, none⟩ = some (.string m4) ∧ W.cell? ⟨g, q * 13 + 12, none⟩ = some (.string m5)) (w3.alloc (.cells #[.int .i64 0, .slice none 0 0] 24))) := ⟨HSB.out _ (HB3.out.alloc HB3.out.size _)⟩
              clear hb3 hat
              refine ⟨_, rfl, fun _ _ => hS5.out, ?_⟩
              try simp only [Act.put, List.setIfInBounds_toArray, List.set_cons_zero, List.set_cons_succ]
              refine wpAnyK_takeW (i := 8) (oi := { dst := some 59, op := Op.move (Operand.tmp 67), type := 28, pos := "law.go:101", after := #[{ on := 7, ground := Ground.data }], guard := none }) (v := .tuple #[.agg #[.int .i64 PP.2.next, .slice A3 n3 c3], .int .i64 PP.1]) rfl (by kernel_rfl) (by kernel_rfl) (by kernel_rfl) (fun _ _ _ h => h) (by decide) (hS5.out) (by rfl) ?_ ?_
              · intro W9; go_simp
              try simp only [Act.put, List.setIfInBounds_toArray, List.set_cons_zero, List.set_cons_succ]
              refine wpAnyK_takeW (i := 9) (oi := { dst := some 68, op := Op.extract (Operand.tmp 59) 0, type := 24, pos := "law.go:101", after := #[{ on := 8, ground := Ground.data }], guard := none }) (v := .agg #[.int .i64 PP.2.next, .slice A3 n3 c3]) rfl (by kernel_rfl) (by kernel_rfl) (by kernel_rfl) (fun _ _ _ h => h) (by decide) (hS5.out) (by rfl) ?_ ?_
              · intro W9; go_simp
              try simp only [Act.put, List.setIfInBounds_toArray, List.set_cons_zero, List.set_cons_succ]
              refine wpAnyK_takeW (i := 10) (oi := { dst := some 69, op := Op.extract (Operand.tmp 59) 1, type := 27, pos := "law.go:101", after := #[{ on := 8, ground := Ground.data }, { on := 12, ground := Ground.gcOnly Departure.lateStores }], guard := none }) (v := .int .i64 PP.1) rfl (by kernel_rfl) (by kernel_rfl) (by kernel_rfl) (fun _ _ _ h => h) (by decide) (hS5.out) (by rfl) ?_ ?_
              · intro W9; go_simp
              try simp only [Act.put, List.setIfInBounds_toArray, List.set_cons_zero, List.set_cons_succ]
              refine wpAnyK_one (i := 11) (o := { dst := some 7, op := Op.alloc 24, type := 0, pos := "law.go:101", after := #[], guard := none }) (v := .pointer (some ⟨w3.heap.size, 0, none⟩)) (w' := w3.alloc (.cells #[.int .i64 0, .slice none 0 0] 24)) (by kernel_rfl) rfl (by rfl) (by first | (go_simp; done) | (go_simp; rfl)) (hS6.out) ?_
              try simp only [Act.put, List.setIfInBounds_toArray, List.set_cons_zero, List.set_cons_succ]
              refine wpAnyK_store (i := 12) (o := { dst := none, op := Op.store 24 (Operand.tmp 7) (Operand.tmp 68), type := 0, pos := "law.go:101", after := #[{ on := 11, ground := Ground.data }, { on := 9, ground := Ground.data }, { on := 7, ground := Ground.chain }, { on := 0, ground := Ground.phase }, { on := 1, ground := Ground.phase }, { on := 2, ground := Ground.phase }, { on := 3, ground := Ground.phase }, { on := 4, ground := Ground.phase }, { on := 5, ground := Ground.phase }, { on := 6, ground := Ground.phase }, { on := 7, ground := Ground.phase }, { on := 8, ground := Ground.phase }, { on := 9, ground := Ground.phase }, { on := 10, ground := Ground.textOnly Departure.lateStores }, { on := 11, ground := Ground.phase }], guard := none }) (w' := w3.alloc (.cells #[.int .i64 PP.2.next, .slice A3 n3 c3] 24)) (by kernel_rfl) rfl (by rfl) (by first | (go_simp; done) | (go_simp; rfl)) (by kernel_rfl) ?_
              try simp only [Act.put]
              refine wpAnyK_late (i := 13) (o := { dst := some 8, op := Op.assign (Operand.tmp 69), type := 27, pos := "law.go:101", after := #[{ on := 10, ground := Ground.data }, { on := 12, ground := Ground.chain }, { on := 0, ground := Ground.phase }, { on := 1, ground := Ground.phase }, { on := 2, ground := Ground.phase }, { on := 3, ground := Ground.phase }, { on := 4, ground := Ground.phase }, { on := 5, ground := Ground.phase }, { on := 6, ground := Ground.phase }, { on := 7, ground := Ground.phase }, { on := 8, ground := Ground.phase }, { on := 9, ground := Ground.phase }, { on := 10, ground := Ground.phase }, { on := 11, ground := Ground.phase }, { on := 12, ground := Ground.phase }], guard := none }) (v := .int .i64 PP.1) (w' := w3.alloc (.cells #[.int .i64 PP.2.next, .slice A3 n3 c3] 24)) (by kernel_rfl) rfl (by rfl) (by first | (go_simp; done) | (go_simp; rfl)) (by kernel_rfl) ?_
              try simp only [Act.put, List.setIfInBounds_toArray, List.set_cons_zero, List.set_cons_succ]
              refine wpAnyK_done (by kernel_rfl) ?_ _
              refine NoPanic.normal ?_
              go_wp2_with fail
              go_meet
              exact ⟨_, rfl, rfl, HF3.out⟩
            · refine if_exec (by rfl) (v := .pointer (some ⟨w5.heap.size + 1, 0, none⟩)) (w' := ((w5.alloc (.cells #[.int .i64 2, .string ⟨#[116]⟩, .string ⟨#[122]⟩, .string ⟨#[121]⟩, .int .i64 0, .int .i64 0, .bool false, .int .i64 0, .int .i64 0, .int .i64 0, .bool false, .string ⟨#[]⟩, .string ⟨#[]⟩, .int .i64 k, .string o, .string ky, .string v, .int .i64 en, .int .i64 li, .bool t, .int .i64 m0, .int .i64 m1, .int .i64 m2, .bool m3, .string m4, .string m5] 45)).alloc (.cells #[.int .i64 0, .slice none 0 0] 24)).drew) (by first | (go_simp; done) | (go_simp; rfl)) ?_
              refine ⟨fun _ _ => hS4.out, ?_⟩
              try simp only [Act.put, List.setIfInBounds_toArray, List.set_cons_zero, List.set_cons_succ]
              refine wpAnyK_step (i := 7) (o := { dst := some 67, op := Op.call { callee := Callee.value (Operand.func 9), args := #[Operand.tmp 60, Operand.tmp 66], argTypes := #[24, 30] }, type := 28, pos := "law.go:101", after := #[{ on := 0, ground := Ground.data }, { on := 6, ground := Ground.data }], guard := none }) (E := True) (by kernel_rfl) rfl (by rfl) ?_
              refine step_call rfl (f := 9) (by go_simp) ((HCALL.out _ _ B4.out E4.out).mono ?_)
              rintro e9 w3 ⟨⟨A3, n3, c3⟩, ys, rfl, hat, hys, hb3⟩
              have HB3 := ShutE5.mk (B4.out.trans (hb3.mono B4.out.size))
              have hS5 : ShutE5 ((fun W : World => W.cell? ⟨N + 4, 0, none⟩ = some (.int .i64 9) ∧ W.cell? ⟨N + 4, 1, none⟩ = some (.slice (some ⟨N + 3, 0, none⟩) 2 2) ∧ W.cell? ⟨g, q * 13, none⟩ = some (.int .i64 k) ∧ W.cell? ⟨g, q * 13 + 1, none⟩ = some (.string o) ∧ W.cell? ⟨g, q * 13 + 2, none⟩ = some (.string ky) ∧ W.cell? ⟨g, q * 13 + 3, none⟩ = some (.string v) ∧ W.cell? ⟨g, q * 13 + 4, none⟩ = some (.int .i64 en) ∧ W.cell? ⟨g, q * 13 + 5, none⟩ = some (.int .i64 li) ∧ W.cell? ⟨g, q * 13 + 6, none⟩ = some (.bool t) ∧ W.cell? ⟨g, q * 13 + 7, none⟩ = some (.int .i64 m0) ∧ W.cell? ⟨g, q * 13 + 8, none⟩ = some (.int .i64 m1) ∧ W.cell? ⟨g, q * 13 + 9, none⟩ = some (.int .i64 m2) ∧ W.cell? ⟨g, q * 13 + 10, none⟩ = some (.bool m3) ∧ W.cell? ⟨g, q * 13 + 11, none⟩ = some (.string m4) ∧ W.cell? ⟨g, q * 13 + 12, none⟩ = some (.string m5)) w3) := ⟨HSB.out _ HB3.out⟩
              refine ⟨_, rfl, fun _ _ => hS5.out, ?_⟩
              try simp only [Act.put, List.setIfInBounds_toArray, List.set_cons_zero, List.set_cons_succ]
              have hz3 := X4.out.below hb3 X4.out.lt
              have hle : w5.heap.size ≤ (w5.heap.size + 1) := by omega
              have HF3 := ShutE5.mk (GotS.later HB3.out hz3 hle hat hys)
              have z0 := hz3.cell 0
              have z1 := hz3.cell 1
              have y0 := hz3.frozen 0
              have y1 := hz3.frozen 1
              clear hb3 hat hz3 hle
              refine wpAnyK_takeW (i := 8) (oi := { dst := some 59, op := Op.move (Operand.tmp 67), type := 28, pos := "law.go:101", after := #[{ on := 7, ground := Ground.data }], guard := none }) (v := .tuple #[.agg #[.int .i64 PP.2.next, .slice A3 n3 c3], .int .i64 PP.1]) rfl (by kernel_rfl) (by kernel_rfl) (by kernel_rfl) (fun _ _ _ h => h) (by decide) (hS5.out) (by rfl) ?_ ?_
              · intro W9; go_simp
              try simp only [Act.put, List.setIfInBounds_toArray, List.set_cons_zero, List.set_cons_succ]
              refine wpAnyK_takeW (i := 9) (oi := { dst := some 68, op := Op.extract (Operand.tmp 59) 0, type := 24, pos := "law.go:101", after := #[{ on := 8, ground := Ground.data }], guard := none }) (v := .agg #[.int .i64 PP.2.next, .slice A3 n3 c3]) rfl (by kernel_rfl) (by kernel_rfl) (by kernel_rfl) (fun _ _ _ h => h) (by decide) (hS5.out) (by rfl) ?_ ?_
              · intro W9; go_simp
              try simp only [Act.put, List.setIfInBounds_toArray, List.set_cons_zero, List.set_cons_succ]
              refine wpAnyK_takeW (i := 10) (oi := { dst := some 69, op := Op.extract (Operand.tmp 59) 1, type := 27, pos := "law.go:101", after := #[{ on := 8, ground := Ground.data }, { on := 12, ground := Ground.gcOnly Departure.lateStores }], guard := none }) (v := .int .i64 PP.1) rfl (by kernel_rfl) (by kernel_rfl) (by kernel_rfl) (fun _ _ _ h => h) (by decide) (hS5.out) (by rfl) ?_ ?_
              · intro W9; go_simp
              try simp only [Act.put, List.setIfInBounds_toArray, List.set_cons_zero, List.set_cons_succ]
              refine wpAnyK_store (i := 12) (o := { dst := none, op := Op.store 24 (Operand.tmp 7) (Operand.tmp 68), type := 0, pos := "law.go:101", after := #[{ on := 11, ground := Ground.data }, { on := 9, ground := Ground.data }, { on := 7, ground := Ground.chain }, { on := 0, ground := Ground.phase }, { on := 1, ground := Ground.phase }, { on := 2, ground := Ground.phase }, { on := 3, ground := Ground.phase }, { on := 4, ground := Ground.phase }, { on := 5, ground := Ground.phase }, { on := 6, ground := Ground.phase }, { on := 7, ground := Ground.phase }, { on := 8, ground := Ground.phase }, { on := 9, ground := Ground.phase }, { on := 10, ground := Ground.textOnly Departure.lateStores }, { on := 11, ground := Ground.phase }], guard := none }) (w' := ((w3.setCell ⟨(w5.heap.size + 1), 0, none⟩ (.int .i64 PP.2.next)).setCell ⟨(w5.heap.size + 1), 1, none⟩ (.slice A3 n3 c3))) (by kernel_rfl) rfl (by rfl) (by first | (go_simp; done) | (go_simp; rfl)) (by kernel_rfl) ?_
              try simp only [Act.put]
              refine wpAnyK_late (i := 13) (o := { dst := some 8, op := Op.assign (Operand.tmp 69), type := 27, pos := "law.go:101", after := #[{ on := 10, ground := Ground.data }, { on := 12, ground := Ground.chain }, { on := 0, ground := Ground.phase }, { on := 1, ground := Ground.phase }, { on := 2, ground := Ground.phase }, { on := 3, ground := Ground.phase }, { on := 4, ground := Ground.phase }, { on := 5, ground := Ground.phase }, { on := 6, ground := Ground.phase }, { on := 7, ground := Ground.phase }, { on := 8, ground := Ground.phase }, { on := 9, ground := Ground.phase }, { on := 10, ground := Ground.phase }, { on := 11, ground := Ground.phase }, { on := 12, ground := Ground.phase }], guard := none }) (v := .int .i64 PP.1) (w' := ((w3.setCell ⟨(w5.heap.size + 1), 0, none⟩ (.int .i64 PP.2.next)).setCell ⟨(w5.heap.size + 1), 1, none⟩ (.slice A3 n3 c3))) (by kernel_rfl) rfl (by rfl) (by first | (go_simp; done) | (go_simp; rfl)) (by kernel_rfl) ?_
              try simp only [Act.put, List.setIfInBounds_toArray, List.set_cons_zero, List.set_cons_succ]
              refine wpAnyK_done (by kernel_rfl) ?_ _
              refine NoPanic.normal ?_
              go_wp2_with fail
              go_meet
              exact ⟨_, rfl, rfl, HF3.out⟩
          · refine if_exec (by rfl) (v := .pointer (some ⟨w5.heap.size, 0, none⟩)) (w' := (w5.alloc (.cells #[.int .i64 0, .slice none 0 0] 24)).drew) (by first | (go_simp; done) | (go_simp; rfl)) ?_
            refine ⟨fun _ _ => hS1.out, ?_⟩
            try simp only [Act.put, List.setIfInBounds_toArray, List.set_cons_zero, List.set_cons_succ]
            refine wpAnyK_one (i := 6) (o := { dst := some 66, op := Op.buildSlice 30 2 #[(0, Operand.tmp 61), (1, Operand.tmp 65)], type := 30, pos := "law.go:101", after := #[{ on := 1, ground := Ground.data }, { on := 5, ground := Ground.data }], guard := none }) (v := .slice (some ⟨w5.heap.size + 1, 0, none⟩) 2 2) (w' := ((w5.alloc (.cells #[.int .i64 0, .slice none 0 0] 24)).alloc (.cells #[.int .i64 2, .string ⟨#[116]⟩, .string ⟨#[122]⟩, .string ⟨#[121]⟩, .int .i64 0, .int .i64 0, .bool false, .int .i64 0, .int .i64 0, .int .i64 0, .bool false, .string ⟨#[]⟩, .string ⟨#[]⟩, .int .i64 k, .string o, .string ky, .string v, .int .i64 en, .int .i64 li, .bool t, .int .i64 m0, .int .i64 m1, .int .i64 m2, .bool m3, .string m4, .string m5] 45)).drew) (by kernel_rfl) rfl (by rfl) (by first | (go_simp; done) | (go_simp; rfl)) (hS3.out) ?_
            try simp only [Act.put, List.setIfInBounds_toArray, List.set_cons_zero, List.set_cons_succ]
            refine wpAnyK_step (i := 7) (o := { dst := some 67, op := Op.call { callee := Callee.value (Operand.func 9), args := #[Operand.tmp 60, Operand.tmp 66], argTypes := #[24, 30] }, type := 28, pos := "law.go:101", after := #[{ on := 0, ground := Ground.data }, { on := 6, ground := Ground.data }], guard := none }) (E := True) (by kernel_rfl) rfl (by rfl) ?_
            refine step_call rfl (f := 9) (by go_simp) ((HCALL.out _ _ B3.out E3.out).mono ?_)
            rintro e9 w3 ⟨⟨A3, n3, c3⟩, ys, rfl, hat, hys, hb3⟩
            have HB3 := ShutE5.mk (B3.out.trans (hb3.mono B3.out.size))
            have hS5 : ShutE5 ((fun W : World => W.cell? ⟨N + 4, 0, none⟩ = some (.int .i64 9) ∧ W.cell? ⟨N + 4, 1, none⟩ = some (.slice (some ⟨N + 3, 0, none⟩) 2 2) ∧ W.cell? ⟨g, q * 13, none⟩ = some (.int .i64 k) ∧ W.cell? ⟨g, q * 13 + 1, none⟩ = some (.string o) ∧ W.cell? ⟨g, q * 13 + 2, none⟩ = some (.string ky) ∧ W.cell? ⟨g, q * 13 + 3, none⟩ = some (.string v) ∧ W.cell? ⟨g, q * 13 + 4, none⟩ = some (.int .i64 en) ∧ W.cell? ⟨g, q * 13 + 5, none⟩ = some (.int .i64 li) ∧ W.cell? ⟨g, q * 13 + 6, none⟩ = some (.bool t) ∧ W.cell? ⟨g, q * 13 + 7, none⟩ = some (.int .i64 m0) ∧ W.cell? ⟨g, q * 13 + 8, none⟩ = some (.int .i64 m1) ∧ W.cell? ⟨g, q * 13 + 9, none⟩ = some (.int .i64 m2) ∧ W.cell? ⟨g, q * 13 + 10, none⟩ = some (.bool m3) ∧ W.cell? ⟨g, q * 13 + 11, none⟩ = some (.string m4) ∧ W.cell? ⟨g, q * 13 + 12, none⟩ = some (.string m5)) w3) := ⟨HSB.out _ HB3.out⟩
            refine ⟨_, rfl, fun _ _ => hS5.out, ?_⟩
            try simp only [Act.put, List.setIfInBounds_toArray, List.set_cons_zero, List.set_cons_succ]
            have hz3 := X3.out.below hb3 X3.out.lt
            have hle : w5.heap.size ≤ w5.heap.size := by omega
            have HF3 := ShutE5.mk (GotS.later HB3.out hz3 hle hat hys)
            have z0 := hz3.cell 0
            have z1 := hz3.cell 1
            have y0 := hz3.frozen 0
            have y1 := hz3.frozen 1
            clear hb3 hat hz3 hle
            refine wpAnyK_takeW (i := 8) (oi := { dst := some 59, op := Op.move (Operand.tmp 67), type := 28, pos := "law.go:101", after := #[{ on := 7, ground := Ground.data }], guard := none }) (v := .tuple #[.agg #[.int .i64 PP.2.next, .slice A3 n3 c3], .int .i64 PP.1]) rfl (by kernel_rfl) (by kernel_rfl) (by kernel_rfl) (fun _ _ _ h => h) (by decide) (hS5.out) (by rfl) ?_ ?_
            · intro W9; go_simp
            try simp only [Act.put, List.setIfInBounds_toArray, List.set_cons_zero, List.set_cons_succ]
            refine wpAnyK_takeW (i := 9) (oi := { dst := some 68, op := Op.extract (Operand.tmp 59) 0, type := 24, pos := "law.go:101", after := #[{ on := 8, ground := Ground.data }], guard := none }) (v := .agg #[.int .i64 PP.2.next, .slice A3 n3 c3]) rfl (by kernel_rfl) (by kernel_rfl) (by kernel_rfl) (fun _ _ _ h => h) (by decide) (hS5.out) (by rfl) ?_ ?_
            · intro W9; go_simp
            try simp only [Act.put, List.setIfInBounds_toArray, List.set_cons_zero, List.set_cons_succ]
            refine wpAnyK_takeW (i := 10) (oi := { dst := some 69, op := Op.extract (Operand.tmp 59) 1, type := 27, pos := "law.go:101", after := #[{ on := 8, ground := Ground.data }, { on := 12, ground := Ground.gcOnly Departure.lateStores }], guard := none }) (v := .int .i64 PP.1) rfl (by kernel_rfl) (by kernel_rfl) (by kernel_rfl) (fun _ _ _ h => h) (by decide) (hS5.out) (by rfl) ?_ ?_
            · intro W9; go_simp
            try simp only [Act.put, List.setIfInBounds_toArray, List.set_cons_zero, List.set_cons_succ]
            refine wpAnyK_store (i := 12) (o := { dst := none, op := Op.store 24 (Operand.tmp 7) (Operand.tmp 68), type := 0, pos := "law.go:101", after := #[{ on := 11, ground := Ground.data }, { on := 9, ground := Ground.data }, { on := 7, ground := Ground.chain }, { on := 0, ground := Ground.phase }, { on := 1, ground := Ground.phase }, { on := 2, ground := Ground.phase }, { on := 3, ground := Ground.phase }, { on := 4, ground := Ground.phase }, { on := 5, ground := Ground.phase }, { on := 6, ground := Ground.phase }, { on := 7, ground := Ground.phase }, { on := 8, ground := Ground.phase }, { on := 9, ground := Ground.phase }, { on := 10, ground := Ground.textOnly Departure.lateStores }, { on := 11, ground := Ground.phase }], guard := none }) (w' := ((w3.setCell ⟨w5.heap.size, 0, none⟩ (.int .i64 PP.2.next)).setCell ⟨w5.heap.size, 1, none⟩ (.slice A3 n3 c3))) (by kernel_rfl) rfl (by rfl) (by first | (go_simp; done) | (go_simp; rfl)) (by kernel_rfl) ?_
            try simp only [Act.put]
            refine wpAnyK_late (i := 13) (o := { dst := some 8, op := Op.assign (Operand.tmp 69), type := 27, pos := "law.go:101", after := #[{ on := 10, ground := Ground.data }, { on := 12, ground := Ground.chain }, { on := 0, ground := Ground.phase }, { on := 1, ground := Ground.phase }, { on := 2, ground := Ground.phase }, { on := 3, ground := Ground.phase }, { on := 4, ground := Ground.phase }, { on := 5, ground := Ground.phase }, { on := 6, ground := Ground.phase }, { on := 7, ground := Ground.phase }, { on := 8, ground := Ground.phase }, { on := 9, ground := Ground.phase }, { on := 10, ground := Ground.phase }, { on := 11, ground := Ground.phase }, { on := 12, ground := Ground.phase }], guard := none }) (v := .int .i64 PP.1) (w' := ((w3.setCell ⟨w5.heap.size, 0, none⟩ (.int .i64 PP.2.next)).setCell ⟨w5.heap.size, 1, none⟩ (.slice A3 n3 c3))) (by kernel_rfl) rfl (by rfl) (by first | (go_simp; done) | (go_simp; rfl)) (by kernel_rfl) ?_
            try simp only [Act.put, List.setIfInBounds_toArray, List.set_cons_zero, List.set_cons_succ]
            refine wpAnyK_done (by kernel_rfl) ?_ _
            refine NoPanic.normal ?_
            go_wp2_with fail
            go_meet
            exact ⟨_, rfl, rfl, HF3.out⟩
        case rest =>
          obtain ⟨X, rfl, rfl, ⟨A3, n3, c3⟩, ys, hst, hys, hbw, hX⟩ := hcut
          have hw2 : wc.cell? ⟨g2, q, none⟩ = some (.int .i64 wv) := (cell_of_heap (hbw.block _ hgl2) _).trans HW.out
          have x0 := hst.blk.cell 0
          have x1 := hst.blk.cell 1
          simp only [List.getElem?_toArray, List.getElem?_cons_zero, List.getElem?_cons_succ] at x0 x1
          have hn3 : n3 = PP.2.objs.length := by
            have h1 := hst.obs.row.len
            have h2 := congrArg List.length hys
            simp only [obsOf, List.length_map] at h2
            exact h1.trans h2
          have HBE := ShutE5.mk ((HST3.out.step hbw).bel)
          have hpv : PP.1 = wv := HR1.out
          subst hn3
          have HR2' := HR2
          have HR3' := HR3
          obtain ⟨pn, ps⟩ := PP
          simp only at hpv
          subst hpv
          clear hst hys hbw hX HCALL HR1 HSB B2 B3 B4 E2 E3 E4 X3 X4 hS0 hS1 hS2 hS3 hS4 HW dl hgl hgl2 HST3 HR2 HR3
          by_cases hz : pn = 0
          · have h2 := HR2'.out hz
            simp only at h2 x0 x1
            subst hz
            rw [h2] at x1
            clear HR2' HR3'
            go_wp2_with fail
            go_quiet ((go_at_call 11; exact Calls.quiet_of_same ((num_ _ _).mono fun _ _ h => ⟨h.1, h.2.symm⟩)))
            go_wp2_with (go_at_call 11; refine (num_ _ _).mono ?_; rintro e3 w3 ⟨rfl, rfl⟩)
            go_ret
            exact ⟨rfl, below_drewN HBE.out _⟩
          · have h3 : ps = St.zero := HR3'.out hz
            subst h3
            have hzb : (pn == 0) = false := by simpa using hz
            have hzn : (pn != 0) = true := by simpa using hz
            have x0' : wc.cell? ⟨X, 0, none⟩ = some (.int .i64 0) := x0
            have x1' : wc.cell? ⟨X, 1, none⟩ = some (.slice A3 0 c3) := x1
            clear HR2' HR3' x0 x1
            go_wp2_with fail
            go_quiet ((go_at_call 11; exact Calls.quiet_of_same ((num_ _ _).mono fun _ _ h => ⟨h.1, h.2.symm⟩)))
            go_wp2_with (go_at_call 11; refine (num_ _ _).mono ?_; rintro e3 w3 ⟨rfl, rfl⟩)
            go_ret
            exact ⟨rfl, below_drewN HBE.out _⟩
end Go.Proofs.Ytdjmjckmbclhiaa
