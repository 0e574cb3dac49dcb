/- . -/
import Derived.Test.YtjfoflbaoceemaaGreatJ19
import Derived.Test.YtjfoflbaoceemaaGreatJ20
import Derived.Test.YtjfoflbaoceemaaGreatJ16
import Derived.BigQuiet
set_option maxRecDepth 4000
namespace Go.Proofs.YtjfoflbaoceemaaGreat
open Go.RowKit
theorem wf_of {x : Int} (h1 : -9223372036854775808 ≤ x) (h2 : x ≤ 9223372036854775807) : Wf x := by
  simp [Wf, Lit.wf, IntKind.min, IntKind.max, IntKind.signed, IntKind.bits]
  omega
theorem ok_all {s : St} {j : Nat} (h : ∀ i, i < j → okAt s i = true) (hj : s.objs.length ≤ j) : (List.range s.objs.length).all (okAt s) = true := by
  rw [List.all_eq_true]
  exact fun i hi => h i (by have := List.mem_range.1 hi; omega)
theorem ok_not {s : St} {j : Nat} (h : okAt s j = false) (hj : j < s.objs.length) : rightS s = false := by
  have : (List.range s.objs.length).all (okAt s) = false := by
    rw [List.all_eq_false]
    exact ⟨j, List.mem_range.2 hj, by simp [h]⟩
  rw [rightS, this, Bool.and_false]
theorem idsTo_succ {l : List Ob} {j : Nat} (h : j < l.length) : idsTo l (j + 1) = idsTo l j ++ idsL l[j].msgs ++ idsL l[j].dead := by
  unfold idsTo
  rw [List.take_succ_eq_append_getElem h, List.flatMap_append]
  simp
theorem idsTo_len {l : List Ob} {n : Nat} (h : ∀ o ∈ l, o.short n) (j : Nat) : (idsTo l j).length ≤ j * (2 * n) := by
  induction j with
  | zero => simp [idsTo]
  | succ j ih =>
    rcases Nat.lt_or_ge j l.length with hj | hj
    · obtain ⟨_, h2, h3⟩ := h _ (List.getElem_mem hj)
      rw [idsTo_succ hj, List.length_append, List.length_append, Nat.add_mul]
      simp only [idsL, List.length_map]
      omega
    · have : idsTo l (j + 1) = idsTo l j := by unfold idsTo; rw [List.take_of_length_le (by omega), List.take_of_length_le hj]
      rw [this, Nat.add_mul]; omega
theorem six_ob {W : World} {g : Nat} {x : ByteArray} {y z : Int} {a b d : Value} (h : Blk W g 77 #[.string x, .int .i64 y, .int .i64 z, a, b, d]) : W.cell? ⟨g, 0, none⟩ = some (.string x) ∧ W.cell? ⟨g, 1, none⟩ = some (.int .i64 y) ∧ W.cell? ⟨g, 2, none⟩ = some (.int .i64 z) ∧ W.cell? ⟨g, 3, none⟩ = some a ∧ W.cell? ⟨g, 4, none⟩ = some b ∧ W.cell? ⟨g, 5, none⟩ = some d := ⟨h.cell 0, h.cell 1, h.cell 2, h.cell 3, h.cell 4, h.cell 5⟩
def RightR (w : World) (s : St) (c0 : Array Value) (k : Nat) (i : Value) (wr : World) : Prop :=
  ∃ j, j + k = s.objs.length ∧ i = .int .i64 (j : Int) ∧ (∀ q, q < j → okAt s q = true) ∧ Met wr (w.heap.size + 1) (idsTo s.objs j) ∧ Below w.heap.size w wr ∧ Blk wr w.heap.size 54 c0
structure ShutR (p : Prop) : Prop where out : p
theorem ob_of {xs : List Oc} {j : Nat} (h : j < (obsOf xs).length) : (obsOf xs)[j] = (xs[j]'(by simpa [obsOf] using h)).o := by simp [obsOf]
set_option maxHeartbeats 4000000 in
theorem right_o {w : World} {K : Nat → Prop} {s : Sv} {xs : List Oc} (h : ObsAt w K s xs) (hs : ∀ x ∈ xs, x.o.short 450) (hft : ∀ x ∈ xs, x.o.fits) (next : Int) :
    Calls Tryz.prog 91 #[.agg #[.int .i64 next, .slice s.a s.n s.c]] w fun e w' => e = .returned (.bool (rightS ⟨next, obsOf xs⟩)) ∧ Below w.heap.size w w' := by
  obtain ⟨A, n, c⟩ := s
  have hln : n = xs.length := h.row.len
  have hol : (obsOf xs).length = n := by rw [hln]; simp [obsOf]
  have hb0 := alloc_below w (.cells #[.int .i64 next, .slice A n c] 54)
  have HB0 := ShutR.mk hb0
  have HX0 := ShutR.mk (Blk.new w 54 #[.int .i64 next, .slice A n c])
  have hmm := @run_makeMap Tryz.prog
  have hcut : rightS ⟨next, obsOf xs⟩ = ((decide (1 ≤ next) && (decide (next ≤ 1099511627776) && decide (n ≤ 20))) && (List.range (obsOf xs).length).all (okAt ⟨next, obsOf xs⟩)) := by rw [← hol]; rfl
  by_cases h1 : next < 1
  · have e : rightS ⟨next, obsOf xs⟩ = false := by rw [hcut, decide_eq_false (show ¬ 1 ≤ next by omega)]; rfl
    rw [e]
    clear hcut e h hs hft hb0 hmm hol hln
    go_enter Tryz.func91, Tryz.ntmps91
    go_wp2_with fail
    go_ret
    exact ⟨rfl, HB0.out⟩
  by_cases h2 : 1099511627776 < next
  · have e : rightS ⟨next, obsOf xs⟩ = false := by rw [hcut, decide_eq_false (show ¬ next ≤ 1099511627776 by omega), Bool.false_and, Bool.and_false]; rfl
    rw [e]
    clear hcut e h hs hft hb0 hmm hol hln
    go_enter Tryz.func91, Tryz.ntmps91
    go_wp2_with fail
    go_ret
    exact ⟨rfl, HB0.out⟩
  have h3' : (20 : Int) < (n : Int) ↔ 20 < n := by omega
  by_cases h3 : 20 < n
  · have e : rightS ⟨next, obsOf xs⟩ = false := by rw [hcut, decide_eq_false (show ¬ n ≤ 20 by omega), Bool.and_false, Bool.and_false]; rfl
    have h4 : (20 : Int) < (n : Int) := by omega
    rw [e]
    clear hcut e h hs hft hb0 hmm hol hln
    go_enter Tryz.func91, Tryz.ntmps91
    go_wp2_with fail
    go_ret
    exact ⟨rfl, HB0.out⟩
  have e : (∀ i, i < (obsOf xs).length → okAt ⟨next, obsOf xs⟩ i = true) → rightS ⟨next, obsOf xs⟩ = true := fun hall => by
    rw [hcut, decide_eq_true (show 1 ≤ next by omega), decide_eq_true (show next ≤ 1099511627776 by omega), decide_eq_true (show n ≤ 20 by omega), ok_all hall (Nat.le_refl _)]; rfl
  have h4 : ¬ (20 : Int) < (n : Int) := by omega
  have hfar : ∀ W, Below w.heap.size w W → ∀ x ∈ xs, OcK W (fun i => i < w.heap.size) x := fun W k x hx => (OcK.more (K' := fun i => i < w.heap.size) (h.all x hx) fun _ hi _ => hi).below k
  have hrow : ∀ W, Below w.heap.size w W → Lst W (fun _ => True) eO A xs := fun W k => (h.row.lst.below k).more fun _ _ _ => trivial
  have hshort : ∀ o ∈ obsOf xs, o.short 450 := fun o ho => by
    obtain ⟨x, hx, rfl⟩ := List.mem_map.1 ho
    exact hs x hx
  have hm20 : n ≤ 20 := by omega
  have HE := ShutR.mk e
  have HF := ShutR.mk hfar
  have HRW := ShutR.mk hrow
  have HSH := ShutR.mk hshort
  have HS := ShutR.mk hs
  have HFT := ShutR.mk hft
  have HLN := ShutR.mk hln
  have HOL := ShutR.mk hol
  obtain ⟨R, hR⟩ : ∃ R, rightS ⟨next, obsOf xs⟩ = R := ⟨_, rfl⟩
  rw [hR]
  have HRR := ShutR.mk hR
  clear hcut e h hs hft hb0 hol hln hfar hrow hshort hR h3' h3
  go_enter Tryz.func91, Tryz.ntmps91
  go_wp2_with fail
  go_loopg [24] n (fun k i wr => RightR w ⟨next, obsOf xs⟩ #[.int .i64 next, .slice A n c] k i wr)
  case atStart =>
    have hm0 := met_new (w.alloc (.cells #[.int .i64 next, .slice A n c] 54))
    rw [show (w.alloc (.cells #[.int .i64 next, .slice A n c] 54)).heap.size = w.heap.size + 1 by simp] at hm0
    exact ⟨0, by have := HOL.out; show 0 + n = (obsOf xs).length; omega, rfl, fun q hq => absurd hq (Nat.not_lt_zero q), hm0, HB0.out.trans ((alloc_below _ _).mono HB0.out.size), HX0.out.alloc _⟩
  case round =>
    obtain ⟨j, hj, rfl, hu, hm, hb, hx⟩ := hrel
    have HJ := ShutR.mk (show j + gk = (obsOf xs).length from hj)
    have HU := ShutR.mk hu
    have HM := ShutR.mk hm
    have HB := ShutR.mk hb
    have HX := ShutR.mk hx
    clear hj hu hm hb hx
    by_cases hlt : j < n
    · have hjx : j < xs.length := by rw [← HLN.out]; exact hlt
      have hjo : j < (obsOf xs).length := by rw [HOL.out]; exact hlt
      have hjn : (j : Int) < (n : Int) := by omega
      obtain ⟨b, o, e', hbb, c0, c1, c2, c3, c4, c5⟩ := (HRW.out _ HB.out).atO hjx
      subst e'
      have hsq := HS.out _ (List.getElem_mem hjx)
      have hfq := HFT.out _ (List.getElem_mem hjx)
      have hoj := ob_of hjo
      have hok : okAt ⟨next, obsOf xs⟩ j = ((j == 0 || match (obsOf xs)[j - 1]? with | some p => decide (cmpS p.name xs[j].o.name < 0) | none => true) && (xs[j].o.right && (freshB (idsTo (obsOf xs) j) xs[j].o.msgs next && freshB (idsTo (obsOf xs) j ++ idsL xs[j].o.msgs) xs[j].o.dead next))) := by
        unfold okAt
        rw [List.getElem?_eq_getElem hjo, hoj]
        rfl
      have hids : idsTo (obsOf xs) (j + 1) = idsTo (obsOf xs) j ++ idsL xs[j].o.msgs ++ idsL xs[j].o.dead := by rw [idsTo_succ hjo, hoj]
      have hil := idsTo_len HSH.out j
      have hro := fun W (k : Below w.heap.size w W) => right_object (HF.out W k _ (List.getElem_mem hjx)).at_ ⟨by have := hsq.1; omega, by have := hsq.2.1; omega, by have := hsq.2.2; omega⟩ (fun m hm => wf_of (hfq.1 m hm).1.1 (hfq.1 m hm).1.2)
      have hf1 := fun W (k : Below w.heap.size w W) (hm : Met W (w.heap.size + 1) (idsTo (obsOf xs) j)) => fresh_ (c := xs[j].m.c) (K := fun i => i < w.heap.size) hm ((HF.out W k _ (List.getElem_mem hjx)).msgs.lst.more fun i _ hi => ⟨hi, by omega⟩) (HF.out W k _ (List.getElem_mem hjx)).msgs.len.symm (by rw [(HF.out W k _ (List.getElem_mem hjx)).msgs.len]; have := hsq.2.1; omega) (by
        have : j ≤ 20 := by omega
        omega) (fun m hm => wf_of (hfq.1 m hm).1.1 (hfq.1 m hm).1.2) next
      have hf2 := fun W (k : Below w.heap.size w W) (hm : Met W (w.heap.size + 1) (idsTo (obsOf xs) j ++ idsL xs[j].o.msgs)) => fresh_ (c := xs[j].d.c) (K := fun i => i < w.heap.size) hm ((HF.out W k _ (List.getElem_mem hjx)).dead.lst.more fun i _ hi => ⟨hi, by omega⟩) (HF.out W k _ (List.getElem_mem hjx)).dead.len.symm (by rw [(HF.out W k _ (List.getElem_mem hjx)).dead.len]; have := hsq.2.2; omega) (by
        have : j ≤ 20 := by omega
        have h5 := hsq.2.1
        rw [List.length_append]
        have h6 : (idsL xs[j].o.msgs).length = xs[j].o.msgs.length := by simp [idsL]
        omega) (fun m hm => wf_of (hfq.2 m hm).1.1 (hfq.2 m hm).1.2) next
      unfold Fresh at hf1 hf2
      have hval : xs[j].o.val xs[j].r.val xs[j].m.val xs[j].d.val = .agg #[.string xs[j].o.name, .int .i64 xs[j].o.kind, .int .i64 xs[j].o.limit, .slice xs[j].r.a xs[j].r.n xs[j].r.c, .slice xs[j].m.a xs[j].m.n xs[j].m.c, .slice xs[j].d.a xs[j].d.n xs[j].d.c] := rfl
      rw [hval] at hro
      have hpm : ∀ i (hi : i < (obsOf xs).length), (obsOf xs)[i].name = (xs[i]'(by simpa [obsOf] using hi)).o.name := fun i hi => by rw [ob_of hi]
      generalize freshB (idsTo (obsOf xs) j) xs[j].o.msgs next = y1 at *
      generalize freshB (idsTo (obsOf xs) j ++ idsL xs[j].o.msgs) xs[j].o.dead next = y2 at *
      generalize xs[j].o.right = y0 at *
      generalize idsL xs[j].o.msgs = i1 at *
      generalize idsL xs[j].o.dead = i2 at *
      generalize xs[j].r.a = ra at *
      generalize xs[j].r.n = rn at *
      generalize xs[j].r.c = rc at *
      generalize xs[j].m.a = ma at *
      generalize xs[j].m.n = mn at *
      generalize xs[j].m.c = mc at *
      generalize xs[j].d.a = da at *
      generalize xs[j].d.n = dn at *
      generalize xs[j].d.c = dc at *
      generalize hnm : xs[j].o.name = nm at *
      generalize xs[j].o.kind = kd at *
      generalize xs[j].o.limit = lm at *
      have HRO := ShutR.mk hro
      have HF1 := ShutR.mk hf1
      have HF2 := ShutR.mk hf2
      have HOK := ShutR.mk hok
      have HIDS := ShutR.mk hids
      have HPM := ShutR.mk hpm
      have k1 := alloc_below wr (.cells #[.string nm, .int .i64 kd, .int .i64 lm, .slice ra rn rc, .slice ma mn mc, .slice da dn dc] 77)
      have HW1 := ShutR.mk (HB.out.trans (k1.mono HB.out.size))
      have HM1 := ShutR.mk (HM.out.below k1)
      have hx1 := HX.out.below k1 HX.out.lt
      have HX1 := ShutR.mk hx1
      have HY1 := ShutR.mk (Blk.new wr 77 #[.string nm, .int .i64 kd, .int .i64 lm, .slice ra rn rc, .slice ma mn mc, .slice da dn dc])
      have d0 := HX.out.cell 0
      have d1 := HX.out.cell 1
      have dl := HX.out.lt
      simp only [List.getElem?_toArray, List.getElem?_cons_zero, List.getElem?_cons_succ] at d0 d1
      have hbm : w.heap.size + 1 < wr.heap.size := HM.out.lt
      clear hro hf1 hf2 hok hids hval hpm k1 hx1 HX HM hjo hoj hsq hfq hil hnm
      rcases Nat.eq_zero_or_pos j with hj0 | hj0
      · have g1 : decide ((0 : Int) < (j : Int)) = false := decide_eq_false (by omega)
        have g2 : decide (0 < j) = false := decide_eq_false (by omega)
        have HUP : ShutR (okAt ⟨next, obsOf xs⟩ j = (y0 && (y1 && y2))) := ⟨by rw [HOK.out, hj0]; rfl⟩
        have G1 := ShutR.mk g1
        have G2 := ShutR.mk g2
        clear hj0 g1 g2
        go_wp2_with fail
        have g1 := G1.out
        have g2 := G2.out
        go_quiet (fail)
        have HW5 := ShutR.mk (below_drewN HW1.out nq)
        have HM5 := ShutR.mk (show Met ((wr.alloc (.cells #[.string nm, .int .i64 kd, .int .i64 lm, .slice ra rn rc, .slice ma mn mc, .slice da dn dc] 77)).drewN nq) (w.heap.size + 1) (idsTo (obsOf xs) j) from HM1.out)
        have HX5 := ShutR.mk (show Blk ((wr.alloc (.cells #[.string nm, .int .i64 kd, .int .i64 lm, .slice ra rn rc, .slice ma mn mc, .slice da dn dc] 77)).drewN nq) w.heap.size 54 #[.int .i64 next, .slice (some ⟨b, o, none⟩) n c] from HX1.out)
        have HY5 := ShutR.mk (show Blk ((wr.alloc (.cells #[.string nm, .int .i64 kd, .int .i64 lm, .slice ra rn rc, .slice ma mn mc, .slice da dn dc] 77)).drewN nq) wr.heap.size 77 #[.string nm, .int .i64 kd, .int .i64 lm, .slice ra rn rc, .slice ma mn mc, .slice da dn dc] from HY1.out)
        generalize (wr.alloc (.cells #[.string nm, .int .i64 kd, .int .i64 lm, .slice ra rn rc, .slice ma mn mc, .slice da dn dc] 77)).drewN nq = w5 at *
        obtain ⟨q0, q1, q2, q3, q4, q5⟩ := six_ob HY5.out
        clear HW1 HM1 HX1 HY1 d0 d1 dl c0 c1 c2 c3 c4 c5
        go_wp2_with fail
        refine (HRO.out _ HW5.out).mono ?_
        rintro e6 w6 ⟨rfl, hb6⟩
        have HW6 := ShutR.mk (HW5.out.trans (hb6.mono HW5.out.size))
        have HM6 := ShutR.mk (HM5.out.below hb6)
        have HX6 := ShutR.mk (HX5.out.below hb6 HX5.out.lt)
        have HY6 := ShutR.mk (HY5.out.below hb6 HY5.out.lt)
        obtain ⟨r0, r1, r2, r3, r4, r5⟩ := six_ob HY6.out
        have s0 := HX6.out.cell 0
        simp only [List.getElem?_toArray, List.getElem?_cons_zero] at s0
        clear hb6 q0 q1 q2 q3 q4 q5 HM5 HX5 HY5 HRO
        cases y0
        · have hf := ok_not (by rw [HUP.out]; rfl) (show j < (obsOf xs).length by have := HOL.out; omega)
          rw [HRR.out] at hf
          subst hf
          go_wp2_with fail
          go_ret
          exact ⟨rfl, HW6.out⟩
        go_wp2_with fail
        refine (HF1.out _ HW6.out HM6.out).mono ?_
        rintro e7 w7 ⟨rfl, hm7, hk7⟩
        have HW7 := ShutR.mk (HW6.out.trans (hk7.below HW6.out.size fun i _ hi => by omega))
        have HX7 := ShutR.mk (HX6.out.keep hk7 (by omega))
        have HY7 := ShutR.mk (HY6.out.keep hk7 (by have := HB.out.size; have := hbm; omega))
        obtain ⟨t0, t1, t2, t3, t4, t5⟩ := six_ob HY7.out
        have u0 := HX7.out.cell 0
        simp only [List.getElem?_toArray, List.getElem?_cons_zero] at u0
        have HM7 := ShutR.mk hm7
        clear hm7 hk7 r0 r1 r2 r3 r4 r5 s0 HM6 HX6 HY6 HF1
        cases y1
        · have hf := ok_not (by rw [HUP.out]; rfl) (show j < (obsOf xs).length by have := HOL.out; omega)
          rw [HRR.out] at hf
          subst hf
          go_wp2_with fail
          go_ret
          exact ⟨rfl, HW7.out⟩
        have hm72 := HM7.out (by simp)
        go_wp2_with fail
        refine (HF2.out _ HW7.out hm72).mono ?_
        rintro e8 w8 ⟨rfl, hm8, hk8⟩
        have HW8 := ShutR.mk (HW7.out.trans (hk8.below HW7.out.size fun i _ hi => by omega))
        have HX8 := ShutR.mk (HX7.out.keep hk8 (by omega))
        have HM8 := ShutR.mk hm8
        clear hm8 hk8 hm72 t0 t1 t2 t3 t4 t5 u0 HM7 HX7 HY7 HF2
        cases y2
        · have hf := ok_not (by rw [HUP.out]; rfl) (show j < (obsOf xs).length by have := HOL.out; omega)
          rw [HRR.out] at hf
          subst hf
          go_wp2_with fail
          go_ret
          exact ⟨rfl, HW8.out⟩
        have HN : ShutR (∀ q, q < j + 1 → okAt ⟨next, obsOf xs⟩ q = true) := ⟨fun q hq => by
          rcases Nat.lt_or_ge q j with h5 | h5
          · exact HU.out q h5
          · obtain rfl : q = j := by omega
            rw [HUP.out]; rfl⟩
        go_wp2_with fail
        go_roundg (n - (j + 1))
        case measure => have := HJ.out; have := HOL.out; omega
        case rel => exact ⟨j + 1, by have := HOL.out; have := HJ.out; show j + 1 + (n - (j + 1)) = (obsOf xs).length; omega, by go_num, HN.out, by rw [HIDS.out]; exact HM8.out (by simp), HW8.out, HX8.out⟩
      · obtain ⟨i, hi⟩ : ∃ i, j = i + 1 := ⟨j - 1, by omega⟩
        have hix : i < xs.length := by omega
        have hio : i < (obsOf xs).length := by have := HOL.out; omega
        have hin2 : (i : Int) < (n : Int) := by omega
        have hin3 : (i : Int) ≤ (n : Int) := by omega
        have hin0 : (0 : Int) ≤ (i : Int) := by omega
        have hwj : IntKind.i64.wrap ((j : Int) - 1) = (i : Int) := by rw [IntKind.wrap_i64]; omega
        obtain ⟨b2, o2, e2, hbb2, f0, f1, f2, f3, f4, f5⟩ := (HRW.out _ HB.out).atO hix
        injection e2 with e2
        injection e2 with e3 e4
        subst e3 e4
        have hup2 : okAt ⟨next, obsOf xs⟩ j = (decide (cmpS xs[i].o.name nm < 0) && (y0 && (y1 && y2))) := by
          rw [HOK.out, show j - 1 = i by omega, List.getElem?_eq_getElem hio, show (j == 0) = false by simp; omega, ← HPM.out i hio]; rfl
        have HUP2 := ShutR.mk hup2
        have g1 : decide ((0 : Int) < (j : Int)) = true := decide_eq_true (by omega)
        have g2 : decide (0 < j) = true := decide_eq_true hj0
        have hk : ∀ W : World, Calls Tryz.prog 140 #[.string xs[i].o.name, .string nm] W fun e w' => e = .returned (.int .i64 (cmpS xs[i].o.name nm)) ∧ W = w' := fun W => keys_ _ _ W
        generalize cmpS xs[i].o.name nm = zc at *
        generalize xs[i].o.name = nm2 at *
        have HK := ShutR.mk hk
        clear hk hup2 f1 f2 f3 f4 f5 hix hio
        by_cases hc : zc < 0
        · have g3 : decide (0 ≤ zc) = false := decide_eq_false (by omega)
          have HUP : ShutR (okAt ⟨next, obsOf xs⟩ j = (y0 && (y1 && y2))) := ⟨by rw [HUP2.out, decide_eq_true hc]; rfl⟩
          have HI := ShutR.mk hi
          clear hi
          go_wp2_with fail
          go_quiet ((go_at_call 140; exact Calls.quiet_of_same ((HK.out _).mono fun _ _ h => ⟨h.1, h.2.symm⟩)))
          have HW5 := ShutR.mk (below_drewN HW1.out nq)
          have HM5 := ShutR.mk (show Met ((wr.alloc (.cells #[.string nm, .int .i64 kd, .int .i64 lm, .slice ra rn rc, .slice ma mn mc, .slice da dn dc] 77)).drewN nq) (w.heap.size + 1) (idsTo (obsOf xs) j) from HM1.out)
          have HX5 := ShutR.mk (show Blk ((wr.alloc (.cells #[.string nm, .int .i64 kd, .int .i64 lm, .slice ra rn rc, .slice ma mn mc, .slice da dn dc] 77)).drewN nq) w.heap.size 54 #[.int .i64 next, .slice (some ⟨b, o, none⟩) n c] from HX1.out)
          have HY5 := ShutR.mk (show Blk ((wr.alloc (.cells #[.string nm, .int .i64 kd, .int .i64 lm, .slice ra rn rc, .slice ma mn mc, .slice da dn dc] 77)).drewN nq) wr.heap.size 77 #[.string nm, .int .i64 kd, .int .i64 lm, .slice ra rn rc, .slice ma mn mc, .slice da dn dc] from HY1.out)
          generalize (wr.alloc (.cells #[.string nm, .int .i64 kd, .int .i64 lm, .slice ra rn rc, .slice ma mn mc, .slice da dn dc] 77)).drewN nq = w5 at *
          obtain ⟨q0, q1, q2, q3, q4, q5⟩ := six_ob HY5.out
          clear HK f0 HW1 HM1 HX1 HY1 d0 d1 dl c0 c1 c2 c3 c4 c5
          go_wp2_with fail
          refine (HRO.out _ HW5.out).mono ?_
          rintro e6 w6 ⟨rfl, hb6⟩
          have HW6 := ShutR.mk (HW5.out.trans (hb6.mono HW5.out.size))
          have HM6 := ShutR.mk (HM5.out.below hb6)
          have HX6 := ShutR.mk (HX5.out.below hb6 HX5.out.lt)
          have HY6 := ShutR.mk (HY5.out.below hb6 HY5.out.lt)
          obtain ⟨r0, r1, r2, r3, r4, r5⟩ := six_ob HY6.out
          have s0 := HX6.out.cell 0
          simp only [List.getElem?_toArray, List.getElem?_cons_zero] at s0
          clear hb6 q0 q1 q2 q3 q4 q5 HM5 HX5 HY5 HRO
          cases y0
          · have hf := ok_not (by rw [HUP.out]; rfl) (show j < (obsOf xs).length by have := HOL.out; omega)
            rw [HRR.out] at hf
            subst hf
            go_wp2_with fail
            go_ret
            exact ⟨rfl, HW6.out⟩
          go_wp2_with fail
          refine (HF1.out _ HW6.out HM6.out).mono ?_
          rintro e7 w7 ⟨rfl, hm7, hk7⟩
          have HW7 := ShutR.mk (HW6.out.trans (hk7.below HW6.out.size fun i _ hi => by omega))
          have HX7 := ShutR.mk (HX6.out.keep hk7 (by omega))
          have HY7 := ShutR.mk (HY6.out.keep hk7 (by have := HB.out.size; have := hbm; omega))
          obtain ⟨t0, t1, t2, t3, t4, t5⟩ := six_ob HY7.out
          have u0 := HX7.out.cell 0
          simp only [List.getElem?_toArray, List.getElem?_cons_zero] at u0
          have HM7 := ShutR.mk hm7
          clear hm7 hk7 r0 r1 r2 r3 r4 r5 s0 HM6 HX6 HY6 HF1
          cases y1
          · have hf := ok_not (by rw [HUP.out]; rfl) (show j < (obsOf xs).length by have := HOL.out; omega)
            rw [HRR.out] at hf
            subst hf
            go_wp2_with fail
            go_ret
            exact ⟨rfl, HW7.out⟩
          have hm72 := HM7.out (by simp)
          go_wp2_with fail
          refine (HF2.out _ HW7.out hm72).mono ?_
          rintro e8 w8 ⟨rfl, hm8, hk8⟩
          have HW8 := ShutR.mk (HW7.out.trans (hk8.below HW7.out.size fun i _ hi => by omega))
          have HX8 := ShutR.mk (HX7.out.keep hk8 (by omega))
          have HM8 := ShutR.mk hm8
          clear hm8 hk8 hm72 t0 t1 t2 t3 t4 t5 u0 HM7 HX7 HY7 HF2
          cases y2
          · have hf := ok_not (by rw [HUP.out]; rfl) (show j < (obsOf xs).length by have := HOL.out; omega)
            rw [HRR.out] at hf
            subst hf
            go_wp2_with fail
            go_ret
            exact ⟨rfl, HW8.out⟩
          have HN : ShutR (∀ q, q < j + 1 → okAt ⟨next, obsOf xs⟩ q = true) := ⟨fun q hq => by
            rcases Nat.lt_or_ge q j with h5 | h5
            · exact HU.out q h5
            · obtain rfl : q = j := by omega
              rw [HUP.out]; rfl⟩
          go_wp2_with fail
          go_roundg (n - (j + 1))
          case measure => have := HJ.out; have := HOL.out; omega
          case rel => exact ⟨j + 1, by have := HOL.out; have := HJ.out; show j + 1 + (n - (j + 1)) = (obsOf xs).length; omega, by go_num, HN.out, by rw [HIDS.out]; exact HM8.out (by simp), HW8.out, HX8.out⟩
        · have g3 : decide (0 ≤ zc) = true := decide_eq_true (by omega)
          have hf := ok_not (by rw [HUP2.out, decide_eq_false hc]; rfl) (show j < (obsOf xs).length by have := HOL.out; omega)
          rw [HRR.out] at hf
          subst hf
          have HI := ShutR.mk hi
          clear hi
          go_wp2_with fail
          go_quiet ((go_at_call 140; exact Calls.quiet_of_same ((HK.out _).mono fun _ _ h => ⟨h.1, h.2.symm⟩)))
          go_wp2_with fail
          go_ret
          exact ⟨rfl, below_drewN HW1.out _⟩
    · have ht : R = true := by
        rw [← HRR.out]
        exact HE.out fun i hi => HU.out i (by have := HOL.out; omega)
      subst ht
      have hjn : ¬ (j : Int) < (n : Int) := by omega
      go_wp2_with fail
      go_ret
      exact ⟨rfl, HB.out⟩
end Go.Proofs.YtjfoflbaoceemaaGreat
