/- Package grant's Ask. -/
import Derived.Test.YtnjhhndggfjjdaaDoorGqT
set_option maxRecDepth 4000
namespace Go.Proofs.YtnjhhndggfjjdaaDoor
open Go.RowKit
theorem Tab.keep {w w' : World} {Q : Nat → Obj → Prop} (h : Tab w) (k : Keep Q w w') (hb : ∀ o, Q 0 o) : Tab w' := by
  have e : w'.heap[0]? = w.heap[0]? := by
    rw [Array.getElem?_eq_getElem h.lt]
    exact k.block _ _ (Array.getElem?_eq_getElem h.lt) (hb _)
  exact fun p hp => ⟨(cell_of_heap e _).trans (h p hp).1, (cell_of_heap e _).trans (h p hp).2⟩
theorem Lock.below {w w' : World} {b off : Nat} {zn : Zn} {s : Lk} (h : Lock w b off zn s) (k : Below w.heap.size w w') : Lock w' b off zn s := by
  obtain ⟨vH, vL, h2, h1, h3⟩ := h
  exact ⟨vH, vL, h2.below k h2.lt, h1.below k, h3.below k⟩
theorem granted_lock {w w' : World} {b base off : Nat} {zn : Zn} {vH vL : Value} {H L : List Cl} (h : Granted w b off zn vH vL base H w') (hbb : b < base) {H0 : List Cl} (ho : Own w base eC 78 vH H0) (h2 : Two w b off zn vH vL) (hL : Own w base eC 78 vL L) (hsep : ∀ g, vH.ownBlock = some g → vL.ownBlock ≠ some g) :
    Lock w' b off zn (H, L) ∧ Keep (fun i _ => i ≠ b ∧ i < base) w w' := by
  obtain ⟨vH', t, o, _, k⟩ := h
  refine ⟨⟨vH', vL, t, At.own o, ?_⟩, k.mono fun i ob _ hi => ⟨hi.1, fun e => ?_⟩⟩
  · refine At.own (own_keep hL fun g hg => ?_)
    obtain ⟨_, hlt, cur, hc⟩ := own_blk hL hg
    rw [hc]
    exact k.block g _ hc ⟨fun e => by subst e; exact two_ne h2 hL hg, fun e => hsep g e hg⟩
  · have := (own_blk ho e).1
    omega
/-- nobody is there, or somebody is, in this mode -/
theorem cov_zero {q : Nat} (hq : q < 6) : covB 0 q = decide (q = 0) := by
  have : ∀ q : Fin 6, covB 0 q = decide (q.1 = 0) := by decide
  exact this ⟨q, hq⟩
def AskPost (w : World) (b off : Nat) (zn : Zn) (s : Lk) (who : Int) (q : Nat) (e : Ending) (w' : World) : Prop := e = .returned (.bool (askP s who q).1) ∧ Lock w' b off zn (askP s who q).2 ∧ Keep (fun i _ => i ≠ b) w w'
theorem ask_none {s : Lk} {who : Int} {q : Nat} (h : q = 0) : askP s who q = (true, s) := by unfold askP; rw [if_pos h]
theorem ask_waits {s : Lk} {who : Int} {q : Nat} (h : q ≠ 0) (h2 : modeP s.2 who ≠ 0) : askP s who q = (false, s) := by unfold askP; rw [if_neg h, if_pos h2]
theorem ask_has {s : Lk} {who : Int} {q : Nat} (h : q ≠ 0) (h2 : modeP s.2 who = 0) (h3 : covB (modeP s.1 who) q = true) : askP s who q = (true, s) := by unfold askP; rw [if_neg h, if_neg (by simp [h2]), if_pos h3]
theorem ask_granted {s : Lk} {who : Int} {q : Nat} (h : q ≠ 0) (h2 : modeP s.2 who = 0) (h3 : covB (modeP s.1 who) q = false) (h4 : modeP s.1 who ≠ 0 ∨ s.2 = []) (h5 : fitsP s.1 (who, joinN (modeP s.1 who) q) = true) :
    askP s who q = (true, (grantP s.1 (who, joinN (modeP s.1 who) q), s.2)) := by
  unfold askP
  rw [if_neg h, if_neg (by simp [h2]), if_neg (by simp [h3]), if_pos ⟨h4, h5⟩]
theorem ask_wait {s : Lk} {who : Int} {q : Nat} (h : q ≠ 0) (h2 : modeP s.2 who = 0) (h3 : covB (modeP s.1 who) q = false) (h4 : ¬ ((modeP s.1 who ≠ 0 ∨ s.2 = []) ∧ fitsP s.1 (who, joinN (modeP s.1 who) q) = true)) :
    askP s who q = (false, (s.1, waitP s.1 s.2 (who, joinN (modeP s.1 who) q))) := by
  unfold askP
  rw [if_neg h, if_neg (by simp [h2]), if_neg (by simp [h3]), if_neg h4]
theorem keep_base {w w2 w5 w6 : World} {b : Nat} (h : Below w.heap.size w w2) (k : Keep (fun i _ => i ≠ b) w2 w5) (k2 : Keep (fun i _ => i ≠ b ∧ i < w2.heap.size) w5 w6) : Keep (fun i _ => i ≠ b) w w6 := by
  have h1 : Keep (fun i _ => i ≠ b ∧ i < w2.heap.size) w w5 := ((Keep.of_below h).trans k).mono fun _ _ _ hi => hi.1
  exact (h1.trans k2).mono fun i o ho hi => ⟨hi, Nat.lt_of_lt_of_le (lt_of_some ho) h.size⟩
set_option maxHeartbeats 2000000 in
theorem ask_ {w : World} {b off : Nat} {zn : Zn} {s : Lk} (h : Lock w b off zn s) (hok : Ok s) (hn : s.1.length ≤ 10000) (hm : s.2.length ≤ 10000) (hT : Tab w) (hb0 : 0 ≠ b) (who mode : Int) :
    Calls Tryd.prog 22 #[.pointer (some ⟨b, off, none⟩), .int .i64 who, .int .i64 mode] w (AskPost w b off zn s who (mdN mode)) := by
  obtain ⟨H, L⟩ := s
  have hq := mdN_lt mode
  have hc0 := covers_ 0 mode w hT
  rw [show mdN 0 = 0 by decide, cov_zero hq] at hc0
  have HLK := Lib.hid h
  obtain ⟨vH, vL, h2, aH, aL⟩ := h
  have b1 := h2.c1
  have b0 := h2.c0
  have hbs := h2.lt
  have hol := fun W (hb : Below w.heap.size w W) => own_lists (w := W) (h2.below hb hbs) (aH.below hb) (aL.below hb) (by simp only at hn ⊢; omega) (by simp only at hm ⊢; omega)
  obtain ⟨AH, cH, eH, lH, _, _, _⟩ := aH
  obtain ⟨AL, cL, eL, lL, _, _, _⟩ := aL
  simp only at hn hm eH eL lH lL hol
  rw [eH] at b0
  rw [eL] at b1
  have hmL := mode_of (c := cL) lL rfl (by omega) who
  have hmH := fun W (hb : Below w.heap.size w W) => mode_of (w := W) (c := cH) (lH.below hb) rfl (by omega) who
  have hhlt := mode_lt hok.mH who
  have hcv := fun W (hb : Below w.heap.size w W) => covers_ (modeP H who : Int) mode W (hT.below hb)
  have hjn := fun W (hb : Tab W) => join_ (modeP H who : Int) mode W hb
  rw [mdN_of hhlt] at hcv hjn
  have hjlt := joinN_lt hhlt hq
  have a1 : mdN mode = 0 → askP (H, L) who (mdN mode) = (true, (H, L)) := ask_none (s := (H, L))
  have a2 : mdN mode ≠ 0 → modeP L who ≠ 0 → askP (H, L) who (mdN mode) = (false, (H, L)) := ask_waits (s := (H, L))
  have a3 : mdN mode ≠ 0 → modeP L who = 0 → covB (modeP H who) (mdN mode) = true → askP (H, L) who (mdN mode) = (true, (H, L)) := ask_has (s := (H, L))
  have a4 : mdN mode ≠ 0 → modeP L who = 0 → covB (modeP H who) (mdN mode) = false → (modeP H who ≠ 0 ∨ L = []) → fitsP H (who, joinN (modeP H who) (mdN mode)) = true → askP (H, L) who (mdN mode) = (true, (grantP H (who, joinN (modeP H who) (mdN mode)), L)) := ask_granted (s := (H, L))
  have a5 : mdN mode ≠ 0 → modeP L who = 0 → covB (modeP H who) (mdN mode) = false → ¬ ((modeP H who ≠ 0 ∨ L = []) ∧ fitsP H (who, joinN (modeP H who) (mdN mode)) = true) → askP (H, L) who (mdN mode) = (false, (H, waitP H L (who, joinN (modeP H who) (mdN mode)))) := ask_wait (s := (H, L))
  unfold AskPost
  generalize askP (H, L) who (mdN mode) = RES at *
  generalize hcb : covB (modeP H who) (mdN mode) = cb at *
  generalize hjj : joinN (modeP H who) (mdN mode) = jn at *
  generalize hqq : mdN mode = q at *
  generalize modeP H who = has at *
  generalize modeP L who = ml at *
  have A1 := Lib.hid a1
  have A2 := Lib.hid a2
  have A3 := Lib.hid a3
  have A4 := Lib.hid a4
  have A5 := Lib.hid a5
  have HC := Lib.hid hc0
  have HM := Lib.hid hmL
  have HMH := Lib.hid hmH
  have HCV := Lib.hid hcv
  have HJN := Lib.hid hjn
  have HOL := Lib.hid hol
  have H2 := Lib.hid h2
  have HT := Lib.hid hT
  have HOKH := Lib.hid hok.mH
  have HN0 := Lib.hid hn
  have HM0 := Lib.hid hm
  simp only at HOKH
  clear hc0 hok hT hmL hmH hcv lH lL eH eL h2 hcb hjj hqq a1 a2 a3 a4 a5 hjn hol hn hm
  generalize hmm : L.length = m at *
  generalize hnn : H.length = n at *
  have HMM := Lib.hid hmm
  have HNN := Lib.hid hnn
  clear hmm hnn
  go_enter Tryd.func22, Tryd.ntmps22
  go_wp2_with fail
  refine HC.out.mono ?_
  rintro e w' ⟨rfl, rfl⟩
  by_cases hq0 : q = 0
  · have e : decide (q = 0) = true := by simp [hq0]
    rw [e]
    have hr := A1.out hq0
    subst hr
    go_wp2_with fail
    go_ret
    exact ⟨rfl, HLK.out, Keep.refl _⟩
  have e : decide (q = 0) = false := by simp [hq0]
  rw [e]
  have B2 := Lib.hid (A2.out hq0)
  have B3 := Lib.hid (A3.out hq0)
  have B4 := Lib.hid (A4.out hq0)
  have B5 := Lib.hid (A5.out hq0)
  clear A1 A2 A3 A4 A5 e HC
  go_wp2_with fail
  refine HM.out.mono ?_
  rintro e w1 ⟨rfl, hb1⟩
  have HB1 := Lib.hid hb1
  by_cases hl0 : ml ≠ 0
  · have hr := B2.out hl0
    subst hr
    have hne : ¬ ((ml : Int) = 0) := by omega
    clear hb1
    go_wp2_with fail
    go_ret
    exact ⟨rfl, HLK.out.below HB1.out, Keep.of_below HB1.out⟩
  obtain rfl : ml = 0 := by omega
  have C3 := Lib.hid (B3.out rfl)
  have C4 := Lib.hid (B4.out rfl)
  have C5 := Lib.hid (B5.out rfl)
  clear B2 B3 B4 B5 HM
  have p0 := (cell_of_heap (hb1.block b hbs) off).trans b0
  have p1 := (cell_of_heap (hb1.block b hbs) (off + 1)).trans b1
  clear hb1
  go_wp2_with fail
  refine (HMH.out _ HB1.out).mono ?_
  rintro e w2 ⟨rfl, hb2⟩
  have HB2 := Lib.hid (HB1.out.trans (hb2.mono HB1.out.size))
  clear hb2 p0 p1
  go_wp2_with fail
  refine (HCV.out _ HB2.out).mono ?_
  rintro e w3 ⟨rfl, rfl⟩
  cases cb
  rotate_left
  · have hr := C3.out rfl
    subst hr
    go_wp2_with fail
    go_ret
    exact ⟨rfl, HLK.out.below HB2.out, Keep.of_below HB2.out⟩
  have D4 := Lib.hid (C4.out rfl)
  have D5 := Lib.hid (C5.out rfl)
  clear C3 C4 C5 HCV
  go_wp2_with fail
  refine (HOL.out _ HB2.out).mono ?_
  rintro e w3 ⟨rfl, vH3, vL3, t3, o3, o4, sep, k3⟩
  have hbw2 : b < w2.heap.size := Nat.lt_of_lt_of_le hbs HB2.out.size
  have hsz : (w3.alloc (.cells #[.int .i64 who, .int .i64 (jn : Int)] 78)).heap.size = w3.heap.size + 1 := by simp
  have hal := alloc_below w3 (.cells #[.int .i64 who, .int .i64 (jn : Int)] 78)
  have hT3 : Tab w3 := (HT.out.below HB2.out).keep k3 fun _ => hb0
  have t4 := Two.below t3 hal t3.lt
  have o3' := own_keep (W' := w3.alloc (.cells #[.int .i64 who, .int .i64 (jn : Int)] 78)) o3 fun g hg => hal.block g (own_blk o3 hg).2.1
  have o4' := own_keep (W' := w3.alloc (.cells #[.int .i64 who, .int .i64 (jn : Int)] 78)) o4 fun g hg => hal.block g (own_blk o4 hg).2.1
  have k4 : Keep (fun i _ => i ≠ b) w2 (w3.alloc (.cells #[.int .i64 who, .int .i64 (jn : Int)] 78)) := k3.trans (Keep.of_below hal)
  have c0 : (w3.alloc (.cells #[.int .i64 who, .int .i64 (jn : Int)] 78)).cell? ⟨w3.heap.size, 0, none⟩ = some (.int .i64 who) := (Blk.new w3 _ _).cell 0
  have c1 : (w3.alloc (.cells #[.int .i64 who, .int .i64 (jn : Int)] 78)).cell? ⟨w3.heap.size, 1, none⟩ = some (.int .i64 (jn : Int)) := (Blk.new w3 _ _).cell 1
  obtain ⟨A4, c4, e4, _, _, _, _⟩ := own_lst o4'
  have p1 := t4.c1
  rw [e4, HMM.out] at p1
  obtain ⟨A5, c5, e5, l5, _, _, _⟩ := own_lst o3'
  have hfi := fits_lock t4 e5 l5 (by rw [HNN.out]; have := HN0.out; omega) HOKH.out (who, jn) hjlt (hT3.below hal)
  unfold valC at hfi
  have hw4 : w2.heap.size ≤ (w3.alloc (.cells #[.int .i64 who, .int .i64 (jn : Int)] 78)).heap.size := Nat.le_trans k3.size hal.size
  generalize hfv : fitsP H (who, jn) = fv at *
  have HFV := Lib.hid hfv
  have HFI := Lib.hid hfi
  have T3 := Lib.hid hT3
  have T4 := Lib.hid t4
  have O3 := Lib.hid o3'
  have O4 := Lib.hid o4'
  have K4 := Lib.hid k4
  have SEP := Lib.hid sep
  have hLE : L = [] → m = 0 := fun e => by rw [← HMM.out, e]; rfl
  have hLE2 : m = 0 → L = [] := fun e => List.eq_nil_of_length_eq_zero (by rw [HMM.out]; exact e)
  clear hal hT3 t4 o3' o4' k4 sep e4 e5 l5 hfi t3 o3 o4 k3 hfv b0 b1 HMH HOL H2
  go_wp2_with fail
  refine (HJN.out _ T3.out).mono ?_
  rintro e w' ⟨rfl, rfl⟩
  by_cases hh0 : has = 0
  · subst hh0
    by_cases hm0 : m = 0
    · subst hm0
      go_wp2_with fail
      refine HFI.out.mono ?_
      rintro e w5 ⟨rfl, hb5⟩
      have HB5 := Lib.hid hb5
      have d0 := (cell_of_heap (hb5.block w3.heap.size (by rw [hsz]; omega)) 0).trans c0
      have d1 := (cell_of_heap (hb5.block w3.heap.size (by rw [hsz]; omega)) 1).trans c1
      clear hb5 c0 c1
      have T5 := Lib.hid (Two.below T4.out HB5.out T4.out.lt)
      have O5 := Lib.hid (own_keep O3.out fun g hg => HB5.out.block g (own_blk O3.out hg).2.1)
      have P5 := Lib.hid (own_keep O4.out fun g hg => HB5.out.block g (own_blk O4.out hg).2.1)
      have hw5 := Nat.le_trans hw4 HB5.out.size
      cases fv
      · have hg := wait_ (base := w2.heap.size) T5.out hbw2 hw5 O5.out P5.out SEP.out (by rw [HNN.out]; have := HN0.out; omega) (by rw [HMM.out]; have := HM0.out; omega) (who, jn)
        unfold valC at hg
        have HGR := Lib.hid hg
        clear hg
        go_wp2_with fail
        refine HGR.out.mono ?_
        rintro e w6 ⟨rfl, hlk, hk6⟩
        have HLK6 := Lib.hid hlk
        have HK6 := Lib.hid hk6
        clear hlk hk6
        go_wp2_with fail
        go_ret
        rw [D5.out (fun h => by cases h.2)]
        exact ⟨rfl, HLK6.out, keep_base HB2.out (K4.out.trans (Keep.of_below HB5.out)) HK6.out⟩
      · have hg := grant_ (base := w2.heap.size) T5.out O5.out hw5 (by rw [HNN.out]; have := HN0.out; omega) (who, jn)
        unfold valC at hg
        have HGR := Lib.hid hg
        clear hg
        go_wp2_with fail
        refine HGR.out.mono ?_
        rintro e w6 ⟨rfl, hgr⟩
        have hfin := granted_lock hgr hbw2 O5.out T5.out P5.out SEP.out
        have HFIN := Lib.hid hfin
        clear hgr hfin
        go_wp2_with fail
        go_ret
        rw [D4.out (.inr (hLE2 (by simp))) (by simp)]
        exact ⟨rfl, HFIN.out.1, keep_base HB2.out (K4.out.trans (Keep.of_below HB5.out)) HFIN.out.2⟩
    · have hmn : ¬ ((m : Int) = 0) := by omega
      have HB5 := Lib.hid (Below.refl (w3.alloc (.cells #[.int .i64 who, .int .i64 (jn : Int)] 78)).heap.size (w3.alloc (.cells #[.int .i64 who, .int .i64 (jn : Int)] 78)))
      have T5 := Lib.hid (Two.below T4.out HB5.out T4.out.lt)
      have O5 := Lib.hid (own_keep O3.out fun g hg => HB5.out.block g (own_blk O3.out hg).2.1)
      have P5 := Lib.hid (own_keep O4.out fun g hg => HB5.out.block g (own_blk O4.out hg).2.1)
      have hw5 := Nat.le_trans hw4 HB5.out.size
      have hg := wait_ (base := w2.heap.size) T5.out hbw2 hw5 O5.out P5.out SEP.out (by rw [HNN.out]; have := HN0.out; omega) (by rw [HMM.out]; have := HM0.out; omega) (who, jn)
      unfold valC at hg
      have HGR := Lib.hid hg
      clear hg
      go_wp2_with fail
      refine HGR.out.mono ?_
      rintro e w6 ⟨rfl, hlk, hk6⟩
      have HLK6 := Lib.hid hlk
      have HK6 := Lib.hid hk6
      clear hlk hk6
      go_wp2_with fail
      go_ret
      rw [D5.out (fun h => hm0 (hLE (h.1.resolve_left (fun h => h rfl))))]
      exact ⟨rfl, HLK6.out, keep_base HB2.out (K4.out.trans (Keep.of_below HB5.out)) HK6.out⟩
  · have hhn : ¬ ((has : Int) = 0) := by omega
    go_wp2_with fail
    refine HFI.out.mono ?_
    rintro e w5 ⟨rfl, hb5⟩
    have HB5 := Lib.hid hb5
    have d0 := (cell_of_heap (hb5.block w3.heap.size (by rw [hsz]; omega)) 0).trans c0
    have d1 := (cell_of_heap (hb5.block w3.heap.size (by rw [hsz]; omega)) 1).trans c1
    clear hb5 c0 c1
    have T5 := Lib.hid (Two.below T4.out HB5.out T4.out.lt)
    have O5 := Lib.hid (own_keep O3.out fun g hg => HB5.out.block g (own_blk O3.out hg).2.1)
    have P5 := Lib.hid (own_keep O4.out fun g hg => HB5.out.block g (own_blk O4.out hg).2.1)
    have hw5 := Nat.le_trans hw4 HB5.out.size
    cases fv
    · have hg := wait_ (base := w2.heap.size) T5.out hbw2 hw5 O5.out P5.out SEP.out (by rw [HNN.out]; have := HN0.out; omega) (by rw [HMM.out]; have := HM0.out; omega) (who, jn)
      unfold valC at hg
      have HGR := Lib.hid hg
      clear hg
      go_wp2_with fail
      refine HGR.out.mono ?_
      rintro e w6 ⟨rfl, hlk, hk6⟩
      have HLK6 := Lib.hid hlk
      have HK6 := Lib.hid hk6
      clear hlk hk6
      go_wp2_with fail
      go_ret
      rw [D5.out (fun h => by cases h.2)]
      exact ⟨rfl, HLK6.out, keep_base HB2.out (K4.out.trans (Keep.of_below HB5.out)) HK6.out⟩
    · have hg := grant_ (base := w2.heap.size) T5.out O5.out hw5 (by rw [HNN.out]; have := HN0.out; omega) (who, jn)
      unfold valC at hg
      have HGR := Lib.hid hg
      clear hg
      go_wp2_with fail
      refine HGR.out.mono ?_
      rintro e w6 ⟨rfl, hgr⟩
      have hfin := granted_lock hgr hbw2 O5.out T5.out P5.out SEP.out
      have HFIN := Lib.hid hfin
      clear hgr hfin
      go_wp2_with fail
      go_ret
      rw [D4.out (.inl hh0) (by simp)]
      exact ⟨rfl, HFIN.out.1, keep_base HB2.out (K4.out.trans (Keep.of_below HB5.out)) HFIN.out.2⟩
end Go.Proofs.YtnjhhndggfjjdaaDoor
