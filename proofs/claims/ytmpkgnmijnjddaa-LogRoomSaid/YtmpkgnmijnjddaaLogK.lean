/- What Append does. -/
import Derived.Test.YtmpkgnmijnjddaaLogL
namespace Go.Proofs.Ytmpkgnmijnjddaa
open Go.RowKit
theorem own_has {W : World} {base : Nat} {v : Value} {n : Nat} {ys : List UInt8} (hown : W.ownsRow base 5 1 v n (cellsB ys)) : ∃ A c, v = .slice A n c ∧ Has W (fun i => base ≤ i ∧ Ty5 W i) A ys ∧ n ≤ c ∧ c ≤ maxLen ∧ (A = none → c = 0) := by
  have hl : ys.length = n := by have := hown.1; rw [cellsB_length] at this; omega
  rcases hown.2 with ⟨rfl, rfl⟩ | ⟨g, cap, cur, rfl, hb, hh, hnc, hcm, hcs, htk⟩
  · exact ⟨none, 0, rfl, fun h => absurd h (by omega), Nat.le_refl _, by unfold maxLen; omega, fun _ => rfl⟩
  · refine ⟨_, cap, rfl, fun _ => ⟨g, 0, rfl, ⟨hb, cur, hh⟩, lt_of_some hh, fun j u hu => ?_⟩, hnc, hcm, fun h => by cases h⟩
    rw [show W.cell? ⟨g, 0 + j, none⟩ = cur[0 + j]? from cell_of_row W g _ cur 5 (0, 0) hh, Nat.zero_add]
    have hj : j < n := by have := (List.getElem?_eq_some_iff.1 hu).1; rw [cellsB_length] at this; omega
    rw [← htk, List.getElem?_take_of_lt (by omega)] at hu
    simpa using hu
def CloneN (w : World) (n : Nat) (xs : List UInt8) (e : Ending) (w' : World) : Prop :=
  ∃ A' c', e = .returned (.slice A' n c') ∧ Has w' (fun i => w.heap.size ≤ i ∧ Ty5 w' i) A' xs ∧ n ≤ c' ∧ c' ≤ maxLen ∧ (A' = none → c' = 0) ∧ Below w.heap.size w w'
set_option maxHeartbeats 400000 in
theorem cloneN_ {w : World} {K : Nat → Prop} {A : Option Addr} {n c : Nat} {xs : List UInt8} (h : Has w K A xs) (hl : xs.length = n) (hn : n ≤ 1000000) (hA : A = none → c = 0) :
    Calls Try.prog 24 #[.slice A n c] w (CloneN w n xs) := by
  have hr := has_rb h hl
  rcases A with _ | a
  · have hc := hA rfl
    have h0 : n = 0 := by
      rcases Nat.eq_zero_or_pos n with h0 | h0
      · exact h0
      · obtain ⟨_, _, h, _⟩ := hr.2 h0
        cases h
    subst hc h0
    have H := Lib.hid h
    have hx : xs = [] := List.eq_nil_of_length_eq_zero hl
    have HX := Lib.hid hx
    clear h hA hr hx hl
    have hnil := fun (W : World) => Lib.run_eql_slice_nil (P := Try.prog) W 30 5 none 0 0 0 0 Try.underlying30
    simp only [Option.isNone_none] at hnil
    go_enter Try.func24, Try.ntmps24
    go_wp2
    go_ret
    exact ⟨none, 0, rfl, by rw [HX.out]; exact Has.nil _ _ _, Nat.le_refl _, by unfold maxLen; omega, fun _ => rfl, Below.refl _ _⟩
  · have hnil := fun (W : World) => Lib.run_eql_slice_nil (P := Try.prog) W 30 5 (some a) n c 0 0 Try.underlying30
    simp only [Option.isNone_some] at hnil
    obtain ⟨v', W', hap, ho, hg, hat⟩ := append_rb (empty_own w w.heap.size (Nat.le_refl _)) (hr.below ((Below.refl _ _).alloc (Nat.le_refl _) (.cells #[] 5))) c (by omega) (by simp)
    rw [List.nil_append, Nat.zero_add] at ho
    obtain ⟨A', c', rfl, hh, h1, h2, h3⟩ := own_has ho
    have hbel : Below w.heap.size w W' := ((Below.refl _ _).alloc (Nat.le_refl _) _).grown hg (by simp) (by intro k hk; simp [Value.ownBlock] at hk; omega)
    have HBE := Lib.hid hbel
    have HR := Lib.hid hh
    have H3 := Lib.hid h3
    clear ho hg hat hbel hr h hA hh hl h3
    go_enter Try.func24, Try.ntmps24
    go_wp2_with (at_builtin; refine wpList_append_run rfl (.tmp 5) (.tmp 6) 30 30 rfl _ _ rfl rfl hap ?_)
    go_ret
    exact ⟨A', c', rfl, HR.out, h1, h2, H3.out, HBE.out⟩
theorem log_dead {w : World} {g gd : Nat} {R : Nat → Prop} {s : St} {L : Lg} (h : LogAt w g gd R s L) : LogAt (w.setCell ⟨g, 5, none⟩ (.bool true)) g gd R s { L with dead := true } ∧ Keep (fun i _ => R i) w (w.setCell ⟨g, 5, none⟩ (.bool true)) := by
  obtain ⟨O, vr, vs, h⟩ := h
  have hk : Keep (fun i _ => i ≠ g) w (w.setCell ⟨g, 5, none⟩ (.bool true)) := (Keep.refl w).setCell (fun _ _ hk => hk rfl) _
  have hR : Keep (fun i _ => R i) w (w.setCell ⟨g, 5, none⟩ (.bool true)) := hk.mono fun i _ _ hi => (h.rO i hi).2.2.1
  refine ⟨⟨O, vr, vs, h.disk.keep hk (fun i _ hi e => h.og (e ▸ hi)), fun i hi => Nat.lt_of_lt_of_le (h.hi i hi) hk.size, ?_, h.og, ?_, h.orr, h.held.keep5 (hR.mono fun _ _ _ hi => hi.1), fun i hi => ⟨Nat.lt_of_lt_of_le (h.rO i hi).1 hk.size, (h.rO i hi).2⟩, h.pf, h.fn, h.nl, h.long⟩, hR⟩
  · simpa using h.head.set_ 5 (.bool true)
  · exact ownsRow_keep (K := fun i _ => i ≠ g) h.rows hk fun i _ hi e => by
      subst e
      rcases h.rows.2 with ⟨hv, _⟩ | ⟨q, cap, cur, hv, _, hq, _⟩
      · rw [hv] at hi; cases hi
      · rw [hv] at hi
        simp [Value.ownBlock] at hi
        subst hi
        exact ne_of_types h.head hq (by decide) rfl
/-- what an Append leaves -/
def AppP (w : World) (g gd : Nat) (R : Nat → Prop) (r : St × Lg × Nat) (e : Ending) (w' : World) : Prop :=
  e = .returned (.int .i64 (r.2.2 : Int)) ∧ (∃ R', (∀ i, R i → R' i) ∧ LogAt w' g gd R' r.1 r.2.1) ∧ Keep (fun i _ => R i) w w'
theorem app_dead {L : Lg} {s : St} {b : List UInt8} (h : L.dead = true) : L.append s b = (s, L, 12) := by simp [Lg.append, h]
theorem app_long {L : Lg} {s : St} {b : List UInt8} (h : L.dead = false) (hf : L.fits b.length = false) : L.append s b = (s, L, 6) := by simp [Lg.append, h, hf]
theorem app_lay {L : Lg} {s s1 : St} {b : List UInt8} (h : L.dead = false) (hf : L.fits b.length = true) (hl : L.lay s b = (s1, true)) : L.append s b = (s1, L.add b, 0) := by simp [Lg.append, h, hf, hl]
theorem app_fail {L : Lg} {s s1 : St} {b : List UInt8} (h : L.dead = false) (hf : L.fits b.length = true) (hl : L.lay s b = (s1, false)) : L.append s b = (s1, { L with dead := true }, 12) := by simp [Lg.append, h, hf, hl]
set_option maxHeartbeats 1000000 in
theorem append_ {w : World} {g gd : Nat} {R : Nat → Prop} {s : St} {L : Lg} (h : LogAt w g gd R s L) (hl : s.lim 500000) {A : Option Addr} {n c : Nat} {b : List UInt8} (hb : Has w R A b) (hn : b.length = n) (hc : n ≤ c) (hA : A = none → c = 0) (hx : n ≤ 1000000) :
    Calls Try.prog 11 #[ptr g, .slice A n c] w (AppP w g gd R (L.append s b)) := by
  obtain ⟨A0, c0, k0, _, _, _, _, k5, kf, _, hpf, hf4, _, _⟩ := h.cells
  have f5 := kf 5
  have H := Lib.hid h
  have HL := Lib.hid hl
  have HB := Lib.hid hb
  have HN := Lib.hid hn
  have HC := Lib.hid hc
  have HA := Lib.hid hA
  have HF := Lib.hid h.fn
  clear h hl hb hn hA kf
  obtain ⟨d, hd⟩ : ∃ d, L.dead = d := ⟨_, rfl⟩
  rw [hd] at k5
  have HD := Lib.hid hd
  clear hd
  cases d
  · have hr : i64r (n : Int) := ⟨by omega, by omega⟩
    have HR := Lib.hid hr
    obtain ⟨f, hf⟩ : ∃ f, L.fits (n : Int) = f := ⟨_, rfl⟩
    have HFT := Lib.hid hf
    clear hf hr
    go_enter Try.func11, Try.ntmps11
    go_wp2_with fail
    refine (fits_ H.out HR.out).mono ?_
    rintro e w1 ⟨rfl, hb1⟩
    rw [HFT.out]
    have HB1 := Lib.hid hb1
    clear hb1
    cases f
    · go_wp2_with fail
      go_ret
      rw [app_long HD.out (by rw [HN.out]; exact HFT.out)]
      exact ⟨rfl, ⟨R, fun _ h => h, H.out.below HB1.out⟩, Keep.of_below HB1.out⟩
    · obtain ⟨s2, b2, hp2⟩ : ∃ s2 b2, L.lay s b = (s2, b2) := ⟨_, _, rfl⟩
      have HP2 := Lib.hid hp2
      clear hp2
      have hnx : L.next n ≤ L.fin := by
        have h1 := (fits_iff.1 HFT.out).2
        have h2 := HF.out.2.1
        rw [Int.toNat_natCast] at h1
        unfold Lg.left at h1
        unfold Lg.next; omega
      have hn2 : n ≤ 262144 := by
        have := need_ge n
        unfold Lg.next at hnx
        omega
      have HNX := Lib.hid hnx
      clear hnx
      go_wp2_with fail
      refine (lay_ (H.out.below HB1.out) HL.out (HB.out.below HB1.out) HN.out HC.out HNX.out).mono ?_
      rintro e w2 ⟨rfl, hl2, hk2⟩
      rw [HP2.out] at hl2 ⊢
      have HL2 := Lib.hid hl2
      have HK2 := Lib.hid ((Keep.of_below HB1.out).trans hk2)
      clear hl2 hk2
      cases b2
      · obtain ⟨_, _, _, _, _, _, _, _, kf2, _⟩ := HL2.out.cells
        have f52 := kf2 5
        have hk5 := HL2.out.cells
        clear kf2
        obtain ⟨_, _, _, _, _, _, _, k52, _⟩ := hk5
        go_wp2_with fail
        go_ret
        rw [app_fail HD.out (by rw [HN.out]; exact HFT.out) HP2.out]
        obtain ⟨h1, h2⟩ := log_dead HL2.out
        exact ⟨rfl, ⟨R, fun _ h => h, h1⟩, HK2.out.trans h2⟩
      · have HB2 := Lib.hid (HB.out.keep HK2.out)
        go_wp2_with fail
        refine (cloneN_ HB2.out HN.out (by omega) HA.out).mono ?_
        rintro e w3 ⟨A3, c3, rfl, hh3, hc3, hm3, hA3, hb3⟩
        have HG3 := Lib.hid (HL2.out.grow hb3)
        have HH3 := Lib.hid (hh3.more (K' := fun i => (R i ∨ w2.heap.size ≤ i ∧ i < w3.heap.size) ∧ Ty5 w3 i) fun _ hi h => ⟨.inr ⟨h.1, hi⟩, h.2⟩)
        have HA3 := Lib.hid hA3
        have HK3 := Lib.hid (HK2.out.trans (Keep.of_below hb3))
        clear hh3 hA3 hb3
        go_wp2_with fail
        refine (add_rec HG3.out HH3.out HN.out hc3 hm3 HA3.out hn2 HNX.out).mono ?_
        rintro e w4 ⟨rfl, hl4, hk4⟩
        have HL4 := Lib.hid hl4
        have HK4 := Lib.hid (HK3.out.trans (hk4.mono fun _ _ _ hi => .inl hi))
        clear hl4 hk4
        go_wp2_with fail
        go_ret
        rw [app_lay HD.out (by rw [HN.out]; exact HFT.out) HP2.out]
        exact ⟨rfl, ⟨_, fun _ h => .inl h, HL4.out⟩, HK4.out⟩
  · go_enter Try.func11, Try.ntmps11
    go_wp2_with fail
    go_ret
    rw [app_dead HD.out]
    exact ⟨rfl, ⟨R, fun _ h => h, H.out⟩, Keep.refl _⟩
end Go.Proofs.Ytmpkgnmijnjddaa
