/- What LogRoom answers. -/
import Derived.Test.YtmpkgnmijnjddaaLogV
import Derived.Test.YtmpkgnmijnjddaaOpens
namespace Go.Proofs.Ytmpkgnmijnjddaa
open Go.RowKit
theorem Ints.at_ {w w' : World} {A : Option Addr} {n : Nat} {zs : List Int} (h : Ints w A n zs) (k : Below w.heap.size w w') {j : Nat} (hj : j < n) : ∃ b o z, A = some ⟨b, o, none⟩ ∧ zs[j]? = some z ∧ w'.cell? ⟨b, o + j, none⟩ = some (.int .i64 z) := by
  obtain ⟨b, o, e, _, hc⟩ := (h.below k).2 (by omega)
  obtain ⟨z, hz⟩ := at_of_lt zs j (by rw [h.1]; exact hj)
  exact ⟨b, o, z, e, hz, hc j z hz⟩
/-- a log on a disk that never breaks, behind k Appends at most -/
def Calm (m : Nat) (s : St) (L : Lg) (k : Nat) : Prop := L.dead = false ∧ s.ok ∧ s.l = [] ∧ s.ends = false ∧ L.p ≤ L.fin ∧ L.fin ≤ m ∧ s.n = m ∧ s.lim k
theorem calm_append {m k n : Nat} {s : St} {L : Lg} {b : List UInt8} (h : Calm m s L k) (hb : b.length ≤ n) : (L.fits b.length = false ∧ L.append s b = (s, L, 6)) ∨ (L.fits b.length = true ∧ ∃ s1, L.append s b = (s1, L.add b, 0) ∧ Calm m s1 (L.add b) (k + (need n + 2))) := by
  obtain ⟨h1, h2, h3, h4, h5, h6, h7, h8⟩ := h
  have hnb : need b.length ≤ need n := by unfold need; omega
  have ha := append_all (m := k) (b := b) h1 h2 h3 h5 (by rw [h7]; exact h6) h8
  revert ha
  generalize L.append s b = r
  intro ha
  cases ha with
  | long h => exact .inl ⟨h, rfl⟩
  | fail _ he => rw [h4] at he; cases he
  | ok hf a1 a2 a3 a4 a5 a6 =>
    have := fits_next h5 hf
    exact .inr ⟨hf, _, rfl, h1, a1, a4, a3.trans h4, this, h6, a2.trans h7, lim_mono a6 (by omega)⟩
theorem calm_mono {m k k' : Nat} {s : St} {L : Lg} (h : Calm m s L k) (hk : k ≤ k') : Calm m s L k' := ⟨h.1, h.2.1, h.2.2.1, h.2.2.2.1, h.2.2.2.2.1, h.2.2.2.2.2.1, h.2.2.2.2.2.2.1, lim_mono h.2.2.2.2.2.2.2 hk⟩
theorem calm_new {m : Nat} {e : Int} (hm : m ≤ 4096) : Calm m (St.new m) (lg0 e 0 m) 0 := ⟨rfl, St.ok.new hm, rfl, rfl, by simp [lg0], by simp [lg0], St.n_new m, new_lim m 0⟩
/-- what fits, and what does not -/
theorem room_more {L : Lg} {k more : Nat} (hk : k = (L.left - 1) * 64) (hm : 0 < more) : L.fits ((k + more : Nat) : Int) = false := by
  have : ¬ (1 + need (k + more) ≤ L.left) := by unfold need; omega
  simp only [Lg.fits, Int.toNat_natCast, decide_eq_false this, Bool.and_false]
theorem room_fits {L : Lg} {k : Nat} (hk : k = (L.left - 1) * 64) (h0 : 0 < k) : L.fits (k : Int) = true := fits_iff.2 ⟨by omega, by rw [Int.toNat_natCast]; unfold need; omega⟩
def RoomRel (w : World) (g gd m : Nat) (n : Nat) (k : Nat) (i : Value) (wr : World) : Prop :=
  ∃ (j : Nat) (L : Lg) (R : Nat → Prop) (s : St), j + k = n ∧ i = .int .i64 (j : Int) ∧ LogAt wr g gd R s L ∧ Calm m s L (13 * j) ∧ (∀ i, i < w.heap.size → R i) ∧ Below w.heap.size w wr
set_option maxRecDepth 100000 in
set_option maxHeartbeats 4000000 in
theorem logRoom (n : Int) (A : Option Addr) (len c : Nat) (zs : List Int) (more : Int) (w : World) (hz : Ints w A len zs) (hc : len ≤ 9223372036854775807) :
    Calls Try.prog 4 #[.int .i64 n, .slice A len c, .int .i64 more] w fun e w' => e = .returned (.bool true) ∧ Below w.heap.size w w' := by
  by_cases h : 2 ≤ n ∧ n ≤ 50 ∧ len ≤ 10 ∧ 0 ≤ more ∧ more ≤ 5
  · obtain ⟨h0, h1, h2, h3, h4⟩ := h
    obtain ⟨m, rfl⟩ := Int.eq_ofNat_of_zero_le (show 0 ≤ n by omega)
    obtain ⟨q, rfl⟩ := Int.eq_ofNat_of_zero_le h3
    have HZ := Lib.hid hz
    clear hz
    go_enter Try.func4, Try.ntmps4
    go_wp2_with fail
    refine (alive w).mono ?_
    rintro e w1 ⟨rfl, hb1⟩
    have HB1 := Lib.hid hb1
    clear hb1
    go_wp2_with fail
    refine (new_ _ _).mono ?_
    rintro e w2 ⟨rfl, hd2, hb2, hz2⟩
    have hcut : cutN (m : Int) = m := by unfold cutN; omega
    rw [hcut] at hd2
    have HD2 := Lib.hid (diskR_new hd2 hb2)
    have HB2 := Lib.hid (HB1.out.trans (hb2.mono HB1.out.size))
    clear hd2 hb2 hz2 hcut
    go_wp2_with fail
    refine (open_ HD2.out 0 m (by rw [St.n_new]; omega) (by rw [St.n_new]; omega) 3).mono ?_
    rintro e w3 ⟨g, R3, L3, rfl, hR3, hl3, ho3, hk3⟩
    obtain rfl := new_open (by omega) ho3
    have HL3 := Lib.hid hl3
    have HR3 := Lib.hid (fun i (hi : i < w.heap.size) => hR3 i (Nat.lt_of_lt_of_le hi HB1.out.size))
    have HB3 := Lib.hid (HB2.out.trans (hk3.below HB2.out.size fun i _ hi => Nat.lt_of_lt_of_le hi HB1.out.size))
    have HCM := Lib.hid (calm_new (e := 3) (show m ≤ 4096 by omega))
    clear hl3 hR3 ho3 hk3
    go_wp2_with fail
    go_loopg [10] len (fun k i wr => RoomRel w g (w1.heap.size + 1) m len k i wr)
    case atStart => exact ⟨0, _, R3, _, by omega, rfl, HL3.out, HCM.out, HR3.out, HB3.out⟩
    case round =>
      obtain ⟨j, L, R, s, hj, rfl, hl, hcm, hR, hb⟩ := hrel
      have HJ := Lib.hid hj
      have HL := Lib.hid hl
      have HC := Lib.hid hcm
      have HR := Lib.hid hR
      have HB := Lib.hid hb
      have hj10 : j ≤ 10 := by omega
      clear hj hl hcm hR hb
      by_cases hlt : j < len
      · obtain ⟨b, o, z, rfl, hzj, hcell⟩ := HZ.out.at_ HB.out hlt
        clear hzj
        go_wp2_with fail
        refine (text_ _ 5 (by decide) wr).mono ?_
        rintro e w4 ⟨rfl, hh4, hb4⟩
        have hg4 := HL.out.grow hb4
        have hh := Has.of_blk (K := fun i => R i ∨ wr.heap.size ≤ i ∧ i < w4.heap.size) hh4 (.inr ⟨Nat.le_refl _, hh4.lt⟩)
        have HG4 := Lib.hid hg4
        have HH4 := Lib.hid hh
        have HB4 := Lib.hid (HB.out.trans (hb4.mono HB.out.size))
        have HTL := Lib.hid (textB_len (bits .and .i64 z 127) 5)
        have hcl := cutT_le (bits .and .i64 z 127)
        generalize textB (bits .and .i64 z 127) 5 = tx at *
        generalize cutT (bits .and .i64 z 127) = tl at *
        clear hg4 hh hh4 hb4
        go_wp2_with fail
        refine (append_ HG4.out (lim_mono HC.out.2.2.2.2.2.2.2 (by omega)) HH4.out HTL.out (Nat.le_refl _) (fun h => by cases h) (by omega)).mono ?_
        rintro e w5 ⟨rfl, ⟨R5, hR5, hl5⟩, hk5⟩
        have hca := calm_append (n := 700) HC.out (b := tx) (by rw [HTL.out]; exact hcl)
        have hca2 : Calm m (L.append s tx).1 (L.append s tx).2.1 (13 * (j + 1)) := by
          rcases hca with ⟨_, e⟩ | ⟨_, s1, e, h⟩
          · rw [e]; exact calm_mono HC.out (by omega)
          · rw [e]; exact calm_mono h (by have : need 700 = 11 := rfl; omega)
        have HC5 := Lib.hid hca2
        have HL5 := Lib.hid hl5
        have HR5 := Lib.hid (fun i (hi : i < w.heap.size) => hR5 i (.inl (HR.out i hi)))
        have HB5 := Lib.hid (HB4.out.trans (hk5.below HB4.out.size fun i _ hi => .inl (HR.out i hi)))
        clear hca hca2 hl5 hR5 hk5
        go_wp2
        go_roundg (len - (j + 1))
        case measure => have := HJ.out; omega
        case rel => exact ⟨j + 1, _, R5, _, by omega, by go_num, HL5.out, HC5.out, HR5.out, HB5.out⟩
      · go_wp2_with fail
        refine (room_ HL.out).mono ?_
        rintro e w4 ⟨rfl, hb4⟩
        have HL4 := Lib.hid (HL.out.below hb4)
        have HB4 := Lib.hid (HB.out.trans (hb4.mono HB.out.size))
        obtain ⟨kk, hkk⟩ : ∃ kk, (L.left - 1) * 64 = kk := ⟨_, rfl⟩
        have hlf : L.left ≤ m := by have := HC.out.2.2.2.2.2.1; unfold Lg.left; omega
        have hk1 : (kk : Int) ≤ 64 * (m : Int) := by omega
        have HKK := Lib.hid hkk.symm
        rw [hkk]
        have hk9 : kk ≤ 3200 := by omega
        have HLN := Lib.hid (show (zeros (kk + q)).length = kk + q from zeros_length _)
        have HHZ : Hid (Has (w4.alloc (.cells (cellsB (zeros (kk + q))).toArray 5)) (fun i => R i ∨ w4.heap.size ≤ i ∧ i < (w4.alloc (.cells (cellsB (zeros (kk + q))).toArray 5)).heap.size) (some ⟨w4.heap.size, 0, none⟩) (zeros (kk + q))) := Has.of_blk (Blk.new w4 _ _) (.inr ⟨Nat.le_refl _, by simp⟩)
        have HG4 := Lib.hid (HL4.out.grow (alloc_below w4 (.cells (cellsB (zeros (kk + q))).toArray 5)))
        have HB5 := Lib.hid (HB4.out.trans ((alloc_below w4 (.cells (cellsB (zeros (kk + q))).toArray 5)).mono HB4.out.size))
        clear hb4 hkk hlf
        rcases Nat.eq_zero_or_pos q with hq | hq
        · subst hq
          rcases Nat.eq_zero_or_pos kk with hk0 | hk0
          · subst hk0
            have hmk : ∀ W, (Instr.makeSlice 30 (.int .i64 0) (.int .i64 0)).run Try.prog W = .ok (.slice (some ⟨W.heap.size, 0, none⟩) 0 0) (W.alloc (.cells (cellsB (zeros 0)).toArray 5)) := fun W => made5 0 (by omega) W
            have hca := calm_append (n := 700) HC.out (b := zeros (0 + 0)) (by rw [zeros_length]; omega)
            obtain ⟨r, hr⟩ : ∃ r, (L.append s (zeros (0 + 0))).2.2 = r := ⟨_, rfl⟩
            have hr2 : r = 0 ∨ r = 6 := by
              rcases hca with ⟨_, e⟩ | ⟨_, s1, e, _⟩
              · right; rw [← hr, e]
              · left; rw [← hr, e]
            have HRR := Lib.hid hr
            clear hca hr
            go_wp2_with fail
            refine (append_ HG4.out (lim_mono HC.out.2.2.2.2.2.2.2 (by omega)) HHZ.out HLN.out (Nat.le_refl _) (fun h => by cases h) (by omega)).mono ?_
            rintro e w5 ⟨rfl, _, hk5⟩
            rw [HRR.out]
            have HB6 := Lib.hid (HB5.out.trans (hk5.below HB5.out.size fun i _ hi => .inl (HR.out i hi)))
            clear hk5
            rcases hr2 with rfl | rfl
            · go_wp2_with (go_at_call 15; refine (num_ _ _).mono ?_; rintro e w' ⟨rfl, rfl⟩)
              go_ret
              exact ⟨rfl, HB6.out⟩
            · go_wp2_with (go_at_call 15; refine (num_ _ _).mono ?_; rintro e w' ⟨rfl, rfl⟩)
              go_ret
              exact ⟨rfl, HB6.out⟩
          · have hmk : ∀ W, (Instr.makeSlice 30 (.int .i64 (kk : Int)) (.int .i64 (kk : Int))).run Try.prog W = .ok (.slice (some ⟨W.heap.size, 0, none⟩) kk kk) (W.alloc (.cells (cellsB (zeros kk)).toArray 5)) := fun W => made5 kk (by omega) W
            have hft : L.fits ((zeros (kk + 0)).length : Int) = true := by rw [HLN.out]; exact room_fits HKK.out hk0
            have hca := calm_append (n := 4000) HC.out (b := zeros (kk + 0)) (by rw [zeros_length]; omega)
            rcases hca with ⟨e, _⟩ | ⟨_, s1, e, _⟩
            · rw [hft] at e; cases e
            have HE := Lib.hid e
            clear hft e
            go_wp2_with fail
            refine (append_ HG4.out (lim_mono HC.out.2.2.2.2.2.2.2 (by omega)) HHZ.out HLN.out (Nat.le_refl _) (fun h => by cases h) (by omega)).mono ?_
            rw [HE.out]
            rintro e w5 ⟨rfl, ⟨R5, hR5, hl5⟩, hk5⟩
            have HL5 := Lib.hid hl5
            have HB6 := Lib.hid (HB5.out.trans (hk5.below HB5.out.size fun i _ hi => .inl (HR.out i hi)))
            clear hR5 hl5 hk5
            go_wp2_with (go_at_call 15; refine (num_ _ _).mono ?_; rintro e w' ⟨rfl, rfl⟩)
            refine (records_ HL5.out).mono ?_
            rintro e w6 ⟨v, rfl, hv, hb6⟩
            obtain ⟨A6, c6, rfl⟩ := hv.slice
            have hl6 : 0 < (L.add (zeros (kk + 0))).ls.length := by simp [Lg.add]
            generalize (L.add (zeros (kk + 0))).ls.length = l6 at *
            have HB7 := Lib.hid (HB6.out.trans (hb6.mono HB6.out.size))
            clear hv hb6
            go_wp2_with fail
            go_ret
            exact ⟨rfl, HB7.out⟩
        · have hmk : ∀ W, (Instr.makeSlice 30 (.int .i64 ((kk : Int) + (q : Int))) (.int .i64 ((kk : Int) + (q : Int)))).run Try.prog W = .ok (.slice (some ⟨W.heap.size, 0, none⟩) (kk + q) (kk + q)) (W.alloc (.cells (cellsB (zeros (kk + q))).toArray 5)) := fun W => made5 (kk + q) (by omega) W
          have hft : L.fits ((zeros (kk + q)).length : Int) = false := by rw [HLN.out]; exact room_more HKK.out hq
          have hca := calm_append (n := 4000) HC.out (b := zeros (kk + q)) (by rw [zeros_length]; omega)
          have e : L.append s (zeros (kk + q)) = (s, L, 6) := by
            rcases hca with ⟨_, e⟩ | ⟨e, _⟩
            · exact e
            · rw [hft] at e; cases e
          clear hca
          have HE := Lib.hid e
          clear hft e
          go_wp2_with fail
          refine (append_ HG4.out (lim_mono HC.out.2.2.2.2.2.2.2 (by omega)) HHZ.out HLN.out (Nat.le_refl _) (fun h => by cases h) (by omega)).mono ?_
          rw [HE.out]
          rintro e w5 ⟨rfl, _, hk5⟩
          have HB6 := Lib.hid (HB5.out.trans (hk5.below HB5.out.size fun i _ hi => .inl (HR.out i hi)))
          clear hk5
          go_wp2_with (go_at_call 15; refine (num_ _ _).mono ?_; rintro e w' ⟨rfl, rfl⟩)
          all_goals
            go_ret
            exact ⟨retB (by first | (simp; omega) | simp), HB6.out⟩
  · go_enter Try.func4, Try.ntmps4
    go_wp2_with fail
    refine (alive w).mono ?_
    rintro e w1 ⟨rfl, hb⟩
    have HB := Lib.hid hb
    clear hb
    go_wp2_with fail
    all_goals first | (go_ret; exact ⟨rfl, HB.out⟩) | (exfalso; omega)
end Go.Proofs.Ytmpkgnmijnjddaa
