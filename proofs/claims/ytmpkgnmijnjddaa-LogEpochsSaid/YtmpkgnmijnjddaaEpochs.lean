/- What LogEpochs answers. -/
import Derived.Test.YtmpkgnmijnjddaaRoom
import Derived.Test.YtmpkgnmijnjddaaOpensR
import Derived.BigQuiet
import Derived.Deep.QuietTactic
namespace Go.Proofs.Ytmpkgnmijnjddaa
open Go.RowKit
/-- what stands where the log's first record would be: nothing, or the first record of an epoch of these -/
def FirstOf (s : St) (es : List Int) : Prop := s.at_ 1 = zeros 64 ∨ ∃ e ∈ es, ∃ n : Int, s.at_ 1 = headB e 1 n
theorem first_none {s : St} {es : List Int} {e : Int} (h : FirstOf s es) (hr : ∀ x ∈ es, i64r x) (he : i64r e) (hne : e ∉ es) : (lg0 e 1 39).find s = none := by
  rcases h with h | ⟨x, hx, n, h⟩
  · exact find_zero h
  · exact find_other h he (hr x hx) fun h' => hne (by rw [show e = x from h'.symm]; exact hx)
/-- a disk that never breaks, of 40 sectors -/
def CalmD (s : St) (k : Nat) : Prop := s.ok ∧ s.l = [] ∧ s.ends = false ∧ s.n = 40 ∧ s.lim k
theorem calm_log {s : St} {k : Nat} (h : CalmD s k) (e : Int) : Calm 40 s (lg0 e 1 39) k := ⟨rfl, h.1, h.2.1, h.2.2.1, by simp [lg0], by simp [lg0], h.2.2.2.1, h.2.2.2.2⟩
theorem calm_disk {s : St} {L : Lg} {k : Nat} (h : Calm 40 s L k) : CalmD s k := ⟨h.2.1, h.2.2.1, h.2.2.2.1, h.2.2.2.2.2.2.1, h.2.2.2.2.2.2.2⟩
theorem calm_append2 {m k n : Nat} {s : St} {L : Lg} {b : List UInt8} (h : Calm m s L k) (hb : b.length ≤ n) (hf : L.p + (1 + need n) ≤ L.fin) : ∃ s1, L.append s b = (s1, L.add b, 0) ∧ Calm m s1 (L.add b) (k + (need n + 2)) ∧ Done s L b s1 := by
  have hnb : need b.length ≤ need n := by unfold need; omega
  have hft : L.fits b.length = true := fits_iff.2 ⟨by omega, by rw [Int.toNat_natCast]; unfold Lg.left; omega⟩
  obtain ⟨h1, h2, h3, h4, h5, h6, h7, h8⟩ := h
  have ha := append_all (m := k) (b := b) h1 h2 h3 h5 (by rw [h7]; exact h6) h8
  revert ha
  generalize L.append s b = r
  intro ha
  cases ha with
  | long h => rw [hft] at h; cases h
  | fail _ he => rw [h4] at he; cases he
  | ok hf a1 a2 a3 a4 a5 a6 =>
    have := fits_next h5 hf
    exact ⟨_, rfl, ⟨h1, a1, a4, a3.trans h4, this, h6, a2.trans h7, lim_mono a6 (by omega)⟩, a5⟩
/-- two records appended: they are what is found, and the first one's head stands at the first sector -/
theorem two_appends {s : St} {k : Nat} {e : Int} {a b : List UInt8} (h : CalmD s k) (ha : a.length ≤ 700) (hb : b.length ≤ 700) : ∃ s1 s2, (lg0 e 1 39).append s a = (s1, (lg0 e 1 39).add a, 0) ∧ ((lg0 e 1 39).add a).append s1 b = (s2, ((lg0 e 1 39).add a).add b, 0) ∧
    s1.lim (k + 13) ∧ CalmD s2 (k + 26) ∧ (∃ n : Int, s2.at_ 1 = headB e 1 n) ∧ ∀ L', Opens s2 (lg0 e 1 39) L' → L'.ls = [a, b] := by
  have h7 : need 700 = 11 := rfl
  have hna : need a.length ≤ 11 := by unfold need; omega
  obtain ⟨s1, e1, c1, d1⟩ := calm_append2 (calm_log h e) ha (by rw [h7]; simp [lg0])
  obtain ⟨s2, e2, c2, d2⟩ := calm_append2 c1 hb (by rw [h7]; simp [lg0, Lg.add]; omega)
  refine ⟨s1, s2, e1, e2, c1.2.2.2.2.2.2.2, calm_disk c2, ⟨a.length, ?_⟩, fun L' ho => ?_⟩
  · rw [d2.low 1 (by simp [lg0, Lg.add]; omega)]
    have := d1.head
    simpa [lg0, Lg.head] using this
  · have hl : Lies s1 ((lg0 e 1 39).add a).e ((lg0 e 1 39).add a).ls 0 1 ((lg0 e 1 39).add a).p := by
      have := Lies.done (L := lg0 e 1 39) (m := 1) (s := s) (by simp [lg0, Lies]) d1
      simpa [lg0, Lg.add, Lg.next] using this
    have := done_open (L := (lg0 e 1 39).add a) (e := e) (a := 1) (n := 39) c2.2.1 (by rw [c2.2.2.2.2.2.2.1]; omega) rfl rfl hl d2 c2.2.2.2.2.1 ho
    rw [this]
    rfl
theorem lists_two {w : World} {K : Nat → Prop} {g b1 b2 la lb : Nat} {a b : List UInt8} (ea : a.length = la) (eb : b.length = lb) (hg : Blk w g 30 #[.slice (some ⟨b1, 0, none⟩) la la, .slice (some ⟨b2, 0, none⟩) lb lb]) (ha : Has w K (some ⟨b1, 0, none⟩) a) (hb : Has w K (some ⟨b2, 0, none⟩) b) (hla : la ≤ 1000) (hlb : lb ≤ 1000) : Lists w (fun _ => True) (.slice (some ⟨g, 0, none⟩) 2 2) [a, b] := by
  subst ea eb
  refine ⟨_, 2, [.slice (some ⟨b1, 0, none⟩) a.length a.length, .slice (some ⟨b2, 0, none⟩) b.length b.length], rfl, fun j x hx => ⟨g, 0, rfl, trivial, hg.lt, ?_⟩, ?_⟩
  · rw [hg.cell, Nat.zero_add]
    exact (List.getElem?_toArray (xs := [Value.slice (some ⟨b1, 0, none⟩) a.length a.length, Value.slice (some ⟨b2, 0, none⟩) b.length b.length])).trans hx
  · have h1 := (Holds.nil w (fun _ => True)).snoc (ha.more fun _ _ _ => trivial) (Nat.le_refl _) (by unfold maxLen; omega) (fun h => by cases h)
    exact h1.snoc (hb.more fun _ _ _ => trivial) (Nat.le_refl _) (by unfold maxLen; omega) (fun h => by cases h)
theorem below_drewN {B : Nat} {w w1 : World} (h : Below B w w1) (n : Nat) : Below B w (w1.drewN n) := ⟨h.os, h.tape, h.output, h.size, h.block⟩
/-- the round of the epochs -/
def EpRel (w : World) (gd n : Nat) (zs : List Int) (k : Nat) (i : Value) (wr : World) : Prop :=
  ∃ (j : Nat) (R : Nat → Prop) (s : St), j + k = n ∧ i = .int .i64 (j : Int) ∧ DiskR wr gd R s ∧ CalmD s (26 * j) ∧ FirstOf s (zs.take j) ∧ (∀ i, i < w.heap.size → R i) ∧ Below w.heap.size w wr
/-- is one of the first ones the same? -/
def HadRel (wr : World) (zs : List Int) (e : Int) (j k : Nat) (h i : Value) (wx : World) : Prop :=
  ∃ (m : Nat) (b : Bool), m + k = j ∧ i = .int .i64 (m : Int) ∧ h = .bool b ∧ (b = false → e ∉ zs.take m) ∧ Below wr.heap.size wr wx
set_option maxRecDepth 100000 in
set_option maxHeartbeats 4000000 in
theorem logEpochs (A1 : Option Addr) (n1 c1 : Nat) (z1 : List Int) (A2 : Option Addr) (n2 c2 : Nat) (z2 : List Int) (w : World) (h1 : Ints w A1 n1 z1) (h2 : Ints w A2 n2 z2) (hr : ∀ z ∈ z1, i64r z) (m1 : n1 ≤ 9223372036854775807) (m2 : n2 ≤ 9223372036854775807) :
    Calls Try.prog 5 #[.slice A1 n1 c1, .slice A2 n2 c2] w fun e w' => e = .returned (.bool true) ∧ Below w.heap.size w w' := by
  by_cases h : n1 ≤ 12 ∧ n1 ≤ n2
  · obtain ⟨h12, hle⟩ := h
    have HZ1 := Lib.hid h1
    have HZ2 := Lib.hid h2
    have HR := Lib.hid hr
    clear h1 h2 hr
    go_enter Try.func5, Try.ntmps5
    go_wp2_with fail
    refine (alive w).mono ?_
    rintro e w1 ⟨rfl, hb1⟩
    have HB1 := Lib.hid hb1
    clear hb1
    go_wp2_with fail
    refine (new_ _ _).mono ?_
    rintro e w2 ⟨rfl, hd2, hb2, hz2⟩
    rw [show cutN 40 = 40 from rfl] at hd2
    have HD2 := Lib.hid (diskR_new hd2 hb2)
    have HB2 := Lib.hid (HB1.out.trans (hb2.mono HB1.out.size))
    have HR1 := Lib.hid (fun i (hi : i < w.heap.size) => Nat.lt_of_lt_of_le hi HB1.out.size)
    clear hd2 hb2 hz2
    go_wp2_with fail
    go_loopg [7] n1 (fun k i wr => EpRel w (w1.heap.size + 1) n1 z1 k i wr)
    case atStart => exact ⟨0, _, _, by omega, rfl, HD2.out, ⟨St.ok.new (by omega), rfl, rfl, St.n_new 40, new_lim 40 _⟩, .inl (new_at (by omega)), HR1.out, HB2.out⟩
    case round =>
      obtain ⟨j, R, s, hj, rfl, hd, hc, hf, hR, hb⟩ := hrel
      have HJ := Lib.hid hj
      have HD := Lib.hid hd
      have HC := Lib.hid hc
      have HF := Lib.hid hf
      have HRR := Lib.hid hR
      have HB := Lib.hid hb
      have hj12 : j ≤ 12 := by omega
      clear hj hd hc hf hR hb
      by_cases hlt : j < n1
      · obtain ⟨b, o, rfl, hbl, hcs⟩ := HZ1.out.2 (by omega)
        obtain ⟨z, hzj⟩ := at_of_lt z1 j (by rw [HZ1.out.1]; exact hlt)
        have HCS := Lib.hid (fun (i : Nat) (x : Int) (hx : z1[i]? = some x) (W : World) (k : Below w.heap.size w W) => ((k.cell (p := ⟨b, o + i, none⟩) hbl).trans (hcs i x hx)))
        have HZJ := Lib.hid hzj
        have HZR := Lib.hid (HR.out z (List.mem_of_getElem? hzj))
        clear hzj hcs
        go_wp2_with fail
        generalize wr = wo at *
        go_loopg [8, 9] j (fun k h i wx => HadRel wo z1 z j k h i wx)
        case atStart => exact ⟨0, false, by omega, rfl, rfl, fun _ h => by simp at h, Below.refl _ _⟩
        case round =>
          obtain ⟨m, had, hm, rfl, rfl, hne, hbx⟩ := hrel
          have HM := Lib.hid hm
          have HNE := Lib.hid hne
          have HBX := Lib.hid hbx
          have hmj : m ≤ j := by omega
          clear hm hne hbx
          by_cases hlm : m < j
          · obtain ⟨y, hy⟩ := at_of_lt z1 m (by rw [HZ1.out.1]; omega)
            have hcm := HCS.out m y hy wr (HB.out.trans (HBX.out.mono HB.out.size))
            have hcj := HCS.out j z HZJ.out wr (HB.out.trans (HBX.out.mono HB.out.size))
            have HY := Lib.hid hy
            have bm : (m : Int) < (n1 : Int) := by omega
            have bj : (j : Int) < (n1 : Int) := by omega
            clear hy
            cases had
            · go_wp2_with fail
              go_quiet (fail)
              go_wp2
              have hst : (y == z) = false → z ∉ z1.take (m + 1) := fun hb => by
                rw [take_snoc' z1 m y HY.out]
                intro hmem
                rcases List.mem_append.1 hmem with h | h
                · exact HNE.out (by simp) h
                · rw [List.mem_singleton.1 h] at hb; simp at hb
              have HST := Lib.hid hst
              clear hst
              go_roundg (j - (m + 1))
              case measure => have := HM.out; omega
              case rel => exact ⟨m + 1, (y == z), by omega, by go_num, rfl, HST.out, below_drewN HBX.out _⟩
            · go_wp2_with fail
              go_quiet (fail)
              go_wp2
              go_roundg (j - (m + 1))
              case measure => have := HM.out; omega
              case rel => exact ⟨m + 1, true, by omega, by go_num, rfl, (fun h => by cases h), below_drewN HBX.out _⟩
          · have hmj2 : m = j := by omega
            subst hmj2
            have HBW := Lib.hid (HB.out.trans (HBX.out.mono HB.out.size))
            cases had
            · have hnm : z ∉ z1.take m := HNE.out (by simp)
              have HNM := Lib.hid hnm
              have hcj := HCS.out m z HZJ.out wr HBW.out
              have bj : (m : Int) < (n1 : Int) := by omega
              clear hnm
              go_wp2_with fail
              refine (open_ (HD.out.below HBX.out) 1 39 (by rw [HC.out.2.2.2.1]; omega) (by rw [HC.out.2.2.2.1]; omega) z).mono ?_
              rintro e w3 ⟨g, R3, L3, rfl, hR3, hl3, ho3, hk3⟩
              obtain rfl := open_stop (first_none HF.out (fun x hx => HR.out x (List.mem_of_mem_take hx)) HZR.out HNM.out) ho3
              have HL3 := Lib.hid hl3
              have HR3 := Lib.hid (fun i (hi : i < w.heap.size) => hR3 i (HRR.out i hi))
              have HB3 := Lib.hid (HBW.out.trans (hk3.below HBW.out.size fun i _ hi => HRR.out i hi))
              clear hl3 hR3 ho3 hk3
              go_wp2_with fail
              refine (records_ HL3.out).mono ?_
              rintro e w4 ⟨v, rfl, hv, hb4⟩
              obtain ⟨A4, c4, rfl⟩ := hv.slice
              have HL4 := Lib.hid (HL3.out.below hb4)
              have HB4 := Lib.hid (HB3.out.trans (hb4.mono HB3.out.size))
              rw [show (lg0 z 1 39).ls.length = 0 from rfl]
              clear hv hb4
              have hm2 : m < n2 := by omega
              obtain ⟨b2, o2, rfl, hbl2, hcs2⟩ := HZ2.out.2 (by omega)
              obtain ⟨y, hy⟩ := at_of_lt z2 m (by rw [HZ2.out.1]; exact hm2)
              have hcy := (HB4.out.cell (p := ⟨b2, o2 + m, none⟩) hbl2).trans (hcs2 m y hy)
              have HCY := Lib.hid (fun (W : World) (k : Below w.heap.size w W) => ((k.cell (p := ⟨b2, o2 + m, none⟩) hbl2).trans (hcs2 m y hy)))
              have bm2 : (m : Int) < (n2 : Int) := by omega
              clear hcs2 hy
              go_wp2_with fail
              rw [show (m : Int) + 1 = ((m + 1 : Nat) : Int) by omega]
              refine (text_ _ (m + 1) (by omega) w4).mono ?_
              rintro e w5 ⟨rfl, hh5, hb5⟩
              have HL5 := Lib.hid (HL4.out.grow hb5)
              have HR5 := Lib.hid (fun i (hi : i < w.heap.size) => (Or.inl (HR3.out i hi) : R3 i ∨ w4.heap.size ≤ i ∧ i < w5.heap.size))
              have HA5 := Lib.hid (Has.of_blk (K := fun i => R3 i ∨ w4.heap.size ≤ i ∧ i < w5.heap.size) hh5 (.inr ⟨Nat.le_refl _, hh5.lt⟩))
              have HB5 := Lib.hid (HB4.out.trans (hb5.mono HB4.out.size))
              have HTL := Lib.hid (textB_len (bits .and .i64 y 255) (m + 1))
              have hcl := cutT_le (bits .and .i64 y 255)
              have hcy5 := HCY.out w5 HB5.out
              generalize textB (bits .and .i64 y 255) (m + 1) = ta at *
              generalize cutT (bits .and .i64 y 255) = la at *
              clear hh5 hb5
              go_wp2_with fail
              refine (text_ _ 99 (by omega) w5).mono ?_
              rintro e w6 ⟨rfl, hh6, hb6⟩
              have HL6 := Lib.hid (HL5.out.grow hb6)
              have HA6 := Lib.hid ((HA5.out.below hb6).more (K' := fun i => (R3 i ∨ w4.heap.size ≤ i ∧ i < w5.heap.size) ∨ w5.heap.size ≤ i ∧ i < w6.heap.size) fun _ _ h => .inl h)
              have HBB := Lib.hid (Has.of_blk (K := fun i => (R3 i ∨ w4.heap.size ≤ i ∧ i < w5.heap.size) ∨ w5.heap.size ≤ i ∧ i < w6.heap.size) hh6 (.inr ⟨Nat.le_refl _, hh6.lt⟩))
              have HR6 := Lib.hid (fun i (hi : i < w.heap.size) => (Or.inl (HR5.out i hi) : (R3 i ∨ w4.heap.size ≤ i ∧ i < w5.heap.size) ∨ w5.heap.size ≤ i ∧ i < w6.heap.size))
              have HB6 := Lib.hid (HB5.out.trans (hb6.mono HB5.out.size))
              have HTM := Lib.hid (textB_len (bits .and .i64 y 63) 99)
              have hcm := cutT_le (bits .and .i64 y 63)
              generalize textB (bits .and .i64 y 63) 99 = tb at *
              generalize cutT (bits .and .i64 y 63) = lb at *
              obtain ⟨s1, s2, e1, e2, l1, c2, f2, o2'⟩ := two_appends (e := z) HC.out (a := ta) (b := tb) (by rw [HTL.out]; exact hcl) (by rw [HTM.out]; exact hcm)
              have HE1 := Lib.hid e1
              have HE2 := Lib.hid e2
              have HLM := Lib.hid l1
              have HC2 := Lib.hid c2
              have HF2 := Lib.hid f2
              have HO2 := Lib.hid o2'
              clear hh6 hb6 e1 e2 l1 c2 f2 o2' hcy hcy5
              go_wp2_with fail
              refine (append_ HL6.out (lim_mono HC.out.2.2.2.2 (by omega)) HA6.out HTL.out (Nat.le_refl _) (fun h => by cases h) (by omega)).mono ?_
              rw [HE1.out]
              rintro e w7 ⟨rfl, ⟨R7, hR7, hl7⟩, hk7⟩
              have HL7 := Lib.hid hl7
              have HR7 := Lib.hid hR7
              have HA7 := Lib.hid ((HA6.out.keep hk7).more (K' := R7) fun i _ hi => hR7 i hi)
              have HBB7 := Lib.hid ((HBB.out.keep hk7).more (K' := R7) fun i _ hi => hR7 i hi)
              have HB7 := Lib.hid (HB6.out.trans (hk7.below HB6.out.size fun i _ hi => HR6.out i hi))
              clear hl7 hR7 hk7
              go_wp2_with (go_at_call 15; refine (num_ _ _).mono ?_; rintro e w' ⟨rfl, rfl⟩)
              refine (append_ HL7.out (lim_mono HLM.out (by omega)) HBB7.out HTM.out (Nat.le_refl _) (fun h => by cases h) (by omega)).mono ?_
              rw [HE2.out]
              rintro e w8 ⟨rfl, ⟨R8, hR8, hl8⟩, hk8⟩
              have HD8 := Lib.hid hl8.diskR
              have HR8 := Lib.hid (fun i (hi : i < w.heap.size) => hR8 i (HR7.out i (HR6.out i hi)))
              have HA8 := Lib.hid ((HA7.out.keep hk8).more (K' := R8) fun i _ hi => hR8 i hi)
              have HBB8 := Lib.hid ((HBB7.out.keep hk8).more (K' := R8) fun i _ hi => hR8 i hi)
              have HB8 := Lib.hid (HB7.out.trans (hk8.below HB7.out.size fun i _ hi => HR7.out i (HR6.out i hi)))
              clear hl8 hR8 hk8
              have hcj8 := HCS.out m z HZJ.out w8 HB8.out
              go_wp2_with (go_at_call 15; refine (num_ _ _).mono ?_; rintro e w' ⟨rfl, rfl⟩)
              have hz8 : s2.n = 40 := HC2.out.2.2.2.1
              refine (open_ HD8.out 1 39 (by omega) (by omega) z).mono ?_
              rintro e w9 ⟨g9, R9, L9, rfl, hR9, hl9, ho9, hk9⟩
              have hls := HO2.out L9 ho9
              have HL9 := Lib.hid hl9
              have HR9 := Lib.hid (fun i (hi : i < w.heap.size) => hR9 i (HR8.out i hi))
              have HA9 := Lib.hid (HA8.out.keep hk9)
              have HBB9 := Lib.hid (HBB8.out.keep hk9)
              have HB9 := Lib.hid (HB8.out.trans (hk9.below HB8.out.size fun i _ hi => HR8.out i hi))
              have HLS := Lib.hid hls
              clear hl9 hR9 hk9 ho9 hls
              go_wp2_with fail
              refine (records_ HL9.out).mono ?_
              rintro e w10 ⟨v, rfl, hv, hb10⟩
              rw [HLS.out] at hv
              obtain ⟨A10, c10, rfl⟩ := hv.slice
              have HV10 := Lib.hid hv
              have HD10 := Lib.hid (HL9.out.diskR.below hb10)
              have HA10 := Lib.hid (HA9.out.below hb10)
              have HBB10 := Lib.hid (HBB9.out.below hb10)
              have HB10 := Lib.hid (HB9.out.trans (hb10.mono HB9.out.size))
              clear hv hb10
              go_wp2_with fail
              have hbe := alloc_below w10 (.cells #[.slice (some ⟨w4.heap.size, 0, none⟩) la la, .slice (some ⟨w5.heap.size, 0, none⟩) lb lb] 30)
              have hl2 := lists_two HTL.out HTM.out (Blk.new w10 30 #[.slice (some ⟨w4.heap.size, 0, none⟩) la la, .slice (some ⟨w5.heap.size, 0, none⟩) lb lb]) (HA10.out.below hbe) (HBB10.out.below hbe) (by omega) (by omega)
              refine (same_ (HV10.out.below hbe) hl2 (by simp)).mono ?_
              rintro e w11 ⟨rfl, hb11⟩
              rw [decide_eq_true (rfl : [ta, tb] = [ta, tb])]
              have HB11 := Lib.hid (HB10.out.trans ((hbe.trans (hb11.mono hbe.size)).mono HB10.out.size))
              have HD11 := Lib.hid ((HD10.out.below hbe).below hb11)
              have hfo : FirstOf s2 (z1.take (m + 1)) := by
                obtain ⟨n, hn⟩ := HF2.out
                exact .inr ⟨z, by rw [take_snoc' z1 m z HZJ.out]; simp, n, hn⟩
              have HFO := Lib.hid hfo
              clear hbe hl2 hb11 hfo
              go_wp2_with fail
              go_roundg (n1 - (m + 1))
              case measure => have := HJ.out; omega
              case rel => exact ⟨m + 1, R9, s2, by omega, by go_num, HD11.out, ⟨HC2.out.1, HC2.out.2.1, HC2.out.2.2.1, HC2.out.2.2.2.1, lim_mono HC2.out.2.2.2.2 (by omega)⟩, HFO.out, HR9.out, HB11.out⟩
            · have hf2 : FirstOf s (z1.take (m + 1)) := by
                rcases HF.out with h | ⟨x, hx, n, h⟩
                · exact .inl h
                · exact .inr ⟨x, by rw [take_snoc' z1 m z HZJ.out]; exact List.mem_append_left _ hx, n, h⟩
              have HF2 := Lib.hid hf2
              clear hf2
              go_wp2_with fail
              go_roundg (n1 - (m + 1))
              case measure => have := HJ.out; omega
              case rel => exact ⟨m + 1, R, s, by omega, by go_num, HD.out.below HBX.out, ⟨HC.out.1, HC.out.2.1, HC.out.2.2.1, HC.out.2.2.2.1, lim_mono HC.out.2.2.2.2 (by omega)⟩, HF2.out, HRR.out, HBW.out⟩
      · go_wp2_with fail
        go_ret
        exact ⟨rfl, HB.out⟩
  · go_enter Try.func5, Try.ntmps5
    go_wp2_with fail
    refine (alive w).mono ?_
    rintro e w1 ⟨rfl, hb⟩
    have HB := Lib.hid hb
    clear hb
    go_wp2_with fail
    all_goals first | (go_ret; exact ⟨rfl, HB.out⟩) | (exfalso; omega)
end Go.Proofs.Ytmpkgnmijnjddaa
