/- . . . -/
import Derived.Test.YtjfoflbaoceemaaGreatJ12
import Derived.Deep.LoopGhost
set_option maxRecDepth 4000
namespace Go.Proofs.YtjfoflbaoceemaaGreat
open Go.RowKit
structure Shut (P : Prop) : Prop where
  out : P
theorem isRoot_def {p : Pl} {s : Dk} {t : Nat} {had : Sec} {E M : Int} (h : s.at_ (p.a + t) = had) (hE : toldE had = E) (hM : toldN had = M) :
    p.isRoot s t = (decide (0 < E) && (decide (E.toNat % 2 = t) && (p.fits M && (p.there s E.toNat M.toNat && decide (had = rootB E M))))) := by
  subst h hE hM; rfl
def Box (w : World) (g a ar : Nat) : Prop := w.cell? ⟨g, 0, none⟩ = some (.int .i64 (a : Int)) ∧ w.cell? ⟨g, 1, none⟩ = some (.int .i64 (ar : Int)) ∧ g < w.heap.size
theorem Box.below {w w' : World} {g a ar : Nat} (h : Box w g a ar) (k : Below w.heap.size w w') : Box w' g a ar :=
  ⟨(k.cell (p := ⟨g, 0, none⟩) h.2.2).trans h.1, (k.cell (p := ⟨g, 1, none⟩) h.2.2).trans h.2.1, Nat.lt_of_lt_of_le h.2.2 k.size⟩
theorem Box.new (w : World) (a ar : Nat) : Box (w.alloc (.cells #[.int .i64 (a : Int), .int .i64 (ar : Int)] 175)) w.heap.size a ar :=
  ⟨by rw [cell_of_row _ w.heap.size _ #[.int .i64 (a : Int), .int .i64 (ar : Int)] 175 _ (heap_alloc_new w _)]; rfl, by rw [cell_of_row _ w.heap.size _ #[.int .i64 (a : Int), .int .i64 (ar : Int)] 175 _ (heap_alloc_new w _)]; rfl, by simp⟩
set_option maxRecDepth 100000 in
set_option maxHeartbeats 1000000 in
theorem rtfind_ {w : World} {gd : Nat} {R : Nat → Prop} {s : Dk} (h : DiskR w gd R s) (a ar t : Nat) (ha : a ≤ 1048576) (har : ar ≤ 1000) (ht : t < 2) :
    Calls Tryz.prog 122 #[.agg #[.int .i64 (a : Int), .int .i64 (ar : Int)], ptr gd, .int .i64 (t : Int)] w
      fun e w' => e = .returned (.tuple #[.int .i64 (toldE (s.at_ (a + t))), .int .i64 (toldN (s.at_ (a + t))), .bool ((⟨a, ar⟩ : Pl).isRoot s t)]) ∧ Below w.heap.size w w' := by
  have hbox := alloc_below w (.cells #[.int .i64 (a : Int), .int .i64 (ar : Int)] 175)
  have HX0 := Lib.hid (Box.new w a ar)
  have HB0 := Lib.hid hbox
  have H := Lib.hid h
  have hal := at_length (by obtain ⟨O, hd, _⟩ := h; obtain ⟨_, _, hd⟩ := hd; exact hd.ok) (a + t)
  obtain ⟨had, hhad⟩ : ∃ x, s.at_ (a + t) = x := ⟨_, rfl⟩
  obtain ⟨E, hE⟩ : ∃ E, toldE had = E := ⟨_, rfl⟩
  obtain ⟨M, hM⟩ : ∃ M, toldN had = M := ⟨_, rfl⟩
  have hrd := isRoot_def (p := ⟨a, ar⟩) hhad hE hM
  obtain ⟨r, hr⟩ : ∃ r, (⟨a, ar⟩ : Pl).isRoot s t = r := ⟨_, rfl⟩
  rw [hr] at hrd ⊢
  clear hr
  have her := toldE_range had
  have hmr := toldN_range had
  have hro := fun w => root_ a ar t ha w
  rw [show (⟨a, ar⟩ : Pl).root t = a + t by simp [Pl.root]; omega] at hro
  have hre := fun w' (k : Below w.heap.size w w') => d_read (h.below k) (a + t)
  have hth := fun w' (k : Below w.heap.size w w') => rtthere_ (h.below k) a ar
  rw [hhad] at hal hre ⊢
  rw [hE] at her ⊢
  rw [hM] at hmr ⊢
  obtain ⟨m, hm⟩ : ∃ m, had.length = m := ⟨_, rfl⟩
  rw [hm] at hal
  have HM := Lib.hid hm
  have HRO := Lib.hid hro
  have HRE := Lib.hid hre
  have HTH := Lib.hid hth
  have HRD := Lib.hid hrd
  have HEE := Lib.hid hE
  have HMM := Lib.hid hM
  have HER := Lib.hid her
  have HMR := Lib.hid hmr
  clear h hbox hre hro hrd hE hM hm hhad hth her hmr
  go_enter Tryz.func122, Tryz.ntmps122
  go_wp2_with fail
  refine (HRO.out _).mono ?_
  rintro e w1 ⟨rfl, hb1⟩
  have HB1 := Lib.hid (HB0.out.trans (hb1.mono HB0.out.size))
  have HX1 := Lib.hid (HX0.out.below hb1)
  clear hb1
  go_wp2_with fail
  refine (HRE.out _ HB1.out).mono ?_
  rintro e w2 ⟨A2, c2, rfl, hh2, hb2, _, _, hA2⟩
  rw [HM.out]
  have HH2 := Lib.hid hh2
  have HB2 := Lib.hid (HB1.out.trans (hb2.mono HB1.out.size))
  have HX2 := Lib.hid (HX1.out.below hb2)
  have HA2 := Lib.hid hA2
  clear hh2 hb2 hA2
  go_wp2_with fail
  refine (told_ (n := m) HH2.out HM.out (by omega) HA2.out).mono ?_
  rw [HEE.out, HMM.out]
  rintro e w3 ⟨rfl, hb3⟩
  have HB3 := Lib.hid (HB2.out.trans (hb3.mono HB2.out.size))
  have HX3 := Lib.hid (HX2.out.below hb3)
  have HH3 := Lib.hid (HH2.out.below hb3)
  clear hb3
  clear HEE HMM
  rcases Int.lt_or_le 0 E with hpos | hneg
  · obtain ⟨n, hn⟩ : ∃ n : Nat, E = (n : Int) := ⟨E.toNat, by omega⟩
    subst hn
    go_wp2_with fail
    refine (turn_ n _).mono ?_
    rintro e w' ⟨rfl, rfl⟩
    by_cases hte : n % 2 = t
    · obtain ⟨k0, k1, _⟩ := HX3.out
      have hte2 : ((n % 2 : Nat) : Int) = (t : Int) := by omega
      go_wp2_with fail
      refine (rtfits_ a ar har M _).mono ?_
      rintro e w4 ⟨rfl, hb4⟩
      have HB4 := Lib.hid (HB3.out.trans (hb4.mono HB3.out.size))
      have HX4 := Lib.hid (HX3.out.below hb4)
      have HH4 := Lib.hid (HH3.out.below hb4)
      clear hb4 k0 k1
      cases hf : (⟨a, ar⟩ : Pl).fits M
      · have hr : r = false := by rw [HRD.out, hf, Bool.false_and, Bool.and_false, Bool.and_false]
        subst hr
        clear HRD hf
        go_wp2_with fail
        go_ret3
        exact ⟨rfl, HB4.out⟩
      · have hfm := pl_fits_iff.1 hf
        obtain ⟨k, hk⟩ : ∃ k : Nat, M = (k : Int) := ⟨M.toNat, by omega⟩
        subst hk
        have hk2 : k ≤ 64000 := by simp only at hfm; omega
        have hr : r = ((⟨a, ar⟩ : Pl).there s n k && decide (had = rootB (n : Int) (k : Int))) := by
          rw [HRD.out, hf, decide_eq_true hpos, Int.toNat_natCast, Int.toNat_natCast, decide_eq_true hte, Bool.true_and, Bool.true_and, Bool.true_and]
        have HRD := Lib.hid hr
        clear hr hf hfm
        obtain ⟨k0, k1, _⟩ := HX4.out
        go_wp2_with fail
        refine (HTH.out _ HB4.out n k ha har hk2).mono ?_
        rintro e w5 ⟨rfl, hb5⟩
        have HB5 := Lib.hid (HB4.out.trans (hb5.mono HB4.out.size))
        have HH5 := Lib.hid (HH4.out.below hb5)
        clear hb5 k0 k1
        cases ht' : (⟨a, ar⟩ : Pl).there s n k
        · have hr : r = false := by rw [HRD.out, ht', Bool.false_and]
          subst hr
          clear HRD ht'
          go_wp2_with fail
          go_ret3
          exact ⟨rfl, HB5.out⟩
        · have HRR : Hid (r = decide (had = rootB (n : Int) (k : Int))) := by rw [HRD.out, ht', Bool.true_and]; exact rfl
          clear HRD ht'
          go_wp2_with fail
          refine (rootBytes_ HER.out HMR.out _).mono ?_
          rintro e w6 ⟨b6, rfl, _, hh6, hb6⟩
          have HB6 := Lib.hid (HB5.out.trans (hb6.mono HB5.out.size))
          have HH6 := Lib.hid (HH5.out.below hb6)
          have HD6 := Lib.hid (Has.of_blk (K := fun _ => True) hh6 trivial)
          have HHL := Lib.hid (rootB_length (n : Int) (k : Int))
          clear hb6 hh6
          go_wp2_with fail
          refine (equal_ HH6.out HD6.out HM.out HHL.out (by omega)).mono ?_
          rintro e w7 ⟨rfl, hb7⟩
          have HB7 := Lib.hid (HB6.out.trans (hb7.mono HB6.out.size))
          clear hb7
          rw [← HRR.out]
          go_wp2_with fail
          go_ret3
          exact ⟨rfl, HB7.out⟩
    · have hr : r = false := by rw [HRD.out, Int.toNat_natCast, decide_eq_false hte, Bool.false_and, Bool.and_false]
      subst hr
      have hte2 : ¬ ((n % 2 : Nat) : Int) = (t : Int) := by omega
      clear HRD
      go_wp2
      go_ret3
      exact ⟨rfl, HB3.out⟩
  · have hr : r = false := by rw [HRD.out, decide_eq_false (by omega : ¬ 0 < E), Bool.false_and]
    subst hr
    clear HRD
    go_wp2
    go_ret3
    exact ⟨rfl, HB3.out⟩
end Go.Proofs.YtjfoflbaoceemaaGreat
namespace Go.Proofs.YtjfoflbaoceemaaGreat
open Go.RowKit
theorem pair_exR {α β : Type} (p : α × β) : ∃ a b, p = (a, b) := ⟨p.1, p.2, rfl⟩
def Pl.some_ (p : Pl) (s : Dk) : Nat → Int × Int
  | 0 => (0, 0)
  | j + 1 => p.pick s j (p.some_ s j)
theorem some_two (p : Pl) (s : Dk) : p.some_ s 2 = p.best s := rfl
def RdRel (w : World) (g a ar : Nat) (s : Dk) (k : Nat) (v1 v2 i : Value) (wr : World) : Prop :=
  ∃ j, j + k = 2 ∧ i = .int .i64 (j : Int) ∧ v1 = .int .i64 ((⟨a, ar⟩ : Pl).some_ s j).1 ∧ v2 = .int .i64 ((⟨a, ar⟩ : Pl).some_ s j).2 ∧ Below w.heap.size w wr ∧ Blk wr g 175 #[.int .i64 (a : Int), .int .i64 (ar : Int)]
def RdP (w : World) (r : Option (Int × List UInt8)) (e : Ending) (w' : World) : Prop :=
  Below w.heap.size w w' ∧ ((r = none ∧ e = .returned (.tuple #[.int .i64 0, .slice none 0 0, .bool false])) ∨
    ∃ k b A c, r = some (k, b) ∧ e = .returned (.tuple #[.int .i64 k, .slice A b.length c, .bool true]) ∧ Has w' (fun i => w.heap.size ≤ i) A b ∧ b.length ≤ c ∧ c ≤ 262144 ∧ (A = none → c = 0))
set_option maxRecDepth 100000 in
set_option maxHeartbeats 1000000 in
theorem rread_ {w : World} {gd : Nat} {R : Nat → Prop} {s : Dk} (h : DiskR w gd R s) (a : Nat) (area : Int) (ha : a ≤ 1048576) :
    Calls Tryz.prog 68 #[ptr gd, .int .i64 (a : Int), .int .i64 area] w (RdP w ((⟨a, cutR area⟩ : Pl).read s)) := by
  have hcr := (cutR_range area).2
  have hnp := fun w => newPlaces_ a ha area w
  obtain ⟨ar, har⟩ : ∃ ar, cutR area = ar := ⟨_, rfl⟩
  rw [har] at hcr hnp ⊢
  have HH := Lib.hid h
  have HNP := Lib.hid hnp
  clear h hnp har
  go_enter Tryz.func68, Tryz.ntmps68
  go_wp2_with fail
  refine (HNP.out _).mono ?_
  rintro r w1 ⟨rfl, hb1⟩
  have HB1 := Lib.hid (hb1.alloc hb1.size (.cells #[.int .i64 (a : Int), .int .i64 (ar : Int)] 175))
  have HX1 := Lib.hid (Blk.new w1 175 #[.int .i64 (a : Int), .int .i64 (ar : Int)])
  clear hb1
  go_wp2_with fail
  go_loopg [10, 11, 19] 2 (fun k v1 v2 i wr => RdRel w w1.heap.size a ar s k v1 v2 i wr)
  case atStart => exact ⟨0, rfl, rfl, rfl, rfl, HB1.out, HX1.out⟩
  case round =>
    obtain ⟨j, hj, rfl, rfl, rfl, hb, hx⟩ := hrel
    have HB := Lib.hid hb
    have HX := Lib.hid hx
    have k0 : wr.cell? ⟨w1.heap.size, 0, none⟩ = some (.int .i64 (a : Int)) := by rw [hx.cell]; rfl
    have k1 : wr.cell? ⟨w1.heap.size, 1, none⟩ = some (.int .i64 (ar : Int)) := by rw [hx.cell]; rfl
    clear hb hx
    by_cases hlt : j < 2
    · obtain ⟨e0, n0, hr0⟩ : ∃ e0 n0, (⟨a, ar⟩ : Pl).some_ s j = (e0, n0) := pair_exR _
      have hnx : (⟨a, ar⟩ : Pl).some_ s (j + 1) = (⟨a, ar⟩ : Pl).pick s j (e0, n0) := by rw [← hr0]; rfl
      rw [hr0]
      have HNX := Shut.mk hnx
      clear hr0 hnx
      go_wp2_with fail
      refine (rtfind_ (HH.out.below HB.out) a ar j ha hcr hlt).mono ?_
      rintro r w2 ⟨rfl, hb2⟩
      have HB2 := Lib.hid (HB.out.trans (hb2.mono HB.out.size))
      have HX2 := Lib.hid (HX.out.below hb2 HX.out.lt)
      obtain ⟨E, hE⟩ : ∃ E, toldE (s.at_ (a + j)) = E := ⟨_, rfl⟩
      obtain ⟨M, hM⟩ : ∃ M, toldN (s.at_ (a + j)) = M := ⟨_, rfl⟩
      have hpk : (⟨a, ar⟩ : Pl).some_ s (j + 1) = if (⟨a, ar⟩ : Pl).isRoot s j && decide (e0 < E) then (E, M) else (e0, n0) := by
        rw [HNX.out, ← hE, ← hM]; rfl
      obtain ⟨ok, hok⟩ : ∃ ok, (⟨a, ar⟩ : Pl).isRoot s j = ok := ⟨_, rfl⟩
      rw [hok] at hpk ⊢
      rw [hE, hM]
      have HPK := Shut.mk hpk
      clear hpk hok hE hM hb2 k0 k1 HNX
      cases ok
      · go_wp2_with fail
        go_roundg (2 - (j + 1))
        case measure => omega
        case rel => exact ⟨j + 1, by omega, by go_num, by rw [HPK.out]; rfl, by rw [HPK.out]; rfl, HB2.out, HX2.out⟩
      · rcases Int.lt_or_le e0 E with h0 | h0
        · go_wp2_with fail
          go_roundg (2 - (j + 1))
          case measure => omega
          case rel => exact ⟨j + 1, by omega, by go_num, by rw [HPK.out, decide_eq_true h0]; rfl, by rw [HPK.out, decide_eq_true h0]; rfl, HB2.out, HX2.out⟩
        · go_wp2_with fail
          go_roundg (2 - (j + 1))
          case measure => omega
          case rel => exact ⟨j + 1, by omega, by go_num, by rw [HPK.out, decide_eq_false (by omega : ¬ e0 < E)]; rfl, by rw [HPK.out, decide_eq_false (by omega : ¬ e0 < E)]; rfl, HB2.out, HX2.out⟩
    · obtain rfl : j = 2 := by omega
      have hbr := best_range ⟨a, ar⟩ s hcr
      rw [some_two]
      have hrd := Pl.read.eq_1 ⟨a, ar⟩ s
      obtain ⟨E, M, hb⟩ : ∃ E M, (⟨a, ar⟩ : Pl).best s = (E, M) := pair_exR _
      rw [hb] at hbr hrd ⊢
      obtain ⟨hE0, hE1, hM0, hM1⟩ := hbr
      simp only at hrd hE0 hE1 hM0 hM1 ⊢
      have HRD := Shut.mk hrd
      clear hrd hb
      by_cases hz : E = 0
      · subst hz
        have hg : (⟨a, ar⟩ : Pl).read s = none := by rw [HRD.out, if_pos rfl]
        have HG := Shut.mk hg
        clear hg HRD
        go_wp2_with fail
        go_ret3
        exact ⟨HB.out, .inl ⟨HG.out, rfl⟩⟩
      · obtain ⟨e, he⟩ : ∃ e : Nat, E = (e : Int) := ⟨E.toNat, by omega⟩
        subst he
        have hg : (⟨a, ar⟩ : Pl).read s = some ((e : Int), s.get ((⟨a, ar⟩ : Pl).image e) M) := by rw [HRD.out, if_neg hz, Int.toNat_natCast]
        have HG := Shut.mk hg
        clear hg HRD
        go_wp2_with fail
        refine (image_ a ar e ha hcr _).mono ?_
        rintro r w2 ⟨rfl, hb2⟩
        have HB2 := Lib.hid (HB.out.trans (hb2.mono HB.out.size))
        clear hb2 k0 k1
        go_wp2_with fail
        refine (d_get (HH.out.below HB2.out) _ M ⟨by omega, by omega⟩).mono ?_
        rintro r w3 ⟨A3, c3, rfl, hh3, hb3, hl3⟩
        have HL3 := Shut.mk hl3
        have HB3 := Lib.hid (HB2.out.trans (hb3.mono HB2.out.size))
        have HH3 := Lib.hid (hh3.more (K' := fun i => w.heap.size ≤ i) fun i _ hi => Nat.le_trans HB2.out.size hi.1)
        clear hb3 hh3 hl3
        go_wp2_with fail
        go_ret3
        exact ⟨HB3.out, .inr ⟨_, _, _, _, HG.out, rfl, HH3.out, HL3.out⟩⟩
theorem rdP_none {w w' : World} {r : Option (Int × List UInt8)} {e : Ending} (h : RdP w r e w') (hr : r = none) : e = .returned (.tuple #[.int .i64 0, .slice none 0 0, .bool false]) ∧ Below w.heap.size w w' := by
  subst hr
  obtain ⟨h1, ⟨_, h2⟩ | ⟨_, _, _, _, h2, _⟩⟩ := h
  · exact ⟨h2, h1⟩
  · cases h2
theorem rdP_more {w w' : World} {r : Option (Int × List UInt8)} {e : Ending} {k : Int} {b : List UInt8} (h : RdP w r e w') (hr : r = some (k, b)) : ∃ A c, e = .returned (.tuple #[.int .i64 k, .slice A b.length c, .bool true]) ∧ Has w' (fun i => w.heap.size ≤ i) A b ∧ Below w.heap.size w w' ∧ b.length ≤ c ∧ c ≤ 262144 ∧ (A = none → c = 0) := by
  subst hr
  obtain ⟨h1, ⟨h2, _⟩ | ⟨k', b', A, c, h2, h3, h4, h5⟩⟩ := h
  · cases h2
  · have e := Option.some.inj h2
    have e1 := congrArg Prod.fst e
    have e2 := congrArg Prod.snd e
    simp only at e1 e2
    subst e1 e2
    exact ⟨A, c, h3, h4, h1, h5⟩
end Go.Proofs.YtjfoflbaoceemaaGreat
namespace Go.Proofs.YtjfoflbaoceemaaGreat
open Go.RowKit
def WrP (w : World) (gd : Nat) (R : Nat → Prop) (v : Bool → Value) (r : Dk × Bool) (e : Ending) (w' : World) : Prop := e = .returned (v r.2) ∧ DiskR w' gd R r.1 ∧ Keep (fun i _ => R i) w w'
theorem wrP_done {w w1 w2 : World} {gd : Nat} {R R' : Nat → Prop} {v : Bool → Value} {r : Dk × Bool} {s1 : Dk} {b1 : Bool} (hr : r = (s1, b1)) (hd : DiskR w2 gd R' s1) (hb : Below w.heap.size w w1) (hk : Keep (fun i _ => R' i) w1 w2) (hR : ∀ i, R i → R' i ∧ i < w.heap.size) : WrP w gd R v r (.returned (v b1)) w2 := by
  subst hr
  exact ⟨rfl, hd.keep fun i hi => (hR i hi).1, (Keep.of_below (K := fun i _ => R i) hb |>.trans (hk.mono fun i _ _ hi => (hR i hi).1))⟩
set_option maxRecDepth 100000 in
set_option maxHeartbeats 1000000 in
theorem rlay_ {w : World} {gd : Nat} {R : Nat → Prop} {s : Dk} (h : DiskR w gd R s) (hl : s.lim 400000) (a ar : Nat) (ha : a ≤ 1048576) (har : ar ≤ 1000) {A : Option Addr} {n c : Nat} {b : List UInt8} (hb : Has w R A b) (hn : b.length = n) (hc : n ≤ c) (hx : n ≤ 262144)
    (e : Nat) (he : e ≤ 9223372036854775807) (hrn : (⟨a, ar⟩ : Pl).root e < s.n) :
    Calls Tryz.prog 136 #[.agg #[.int .i64 (a : Int), .int .i64 (ar : Int)], ptr gd, .int .i64 (e : Int), .slice A n c] w (WrP w gd R .bool ((⟨a, ar⟩ : Pl).lay s e b)) := by
  obtain ⟨s1, b1, hp1⟩ : ∃ s1 b1, s.put ((⟨a, ar⟩ : Pl).image e : Nat) b = (s1, b1) := ⟨_, _, rfl⟩
  obtain ⟨hl1, hn1, hok1⟩ := put_lim hl h.ok hp1
  have hnd : need b.length ≤ 4096 := by unfold need; omega
  have hri := root_lt ⟨a, ar⟩ e
  have him := fun w => image_ a ar e ha har w
  have hro := fun w => root_ a ar e ha w
  have hrb := fun w => rootBytes_ (e := (e : Int)) (n := (n : Int)) ⟨by omega, by omega⟩ ⟨by omega, by omega⟩ w
  have hbox := alloc_below w (.cells #[.int .i64 (a : Int), .int .i64 (ar : Int)] 175)
  have HX0 := Lib.hid (Blk.new w 175 #[.int .i64 (a : Int), .int .i64 (ar : Int)])
  have HB0 := Lib.hid hbox
  have HH := Lib.hid h
  have HB := Lib.hid hb
  have HN := Lib.hid hn
  have HC := Lib.hid hc
  have HX := Lib.hid hx
  have HLIM := Lib.hid (lim_mono (k := 500000) hl (by omega))
  have HP1 := Lib.hid hp1
  have HL1 := Lib.hid (lim_mono (k := 900000) hl1 (by omega))
  have hhi := h.hi
  have HHI := Lib.hid hhi
  have HRN : Hid ((⟨a, ar⟩ : Pl).root e < s1.n) := by rw [hn1]; exact hrn
  have HIM := Lib.hid him
  have HRO := Lib.hid hro
  have HRB := Lib.hid hrb
  clear h hb hn hc hl hl1 hn1 hok1 him hro hrb hbox hhi hp1 hrn hri hnd
  go_enter Tryz.func136, Tryz.ntmps136
  go_wp2_with fail
  refine (HIM.out _).mono ?_
  rintro r w1 ⟨rfl, hb1⟩
  have HB1 := Lib.hid (HB0.out.trans (hb1.mono HB0.out.size))
  have HX1 := Lib.hid (HX0.out.below hb1 HX0.out.lt)
  have HD1 := Lib.hid (HH.out.grow HB1.out)
  have HS1 := Lib.hid ((HB.out.below HB1.out).more (K' := fun i => R i ∨ w.heap.size ≤ i ∧ i < w1.heap.size) fun _ _ hi => .inl hi)
  have HRR := Lib.hid (fun i (hi : R i) => (And.intro (.inl hi) (HHI.out i hi) : (R i ∨ w.heap.size ≤ i ∧ i < w1.heap.size) ∧ i < w.heap.size))
  clear hb1
  go_wp2_with fail
  refine (d_put HD1.out HLIM.out HS1.out HN.out HC.out HX.out HP1.out).mono ?_
  rintro r w2 ⟨rfl, hd2, hk2⟩
  have HD2 := Lib.hid hd2
  have HK2 := Lib.hid hk2
  have HX2 := Lib.hid (HX1.out.keep hk2 (.inr ⟨Nat.le_refl _, HX1.out.lt⟩))
  clear hd2 hk2
  cases b1
  · go_wp2_with fail
    go_ret
    exact wrP_done (rlay_1 HP1.out) HD2.out HB1.out HK2.out HRR.out
  · obtain ⟨s2, b2, hp2⟩ : ∃ s2 b2, s1.tryS = (s2, b2) := ⟨_, _, rfl⟩
    have HP2 := Lib.hid hp2
    have HL2 := Lib.hid (tryS_lim HL1.out hp2)
    clear hp2
    go_wp2_with fail
    refine (d_sync HD2.out HP2.out).mono ?_
    rintro r w3 ⟨rfl, hd3, hk3⟩
    have HD3 := Lib.hid hd3
    have HK3 := Lib.hid (HK2.out.trans hk3)
    have HX3 := Lib.hid (HX2.out.keep hk3 (.inr ⟨Nat.le_refl _, HX1.out.lt⟩))
    clear hd3 hk3
    cases b2
    · go_wp2_with fail
      go_ret
      exact wrP_done (rlay_2 HP1.out HP2.out) HD3.out HB1.out HK3.out HRR.out
    · have k0 : w3.cell? ⟨w.heap.size, 0, none⟩ = some (.int .i64 (a : Int)) := by rw [HX3.out.cell]; rfl
      have k1 : w3.cell? ⟨w.heap.size, 1, none⟩ = some (.int .i64 (ar : Int)) := by rw [HX3.out.cell]; rfl
      go_wp2_with fail
      refine (HRO.out _).mono ?_
      rintro r w4 ⟨rfl, hb4⟩
      have HD4 := Lib.hid (HD3.out.below hb4)
      have HK4 := Lib.hid (HK3.out.trans (Keep.of_below hb4))
      clear hb4
      go_wp2_with fail
      refine (HRB.out _).mono ?_
      rintro r w5 ⟨b5, rfl, _, hh5, hb5⟩
      have HD5 := Lib.hid (HD4.out.below hb5)
      have HK5 := Lib.hid (HK4.out.trans (Keep.of_below hb5))
      have HH5 := Lib.hid hh5
      obtain ⟨s3, b3, hp3⟩ : ∃ s3 b3, s2.tryW ((⟨a, ar⟩ : Pl).root e) (rootB e n) = (s3, b3) := ⟨_, _, rfl⟩
      have HP3 := Lib.hid hp3
      have HL3 := Lib.hid (lim_mono (k := 900000) HL2.out.1 (by omega))
      have HP3' : Hid (s2.tryW ((⟨a, ar⟩ : Pl).root e) (rootB e b.length) = (s3, b3)) := by rw [HN.out]; exact hp3
      have HRN2 : Hid ((⟨a, ar⟩ : Pl).root e < s2.n) := by rw [HL2.out.2]; exact HRN.out
      clear hb5 hh5 hp3 k0 k1
      go_wp2_with fail
      refine (d_write HD5.out HL3.out HRN2.out (rootB_length _ _) HH5.out HP3.out).mono ?_
      rintro r w6 ⟨rfl, hd6, hk6⟩
      have HD6 := Lib.hid hd6
      have HK6 := Lib.hid (HK5.out.trans hk6)
      clear hd6 hk6
      cases b3
      · go_wp2_with fail
        go_ret
        exact wrP_done (rlay_3 HP1.out HP2.out HP3'.out) HD6.out HB1.out HK6.out HRR.out
      · obtain ⟨s4, b4, hp4⟩ : ∃ s4 b4, s3.tryS = (s4, b4) := ⟨_, _, rfl⟩
        have HP4 := Lib.hid hp4
        clear hp4
        go_wp2_with fail
        refine (d_sync HD6.out HP4.out).mono ?_
        rintro r w7 ⟨rfl, hd7, hk7⟩
        have HD7 := Lib.hid hd7
        have HK7 := Lib.hid (HK6.out.trans hk7)
        clear hd7 hk7
        cases b4
        · go_wp2_with fail
          go_ret
          exact wrP_done (rlay_4 HP1.out HP2.out HP3'.out HP4.out) HD7.out HB1.out HK7.out HRR.out
        · go_wp2_with fail
          go_ret
          exact wrP_done (rlay_4 HP1.out HP2.out HP3'.out HP4.out) HD7.out HB1.out HK7.out HRR.out
def errno (b : Bool) : Value := .int .i64 (if b then 0 else 12)
theorem write_of {w : World} {gd : Nat} {R : Nat → Prop} {s : Dk} (h : DiskR w gd R s) (hl : s.lim 400000) (a : Nat) (area : Int) (ha : a ≤ 1048576) {A : Option Addr} {n c : Nat} {b : List UInt8} (hb : Has w R A b) (hn : b.length = n) (hc : n ≤ c) (hf : n ≤ cutR area * 64)
    (e : Nat) (he1 : 1 ≤ e) (he : e ≤ 9223372036854775807) (hrn : (⟨a, cutR area⟩ : Pl).root e < s.n) :
    Calls Tryz.prog 74 #[ptr gd, .int .i64 (a : Int), .int .i64 area, .int .i64 (e : Int), .slice A n c] w (WrP w gd R errno ((⟨a, cutR area⟩ : Pl).lay s e b)) := by
  have hcr := (cutR_range area).2
  have hx : n ≤ 262144 := by omega
  have hnp := fun w => newPlaces_ a ha area w
  have hft : (⟨a, cutR area⟩ : Pl).fits (n : Int) = true := pl_fits_iff.2 ⟨by omega, by simp only; omega⟩
  obtain ⟨ar, har⟩ : ∃ ar, cutR area = ar := ⟨_, rfl⟩
  rw [har] at hcr hrn hnp hft ⊢
  have hfi := fun w => rtfits_ a ar hcr (n : Int) w
  rw [hft] at hfi
  have HH := Lib.hid h
  have HB := Lib.hid hb
  have HN := Lib.hid hn
  have HC := Lib.hid hc
  have HX := Lib.hid hx
  have HLIM := Lib.hid hl
  have hhi := h.hi
  have HHI := Lib.hid hhi
  have HRN := Lib.hid hrn
  have HNP := Lib.hid hnp
  have HFI := Lib.hid hfi
  clear h hb hn hc hl hnp hfi hrn hft hf har hhi
  go_enter Tryz.func74, Tryz.ntmps74
  go_wp2_with fail
  refine (HNP.out _).mono ?_
  rintro r w1 ⟨rfl, hb1⟩
  have HB1 := Lib.hid (hb1.alloc hb1.size (.cells #[.int .i64 (a : Int), .int .i64 (ar : Int)] 175))
  have HX1 := Lib.hid (Blk.new w1 175 #[.int .i64 (a : Int), .int .i64 (ar : Int)])
  clear hb1
  go_wp2_with fail
  refine (HFI.out _).mono ?_
  rintro r w2 ⟨rfl, hb2⟩
  have HB2 := Lib.hid (HB1.out.trans (hb2.mono HB1.out.size))
  have HX2 := Lib.hid (HX1.out.below hb2 HX1.out.lt)
  have HD2 := Lib.hid (HH.out.grow HB2.out)
  have HS2 := Lib.hid ((HB.out.below HB2.out).more (K' := fun i => R i ∨ w.heap.size ≤ i ∧ i < w2.heap.size) fun _ _ hi => .inl hi)
  have HRR := Lib.hid (fun i (hi : R i) => (And.intro (.inl hi) (HHI.out i hi) : (R i ∨ w.heap.size ≤ i ∧ i < w2.heap.size) ∧ i < w.heap.size))
  have k0 : w2.cell? ⟨w1.heap.size, 0, none⟩ = some (.int .i64 (a : Int)) := by rw [HX2.out.cell]; rfl
  have k1 : w2.cell? ⟨w1.heap.size, 1, none⟩ = some (.int .i64 (ar : Int)) := by rw [HX2.out.cell]; rfl
  clear hb2
  go_wp2_with fail
  refine (rlay_ HD2.out HLIM.out a ar ha hcr HS2.out HN.out HC.out HX.out e he HRN.out).mono ?_
  rintro r w3 ⟨rfl, hd3, hk3⟩
  obtain ⟨s1, b1, hp⟩ : ∃ s1 b1, (⟨a, ar⟩ : Pl).lay s e b = (s1, b1) := ⟨_, _, rfl⟩
  rw [hp] at hd3 ⊢
  have HP := Lib.hid hp
  have HD3 := Lib.hid hd3
  have HK3 := Lib.hid hk3
  clear hp hd3 hk3 k0 k1
  cases b1
  · go_wp2_with fail
    go_ret
    exact wrP_done (v := errno) HP.out HD3.out HB2.out HK3.out HRR.out
  · go_wp2_with fail
    go_ret
    exact wrP_done (v := errno) HP.out HD3.out HB2.out HK3.out HRR.out
end Go.Proofs.YtjfoflbaoceemaaGreat
