/- . . . . -/
import Derived.Test.YtjfoflbaoceemaaGreatJ40
import Derived.Deep.RegionWith
import Derived.Deep.RegionHeld3
import Derived.Deep.DeepCutAuto
import Derived.Test.YtjfoflbaoceemaaGreatJ48
import Derived.Test.YtjfoflbaoceemaaGreatJ35
import Derived.Test.YtjfoflbaoceemaaGreatJ32
import Derived.Test.YtjfoflbaoceemaaGreatJ38
import Derived.Test.YtjfoflbaoceemaaGreatJ44
import Derived.Test.YtjfoflbaoceemaaGreatJ17
import Derived.Test.YtjfoflbaoceemaaGreatJ15
import Derived.Deep.LoopGhost
set_option maxRecDepth 4000
namespace Go.Proofs.YtjfoflbaoceemaaGreat
open Go.RowKit
theorem there_of {d : Dk} {K : Ks} (h : thereK d K = true) : (K.e : Int) ≤ ((keepP.read d).map (·.1)).getD 0 ∧ K.L.ls.length ≤ (opK d K.e).ls.length := by
  unfold thereK at h
  rw [Bool.and_eq_true, decide_eq_true_eq, decide_eq_true_eq] at h
  exact h
section
variable {w : World} {b g gd : Nat} {R Q : Nat → Prop} {sv : Sv} {xs : List Oc} {d : Dk} {K : Ks}
def ThereP (w : World) (b g gd : Nat) (R Q : Nat → Prop) (sv : Sv) (xs : List Oc) (d : Dk) (K : Ks) (e : Ending) (w' : World) : Prop :=
  e = .returned (.bool true) ∧ KsM w' b g gd R Q sv xs d K ∧ Keep (fun i _ => Q i) w w'
abbrev Ld3K (b g gd : Nat) (e : Int) (W : World) : Prop := W.cell? ⟨b, 0, none⟩ = some (ptr g) ∧ W.cell? ⟨b, 3, none⟩ = some (.int .i64 e) ∧ W.cell? ⟨g, 0, none⟩ = some (ptr gd)
theorem KsM.ld3 (h : KsM w b g gd R Q sv xs d K) : Ld3K b g gd (K.e : Int) w := ⟨h.cells.1, h.cells.2.2.2.1, h.gcell⟩
set_option maxHeartbeats 2000000 in
theorem there_ (h : KsM w b g gd R Q sv xs d K) (hn : 354 ≤ d.n) (ht : thereK d K = true) : Calls Tryz.prog 99 #[ptr b] w (ThereP w b g gd R Q sv xs d K) := by
  obtain ⟨h1, h2⟩ := there_of ht
  obtain ⟨P, hP, hQP, hb, hg, hU⟩ := h.under
  have hrd := rread_ hP 0 96 (by omega)
  rw [show cutR 96 = 96 from rfl] at hrd
  obtain ⟨c0, _, _, c3, _, hlt⟩ := h.cells
  have cg := h.gcell
  have HRD := ShutK.mk hrd
  have H := ShutK.mk h
  have HP := ShutK.mk hP
  have HU := ShutK.mk hU
  have HQP := ShutK.mk hQP
  obtain ⟨k, hk⟩ : ∃ k, ((keepP.read d).map (·.1)).getD 0 = k := ⟨_, rfl⟩
  rw [hk] at h1
  have HK := ShutK.mk hk
  obtain ⟨n1, hn1⟩ : ∃ n, (opK d K.e).ls.length = n := ⟨_, rfl⟩
  obtain ⟨n2, hn2⟩ : ∃ n, K.L.ls.length = n := ⟨_, rfl⟩
  rw [hn1, hn2] at h2
  have HN1 := ShutK.mk hn1
  have HN2 := ShutK.mk hn2
  have t1 : decide ((K.e : Int) ≤ k) = true := decide_eq_true h1
  have t2 : decide ((n2 : Int) ≤ (n1 : Int)) = true := decide_eq_true (by omega)
  have t3 : decide (n2 ≤ n1) = true := decide_eq_true h2
  clear hrd h hP hU hQP hk hn1 hn2 ht h1 h2
  go_enter Tryz.func99, Tryz.ntmps99
  go_wp2_with fail
  refine HRD.out.mono ?_
  rintro e w1 hr
  obtain ⟨v1, f1, rfl, hb1⟩ := rdP_any hr
  rw [show (⟨0, 96⟩ : Pl) = keepP from rfl, HK.out]
  have HB1 := ShutK.mk hb1
  have HP1 := ShutK.mk (HP.out.below hb1)
  have H1 := ShutK.mk (H.out.below hb1)
  clear hr hb1 HRD
  go_upto_region 2 with fail
  have hS0 : ShutK (Ld3K b g gd (K.e : Int) w1.drew) := ⟨H1.out.ld3⟩
  go_region_held3 (fun W : World => Ld3K b g gd (K.e : Int) W)
    (first | with_reducible exact hS0.out | with_reducible exact hS2.out | with_reducible exact hS3.out | with_reducible exact hS4.out)
    (first | (go_at_call 71; refine (records_ H3.out.log).mono ?_; rintro e w4 ⟨v4, rfl, hl4, hb4⟩; obtain ⟨A4, c4, rfl⟩ := hl4.slice; rw [HN2.out]; have H4 := ShutK.mk (H3.out.below hb4); have hS4 : ShutK (Ld3K b g gd (K.e : Int) w4) := ⟨H4.out.ld3⟩; have HK4 := ShutK.mk (HK3.out.trans (Keep.of_below hb4)); clear hl4 hb4) | (go_at_call 71; refine (records_ HL2.out).mono ?_; rintro e w3 ⟨v3, rfl, hl3, hb3⟩; obtain ⟨A3, c3', rfl⟩ := hl3.slice; rw [HN1.out]; have H3 := ShutK.mk (H2.out.below hb3); have hS3 : ShutK (Ld3K b g gd (K.e : Int) w3) := ⟨H3.out.ld3⟩; have HK3 := ShutK.mk (HK2.out.trans (Keep.of_below hb3)); clear hl3 hb3) | (go_at_call 70; refine (openLog_ (HP1.out.below (Below.refl _ _).drew) hn K.e).mono ?_; rintro e w2 ⟨g2, P2, rfl, hp2, hl2, hk2⟩; have HL2 := ShutK.mk hl2; have hk2' := (Keep.of_below (K := fun i _ => P i) (HB1.out)).trans ((Keep.refl w1).drew.trans hk2); have H2 := ShutK.mk (HU.out w2 d (hl2.diskR.keep hp2) hk2' rfl); have HK2 := ShutK.mk hk2'; have hS2 : ShutK (Ld3K b g gd (K.e : Int) w2) := ⟨H2.out.ld3⟩; clear hp2 hl2 hk2 hk2'))
  go_wp2_with fail
  go_ret
  exact ⟨rfl, H4.out, HK4.out.mono fun i _ _ hi => HQP.out i hi⟩
end
end Go.Proofs.YtjfoflbaoceemaaGreat
namespace Go.Proofs.YtjfoflbaoceemaaGreat
open Go.RowKit
section
variable {w w' : World} {b g gd : Nat} {R Q Q' : Nat → Prop} {sv : Sv} {xs : List Oc} {d d1 d2 d3 : Dk} {K K2 : Ks} {L1 L3 : Lg} {v2 : Bool} {c c3 : Nat} {bs : List UInt8}
theorem ret_zero (c : Nat) : Ending.returned (.bool ((c : Int) == 0)) = .returned (.bool (decide (c = 0))) := by
  congr 2
  rw [Bool.eq_iff_iff]
  simp
theorem app_six (h : K.L.append d bs = (d1, L1, 6)) : d1 = d ∧ L1 = K.L := by
  unfold Lg.append at h
  split at h
  · simp at h
  · split at h
    · split at h <;> simp at h
    · obtain ⟨rfl, h2⟩ := Prod.mk.inj h
      obtain ⟨rfl, _⟩ := Prod.mk.inj h2
      exact ⟨rfl, rfl⟩
theorem KsM.relog (h : KsM w b g gd R Q sv xs d K) (hQ : ∀ i, Q i → Q' i) (hl : LogAt w' g gd Q' d1 L1) (hk : Keep (fun i _ => Q i) w w') : KsM w' b g gd R Q' sv xs d1 { K with L := L1 } :=
  ⟨hl, h.box.keep hk h.qb, hQ b h.qb, fun i hi => ⟨hQ i (h.qr i hi).1, (h.qr i hi).2⟩, (h.obs.keep hk fun _ _ _ hi => hi.1).more fun i _ hi => ⟨hQ i hi.1, hi.2⟩, h.eq⟩
theorem append_k (h : KsM w b g gd R Q sv xs d K) (hl : d.lim 500000) {A : Option Addr} {n cap : Nat} (hh : Has w R A bs) (hn : bs.length = n) (hc : n ≤ cap) (hA : A = none → cap = 0) (hx : n ≤ 10176) (hap : K.L.append d bs = (d1, L1, c)) :
    Calls Tryz.prog 100 #[ptr g, .slice A n cap] w fun e w' => e = .returned (.int .i64 (c : Int)) ∧ (∃ Q', KsM w' b g gd R Q' sv xs d1 { K with L := L1 }) ∧ Keep (fun i _ => R i) w w' := by
  refine (append_ h.log hl (hh.more fun i _ hi => (h.qr i hi).1) hn hc hA (by omega)).mono ?_
  rintro e w' ⟨rfl, ⟨Q', h1, h2⟩, h3⟩
  rw [hap] at h2 ⊢
  exact ⟨rfl, ⟨Q', h.relog h1 h2 h3⟩, h3.mono fun i _ _ hi => (h.qr i hi).1⟩
def LayK (w : World) (b gd : Nat) (R : Nat → Prop) (r : Dk × Ks × Bool) (e : Ending) (w' : World) : Prop := e = .returned (.bool r.2.2) ∧ KsAt w' b gd R r.1 r.2.1 ∧ Keep (fun i _ => R i) w w'
theorem layK_of {r : Dk × Ks × Bool} {dE : Dk} {KE : Ks} {vE : Bool} {e : Ending} (h : r = (dE, KE, vE)) (h1 : e = .returned (.bool vE)) (h2 : KsAt w' b gd R dE KE) (h3 : Keep (fun i _ => R i) w w') : LayK w b gd R r e w' := by
  subst h
  exact ⟨h1, h2, h3⟩
set_option maxHeartbeats 2000000 in
theorem klay_ (h : KsM w b g gd R Q sv xs d K) (hn : 354 ≤ d.n) (hl : d.lim 300000) (hb : Base K.st) (he : K.e ≤ 900000) (ht : thereK d K = true) {A : Option Addr} {n cap : Nat} (hh : Has w R A bs) (hbn : bs.length = n) (hc : n ≤ cap) (hA : A = none → cap = 0) (hx : n ≤ 10176)
    (hap : K.L.append d bs = (d1, L1, c)) (hrn : rnK d K = (d2, K2, v2)) (hd2 : d2.lim 400000) (hap2 : K2.L.append d2 bs = (d3, L3, c3)) :
    Calls Tryz.prog 53 #[ptr b, .slice A n cap] w (LayK w b gd R (putK rnK d K bs)) := by
  have HT := ShutK.mk (there_ h hn ht)
  have HAP := ShutK.mk hap
  have HRN := ShutK.mk hrn
  have HAP2 := ShutK.mk hap2
  have HQR := ShutK.mk h.qr
  have HH := ShutK.mk hh
  have HBN := ShutK.mk hbn
  have HA := ShutK.mk hA
  have HL := ShutK.mk hl
  have HL2 := ShutK.mk hd2
  have HB := ShutK.mk hb
  have HN := ShutK.mk hn
  have HE := ShutK.mk he
  clear h hn hb he ht hh hbn hA hl hd2 hap hrn hap2
  go_enter Tryz.func53, Tryz.ntmps53
  go_wp2_with fail
  refine HT.out.mono ?_
  rintro e w1 ⟨rfl, h1, hk1⟩
  have H1 := ShutK.mk h1
  have HK1 := ShutK.mk (hk1.mono (K' := fun i _ => R i) fun i _ _ hi => (HQR.out i hi).1)
  have q0 := h1.cells.1
  clear h1 hk1 HT
  go_wp2_with fail
  refine (append_k H1.out (lim_mono HL.out (by omega)) (HH.out.keep HK1.out) HBN.out hc HA.out hx HAP.out).mono ?_
  rintro e w2 ⟨rfl, ⟨Q2, h2⟩, hk2⟩
  have H2 := ShutK.mk h2
  have HK2 := ShutK.mk (HK1.out.trans hk2)
  clear h2 hk2 q0
  by_cases hc6 : c = 6
  · subst hc6
    obtain ⟨rfl, rfl⟩ := app_six HAP.out
    have hks : ({ K with L := K.L } : Ks) = K := rfl
    have h2 := H2.out
    have HR := ShutK.mk (renew_ (K := K) h2 HN.out HL.out HB.out HE.out HRN.out)
    clear h2 hks
    go_wp2_with fail
    refine HR.out.mono ?_
    rintro e w3 ⟨rfl, h3, hk3⟩
    have H3 := ShutK.mk h3
    have HK3 := ShutK.mk (HK2.out.trans hk3)
    clear h3 hk3 HR
    cases v2
    · go_wp2_with fail
      go_ret
      exact layK_of (putK_no HAP.out HRN.out) rfl H3.out HK3.out
    · obtain ⟨g3, Q3, sv3, xs3, h3⟩ := H3.out
      have q0 := h3.cells.1
      have H4 := ShutK.mk h3
      clear h3
      go_wp2_with fail
      refine (append_k H4.out (lim_mono HL2.out (by omega)) (HH.out.keep HK3.out) HBN.out hc HA.out hx HAP2.out).mono ?_
      rintro e w4 ⟨rfl, ⟨Q4, h4⟩, hk4⟩
      have H5 := ShutK.mk h4
      have HK4 := ShutK.mk (HK3.out.trans hk4)
      clear h4 hk4 q0
      go_wp2_with fail
      go_ret
      exact layK_of (putK_im HAP.out HRN.out HAP2.out) (ret_zero c3) ⟨_, _, _, _, H5.out⟩ HK4.out
  · have t1 : ((c : Int) == 6) = false := by simp; omega
    have HC := ShutK.mk hc6
    clear hc6
    go_wp2_with fail
    go_ret
    exact layK_of (putK_app HAP.out HC.out) (ret_zero c) ⟨_, _, _, _, H2.out⟩ HK2.out
end
end Go.Proofs.YtjfoflbaoceemaaGreat
namespace Go.Proofs.YtjfoflbaoceemaaGreat
open Go.RowKit
structure ShutZp (p : Prop) : Prop where out : p
def szM (m : Mg) : Nat := 60 + m.corr.size + m.body.size
def szR (r : Rw) : Nat := 20 + r.1.size + r.2.size
theorem sizeO_sz (o : Ob) : sizeO o = 50 + o.name.size + (o.rows.map szR).sum + (o.msgs.map szM).sum + (o.dead.map szM).sum := rfl
theorem psum_succ {α : Type} (f : α → Nat) {l : List α} {q : Nat} (h : q < l.length) : ((l.take (q + 1)).map f).sum = ((l.take q).map f).sum + f l[q] := by
  rw [List.take_succ_eq_append_getElem h, List.map_append, List.sum_append]; simp
theorem psum_pre {α : Type} (f : α → Nat) (l : List α) (q : Nat) : ((l.take q).map f).sum ≤ (l.map f).sum := by
  have e : (l.map f).sum = ((l.take q).map f).sum + ((l.drop q).map f).sum := by rw [← List.sum_append, ← List.map_append, List.take_append_drop]
  omega
theorem psum_len {α : Type} (f : α → Nat) {l : List α} (h : ∀ x ∈ l, 1 ≤ f x) : l.length ≤ (l.map f).sum := by
  have := sum_ge_n f h
  omega
def SmgR (w : World) (l : List Mg) (k : Nat) (v i : Value) (wr : World) : Prop :=
  ∃ j, j + k = l.length ∧ i = .int .i64 (j : Int) ∧ v = .int .i64 ((((l.take j).map szM).sum : Nat) : Int) ∧ Below w.heap.size w wr
set_option maxHeartbeats 2000000 in
theorem smsgs_ {w : World} {K : Nat → Prop} {A : Option Addr} {n c : Nat} {l : List Mg} (h : Lst w K eM A l) (hl : l.length = n) {Z : Nat} (hz : (l.map szM).sum = Z) (hb : Z ≤ 100000000) :
    Calls Tryz.prog 98 #[.slice A n c] w fun e w' => e = .returned (.int .i64 (Z : Int)) ∧ Below w.heap.size w w' := by
  have hln := psum_len szM (l := l) fun m _ => (by unfold szM; omega)
  have H := ShutZp.mk h
  have HL := ShutZp.mk hl
  have HZ := ShutZp.mk hz
  have hn : n ≤ 100000000 := by omega
  clear h hl hz hln
  go_enter Tryz.func98, Tryz.ntmps98
  go_wp2_with fail
  go_loopg [3, 8] n (fun k v i wr => SmgR w l k v i wr)
  case atStart => exact ⟨0, by have := HL.out; omega, rfl, by simp, Below.refl _ _⟩
  case round =>
    obtain ⟨j, hj, rfl, rfl, hbl⟩ := hrel
    have HJ := ShutZp.mk hj
    have HB := ShutZp.mk hbl
    clear hj hbl
    by_cases hlt : j < n
    · have hx : j < l.length := by have := HL.out; omega
      obtain ⟨b, o, rfl, hbs, _, _, _, _, c4, c5⟩ := (H.out.below HB.out).atM hx
      have c0 := (H.out.below HB.out).atM hx
      obtain ⟨b', o', e, _, d0, d1, d2, d3, d4, d5⟩ := c0
      injection e with e
      injection e with e1 e2
      subst e1 e2
      clear c4 c5
      have hs := psum_succ szM hx
      have hp := psum_pre szM l (j + 1)
      rw [HZ.out] at hp
      unfold szM at hs
      generalize hT2 : ((l.take (j + 1)).map szM).sum = T2 at *
      have hT2' : ((l.take (j + 1)).map fun m : Mg => 60 + m.corr.size + m.body.size).sum = T2 := hT2
      rw [hT2'] at hs
      generalize l[j] = m at *
      have hT1' : ((l.take j).map fun m : Mg => 60 + m.corr.size + m.body.size).sum = ((l.take j).map szM).sum := rfl
      rw [hT1'] at hs
      generalize ((l.take j).map szM).sum = T1 at *
      obtain ⟨m0, m1, m2, m3, m4, m5⟩ := m
      simp only at d0 d1 d2 d3 d4 d5 hs
      have hwj : IntKind.i64.wrap ((j : Int) + 1) = (j : Int) + 1 := by rw [IntKind.wrap_i64]; omega
      have hwA : IntKind.i64.wrap (60 + (m4.size : Int)) = ((60 + m4.size : Nat) : Int) := by rw [IntKind.wrap_i64]; omega
      have hwB : IntKind.i64.wrap (((60 + m4.size : Nat) : Int) + (m5.size : Int)) = ((60 + m4.size + m5.size : Nat) : Int) := by rw [IntKind.wrap_i64]; omega
      have hwC : IntKind.i64.wrap ((T1 : Int) + ((60 + m4.size + m5.size : Nat) : Int)) = (T2 : Int) := by rw [IntKind.wrap_i64]; omega
      have HT2 := ShutZp.mk hT2
      generalize hU1 : 60 + m4.size = U1 at *
      generalize hU2 : U1 + m5.size = U2 at *
      clear hT2 hT2' hT1' hs hp hU1 hU2
      go_wp2_with fail
      go_roundg (n - (j + 1))
      case measure => have := HJ.out; have := HL.out; omega
      case rel => exact ⟨j + 1, by have := HL.out; omega, by go_num, by rw [HT2.out], HB.out.trans ((alloc_below wr _).mono HB.out.size)⟩
    · have he : j = l.length := by have := HJ.out; have := HL.out; omega
      have hful : ((l.take j).map szM).sum = Z := by rw [he, List.take_length]; exact HZ.out
      rw [hful]
      clear he hful
      go_wp2
      go_ret
      exact ⟨rfl, HB.out⟩
def PzR (w : World) (c0 : Array Value) (l : List Ob) (k : Nat) (v i : Value) (wr : World) : Prop :=
  ∃ j, j + k = l.length ∧ i = .int .i64 (j : Int) ∧ v = .int .i64 ((16 + ((l.take j).map sizeO).sum : Nat) : Int) ∧ Below w.heap.size w wr ∧ Blk wr w.heap.size 54 c0
structure PzW (w : World) (g : Nat) (c0 cs : Array Value) (wx : World) : Prop where
  b : Below w.heap.size w wx
  s : Blk wx w.heap.size 54 c0
  o : Blk wx g 77 cs
theorem PzW.step {w wx w' : World} {g : Nat} {c0 cs : Array Value} (h : PzW w g c0 cs wx) (k : Below wx.heap.size wx w') : PzW w g c0 cs w' := ⟨h.b.trans (k.mono h.b.size), h.s.below k h.s.lt, h.o.below k h.o.lt⟩
def PzI (w : World) (b : Nat) (c0 cs : Array Value) (V : Nat) (l : List Rw) (k : Nat) (v i : Value) (wr : World) : Prop :=
  ∃ q, q + k = l.length ∧ i = .int .i64 (q : Int) ∧ v = .int .i64 ((V + ((l.take q).map szR).sum : Nat) : Int) ∧ PzW w b c0 cs wr
abbrev Ld45 (b : Nat) (u v : Value) (W : World) : Prop := W.cell? ⟨b, 4, none⟩ = some u ∧ W.cell? ⟨b, 5, none⟩ = some v
set_option maxHeartbeats 8000000 in
theorem psize_ {w : World} {K : Nat → Prop} {s : Sv} {xs : List Oc} (h : ObsAt w K s xs) (next : Int) {Z : Nat} (hZ : sizeD (obsOf xs) = Z) (hz : Z ≤ 100000000) :
    Calls Tryz.prog 52 #[.agg #[.int .i64 next, .slice s.a s.n s.c]] w fun e w' => e = .returned (.int .i64 (Z : Int)) ∧ Below w.heap.size w w' := by
  obtain ⟨A, n, c⟩ := s
  have hln : n = xs.length := h.row.len
  have hol : (obsOf xs).length = n := by rw [hln]; simp [obsOf]
  have HB0 := ShutZp.mk (alloc_below w (.cells #[.int .i64 next, .slice A n c] 54))
  have HX0 := ShutZp.mk (Blk.new w 54 #[.int .i64 next, .slice A n c])
  have HH := ShutZp.mk h
  have HLN := ShutZp.mk hln
  have HOL := ShutZp.mk hol
  have HZ := ShutZp.mk hZ
  have HZB := ShutZp.mk hz
  clear h hln hol hZ hz
  go_enter Tryz.func52, Tryz.ntmps52
  go_wp2_with fail
  go_loopg [3, 11] n (fun k v i wr => PzR w #[.int .i64 next, .slice A n c] (obsOf xs) k v i wr)
  case atStart => exact ⟨0, by have := HOL.out; omega, rfl, rfl, HB0.out, HX0.out⟩
  case round =>
    obtain ⟨wo, rfl⟩ : ∃ wo, wo = wr := ⟨_, rfl⟩
    obtain ⟨j, hj, rfl, rfl, hb, hblk⟩ := hrel
    have HJ := ShutZp.mk hj
    have HB := ShutZp.mk hb
    have HX := ShutZp.mk hblk
    have d1 := hblk.cell 1
    have dlt := hblk.lt
    simp only [List.getElem?_toArray, List.getElem?_cons_zero, List.getElem?_cons_succ] at d1
    clear hj hb hblk HB0 HX0
    by_cases hlt : j < n
    · have hjx : j < xs.length := by rw [← HLN.out]; exact hlt
      have hjo : j < (obsOf xs).length := by rw [HOL.out]; exact hlt
      have hjn : (j : Int) < (n : Int) := by omega
      have hjb : j ≤ 100000000 := by
        have h1 := psum_len sizeO (l := obsOf xs) fun o _ => (by unfold sizeO; omega)
        have h2 := HZ.out
        have h3 := HZB.out
        unfold sizeD at h2
        omega
      have hwj : IntKind.i64.wrap ((j : Int) + 1) = (j : Int) + 1 := by rw [IntKind.wrap_i64]; omega
      have hmem := List.getElem_mem hjx
      obtain ⟨b, o, eA, hbs, c0, c1, c2, c3, c4, c5⟩ := (HH.out.row.lst.below HB.out).atO hjx
      have eA2 : A = some ⟨b, o, none⟩ := eA
      subst eA2
      have hnx := psum_succ sizeO hjo
      rw [show (obsOf xs)[j] = xs[j].o from List.getElem_map _] at hnx
      have hbig := psum_pre sizeO (obsOf xs) (j + 1)
      have hzz : 16 + ((obsOf xs).map sizeO).sum ≤ 100000000 := by have h1 := HZ.out; have h2 := HZB.out; unfold sizeD at h1; omega
      rw [hnx] at hbig
      have hlr := fun W (k : Below w.heap.size w W) => ((HH.out.all _ hmem).below k).rows
      have hlm := fun W (k : Below w.heap.size w W) => ((HH.out.all _ hmem).below k).msgs
      have hld := fun W (k : Below w.heap.size w W) => ((HH.out.all _ hmem).below k).dead
      generalize ((obsOf xs).map sizeO).sum = TT at *
      generalize hT2 : (((obsOf xs).take (j + 1)).map sizeO).sum = T2 at *
      have HT2 := ShutZp.mk hT2
      generalize (((obsOf xs).take j).map sizeO).sum = T1 at *
      generalize xs[j].o = ob at *
      generalize xs[j].r = sr at *
      generalize xs[j].m = sm at *
      generalize xs[j].d = sd at *
      obtain ⟨nm, kd, lm, rs, ms, ds⟩ := ob
      obtain ⟨ra, rn, rc⟩ := sr
      obtain ⟨ma, mn, mc⟩ := sm
      obtain ⟨da, dn, dc⟩ := sd
      simp only at c0 c1 c2 c3 c4 c5 hlr hlm hld
      rw [sizeO_sz] at hnx hbig
      simp only at hnx hbig
      obtain ⟨R, hR⟩ : ∃ R, (rs.map szR).sum = R := ⟨_, rfl⟩
      obtain ⟨M, hM⟩ : ∃ M, (ms.map szM).sum = M := ⟨_, rfl⟩
      obtain ⟨D, hD⟩ : ∃ D, (ds.map szM).sum = D := ⟨_, rfl⟩
      rw [hR, hM, hD] at hnx hbig
      have hcap : 16 + T1 + (50 + nm.size) + R + (M + D) ≤ 100000000 := by omega
      have hnx2 : 16 + T2 = 16 + T1 + (50 + nm.size) + R + (M + D) := by omega
      have HCAP := ShutZp.mk hcap
      have HNX := ShutZp.mk hnx2
      have HR := ShutZp.mk hR
      have HM := ShutZp.mk hM
      have HD := ShutZp.mk hD
      have HLR := ShutZp.mk hlr
      have HLM := ShutZp.mk hlm
      have HLD := ShutZp.mk hld
      have hw0 : IntKind.i64.wrap (50 + (nm.size : Int)) = ((50 + nm.size : Nat) : Int) := by rw [IntKind.wrap_i64]; omega
      have hw1 : IntKind.i64.wrap (((16 + T1 : Nat) : Int) + ((50 + nm.size : Nat) : Int)) = ((16 + T1 + (50 + nm.size) : Nat) : Int) := by rw [IntKind.wrap_i64]; omega
      generalize hu0 : 16 + T1 = U0 at *
      generalize hu1 : 50 + nm.size = U1 at *
      generalize hu2 : U0 + U1 = U2 at *
      have hrw : PzW w wo.heap.size #[.int .i64 next, .slice (some ⟨b, o, none⟩) n c] #[.string nm, .int .i64 kd, .int .i64 lm, .slice ra rn rc, .slice ma mn mc, .slice da dn dc] (wo.alloc (.cells #[.string nm, .int .i64 kd, .int .i64 lm, .slice ra rn rc, .slice ma mn mc, .slice da dn dc] 77)) := ⟨HB.out.alloc HB.out.size _, HX.out.alloc _, Blk.new wo _ _⟩
      have HR0 := ShutZp.mk hrw
      clear hrw hcap hnx hnx2 hR hM hD hlr hlm hld hbig hzz hmem eA hT2 hu0 hu1 hu2
      go_wp2_with fail
      clear c0 c1 c2 c3 c4 c5 d1 dlt hbs hw0 hw1
      go_loopg [3, 24] rs.length (fun k v i wx => PzI w wo.heap.size #[.int .i64 next, .slice (some ⟨b, o, none⟩) n c] #[.string nm, .int .i64 kd, .int .i64 lm, .slice ra rn rc, .slice ma mn mc, .slice da dn dc] U2 rs k v i wx)
      case atStart => exact ⟨0, by omega, rfl, by simp, HR0.out⟩
      case round =>
        obtain ⟨q6, hq6, rfl, rfl, him⟩ := hrel
        have HQ6 := ShutZp.mk hq6
        have HO6 := ShutZp.mk him
        have hn6 : rn = rs.length := (HLR.out _ him.b).len
        have e4 := him.o.cell 4
        have e5 := him.o.cell 5
        have elt := him.o.lt
        simp only [List.getElem?_toArray, List.getElem?_cons_zero, List.getElem?_cons_succ] at e4 e5
        clear hq6 him
        by_cases hl6 : q6 < rs.length
        · obtain ⟨mb, mo, em, _, i0, i1⟩ := (HLR.out _ HO6.out.b).lst.atR hl6
          have em2 : ra = some ⟨mb, mo, none⟩ := em
          subst em2
          have hqi : (q6 : Int) < (rn : Int) := by omega
          have hst := psum_succ szR hl6
          have hle := psum_pre szR rs (q6 + 1)
          have hfx := HR.out
          rw [hfx, hst] at hle
          have hsz : szR rs[q6] = 20 + rs[q6].1.size + rs[q6].2.size := rfl
          rw [hsz] at hst hle
          generalize rs[q6].1 = yk at *
          generalize rs[q6].2 = yv at *
          generalize hu2 : ((rs.take (q6 + 1)).map szR).sum = u2 at *
          have HU2 := ShutZp.mk hu2
          generalize ((rs.take q6).map szR).sum = u1 at *
          have hcap := HCAP.out
          have hlen : rs.length ≤ 100000000 := by
            have h1 := psum_len szR (l := rs) fun x _ => by unfold szR; omega
            rw [hfx] at h1
            have h2 := HCAP.out
            omega
          have hwq : IntKind.i64.wrap ((q6 : Int) + 1) = (q6 : Int) + 1 := by rw [IntKind.wrap_i64]; omega
          have hwA : IntKind.i64.wrap (20 + (yk.size : Int)) = ((20 + yk.size : Nat) : Int) := by rw [IntKind.wrap_i64]; omega
          have hwB : IntKind.i64.wrap (((20 + yk.size : Nat) : Int) + (yv.size : Int)) = ((20 + yk.size + yv.size : Nat) : Int) := by rw [IntKind.wrap_i64]; omega
          have hwC : IntKind.i64.wrap (((U2 + u1 : Nat) : Int) + ((20 + yk.size + yv.size : Nat) : Int)) = ((U2 + u2 : Nat) : Int) := by rw [IntKind.wrap_i64]; omega
          generalize hv5 : U2 + u2 = V5 at *
          have HV5 := ShutZp.mk hv5
          generalize hv3 : 20 + yk.size = V3 at *
          generalize hv4 : V3 + yv.size = V4 at *
          generalize hv2 : U2 + u1 = V2 at *
          clear hst hle hfx hcap hlen em hv2 hv3 hv4 hv5 hu2 hsz e4 e5
          go_wp2_with fail
          go_roundg (rs.length - (q6 + 1))
          case measure => have := HQ6.out; omega
          case rel => exact ⟨q6 + 1, by have := HQ6.out; omega, congrArg (Value.int .i64) (by omega), (by rw [HU2.out, HV5.out]), HO6.out.step (alloc_below wr _)⟩
        · have hqe : q6 = rs.length := by have := HQ6.out; omega
          have hqi : ¬ (q6 : Int) < (rn : Int) := by omega
          have hful : ((rs.take q6).map szR).sum = R := by rw [hqe, List.take_length]; exact HR.out
          rw [hful]
          have hcap := HCAP.out
          have hm := fun W (k : Below w.heap.size w W) => smsgs_ (c := mc) ((HLM.out W k).lst) ((HLM.out W k).len.symm) HM.out (by omega)
          have hd := fun W (k : Below w.heap.size w W) => smsgs_ (c := dc) ((HLD.out W k).lst) ((HLD.out W k).len.symm) HD.out (by omega)
          have HSM := ShutZp.mk hm
          have HSD := ShutZp.mk hd
          have hwA : IntKind.i64.wrap ((M : Int) + (D : Int)) = ((M + D : Nat) : Int) := by rw [IntKind.wrap_i64]; omega
          have hwB : IntKind.i64.wrap (((U2 + R : Nat) : Int) + ((M + D : Nat) : Int)) = ((U2 + R + (M + D) : Nat) : Int) := by rw [IntKind.wrap_i64]; omega
          generalize hu5 : U2 + R + (M + D) = U5 at *
          have HNX2 : ShutZp (16 + T2 = U5) := ⟨by have := HNX.out; omega⟩
          generalize U2 + R = U4 at *
          generalize M + D = U3 at *
          clear hful hqe hl6 hn6 hcap hm hd hu5
          have hS0 : ShutZp (Ld45 wo.heap.size (.slice ma mn mc) (.slice da dn dc) wr.drew) := ⟨e4, e5⟩
          have HB6 := ShutZp.mk HO6.out.b
          clear e4 e5 elt
          go_wp2_with fail
          go_region_held3 (fun W : World => Ld45 wo.heap.size (.slice ma mn mc) (.slice da dn dc) W)
            (first | with_reducible exact hS0.out | with_reducible exact hS1.out | with_reducible exact hS2.out)
            (first | (go_at_call 98; refine (HSD.out _ HB7.out).mono ?_; rintro e w8 ⟨rfl, hb8⟩; have HO8 := ShutZp.mk (HO7.out.step hb8); have hS2 : ShutZp (Ld45 wo.heap.size (.slice ma mn mc) (.slice da dn dc) w8) := ⟨HO8.out.o.cell 4, HO8.out.o.cell 5⟩; clear hb8) | (go_at_call 98; refine (HSM.out _ (HB6.out.trans ((Below.refl _ _).drew))).mono ?_; rintro e w7 ⟨rfl, hb7⟩; have HO7 := ShutZp.mk (HO6.out.step (((Below.refl _ _).drew).trans hb7)); have HB7 := ShutZp.mk HO7.out.b; have hS1 : ShutZp (Ld45 wo.heap.size (.slice ma mn mc) (.slice da dn dc) w7) := ⟨HO7.out.o.cell 4, HO7.out.o.cell 5⟩; clear hb7))
          go_wp2_with fail
          go_roundg (n - (j + 1))
          case measure => have := HJ.out; have := HOL.out; omega
          case rel => exact ⟨j + 1, by have := HOL.out; have := HJ.out; omega, by go_num, by rw [HT2.out, HNX2.out], HO8.out.b, HO8.out.s⟩
    · have he : j = (obsOf xs).length := by have := HJ.out; have := HOL.out; omega
      have hful : 16 + (((obsOf xs).take j).map sizeO).sum = Z := by rw [he, List.take_length]; exact HZ.out
      rw [hful]
      clear he hful
      go_wp2
      go_ret
      exact ⟨rfl, HB.out⟩
end Go.Proofs.YtjfoflbaoceemaaGreat
namespace Go.Proofs.YtjfoflbaoceemaaGreat
open Go.RowKit
structure WE (w : World) (e : Ef) (bs : List UInt8) (wk : World) : Prop where
  lo : Keep (Lo w.heap.size) w wk
  box : Blk wk w.heap.size 46 e.cells
  wr : WriterAt wk (w.heap.size + 1) bs
section
variable {w wk w' : World} {e : Ef} {bs bs' : List UInt8}
theorem WE.first (w : World) (e : Ef) : WE w e [] ((w.alloc (.cells e.cells 46)).alloc (.cells #[.pointer none, .int .i64 0] 151)) := by
  have h1 := alloc_below w (.cells e.cells 46)
  refine ⟨Keep.of_below (h1.alloc h1.size _), (Blk.new w 46 e.cells).alloc _, ?_⟩
  have := writer_new (w.alloc (.cells e.cells 46))
  rw [show (w.alloc (.cells e.cells 46)).heap.size = w.heap.size + 1 by simp] at this
  exact this
theorem WE.next (h : WE w e bs wk) (hw : WriterAt w' (w.heap.size + 1) bs') (hk : Keep (But (w.heap.size + 1)) wk w') : WE w e bs' w' :=
  ⟨h.lo.trans (hk.lo (by omega)), h.box.keep hk (by simp only [But]; omega), hw⟩
end
theorem text_len (s : ByteArray) (hs : s.size ≤ 9000) : (encText s.data.toList).length ≤ 9002 := by
  have h1 := List.length_take_le' 65535 s.data.toList
  have h2 : s.data.toList.length = s.size := rfl
  rw [encText_len]
  omega
set_option maxHeartbeats 1000000 in
theorem fields_ (e : Ef) (hs : e.short) (w : World) : Calls Tryz.prog 96 #[e.val_] w
    fun x w' => ∃ g, x = .returned (.slice (some ⟨g, 0, none⟩) (e.head []).length (e.head []).length) ∧ Blk w' g 5 (cellsB (e.head [])).toArray ∧ w.heap.size ≤ g ∧ Below w.heap.size w w' := by
  obtain ⟨z, hz⟩ : ∃ z, e.head [] = z := ⟨_, rfl⟩
  have HM := Lib.hid (WE.first w e)
  have HZ := Lib.hid hz
  have hl := head_len e [] hs
  rw [hz]
  clear hz
  obtain ⟨s1, s2, s3, _, _⟩ := hs
  have hlz : z.length ≤ 40000 := by
    have h1 : e.head [] = z := HZ.out
    have h2 : ([] : List UInt8).length = 0 := rfl
    rw [h1] at hl
    omega
  have HLZ := Lib.hid hlz
  clear hl hlz
  simp only [Ef.head] at HZ
  obtain ⟨k, o, ky, v, n, l, t, m⟩ := e
  simp only at s1 s2 s3 HZ
  have HL1 := Lib.hid (text_len o s1)
  have HL2 := Lib.hid (text_len ky s2)
  have HL3 := Lib.hid (text_len v s3)
  go_enter Tryz.func96, Tryz.ntmps96
  go_wp2_with fail
  simp only [Ef.cells] at HM
  refine (wInt _ _ _ k HM.out.wr (by simp)).mono ?_
  rintro e w1 ⟨rfl, hw1, hk1⟩
  have H1 := Lib.hid (HM.out.next hw1 hk1)
  have q0 := H1.out.box.cell 1
  clear hw1 hk1 HM
  go_wp2_with fail
  refine (wText _ _ _ o H1.out.wr (by simp [encInt_len]) (by omega)).mono ?_
  rintro e w2 ⟨rfl, hw2, hk2⟩
  have H2 := Lib.hid (H1.out.next hw2 hk2)
  have q0 := H2.out.box.cell 2
  clear hw2 hk2 H1
  go_wp2_with fail
  refine (wText _ _ _ ky H2.out.wr (by have := HL1.out; simp [encInt_len]; omega) (by omega)).mono ?_
  rintro e w3 ⟨rfl, hw3, hk3⟩
  have H3 := Lib.hid (H2.out.next hw3 hk3)
  have q0 := H3.out.box.cell 3
  clear hw3 hk3 H2
  go_wp2_with fail
  refine (wText _ _ _ v H3.out.wr (by have := HL1.out; have := HL2.out; simp [encInt_len]; omega) (by omega)).mono ?_
  rintro e w4 ⟨rfl, hw4, hk4⟩
  have H4 := Lib.hid (H3.out.next hw4 hk4)
  have q0 := H4.out.box.cell 4
  clear hw4 hk4 H3
  go_wp2_with fail
  refine (wInt _ _ _ n H4.out.wr (by have := HL1.out; have := HL2.out; have := HL3.out; simp [encInt_len]; omega)).mono ?_
  rintro e w5 ⟨rfl, hw5, hk5⟩
  have H5 := Lib.hid (H4.out.next hw5 hk5)
  have q0 := H5.out.box.cell 5
  clear hw5 hk5 H4
  go_wp2_with fail
  refine (wInt _ _ _ l H5.out.wr (by have := HL1.out; have := HL2.out; have := HL3.out; simp [encInt_len]; omega)).mono ?_
  rintro e w6 ⟨rfl, hw6, hk6⟩
  have H6 := Lib.hid (H5.out.next hw6 hk6)
  have q0 := H6.out.box.cell 6
  clear hw6 hk6 H5
  go_wp2_with fail
  refine (wFlag _ _ _ t H6.out.wr (by have := HL1.out; have := HL2.out; have := HL3.out; simp [encInt_len]; omega)).mono ?_
  rintro e w7 ⟨rfl, hw7, hk7⟩
  have H7 := Lib.hid (H6.out.next hw7 hk7)
  clear hw7 hk7 H6 q0
  go_wp2_with fail
  rw [List.nil_append] at H7 HZ
  rw [HZ.out] at H7
  refine (wBytes _ _ _ H7.out.wr (by have := HLZ.out; omega)).mono ?_
  rintro e w8 ⟨rfl, hb8, hB8⟩
  have HB8 := Lib.hid hb8
  have HS := Lib.hid H7.out.lo.size
  have HE := Lib.hid ((H7.out.lo.trans (Keep.of_below hB8)).end_)
  clear hb8 hB8 H7
  go_wp2_with fail
  go_ret
  exact ⟨w7.heap.size, rfl, HB8.out, HS.out, HE.out⟩
end Go.Proofs.YtjfoflbaoceemaaGreat
