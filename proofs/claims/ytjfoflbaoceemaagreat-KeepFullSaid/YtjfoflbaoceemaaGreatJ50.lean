/- . . . . . -/
import Derived.Test.YtjfoflbaoceemaaGreatJ49
import Derived.Test.YtjfoflbaoceemaaGreatJ44
import Derived.Test.YtjfoflbaoceemaaGreatJ06
import Derived.Test.YtjfoflbaoceemaaGreatJ40
import Derived.Test.YtjfoflbaoceemaaGreatJ41
import Derived.Test.YtjfoflbaoceemaaGreatJ39
import Derived.Test.YtjfoflbaoceemaaGreatJ14
import Derived.RegionTactic
import Derived.Deep.QuietTactic
import Derived.BigQuiet
import Derived.Laws.StructEq
import Derived.Test.YtjfoflbaoceemaaGreatJ25
set_option maxRecDepth 4000
namespace Go.Proofs.YtjfoflbaoceemaaGreat
open Go.RowKit
def BytesRel (w : World) (xs : List Ef) (k : Nat) (v i : Value) (wr : World) : Prop :=
  ∃ j, j + k = xs.length ∧ i = .int .i64 (j : Int) ∧ OwnBy wr w.heap.size v (encInt (xs.length : Int) ++ bytesAll (xs.take j)) ∧ Below w.heap.size w wr
theorem all_take_le (xs : List Ef) (j : Nat) : (bytesAll (xs.take j)).length ≤ (bytesAll xs).length := by
  have e : bytesAll xs = bytesAll (xs.take j) ++ bytesAll (xs.drop j) := by
    unfold bytesAll
    rw [← List.flatMap_append, List.take_append_drop]
  rw [e, List.length_append]; omega
set_option maxHeartbeats 1000000 in
theorem bytesE_ {w : World} {K : Nat → Prop} {A : Option Addr} {n c : Nat} {xs : List Ef} (h : Lst w K eEf A xs) (hl : xs.length = n) (hn : n ≤ 10000) (hs : ∀ e ∈ xs, e.short) (hby : (bytesAll xs).length ≤ 800000) :
    Calls Tryz.prog 51 #[.slice A n c] w fun x w' => ∃ v, x = .returned v ∧ OwnBy w' w.heap.size v (bytesE xs) ∧ Below w.heap.size w w' := by
  have H := Lib.hid h
  have HL := Lib.hid hl
  have HS : Hid (∀ e ∈ xs, e.short) := hs
  have HBY := Lib.hid hby
  have H0 := Lib.hid (writer_new w)
  have HB0 := Lib.hid (alloc_below w (.cells #[.pointer none, .int .i64 0] 151))
  clear h hl hs hby
  go_enter Tryz.func51, Tryz.ntmps51
  go_wp2_with fail
  refine (wInt _ _ _ (n : Int) H0.out (by simp)).mono ?_
  rintro e w1 ⟨rfl, hw1, hk1⟩
  have HB1 := Lib.hid (HB0.out.trans (hk1.below (B := w.heap.size) HB0.out.size fun i _ hi => by simp only [But]; omega))
  have HW1 := Lib.hid hw1
  clear hw1 hk1 H0 HB0
  go_wp2_with fail
  refine (wBytes _ _ _ HW1.out (by simp [encInt_len])).mono ?_
  rintro e w2 ⟨rfl, hb2, hB2⟩
  rw [List.nil_append] at hb2 ⊢
  have ho := ownBy_blk (base := w.heap.size) hb2 HB1.out.size (by rw [encInt_len]; unfold maxLen; omega)
  have HO := Lib.hid ho
  have HB2 := Lib.hid (HB1.out.trans (hB2.mono HB1.out.size))
  clear hb2 hB2 ho HB1 HW1
  go_wp2_with fail
  generalize w1.heap.size = g1 at *
  generalize (encInt (n : Int)).length = q1 at *
  go_loopg [4, 13] n (fun k v i wr => BytesRel w xs k v i wr)
  case atStart => exact ⟨0, by rw [HL.out]; omega, rfl, by have := HO.out; rw [HL.out, List.take_zero]; simpa [bytesAll] using this, HB2.out⟩
  case round =>
    obtain ⟨j, hj, rfl, ho, hb⟩ := hrel
    have HJ := Lib.hid hj
    have HO3 := Lib.hid ho
    have HB3 := Lib.hid hb
    clear hj ho hb HO HB2
    by_cases hlt : j < n
    · have hx : j < xs.length := by rw [HL.out]; exact hlt
      have hsh := HS.out xs[j] (List.getElem_mem hx)
      have hy : encInt (xs.length : Int) ++ bytesAll (xs.take (j + 1)) = ((encInt (xs.length : Int) ++ bytesAll (xs.take j)) ++ xs[j].head []) ++ xs[j].msg.bytes := by
        rw [bytesAll_take hx, Ef.bytes]; simp only [List.append_assoc]
      have hyl : (encInt (xs.length : Int) ++ bytesAll (xs.take (j + 1))).length ≤ 800008 := by
        have h1 := all_take_le xs (j + 1)
        have h2 := HBY.out
        rw [List.length_append, encInt_len]; omega
      obtain ⟨b, o, rfl, hbs, c0, c1, c2, c3, c4, c5, c6, c7, c8, c9, c10, c11, c12⟩ := (H.out.below HB3.out).atEf hx
      generalize xs[j] = e at *
      generalize hy2 : encInt (xs.length : Int) ++ bytesAll (xs.take (j + 1)) = y2 at *
      generalize encInt (xs.length : Int) ++ bytesAll (xs.take j) = y1 at *
      have hyl2 : y1.length + (e.head []).length + e.msg.bytes.length ≤ 800008 := by
        rw [hy, List.length_append, List.length_append] at hyl; exact hyl
      have hbx := Blk.new wr 46 e.cells
      have hal := alloc_below wr (.cells e.cells 46)
      have hfl := fields_ e hsh
      have hmb := mbytes_ e.msg hsh.2.2.2.1 hsh.2.2.2.2
      generalize e.head [] = hd at *
      generalize e.msg.bytes = mb at *
      have HBX := Lib.hid hbx
      have HAL := Lib.hid hal
      have HFL := Lib.hid hfl
      have HMB := Lib.hid hmb
      have HY : Hid (encInt (xs.length : Int) ++ bytesAll (xs.take (j + 1)) = (y1 ++ hd) ++ mb) := hy2.trans hy
      have HYL := Lib.hid hyl2
      clear hbx hal hsh hfl hmb hy hy2 hyl hyl2 hx
      obtain ⟨k, o', ky, v', n', l, t, ⟨i, p, r, cl, cr, bd⟩⟩ := e
      simp only at c0 c1 c2 c3 c4 c5 c6 c7 c8 c9 c10 c11 c12
      go_wp2_with fail
      refine (HFL.out _).mono ?_
      rintro e w3 ⟨g3, rfl, hx3, hg3, hb3⟩
      obtain ⟨A4, n4, c4', w4, hap, ho4, hb4, hk4⟩ := append_by HO3.out HB3.out.size (HAL.out.trans (hb3.mono HAL.out.size)) hx3 (by have := HYL.out; omega)
      have hx4 : Blk w4 wr.heap.size 46 (Ef.cells ⟨k, o', ky, v', n', l, t, ⟨i, p, r, cl, cr, bd⟩⟩) := (hk4 _ (Nat.le_refl _) (Nat.lt_of_lt_of_le HBX.out.lt hb3.size)).trans (HBX.out.below hb3 HBX.out.lt)
      obtain ⟨q0, q1, q2, q3, q4, q5, q6, q7, q8, q9, q10, q11, q12⟩ := thir_of hx4
      simp only at q7 q8 q9 q10 q11 q12
      have HO4 := Lib.hid ho4
      have HB4 := Lib.hid (HB3.out.trans hb4)
      clear hx3 hg3 hb3 ho4 hb4 hk4 hx4 HBX HAL HFL HO3 HB3 q0 q1 q2 q3 q4 q5 q6 c0 c1 c2 c3 c4 c5 c6 c7 c8 c9 c10 c11 c12
      go_wp2_with (at_builtin; refine wpList_append_run rfl (.tmp 17) (.tmp 19) 42 42 rfl _ _ rfl rfl hap ?_)
      refine (HMB.out _).mono ?_
      rintro e w5 ⟨g5, rfl, hx5, hg5, hb5⟩
      obtain ⟨A6, n6, c6', w6, hap6, ho6, hb6, hk6⟩ := append_by HO4.out HB4.out.size hb5 hx5 (by have := HYL.out; rw [List.length_append]; omega)
      have HO6 := Lib.hid ho6
      have HB6 := Lib.hid (HB4.out.trans hb6)
      clear hx5 hg5 hb5 ho6 hb6 hk6 hap HO4 HB4 HMB q7 q8 q9 q10 q11 q12
      go_wp2_with (at_builtin; refine wpList_append_run rfl (.tmp 21) (.tmp 24) 42 42 rfl _ _ rfl rfl hap6 ?_)
      go_roundg (n - (j + 1))
      case measure => have := HJ.out; have := HL.out; omega
      case rel => exact ⟨j + 1, by have := HL.out; omega, by go_num, by rw [HY.out]; exact HO6.out, HB6.out⟩
    · have he : j = xs.length := by have := HJ.out; have := HL.out; omega
      have HE := Lib.hid he
      clear he
      go_wp2
      go_ret
      exact ⟨_, rfl, by have := HO3.out; rwa [HE.out, List.take_length] at this, HB3.out⟩
end Go.Proofs.YtjfoflbaoceemaaGreat
namespace Go.Proofs.YtjfoflbaoceemaaGreat
open Go.RowKit
section
variable {w w' : World} {b g gd : Nat} {R Q : Nat → Prop} {sv : Sv} {xs : List Oc} {d : Dk} {K : Ks} {m : Nat}
theorem kepoch_ (h : KsM w b g gd R Q sv xs d K) : Calls Tryz.prog 27 #[ptr b] w fun e w' => e = .returned (.int .i64 (K.e : Int)) ∧ w = w' := by
  obtain ⟨_, _, _, c3, _, hlt⟩ := h.cells
  clear h
  go_enter Tryz.func27, Tryz.ntmps27
  go_wp2_with fail
  go_ret
  exact ⟨rfl, rfl⟩
def StateP (w : World) (s : St) (e : Ending) (w' : World) : Prop :=
  ∃ (s' : Sv) (ys : List Oc), e = .returned (.agg #[.int .i64 s.next, .slice s'.a s'.n s'.c]) ∧ ObsAt w' (fun i => w.heap.size ≤ i) s' ys ∧ obsOf ys = s.objs ∧ Below w.heap.size w w'
set_option maxHeartbeats 1000000 in
theorem kstate_ (h : KsM w b g gd R Q sv xs d K) (hb : Base K.st) : Calls Tryz.prog 26 #[ptr b] w (StateP w K.st) := by
  have k1 := alloc_below w (.cells #[.int .i64 0, .slice none 0 0] 54)
  have h1 := h.below k1
  have hap := applyK (c2 := 0) h1 hb.bear (Below.refl _ _) (Lst.nil _ (fun _ => True) eEf none) rfl (by decide)
  rw [apply_nil hb.right] at hap
  have HAP := ShutK.mk hap
  have K1 := ShutK.mk k1
  have hres := Blk.new w 54 #[.int .i64 0, .slice none 0 0]
  have HRES := ShutK.mk hres
  obtain ⟨_, c1, c2, _, _, hlt⟩ := h1.cells
  have hsz : (w.alloc (.cells #[.int .i64 0, .slice none 0 0] 54)).heap.size = w.heap.size + 1 := by simp
  have HSZ := ShutK.mk hsz
  clear h h1 hb hap hres k1 hsz
  go_enter Tryz.func26, Tryz.ntmps26
  go_wp2_with fail
  refine HAP.out.mono ?_
  rintro e w2 ⟨⟨a', n', k'⟩, ys, rfl, hobs, heq, hbel⟩
  have k3 := alloc_below w2 (.cells #[.int .i64 K.st.next, .slice a' n' k'] 54)
  have hr3 := (HRES.out.below hbel HRES.out.lt).below k3 (Nat.lt_of_lt_of_le HRES.out.lt hbel.size)
  have HR3 := ShutK.mk hr3
  have hb3 := (K1.out.trans (hbel.mono K1.out.size)).trans (k3.mono (Nat.le_trans K1.out.size hbel.size))
  have HB3 := ShutK.mk hb3
  have HO3 := ShutK.mk (hobs.below k3)
  have HE := ShutK.mk heq
  have f0 := hr3.frozen 0
  have f1 := hr3.frozen 1
  obtain ⟨q0, q1⟩ := blk_two hr3
  have hb2 := blk_store2 hr3 (.int .i64 K.st.next) (.slice a' n' k')
  obtain ⟨t0, t1⟩ := blk_two hb2
  have hsz := HSZ.out
  have hkk : Keep (fun i _ => w.heap.size + 1 ≤ i) (w2.alloc (.cells #[.int .i64 K.st.next, .slice a' n' k'] 54)) (put2 (w2.alloc (.cells #[.int .i64 K.st.next, .slice a' n' k'] 54)) w.heap.size (.int .i64 K.st.next) (.slice a' n' k')) := ((Keep.refl _).setCell (p := ⟨w.heap.size, 0, none⟩) (fun _ _ h => Nat.not_succ_le_self _ h) _).setCell (p := ⟨w.heap.size, 1, none⟩) (fun _ _ h => Nat.not_succ_le_self _ h) _
  have hoz : ObsAt (put2 (w2.alloc (.cells #[.int .i64 K.st.next, .slice a' n' k'] 54)) w.heap.size (.int .i64 K.st.next) (.slice a' n' k')) (fun i => w.heap.size ≤ i) ⟨a', n', k'⟩ ys := (HO3.out.keep hkk fun i _ _ hi => by rw [hsz] at hi; exact hi).more fun i _ hi => by omega
  have HOZ := ShutK.mk hoz
  have HD := ShutK.mk (HB3.out.trans (below_two (Below.refl w.heap.size _) (Nat.le_refl _) (.int .i64 K.st.next) (.slice a' n' k')))
  clear hobs heq hbel HAP hr3 hb3 hb2 hkk hoz hsz k3
  go_wp2_with fail
  refine bodyPost_ret (v := .agg #[.int .i64 K.st.next, .slice a' n' k']) (by simp [results, Tryz.results26, go_sem, t0, t1]) rfl ?_
  exact ⟨⟨a', n', k'⟩, ys, rfl, HOZ.out, HE.out, HD.out⟩
def DoP (w : World) (b gd : Nat) (R : Nat → Prop) (r : Dk × Ks × Int) (e : Ending) (w' : World) : Prop := e = .returned (.int .i64 r.2.2) ∧ KsAt w' b gd R r.1 r.2.1 ∧ Keep (fun i _ => R i) w w'
theorem doP_of {r : Dk × Ks × Int} {dE : Dk} {KE : Ks} {c : Int} {e : Ending} (h : r = (dE, KE, c)) (h1 : e = .returned (.int .i64 c)) (h2 : KsAt w' b gd R dE KE) (h3 : Keep (fun i _ => R i) w w') : DoP w b gd R r e w' := by
  subst h
  exact ⟨h1, h2, h3⟩
set_option maxHeartbeats 4000000 in
theorem kdo_ (h : KsM w b g gd R Q sv xs d K) (hR : Rest m d K) (hm : m + 300 ≤ 300000) {K2 : Nat → Prop} {A : Option Addr} {n cap : Nat} {l : List Ef} (hl : Lst w K2 eEf A l) (hln : l.length = n) (hn : n ≤ 150) :
    Calls Tryz.prog 19 #[ptr b, .slice A n cap] w (DoP w b gd R (doK layP d K l)) := by
  obtain ⟨c, s, ha⟩ : ∃ c s, applyS K.st l = (c, s) := ⟨_, _, rfl⟩
  have hap := applyK (c2 := cap) h hR.st.bear (Below.refl _ _) hl hln (by omega)
  rw [ha] at hap
  obtain ⟨c0, c1, c2, c3, c4, hlt⟩ := h.cells
  rw [hR.dead] at c4
  have HAP := ShutK.mk hap
  have H := ShutK.mk h
  have HR := ShutK.mk hR
  have HA := ShutK.mk ha
  have HL := ShutK.mk hl
  have HLN := ShutK.mk hln
  have HM := ShutK.mk hm
  clear hap h hR hl ha hln hm
  go_enter Tryz.func19, Tryz.ntmps19
  go_wp2_with fail
  refine HAP.out.mono ?_
  rintro e w1 ⟨⟨a', n', k'⟩, ys, rfl, hobs, heq, hbel⟩
  have k2 := alloc_below w1 (.cells #[.int .i64 s.next, .slice a' n' k'] 54)
  have HB1 := ShutK.mk (hbel.trans (k2.mono hbel.size))
  have HO1 := ShutK.mk (hobs.below k2)
  have HE := ShutK.mk heq
  have HX1 := ShutK.mk (Blk.new w1 54 #[.int .i64 s.next, .slice a' n' k'])
  have hge := hbel.size
  have hs1 : w1.heap.size < (w1.alloc (.cells #[.int .i64 s.next, .slice a' n' k'] 54)).heap.size := by simp
  have HS1 := ShutK.mk (And.intro hge hs1)
  clear hobs heq hbel k2 HAP c0 c1 c2 c3 c4 hge hs1
  by_cases hc : c = 0
  rotate_left
  · have t1 : (c != 0) = true := by simpa using hc
    have HC := ShutK.mk hc
    clear hc
    go_wp2_with fail
    go_ret
    exact doP_of (doK_err HR.out.dead HA.out HC.out) rfl ⟨g, Q, sv, xs, H.out.below HB1.out⟩ (Keep.of_below HB1.out)
  subst hc
  have h0 : (applyS K.st l).1 = 0 := by rw [HA.out]
  have hrt := apply_right h0
  obtain ⟨hrn, hsh⟩ := HR.out.st.apply (by rw [HLN.out]; omega) HA.out
  have hrn := (apply_n h0).2
  rw [HA.out] at hrn
  have hbd := hrn.bound hsh
  obtain ⟨Z, hZ⟩ : ∃ Z, sizeD s.objs = Z := ⟨_, rfl⟩
  rw [hZ] at hbd
  have hlen := bytesE_tight hrt
  have hby := fun W (k : Below w.heap.size w W) => bytesE_ (c := cap) (HL.out.below k) HLN.out (by omega) (fun e he => (right_tight (hrt e he)).short) (by have := HLN.out; omega)
  have HBY := ShutK.mk hby
  have HRT := ShutK.mk hrt
  have HSH := ShutK.mk (And.intro hrn hsh)
  have HZ := ShutK.mk hZ
  have HBD := ShutK.mk hbd
  clear h0 hrt hrn hsh hbd hZ hlen hby
  go_wp2_with fail
  generalize w1.alloc (.cells #[.int .i64 s.next, .slice a' n' k'] 54) = w2 at *
  generalize w1.heap.size = g1 at *
  refine (HBY.out _ HB1.out).mono ?_
  rintro e w3 ⟨v3, rfl, ho3, hb3⟩
  obtain ⟨A3, c3, rfl, hh3, hc3, hm3, hA3⟩ := own_has ho3
  obtain ⟨N, hN⟩ : ∃ N, (bytesE l).length = N := ⟨_, rfl⟩
  rw [hN] at hc3
  rw [hN]
  have HN := ShutK.mk hN
  have HX3 := ShutK.mk (HX1.out.below hb3 HX1.out.lt)
  have HO3 := ShutK.mk (HO1.out.below hb3)
  have HB3 := ShutK.mk (HB1.out.trans (hb3.mono HB1.out.size))
  have HH3 := ShutK.mk (hh3.more (K' := fun i => w.heap.size ≤ i) fun i _ hi => Nat.le_trans HB1.out.size hi.1)
  have HA3 := ShutK.mk hA3
  obtain ⟨q0, q1⟩ := blk_two HX3.out
  have hlt3 := HX3.out.lt
  have hNb : N ≤ 100000000 := by
    have h1 := bytesE_tight HRT.out
    have h2 := HLN.out
    rw [← hN]
    unfold bytesE
    rw [List.length_append, encInt_len]
    omega
  have hpz := fun W (k : Below w3.heap.size w3 W) => psize_ (HO3.out.below k) s.next (Z := Z) (by rw [HE.out]; exact HZ.out) (by have := HBD.out; omega)
  have HPZ := ShutK.mk hpz
  clear ho3 hb3 hh3 hA3 hN hpz HBY
  go_wp2_with fail
  refine (HPZ.out w3 (Below.refl _ _)).mono ?_
  rintro e w4 ⟨rfl, hb4⟩
  have HX4 := ShutK.mk (HX3.out.below hb4 HX3.out.lt)
  have HO4 := ShutK.mk (HO3.out.below hb4)
  have HH4 := ShutK.mk (HH3.out.keep (Keep.of_below hb4))
  have HB4 := ShutK.mk (HB3.out.trans (hb4.mono HB3.out.size))
  obtain ⟨p0, p1⟩ := blk_two HX4.out
  have hlt4 := HX4.out.lt
  clear hb4 HPZ HX3 HO3 HH3 q0 q1 hlt3 HX1 HO1
  have hfull : ¬ (Z ≤ 6000 ∧ N ≤ 10176) → doK layP d K l = (d, K, 9) := fun hf => doK_full HR.out.dead HA.out (by rw [HZ.out, HN.out]; omega)
  by_cases hz : Z ≤ 6000
  rotate_left
  · have t1 : decide ((6000 : Int) < (Z : Int)) = true := decide_eq_true (by omega)
    have t2 : decide (6000 < Z) = true := decide_eq_true (by omega)
    have HF := ShutK.mk (hfull (fun h => hz h.1))
    clear hz hfull
    go_wp2_with fail
    go_ret
    exact doP_of HF.out rfl ⟨g, Q, sv, xs, H.out.below HB4.out⟩ (Keep.of_below HB4.out)
  have t1 : decide ((6000 : Int) < (Z : Int)) = false := decide_eq_false (by omega)
  have t2 : decide (6000 < Z) = false := decide_eq_false (by omega)
  by_cases hN2 : N ≤ 10176
  rotate_left
  · have t3 : decide ((10176 : Int) < (N : Int)) = true := decide_eq_true (by omega)
    have t4 : decide (10176 < N) = true := decide_eq_true (by omega)
    have HF := ShutK.mk (hfull (fun h => hN2 h.2))
    clear hN2 hfull hz
    go_wp2_with fail
    go_ret
    exact doP_of HF.out rfl ⟨g, Q, sv, xs, H.out.below HB4.out⟩ (Keep.of_below HB4.out)
  have t3 : decide ((10176 : Int) < (N : Int)) = false := decide_eq_false (by omega)
  have t4 : decide (10176 < N) = false := decide_eq_false (by omega)
  have HZ6 : ShutK (sizeD s.objs ≤ 6000) := ⟨by rw [HZ.out]; exact hz⟩
  have HN6 : ShutK ((bytesE l).length ≤ 10176) := ⟨by rw [HN.out]; exact hN2⟩
  clear hfull hz
  by_cases hn0 : n = 0
  · have hl0 : l = [] := List.length_eq_zero_iff.1 (by rw [HLN.out]; exact hn0)
    subst hn0
    have HL0 := ShutK.mk hl0
    clear hl0
    go_wp2_with fail
    go_ret
    exact doP_of (doK_nil HR.out.dead HA.out HZ6.out HL0.out) rfl ⟨g, Q, sv, xs, H.out.below HB4.out⟩ (Keep.of_below HB4.out)
  have hln0 : l ≠ [] := fun h => hn0 (by rw [← HLN.out, h]; rfl)
  have t5 : ((n : Int) == 0) = false := by simp; omega
  have t6 : (n == 0) = false := by simp; omega
  have HLN0 := ShutK.mk hln0
  have hg := H.out.grow HB4.out
  obtain ⟨d1, L1, c1, hap1⟩ : ∃ d1 L1 c1, K.L.append d (bytesE l) = (d1, L1, c1) := ⟨_, _, _, rfl⟩
  obtain ⟨d2, Ks2, v2, hrn2⟩ : ∃ d2 Ks2 v2, rnK d K = (d2, Ks2, v2) := ⟨_, _, _, rfl⟩
  obtain ⟨d3, L3, c3', hap3⟩ : ∃ d3 L3 c3, Ks2.L.append d2 (bytesE l) = (d3, L3, c3) := ⟨_, _, _, rfl⟩
  have hd2 : d2.lim 400000 := by
    have h1 := HR.out.rn (by have := HM.out; omega) (K2 := K) rfl
    rw [hrn2] at h1
    rcases HR.out.im (s := K.st) (by have := HM.out; omega) HR.out.st with ⟨t, him, _, _, hr⟩ | ⟨t, him, _, _, _, hlm, _⟩
    · have h2 := h1.trans him
      obtain ⟨rfl, _⟩ := Prod.mk.inj h2
      exact lim_mono hr.lim (by have := HM.out; omega)
    · have h2 := h1.trans him
      obtain ⟨rfl, _⟩ := Prod.mk.inj h2
      exact lim_mono hlm (by have := HM.out; omega)
  have hlay := klay_ hg HR.out.n (lim_mono HR.out.lim (by have := HM.out; omega)) HR.out.st (by have := HR.out.eb; have := HM.out; omega) (HR.out.there (by have := HM.out; omega)) (cap := c3) (HH4.out.more fun i h1 h2 => .inr ⟨h2, h1⟩) HN.out hc3 HA3.out hN2 hap1 hrn2 hd2 hap3
  obtain ⟨dE, KE, vE, hpk⟩ : ∃ dE KE vE, putK rnK d K (bytesE l) = (dE, KE, vE) := ⟨_, _, _, rfl⟩
  rw [hpk] at hlay
  have hpl : layP d K (bytesE l) = (dE, KE, vE) := by
    rw [HR.out.layP (by have := HM.out; omega), ← hpk]
    exact (putK_congr (HR.out.rn (by have := HM.out; omega) rfl)).symm
  have HLAY := ShutK.mk hlay
  have HPL := ShutK.mk hpl
  clear hln0 hg hap1 hrn2 hap3 hd2 hlay hpk hpl hn0 hN2
  go_wp2_with fail
  refine HLAY.out.mono ?_
  rintro e w5 ⟨rfl, hk5, hkp5⟩
  have HKE := ShutK.mk hk5
  have HKP := ShutK.mk hkp5
  have HX5 := ShutK.mk (HX4.out.keep hkp5 (.inr ⟨by have := HS1.out.1; omega, HX4.out.lt⟩))
  have HO5 := ShutK.mk ((HO4.out.more (K2 := fun i => w.heap.size ≤ i ∧ i < w4.heap.size) fun i h1 h2 => ⟨h2, h1⟩).keep hkp5 fun i _ _ hi => .inr hi)
  have HKR := ShutK.mk ((Keep.of_below (K := fun i _ => R i) HB4.out).trans (hkp5.mono fun i _ _ hi => .inl hi))
  have hlt5 := HX5.out.lt
  clear hk5 hkp5 HLAY p0 p1 hlt4
  obtain ⟨p0, p1⟩ := blk_two HX5.out
  obtain ⟨g5, Q5, sv5, xs5, h5⟩ := HKE.out
  have H5 := ShutK.mk h5
  have hb5 := h5.cells.2.2.2.2.2
  obtain ⟨x0, x1, x2, x3, x4, _⟩ := h5.cells
  obtain ⟨f0, f1, f2, f3, f4⟩ := h5.froz
  clear h5 x0 f0 x3 f3
  cases vE
  · go_wp2_with fail
    go_ret
    obtain ⟨s1, s2, s3, s4⟩ := H5.out.set 4 (.bool true)
    refine doP_of (doK_fail HR.out.dead HA.out HZ6.out HN6.out HLN0.out HPL.out) rfl ⟨g5, Q5, sv5, xs5, ⟨s1, ?_, H5.out.qb, fun i hi => H5.out.qr i (.inl hi), s2, H5.out.eq⟩⟩ (HKR.out.trans (s4.mono fun i _ _ hi => .inl hi))
    simpa [kCells] using s3
  · go_wp2_with fail
    go_ret
    have ho : ObsAt w5 (fun i => Q5 i ∧ i ≠ b) ⟨a', n', k'⟩ ys := HO5.out.more fun i _ h2 => H5.out.qr i (.inr h2)
    obtain ⟨r1, r2⟩ := H5.out.state ho s HE.out
    exact doP_of (doK_ok HR.out.dead HA.out HZ6.out HN6.out HLN0.out HPL.out) rfl ⟨g5, Q5, _, _, r1.mono fun i hi => .inl hi⟩ (HKR.out.trans (r2.mono fun i _ _ hi => .inl hi))
end
end Go.Proofs.YtjfoflbaoceemaaGreat
namespace Go.Proofs.YtjfoflbaoceemaaGreat
section
variable {s s1 s2 t d : Dk} {v b1 : Bool} {m e : Nat} {bs : List UInt8} {L L1 : Lg} {K : Ks} {l : List Ef} {u : St}
theorem putGo_count (a : Nat) (xs : List UInt8) : ∀ (k : Nat) (s s1 : Dk) (i : Nat) (v : Bool), putGo a xs s i k = (s1, v) → s.count ≤ s1.count
  | 0, s, s1, i, v, h => by cases h; exact Nat.le_refl _
  | k + 1, s, s1, i, v, h => by
    rw [putGo] at h
    split at h
    · cases h; exact Nat.le_refl _
    · have := putGo_count a xs k _ s1 (i + 1) v h
      have e : (s.wr (a + i) (chunk xs i)).count = s.count + 1 := rfl
      omega
theorem put_count {a : Int} (h : s.put a bs = (s1, v)) : s.count ≤ s1.count := by
  unfold Dk.put at h
  split at h
  · cases h; exact Nat.le_refl _
  · split at h
    · exact putGo_count _ _ _ _ _ _ _ h
    · cases h; exact Nat.le_refl _
theorem tryW_count {i : Nat} {x : Sec} (h : s.tryW i x = (s1, v)) : s.count ≤ s1.count ∧ (v = true → s.count < s1.count) := by
  unfold Dk.tryW at h
  split at h
  · cases h; exact ⟨Nat.le_refl _, fun h => by cases h⟩
  · cases h
    have e : (s.wr i x).count = s.count + 1 := rfl
    exact ⟨by omega, fun _ => by omega⟩
theorem tryS_count (h : s.tryS = (s1, v)) : s.count = s1.count := by
  unfold Dk.tryS at h
  split at h
  · cases h; rfl
  · cases h; rfl
theorem lay_count (h : L.lay s bs = (t, true)) : s.count < t.count := by
  obtain ⟨s1, b1, h1⟩ : ∃ s1 b1, s.put ((L.p : Int) + 1) bs = (s1, b1) := ⟨_, _, rfl⟩
  have c1 := put_count h1
  cases b1
  · rw [lay_1 h1] at h; cases h
  obtain ⟨s2, b2, h2⟩ : ∃ s2 b2, L.tail bs.length s1 = (s2, b2) := ⟨_, _, rfl⟩
  have c2 : s1.count ≤ s2.count := by
    unfold Lg.tail at h2
    split at h2
    · cases h2; exact Nat.le_refl _
    · exact (tryW_count h2).1
  cases b2
  · rw [lay_2 h1 h2] at h; cases h
  obtain ⟨s3, b3, h3⟩ : ∃ s3 b3, s2.tryS = (s3, b3) := ⟨_, _, rfl⟩
  have c3 := tryS_count h3
  cases b3
  · rw [lay_3 h1 h2 h3] at h; cases h
  obtain ⟨s4, b4, h4⟩ : ∃ s4 b4, s3.tryW L.p (L.head bs.length) = (s4, b4) := ⟨_, _, rfl⟩
  have c4 := tryW_count h4
  cases b4
  · rw [lay_4 h1 h2 h3 h4] at h; cases h
  obtain ⟨s5, b5, h5⟩ : ∃ s5 b5, s4.tryS = (s5, b5) := ⟨_, _, rfl⟩
  have c5 := tryS_count h5
  rw [lay_5 h1 h2 h3 h4 h5] at h
  have h := (Prod.mk.inj h).1
  subst h
  have := c4.2 rfl
  omega
theorem append_count (h : L.append s bs = (t, L1, 0)) : s.count < t.count := by
  unfold Lg.append at h
  split at h
  · simp at h
  · split at h
    · split at h
      · rename_i hv
        obtain ⟨rfl, _⟩ := Prod.mk.inj h
        exact lay_count (L := L) (bs := bs) (by rw [← hv])
      · simp at h
    · simp at h
theorem rlay_count {p : Pl} (h : p.lay s e bs = (t, v)) : s.count ≤ t.count := by
  obtain ⟨s1, b1, h1⟩ : ∃ s1 b1, s.put (p.image e : Nat) bs = (s1, b1) := ⟨_, _, rfl⟩
  have c1 := put_count h1
  cases b1
  · rw [rlay_1 h1] at h; cases h; exact c1
  obtain ⟨s2, b2, h2⟩ : ∃ s2 b2, s1.tryS = (s2, b2) := ⟨_, _, rfl⟩
  have c2 := tryS_count h2
  cases b2
  · rw [rlay_2 h1 h2] at h; cases h; omega
  obtain ⟨s3, b3, h3⟩ : ∃ s3 b3, s2.tryW (p.root e) (rootB e bs.length) = (s3, b3) := ⟨_, _, rfl⟩
  have c3 := (tryW_count h3).1
  cases b3
  · rw [rlay_3 h1 h2 h3] at h; cases h; omega
  obtain ⟨s4, b4, h4⟩ : ∃ s4 b4, s3.tryS = (s4, b4) := ⟨_, _, rfl⟩
  have c4 := tryS_count h4
  rw [rlay_4 h1 h2 h3 h4] at h
  cases h
  omega
theorem Rest.done (h : Rest m d K) (hm : m + 300 ≤ 900000) (hl : l.length ≤ 10000) (hn : l ≠ []) (he : d.ends = false) (ha : applyS K.st l = (0, u)) (hz : sizeD u.objs ≤ 6000) (hz2 : (bytesE l).length ≤ 10176) :
    ∃ t K1, Proofs.YtjfoflbaoceemaaGreat.doK (putK imK) d K l = (t, K1, 0) ∧ K1.st = u ∧ t.ends = false ∧ t.n = d.n ∧ Rest (m + 300) t K1 ∧ d.count < t.count ∧ ((K.L.fits (bytesE l).length = true ∧ K1.e = K.e ∧ K1.L = K.L.add (bytesE l)) ∨ (K.L.fits (bytesE l).length = false ∧ K1.e = K.e + 1 ∧ K1.L = (logK (K.e + 1)).add (bytesE l))) := by
  have hd := h.dead
  have h1 : (applyS K.st l).1 = 0 := by rw [ha]
  have hb := back_tight (apply_right h1) hl
  have hs : Base u := ⟨by have := (apply_n h1).2; rw [ha] at this; exact this, hz⟩
  rcases h.app (by omega) hb ha hs hz2 with ⟨hnf, hap⟩ | ⟨t, hap, e1, e2, hr⟩ | ⟨t, hap, he', _⟩
  · rcases h.im (by omega) h.st with ⟨t, him, e1, e2, hr⟩ | ⟨t, him, he', _⟩
    · have hfit : (logK (K.e + 1)).fits (bytesE l).length = true := fits_iff.2 ⟨by omega, by
        rw [Int.toNat_natCast]
        have : need (bytesE l).length ≤ 159 := by unfold need; omega
        unfold Lg.left logK
        simp only
        omega⟩
      have hc1 : d.count ≤ t.count := by
        have h3 := him
        unfold imK at h3
        split at h3
        · have h4 := (Prod.mk.inj h3).1
          obtain ⟨x, y, hxy⟩ : ∃ x y, layK d (K.e + 1) K.st = (x, y) := ⟨_, _, rfl⟩
          simp only at h4
          rw [show ({ K with st := K.st } : Ks) = K from rfl] at h4
          rw [hxy] at h4
          simp only at h4
          subst h4
          rw [lay_fits h.st] at hxy
          exact rlay_count hxy
        · simp at h3
      rcases hr.app (by omega) hb ha hs hz2 with ⟨hnf2, _⟩ | ⟨t2, hap2, f1, f2, hr2⟩ | ⟨t2, hap2, hf0, _⟩
      · rw [hfit] at hnf2; cases hnf2
      · have hp : putK imK d K (bytesE l) = (t2, ⟨(logK (K.e + 1)).add (bytesE l), K.st, K.e + 1, false⟩, true) := putK_im hap him hap2
        have hc2 := append_count hap2
        exact ⟨t2, _, doK_ok hd ha hz hz2 hn hp, rfl, by rw [f1, e1, he], f2.trans e2, hr2.more (by omega), by omega, .inr ⟨hnf, rfl, rfl⟩⟩
      · rw [e1, he] at hf0; cases hf0
    · rw [he] at he'; cases he'
  · have hp : putK imK d K (bytesE l) = (t, { K with L := K.L.add (bytesE l) }, true) := putK_app hap (by decide)
    have hc := append_count hap
    refine ⟨t, _, doK_ok hd ha hz hz2 hn hp, rfl, by rw [e1, he], e2, ?_, hc, ?_⟩
    · have := hr.more (m2 := m + 300) (by omega)
      simp only [hd]
      exact this
    · left
      refine ⟨?_, rfl, rfl⟩
      cases hf : K.L.fits (bytesE l).length
      · have h2 := app_long' (s := d) h.ldead hf
        rw [hap] at h2
        simp at h2
      · rfl
  · rw [he] at he'; cases he'
end
end Go.Proofs.YtjfoflbaoceemaaGreat
namespace Go.Proofs.YtjfoflbaoceemaaGreat
open Go.RowKit
def SameRel (w : World) (n : Nat) (k : Nat) (i : Value) (wr : World) : Prop := ∃ j, j + k = n ∧ i = .int .i64 (j : Int) ∧ Below w.heap.size w wr
set_option maxHeartbeats 400000 in
theorem same_msgs {w : World} {K K2 : Nat → Prop} {A A2 : Option Addr} {n c c2 : Nat} {xs : List Mg} (h : Lst w K eM A xs) (h2 : Lst w K2 eM A2 xs) (hn : xs.length = n) (hm : n ≤ 1000000) :
    Calls Tryz.prog 107 #[.slice A n c, .slice A2 n c2] w fun e w' => e = .returned (.bool true) ∧ Below w.heap.size w w' := by
  have H := Lib.hid h
  have H2 := Lib.hid h2
  have HN := Lib.hid hn
  clear h h2 hn
  go_enter Tryz.func107, Tryz.ntmps107
  go_wp2
  go_loopg [5] n (fun k i wr => SameRel w n k i wr)
  case atStart => exact ⟨0, by omega, rfl, Below.refl _ _⟩
  case round =>
    obtain ⟨j, hj, rfl, hb⟩ := hrel
    have HB := Lib.hid hb
    have HJ := Lib.hid hj
    clear hb hj
    by_cases hlt : j < n
    · have hx : j < xs.length := by rw [HN.out]; exact hlt
      obtain ⟨b, o, rfl, _, c0, c1, c2, c3, c4, c5⟩ := (H.out.below HB.out).atM hx
      obtain ⟨b2, o2, rfl, _, d0, d1, d2, d3, d4, d5⟩ := (H2.out.below HB.out).atM hx
      generalize xs[j].id = x0 at *
      generalize xs[j].pri = x1 at *
      generalize xs[j].retry = x2 at *
      generalize xs[j].claimed = x3 at *
      generalize xs[j].corr = x4 at *
      generalize xs[j].body = x5 at *
      clear hx
      go_wp2
      go_region
      go_wp2
      go_roundg (n - (j + 1))
      case measure => have := HJ.out; have := HN.out; omega
      case rel => exact ⟨j + 1, by omega, by go_num, HB.out.drew⟩
    · go_wp2
      go_ret
      exact ⟨rfl, HB.out⟩
set_option maxHeartbeats 400000 in
theorem same_rows_e {w : World} {K K2 : Nat → Prop} {A A2 : Option Addr} {n c c2 : Nat} {xs : List Rw} (h : Lst w K eR A xs) (h2 : Lst w K2 eR A2 xs) (hn : xs.length = n) (hm : n ≤ 1000000) :
    Calls Tryz.prog 106 #[.slice A n c, .slice A2 n c2] w fun e w' => e = .returned (.bool true) ∧ Below w.heap.size w w' := by
  have H := Lib.hid h
  have H2 := Lib.hid h2
  have HN := Lib.hid hn
  clear h h2 hn
  go_enter Tryz.func106, Tryz.ntmps106
  go_wp2
  go_loopg [5] n (fun k i wr => SameRel w n k i wr)
  case atStart => exact ⟨0, by omega, rfl, Below.refl _ _⟩
  case round =>
    obtain ⟨j, hj, rfl, hb⟩ := hrel
    have HB := Lib.hid hb
    have HJ := Lib.hid hj
    clear hb hj
    by_cases hlt : j < n
    · have hx : j < xs.length := by rw [HN.out]; exact hlt
      obtain ⟨b, o, rfl, _, c0, c1⟩ := (H.out.below HB.out).atR hx
      obtain ⟨b2, o2, rfl, _, d0, d1⟩ := (H2.out.below HB.out).atR hx
      obtain ⟨k1, v1, e1⟩ : ∃ k v, xs[j] = (k, v) := ⟨_, _, rfl⟩
      rw [e1] at c0 c1 d0 d1
      simp only at c0 c1 d0 d1
      clear e1 hx
      go_wp2
      go_region
      go_wp2
      go_roundg (n - (j + 1))
      case measure => have := HJ.out; have := HN.out; omega
      case rel => exact ⟨j + 1, by omega, by go_num, HB.out.drew⟩
    · go_wp2
      go_ret
      exact ⟨rfl, HB.out⟩
end Go.Proofs.YtjfoflbaoceemaaGreat
namespace Go.Proofs.YtjfoflbaoceemaaGreat
open Go.RowKit
set_option maxHeartbeats 1000000 in
theorem same_obj {w : World} {o : Ob} {r m d r2 m2 d2 : Value} (h : ObAt w o r m d) (h2 : ObAt w o r2 m2 d2) (hn : o.short 100001) :
    Calls Tryz.prog 61 #[o.val r m d, o.val r2 m2 d2] w fun e w' => e = .returned (.bool true) ∧ Below w.heap.size w w' := by
  obtain ⟨s, k, l, rs, ms, ds⟩ := o
  obtain ⟨⟨A1, c1, rfl, l1, k1, x1, n1⟩, ⟨A2, c2, rfl, l2, k2, x2, n2⟩, ⟨A3, c3, rfl, l3, k3, x3, n3⟩⟩ := h
  obtain ⟨⟨B1, b1, rfl, p1, y1, z1, q1⟩, ⟨B2, b2, rfl, p2, y2, z2, q2⟩, ⟨B3, b3, rfl, p3, y3, z3, q3⟩⟩ := h2
  obtain ⟨s1, s2, s3⟩ := hn
  simp only at l1 l2 l3 p1 p2 p3 s1 s2 s3
  simp only [Ob.val, Ob.cells]
  have hT0 := TwoB.new w 77 #[.string s, .int .i64 k, .int .i64 l, .slice A1 rs.length c1, .slice A2 ms.length c2, .slice A3 ds.length c3] #[.string s, .int .i64 k, .int .i64 l, .slice B1 rs.length b1, .slice B2 ms.length b2, .slice B3 ds.length b3]
  have hf1 := same_rows_e (c := c1) (c2 := b1) (l1.below hT0.below) (p1.below hT0.below) rfl (by omega)
  have hf2 := fun W (hb : Below w.heap.size w W) => same_msgs (c := c2) (c2 := b2) (l2.below hb) (p2.below hb) rfl (by omega)
  have hf3 := fun W (hb : Below w.heap.size w W) => same_msgs (c := c3) (c2 := b3) (l3.below hb) (p3.below hb) rfl (by omega)
  have HT0 := Lib.hid hT0
  have F1 := Lib.hid hf1
  have F2 := Lib.hid hf2
  have F3 := Lib.hid hf3
  clear hT0 hf1 hf2 hf3 l1 l2 l3 p1 p2 p3 k1 k2 k3 n1 n2 n3 q1 q2 q3 y1 y2 y3
  generalize rs.length = m1 at *
  generalize ms.length = m2 at *
  generalize ds.length = m3 at *
  go_enter Tryz.func61, Tryz.ntmps61
  go_wp2_with fail
  refine F1.out.mono ?_
  rintro e w1 ⟨rfl, hb1⟩
  have hT1 := HT0.out.step hb1
  have a4 := hT1.obj.cell 4
  have e4 := hT1.res.cell 4
  have HT1 := Lib.hid hT1
  clear hb1 hT1 HT0 F1
  go_wp2_with fail
  refine (F2.out _ HT1.out.below).mono ?_
  rintro e w2 ⟨rfl, hb2⟩
  have hT2 := HT1.out.step hb2
  have a5 := hT2.obj.cell 5
  have e5 := hT2.res.cell 5
  have HT2 := Lib.hid hT2
  clear hb2 hT2 HT1 F2 a4 e4
  go_wp2_with fail
  refine (F3.out _ HT2.out.below).mono ?_
  rintro e w3 ⟨rfl, hb3⟩
  have HT3 := Lib.hid (HT2.out.step hb3)
  clear hb3 HT2 F3 a5 e5
  go_wp2_with fail
  go_ret
  exact ⟨rfl, HT3.out.below⟩
end Go.Proofs.YtjfoflbaoceemaaGreat
