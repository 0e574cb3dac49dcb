/- . . . . -/
import Derived.Test.YtjfoflbaoceemaaGreatJ50
import Derived.Test.YtjfoflbaoceemaaGreatJ16
import Derived.Deep.RegionHeld3
import Derived.Deep.LoopGhost
import Derived.Deep.DeepCutAuto
import Derived.Test.YtjfoflbaoceemaaGreatJ48
set_option maxRecDepth 4000
namespace Go.Proofs.YtjfoflbaoceemaaGreat
open Go.RowKit
def SmR (w : World) (c0 c1 : Array Value) (n k : Nat) (i : Value) (wr : World) : Prop := ∃ j, j + k = n ∧ i = .int .i64 (j : Int) ∧ TwoB w 54 c0 c1 wr
structure ShutSm (p : Prop) : Prop where out : p
set_option maxHeartbeats 4000000 in
theorem same_state {w : World} {K K2 : Nat → Prop} {s s2 : Sv} {xs ys : List Oc} (h : ObsAt w K s xs) (h2 : ObsAt w K2 s2 ys) (he : obsOf xs = obsOf ys) (hs : ∀ x ∈ xs, x.o.short 100001) (hn : xs.length ≤ 1000000) (next : Int) :
    Calls Tryz.prog 25 #[.agg #[.int .i64 next, .slice s.a s.n s.c], .agg #[.int .i64 next, .slice s2.a s2.n s2.c]] w fun e w' => e = .returned (.bool true) ∧ Below w.heap.size w w' := by
  have hl : xs.length = ys.length := by have := congrArg List.length he; simpa [obsOf] using this
  obtain ⟨A, n, c⟩ := s
  obtain ⟨B, n2, c2⟩ := s2
  have hln : n = xs.length := h.row.len
  have hln2 : n2 = ys.length := h2.row.len
  obtain rfl : n2 = n := by omega
  have hT0 := TwoB.new w 54 #[.int .i64 next, .slice A n2 c] #[.int .i64 next, .slice B n2 c2]
  have HT0 := ShutSm.mk hT0
  have H := ShutSm.mk h
  have H2 := ShutSm.mk h2
  have HE := ShutSm.mk he
  have HS := ShutSm.mk hs
  have HLN := ShutSm.mk hln
  have HLN2 := ShutSm.mk hln2
  have hn6 : n2 ≤ 1000000 := by omega
  clear h h2 he hs hln hln2 hl hn hT0
  go_enter Tryz.func25, Tryz.ntmps25
  go_wp2_with fail
  go_loopg [5] n2 (fun k i wr => SmR w #[.int .i64 next, .slice A n2 c] #[.int .i64 next, .slice B n2 c2] n2 k i wr)
  case atStart => exact ⟨0, by omega, rfl, HT0.out⟩
  case round =>
    obtain ⟨j, hj, rfl, hT⟩ := hrel
    have HJ := ShutSm.mk hj
    have HT := ShutSm.mk hT
    have d1 := hT.obj.cell 1
    have f1 := hT.res.cell 1
    simp only [List.getElem?_toArray, List.getElem?_cons_zero, List.getElem?_cons_succ] at d1 f1
    clear hj hT HT0
    by_cases hlt : j < n2
    · have hx : j < xs.length := by have := HLN.out; omega
      have hy : j < ys.length := by have := HLN2.out; omega
      have hjn : (j : Int) < (n2 : Int) := by omega
      have hw1 : IntKind.i64.wrap ((j : Int) + 1) = (j : Int) + 1 := by rw [IntKind.wrap_i64]; omega
      have heq : xs[j].o = ys[j].o := by
        have := congrArg (fun l => l[j]?) HE.out
        simp only [obsOf, List.getElem?_map, List.getElem?_eq_getElem hx, List.getElem?_eq_getElem hy, Option.map_some, Option.some.injEq] at this
        exact this
      obtain ⟨b, o, e1, hbs, k0, k1, k2, k3, k4, k5⟩ := (H.out.row.lst.below HT.out.below).atO hx
      obtain ⟨b2, o2, e2, hbs2, l0, l1, l2, l3, l4, l5⟩ := (H2.out.row.lst.below HT.out.below).atO hy
      have eA : A = some ⟨b, o, none⟩ := e1
      have eB : B = some ⟨b2, o2, none⟩ := e2
      subst eA eB
      have hc := fun W (k : Below w.heap.size w W) => same_obj ((H.out.all _ (List.getElem_mem hx)).below k).at_ (by rw [heq]; exact ((H2.out.all _ (List.getElem_mem hy)).below k).at_) (HS.out _ (List.getElem_mem hx))
      rw [← heq] at l0 l1 l2
      generalize xs[j].o = ob at *
      generalize xs[j].r = sr at *
      generalize xs[j].m = sm at *
      generalize xs[j].d = sd at *
      generalize ys[j].r = sr2 at *
      generalize ys[j].m = sm2 at *
      generalize ys[j].d = sd2 at *
      obtain ⟨nm, kd, lm, rs, ms, ds⟩ := ob
      obtain ⟨ra, rn, rc⟩ := sr
      obtain ⟨ma, mn, mc⟩ := sm
      obtain ⟨da, dn, dc⟩ := sd
      obtain ⟨ra2, rn2, rc2⟩ := sr2
      obtain ⟨ma2, mn2, mc2⟩ := sm2
      obtain ⟨da2, dn2, dc2⟩ := sd2
      simp only [Sv.val, Ob.val, Ob.cells] at hc
      simp only at k0 k1 k2 k3 k4 k5 l0 l1 l2 l3 l4 l5
      have HC := ShutSm.mk hc
      have HBS := ShutSm.mk hbs
      have HBS2 := ShutSm.mk hbs2
      clear hc hbs hbs2 e1 e2 heq
      go_upto_region 6 with fail
      have hS0 : ShutSm ((fun W : World => W.cell? ⟨w.heap.size, 1, none⟩ = some (.slice (some ⟨b, o, none⟩) n2 c) ∧ W.cell? ⟨w.heap.size + 1, 1, none⟩ = some (.slice (some ⟨b2, o2, none⟩) n2 c2) ∧ W.cell? ⟨b, o + j * 6, none⟩ = some (.string nm) ∧ W.cell? ⟨b, o + j * 6 + 1, none⟩ = some (.int .i64 kd) ∧ W.cell? ⟨b, o + j * 6 + 2, none⟩ = some (.int .i64 lm) ∧ W.cell? ⟨b, o + j * 6 + 3, none⟩ = some (.slice ra rn rc) ∧ W.cell? ⟨b, o + j * 6 + 4, none⟩ = some (.slice ma mn mc) ∧ W.cell? ⟨b, o + j * 6 + 5, none⟩ = some (.slice da dn dc) ∧ W.cell? ⟨b2, o2 + j * 6, none⟩ = some (.string nm) ∧ W.cell? ⟨b2, o2 + j * 6 + 1, none⟩ = some (.int .i64 kd) ∧ W.cell? ⟨b2, o2 + j * 6 + 2, none⟩ = some (.int .i64 lm) ∧ W.cell? ⟨b2, o2 + j * 6 + 3, none⟩ = some (.slice ra2 rn2 rc2) ∧ W.cell? ⟨b2, o2 + j * 6 + 4, none⟩ = some (.slice ma2 mn2 mc2) ∧ W.cell? ⟨b2, o2 + j * 6 + 5, none⟩ = some (.slice da2 dn2 dc2)) wr.drew) := ⟨d1, f1, k0, k1, k2, k3, k4, k5, l0, l1, l2, l3, l4, l5⟩
      clear d1 f1 k0 k1 k2 k3 k4 k5 l0 l1 l2 l3 l4 l5
      go_region_held3 (fun W : World => W.cell? ⟨w.heap.size, 1, none⟩ = some (.slice (some ⟨b, o, none⟩) n2 c) ∧ W.cell? ⟨w.heap.size + 1, 1, none⟩ = some (.slice (some ⟨b2, o2, none⟩) n2 c2) ∧ W.cell? ⟨b, o + j * 6, none⟩ = some (.string nm) ∧ W.cell? ⟨b, o + j * 6 + 1, none⟩ = some (.int .i64 kd) ∧ W.cell? ⟨b, o + j * 6 + 2, none⟩ = some (.int .i64 lm) ∧ W.cell? ⟨b, o + j * 6 + 3, none⟩ = some (.slice ra rn rc) ∧ W.cell? ⟨b, o + j * 6 + 4, none⟩ = some (.slice ma mn mc) ∧ W.cell? ⟨b, o + j * 6 + 5, none⟩ = some (.slice da dn dc) ∧ W.cell? ⟨b2, o2 + j * 6, none⟩ = some (.string nm) ∧ W.cell? ⟨b2, o2 + j * 6 + 1, none⟩ = some (.int .i64 kd) ∧ W.cell? ⟨b2, o2 + j * 6 + 2, none⟩ = some (.int .i64 lm) ∧ W.cell? ⟨b2, o2 + j * 6 + 3, none⟩ = some (.slice ra2 rn2 rc2) ∧ W.cell? ⟨b2, o2 + j * 6 + 4, none⟩ = some (.slice ma2 mn2 mc2) ∧ W.cell? ⟨b2, o2 + j * 6 + 5, none⟩ = some (.slice da2 dn2 dc2)) (first | with_reducible exact hS0.out | with_reducible exact hS1.out) ((go_at_call 61; refine (HC.out _ HT.out.below.drew).mono ?_; rintro e w9 ⟨rfl, hb9⟩; have HT9 := ShutSm.mk (TwoB.step (W := wr.drew) ⟨HT.out.below.drew, HT.out.obj, HT.out.res⟩ hb9); have hS1 : ShutSm ((fun W : World => W.cell? ⟨w.heap.size, 1, none⟩ = some (.slice (some ⟨b, o, none⟩) n2 c) ∧ W.cell? ⟨w.heap.size + 1, 1, none⟩ = some (.slice (some ⟨b2, o2, none⟩) n2 c2) ∧ W.cell? ⟨b, o + j * 6, none⟩ = some (.string nm) ∧ W.cell? ⟨b, o + j * 6 + 1, none⟩ = some (.int .i64 kd) ∧ W.cell? ⟨b, o + j * 6 + 2, none⟩ = some (.int .i64 lm) ∧ W.cell? ⟨b, o + j * 6 + 3, none⟩ = some (.slice ra rn rc) ∧ W.cell? ⟨b, o + j * 6 + 4, none⟩ = some (.slice ma mn mc) ∧ W.cell? ⟨b, o + j * 6 + 5, none⟩ = some (.slice da dn dc) ∧ W.cell? ⟨b2, o2 + j * 6, none⟩ = some (.string nm) ∧ W.cell? ⟨b2, o2 + j * 6 + 1, none⟩ = some (.int .i64 kd) ∧ W.cell? ⟨b2, o2 + j * 6 + 2, none⟩ = some (.int .i64 lm) ∧ W.cell? ⟨b2, o2 + j * 6 + 3, none⟩ = some (.slice ra2 rn2 rc2) ∧ W.cell? ⟨b2, o2 + j * 6 + 4, none⟩ = some (.slice ma2 mn2 mc2) ∧ W.cell? ⟨b2, o2 + j * 6 + 5, none⟩ = some (.slice da2 dn2 dc2)) w9) := ⟨⟨(cell_of_heap (hb9.block _ HT.out.obj.lt) _).trans hS0.out.1, (cell_of_heap (hb9.block _ HT.out.res.lt) _).trans hS0.out.2.1, (cell_of_heap (hb9.block _ HBS.out) _).trans hS0.out.2.2.1, (cell_of_heap (hb9.block _ HBS.out) _).trans hS0.out.2.2.2.1, (cell_of_heap (hb9.block _ HBS.out) _).trans hS0.out.2.2.2.2.1, (cell_of_heap (hb9.block _ HBS.out) _).trans hS0.out.2.2.2.2.2.1, (cell_of_heap (hb9.block _ HBS.out) _).trans hS0.out.2.2.2.2.2.2.1, (cell_of_heap (hb9.block _ HBS.out) _).trans hS0.out.2.2.2.2.2.2.2.1, (cell_of_heap (hb9.block _ HBS2.out) _).trans hS0.out.2.2.2.2.2.2.2.2.1, (cell_of_heap (hb9.block _ HBS2.out) _).trans hS0.out.2.2.2.2.2.2.2.2.2.1, (cell_of_heap (hb9.block _ HBS2.out) _).trans hS0.out.2.2.2.2.2.2.2.2.2.2.1, (cell_of_heap (hb9.block _ HBS2.out) _).trans hS0.out.2.2.2.2.2.2.2.2.2.2.2.1, (cell_of_heap (hb9.block _ HBS2.out) _).trans hS0.out.2.2.2.2.2.2.2.2.2.2.2.2.1, (cell_of_heap (hb9.block _ HBS2.out) _).trans hS0.out.2.2.2.2.2.2.2.2.2.2.2.2.2⟩⟩; clear hb9))
      go_wp2_with fail
      go_roundg (n2 - (j + 1))
      case measure => have := HJ.out; omega
      case rel => exact ⟨j + 1, by have := HJ.out; omega, congrArg (Value.int .i64) (by omega), HT9.out⟩
    · have hjn : ¬ (j : Int) < (n2 : Int) := by omega
      go_wp2_with fail
      go_ret
      exact ⟨rfl, HT.out.below⟩
end Go.Proofs.YtjfoflbaoceemaaGreat
namespace Go.Proofs.YtjfoflbaoceemaaGreat
open Go.RowKit
theorem MildB.of {s u : St} {r : List (List UInt8)} (h : Mild s r u) : MildB s r := by
  induction h with
  | nil h => exact h.bear
  | cons h1 h2 h3 _ ih => exact ⟨h1.bear, fun t ht => by
      rw [stepK_some h2 h3] at ht
      rw [← Option.some.inj ht]
      exact ih⟩
theorem Base.read_objs {s : St} (h : Base s) : ∀ o ∈ objsV ⟨bytesK s, false⟩, o.short 450 ∧ o.fits := by
  have h1 := (h.img.front []).2.1
  rw [List.append_nil, ← h.bytes.1] at h1
  rw [h1]
  exact fun o ho => ⟨h.bear.short o ho, h.right.fits o ho⟩
section
variable {w w' : World} {b gd : Nat} {R R' : Nat → Prop} {m : Nat} {d : Dk} {K : Ks}
theorem kopen_rest (h : DiskR w gd R d) (hR : Rest m d K) (hm : m + 100 ≤ 300000) : Calls Tryz.prog 15 #[ptr gd] w (OpdP w gd R (openK imK d)) := by
  rw [← hR.openK (by omega)]
  refine kopen_ h hR.n (lim_mono hR.lim (by omega)) (fun e bs hr _ => ?_) (fun s e hb => ?_) fun K2 hf => ?_
  · rcases Nat.eq_zero_or_pos K.e with he | he
    · rw [(hR.read0 he).1] at hr; cases hr
    · obtain ⟨s0, h1, h2⟩ := hR.read (by omega) he
      rw [h2] at hr
      have := (Prod.mk.inj (Option.some.inj hr)).2
      subst this
      exact h1.first.read_objs
  · obtain ⟨s0, h1, h2⟩ := hR.baseK (by omega)
    rw [h2] at hb
    obtain ⟨rfl, rfl⟩ := Prod.mk.inj (Option.some.inj hb)
    rw [hR.opk]
    exact MildB.of h1
  · rw [hR.found (by omega)] at hf
    have := Option.some.inj hf
    subst this
    exact ⟨hR.st, by have := hR.eb; omega⟩
def freshK : Ks := ⟨logK 1, ⟨1, []⟩, 1, false⟩
theorem open_fresh {n : Nat} (h1 : 354 ≤ n) (h2 : n ≤ 4096) : ∃ t, openK imK (Dk.new n) = (t, some freshK, 0) ∧ t.ends = false ∧ t.n = n ∧ Rest 100 t freshK := by
  have hR := rest_new h1 h2 0
  rcases hR.im (s := freedK ⟨1, []⟩) (by omega) hR.st.freed with ⟨t, him, e1, e2, hr⟩ | ⟨t, him, he, _⟩
  · have hf : freedK ⟨1, []⟩ = ⟨1, []⟩ := freed_same base_new.right rfl
    refine ⟨t, ?_, e1, e2.trans (Dk.n_new n), ?_⟩
    · rw [openK_new (by rw [Dk.n_new]; exact h1) (hR.found (by omega)) (.inr rfl) him, hf]
      rfl
    · rw [hf] at hr
      exact hr.more (by omega)
  · cases he
structure Hs (w : World) (b gd : Nat) (R : Nat → Prop) (m : Nat) (d : Dk) (K : Ks) : Prop where
  at_ : KsAt w b gd R d K
  rest : Rest m d K
  whole : d.ends = false
theorem Hs.below (h : Hs w b gd R m d K) (k : Below w.heap.size w w') : Hs w' b gd R m d K := ⟨h.at_.below k, h.rest, h.whole⟩
theorem Hs.grow (h : Hs w b gd R m d K) (k : Below w.heap.size w w') : Hs w' b gd (fun i => R i ∨ w.heap.size ≤ i ∧ i < w'.heap.size) m d K := ⟨h.at_.grow k, h.rest, h.whole⟩
theorem Hs.mono (h : Hs w b gd R m d K) (hR : ∀ i, R' i → R i) : Hs w b gd R' m d K := ⟨h.at_.mono hR, h.rest, h.whole⟩
def FreshP (w : World) (gd : Nat) (R : Nat → Prop) (n : Nat) (x : Ending) (w' : World) : Prop :=
  ∃ b d, x = .returned (.tuple #[ptr b, .int .i64 0]) ∧ Hs w' b gd R 100 d freshK ∧ d.n = n ∧ Keep (fun i _ => R i) w w'
theorem kopen_new {n : Nat} (h : DiskR w gd R (Dk.new n)) (h1 : 354 ≤ n) (h2 : n ≤ 4096) : Calls Tryz.prog 15 #[ptr gd] w (FreshP w gd R n) := by
  obtain ⟨t, e1, e2, e3, hr⟩ := open_fresh h1 h2
  refine (kopen_rest h (rest_new h1 h2 0) (by omega)).mono ?_
  rintro x w' ⟨hk, ⟨hno, _⟩ | ⟨K, b, hy, rfl, hs⟩⟩
  · rw [e1] at hno; cases hno
  · rw [e1] at hy hs
    have hy := Option.some.inj hy
    subst hy
    exact ⟨b, t, by rw [e1], ⟨hs, hr, e2⟩, e3, hk⟩
def DoneP (w : World) (b gd : Nat) (R : Nat → Prop) (m : Nat) (d : Dk) (K : Ks) (l : List Ef) (x : Ending) (w' : World) : Prop :=
  ∃ d' K' c, x = .returned (.int .i64 c) ∧ doK (putK imK) d K l = (d', K', c) ∧ Hs w' b gd R (m + 300) d' K' ∧ d'.n = d.n ∧ ((c = 0 ∧ applyS K.st l = (0, K'.st)) ∨ (c ≠ 0 ∧ K' = K ∧ d' = d)) ∧ Keep (fun i _ => R i) w w'
theorem Hs.do_ (h : Hs w b gd R m d K) (hm : m + 300 ≤ 300000) {K2 : Nat → Prop} {A : Option Addr} {n cap : Nat} {l : List Ef} (hl : Lst w K2 eEf A l) (hln : l.length = n) (hn : n ≤ 150) : Calls Tryz.prog 19 #[ptr b, .slice A n cap] w (DoneP w b gd R m d K l) := by
  obtain ⟨g, Q, sv, xs, hk⟩ := h.at_
  refine (kdo_ hk h.rest hm hl hln hn).mono ?_
  rintro x w' ⟨rfl, h2, h3⟩
  rw [h.rest.doK (by omega)] at h2 ⊢
  have hd := h.rest.did (l := l) (by omega) (by omega)
  revert h2 hd
  generalize hr : doK (putK imK) d K l = r
  intro h2 hd
  cases hd with
  | no c1 c2 => exact ⟨d, K, _, rfl, hr, ⟨h2, h.rest.more (by omega), h.whole⟩, rfl, .inr ⟨c1, rfl, rfl⟩, h3⟩
  | ok a1 a2 a3 a4 a5 => exact ⟨_, _, 0, rfl, hr, ⟨h2, a5, a3.trans h.whole⟩, a4, .inl ⟨rfl, a1⟩, h3⟩
  | fail a1 a2 a3 a4 => rw [h.whole] at a4; cases a4
theorem Hs.state (h : Hs w b gd R m d K) : Calls Tryz.prog 26 #[ptr b] w (StateP w K.st) := by
  obtain ⟨g, Q, sv, xs, hk⟩ := h.at_
  exact kstate_ hk h.rest.st
theorem Hs.epoch (h : Hs w b gd R m d K) : Calls Tryz.prog 27 #[ptr b] w fun e w' => e = .returned (.int .i64 (K.e : Int)) ∧ w = w' := by
  obtain ⟨g, Q, sv, xs, hk⟩ := h.at_
  exact kepoch_ hk
theorem state_same {s : St} {sa sb : Sv} {xs ys : List Oc} {Ka Kb : Nat → Prop} (hb : Base s) (h1 : ObsAt w Ka sa xs) (e1 : obsOf xs = s.objs) (h2 : ObsAt w Kb sb ys) (e2 : obsOf ys = s.objs) :
    Calls Tryz.prog 25 #[.agg #[.int .i64 s.next, .slice sa.a sa.n sa.c], .agg #[.int .i64 s.next, .slice sb.a sb.n sb.c]] w fun e w' => e = .returned (.bool true) ∧ Below w.heap.size w w' :=
  same_state h1 h2 (e1.trans e2.symm) (mem_obs (P := fun o => o.short 100001) (by rw [e1]; exact fun o ho => by obtain ⟨a, b, c⟩ := hb.short o ho; exact ⟨by omega, by omega, by omega⟩)) (by have h3 := congrArg List.length e1; have h4 := hb.right.len; rw [List.length_map] at h3; omega) s.next
end
theorem knum_ (n : Int) (w : World) : Calls Tryz.prog 17 #[.int .i64 n] w fun e w' => e = .returned (.int .i64 n) ∧ w = w' := by
  go_enter Tryz.func17, Tryz.ntmps17
  go_wp2
  go_ret
  exact ⟨rfl, rfl⟩
end Go.Proofs.YtjfoflbaoceemaaGreat
namespace Go.Proofs.YtjfoflbaoceemaaGreat
open Go.RowKit
def tN : ByteArray := ⟨#[116]⟩
def mkE : Ef := ⟨1, tN, ⟨#[]⟩, ⟨#[]⟩, 1, 0, false, Mg.zero⟩
theorem mkE_right : mkE.right = true := by decide +kernel
def tabT : St := ⟨1, [⟨tN, 1, 0, [], [], []⟩]⟩
theorem one_mk : oneS ⟨1, []⟩ mkE = (0, tabT) := by
  rw [oneS, if_neg (by rw [mkE_right]; decide), if_pos (show mkE.kind = 1 from rfl)]
  rfl
theorem run_mk : applyS ⟨1, []⟩ [mkE] = (0, tabT) := by
  rw [apply_run base_new.right, runS, one_mk]
  rfl
theorem size_tab : sizeD tabT.objs = 67 := rfl
theorem bytes_mk : (bytesE [mkE]).length ≤ 10176 := by
  have h := bytesE_tight (l := [mkE]) fun e he => by rw [List.mem_singleton.1 he]; exact mkE_right
  unfold bytesE
  rw [List.length_append, encInt_len]
  have h2 : [mkE].length = 1 := rfl
  omega
theorem field_objs (x y : Value) (W : World) : (Instr.field 54 (.agg #[x, y]) 1).run Tryz.prog W = .ok y W := by
  rfl
section
variable {w w' : World} {b gd : Nat} {R : Nat → Prop} {m : Nat} {d : Dk} {K : Ks}
theorem made_of {x : Ending} (h : DoneP w b gd R 100 d freshK [mkE] x w') (hw : Hs w b gd R 100 d freshK) : ∃ d' K', x = .returned (.int .i64 0) ∧ Hs w' b gd R 400 d' K' ∧ K'.st = tabT ∧ K'.e = 1 ∧ K'.L = (logK 1).add (bytesE [mkE]) ∧ d'.n = d.n ∧ Keep (fun i _ => R i) w w' := by
  obtain ⟨d', K', c, rfl, h1, h2, h3, _, h5⟩ := h
  obtain ⟨t, K1, e1, e2, e3, e4, e5, e6, e7⟩ := hw.rest.done (l := [mkE]) (by omega) (by decide) (by simp) hw.whole run_mk (by rw [size_tab]; omega) bytes_mk
  rw [e1] at h1
  have q1 := congrArg Prod.fst h1
  have q2 := congrArg (fun p => p.2.1) h1
  have q3 := congrArg (fun p => p.2.2) h1
  simp only at q1 q2 q3
  subst q1 q2 q3
  refine ⟨_, _, rfl, h2, e2, ?_⟩
  rcases e7 with ⟨_, f1, f2⟩ | ⟨hf, _⟩
  · exact ⟨f1, f2, h3, h5⟩
  · exfalso
    have h9 := bytes_mk
    have hn : need (bytesE [mkE]).length ≤ 159 := by unfold need; omega
    have : (logK 1).fits (bytesE [mkE]).length = true := fits_iff.2 ⟨by omega, by rw [Int.toNat_natCast]; show 1 + need (bytesE [mkE]).length ≤ 354 - 194; omega⟩
    have hf2 : (logK 1).fits (bytesE [mkE]).length = false := hf
    rw [this] at hf2
    cases hf2
end
theorem new_disk (w : World) : Calls Tryz.prog 11 #[.int .i64 354] w fun e w' => e = .returned (ptr (w.heap.size + 1)) ∧ DiskR w' (w.heap.size + 1) (fun i => i < w.heap.size) (Dk.new 354) ∧ Below w.heap.size w w' := (new_ w 354).mono fun e w' h => by
  obtain ⟨h1, h2, h3, _⟩ := h
  exact ⟨h1, diskR_new h2 h3, h3⟩
set_option maxHeartbeats 2000000 in
theorem alive_k (w : World) : Calls Tryz.prog 10 #[] w fun e w' => e = .returned (.bool true) ∧ Below w.heap.size w w' := by
  go_enter Tryz.func10, Tryz.ntmps10
  go_wp2_with fail
  refine (kneed_ _).mono ?_
  rintro e w0 ⟨rfl, rfl⟩
  go_wp2_with fail
  refine (new_disk _).mono ?_
  rintro e w1 ⟨rfl, hd1, hb1⟩
  have HD1 := ShutK.mk hd1
  have HB1 := ShutK.mk hb1
  clear hd1 hb1
  generalize w.heap.size + 1 = gd at *
  go_wp2_with fail
  refine (kopen_new HD1.out (by omega) (by omega)).mono ?_
  rintro e w2 ⟨b, d2, rfl, hs2, hn2, hk2⟩
  have HS2 := ShutK.mk hs2
  have HK2 := ShutK.mk (HB1.out.trans (below_of_keep hk2 HB1.out.size))
  clear hs2 hn2 hk2 HD1
  go_wp2_with fail
  refine (knum_ _ _).mono ?_
  rintro e w3 ⟨rfl, rfl⟩
  go_wp2_with fail
  refine HS2.out.epoch.mono ?_
  rintro e w3 ⟨rfl, rfl⟩
  rw [show ((freshK.e : Nat) : Int) = 1 from rfl]
  have k3 := alloc_below w2 (.cells mkE.cells 46)
  have hone := one_lst eEf w2 46 mkE (cs := mkE.cells) rfl
  have hdo := (HS2.out.below k3).do_ (by omega) hone rfl (by show 1 ≤ 150; omega) (cap := 1)
  have HDO := ShutK.mk hdo
  have HS3 := ShutK.mk (HS2.out.below k3)
  have HK3 := ShutK.mk (HK2.out.trans (k3.mono HK2.out.size))
  simp only [mkE, Ef.cells, Mg.zero, tN] at HDO HK3 HS3
  clear k3 hone hdo
  go_wp2_with fail
  refine HDO.out.mono ?_
  intro e w4 hdn
  obtain ⟨d4, K4, rfl, hs4, e4, _, _, _, hk4⟩ := made_of hdn HS3.out
  have HS4 := ShutK.mk hs4
  have HK4 := ShutK.mk (HK3.out.trans (below_of_keep hk4 HK3.out.size))
  have HE4 := ShutK.mk e4
  clear hdn hs4 hk4 e4 HDO
  go_wp2_with fail
  refine (knum_ _ _).mono ?_
  rintro e w5 ⟨rfl, rfl⟩
  go_wp2_with fail
  refine HS4.out.state.mono ?_
  rintro e w5 ⟨⟨a5, n5, k5⟩, ys, rfl, ho5, he5, hb5⟩
  have hn5 : n5 = 1 := by
    have h1 := ho5.row.len
    have h2 := congrArg List.length he5
    rw [HE4.out, List.length_map] at h2
    simp only at h1
    exact h1.trans h2
  subst hn5
  have HB5 := ShutK.mk (HK4.out.trans (hb5.mono HK4.out.size))
  have hfl := fun y W => field_objs (.int .i64 K4.st.next) y W
  clear ho5 he5 hb5
  go_wp2_with fail
  go_ret
  exact ⟨rfl, HB5.out⟩
end Go.Proofs.YtjfoflbaoceemaaGreat
namespace Go.Proofs.YtjfoflbaoceemaaGreat
def tName : ByteArray := ⟨#[116]⟩
def putE (k v : ByteArray) : Ef := ⟨2, tName, k, v, 0, 0, false, Mg.zero⟩
def tabR (n : Int) (l : List Rw) : St := ⟨n, [⟨tName, 1, 0, l, [], []⟩]⟩
theorem putE_right {k v : ByteArray} (hk : 1 ≤ k.size ∧ k.size ≤ 40) (hv : bodyB v = true) : (putE k v).right = true := by
  have e : (putE k v).bare = putE k v := rfl
  have hs : ∀ b : ByteArray, (b.toList == b.toList) = true := fun b => by simp
  rw [Ef.right, e]
  have hg : (putE k v).good = true := by
    show (nameB tName && (keyLB k && bodyB v)) = true
    rw [hv, show nameB tName = true from by decide +kernel]
    simp only [keyLB, Bool.and_true, Bool.true_and, Bool.and_eq_true, decide_eq_true_eq]
    omega
  rw [hg]
  simp [Ef.same, Mg.same]
theorem one_put {n : Int} {l : List Rw} {k v : ByteArray} (h : (putE k v).right = true) : oneS (tabR n l) (putE k v) = (0, tabR n (putR l (k, v))) := by
  rw [oneS, if_neg (by rw [h]; decide), if_neg (show ¬ (putE k v).kind = 1 by show ¬ (2 : Int) = 1; decide), if_neg (show ¬ (putE k v).kind = 8 by show ¬ (2 : Int) = 8; decide)]
  have hi : (tabR n l).objs.findIdx (isN (putE k v).obj) = 0 := by
    show [(_ : Ob)].findIdx (isN tName) = 0
    rw [List.findIdx_cons]
    have : isN tName ⟨tName, 1, 0, l, [], []⟩ = true := by simp [isN]
    rw [this]; rfl
  rw [hi]
  rfl
theorem run_put {n : Int} {l : List Rw} {k v : ByteArray} (h : (putE k v).right = true) : runS (tabR n l) [putE k v] = (0, tabR n (putR l (k, v))) := by
  rw [runS, one_put h]; rfl
theorem findR_end {l : List Rw} {k : ByteArray} (h : ∀ x ∈ l, cmpS x.1 k < 0) : findR l k = l.length ∧ foundR l k = false := by
  induction l with
  | nil => exact ⟨rfl, rfl⟩
  | cons x r ih =>
    have h1 := h x List.mem_cons_self
    obtain ⟨a, b⟩ := ih fun y hy => h y (List.mem_cons_of_mem _ hy)
    rw [findR, foundR, if_neg (by omega), if_neg (by omega), a, b]
    exact ⟨rfl, rfl⟩
theorem putR_end {l : List Rw} {k v : ByteArray} (h : ∀ x ∈ l, cmpS x.1 k < 0) : putR l (k, v) = l ++ [(k, v)] := by
  obtain ⟨a, b⟩ := findR_end h
  unfold putR behR
  rw [b, a]
  simp
theorem size_tabR {n : Int} {l : List Rw} : sizeD (tabR n l).objs = 67 + (l.map fun r => 20 + r.1.size + r.2.size).sum := by
  unfold sizeD tabR sizeO
  simp only [List.map_cons, List.map_nil, List.sum_cons, List.sum_nil]
  have : tName.size = 1 := rfl
  omega
theorem bytes_one {e : Ef} (h : e.right = true) : (bytesE [e]).length ≤ 10176 := by
  have h1 := bytesE_tight (l := [e]) fun x hx => by rw [List.mem_singleton.1 hx]; exact h
  unfold bytesE
  rw [List.length_append, encInt_len]
  have h2 : [e].length = 1 := rfl
  omega
def keyF (i : Nat) : ByteArray := ⟨#[(97 + i / 10).toUInt8, (97 + i % 10).toUInt8]⟩
theorem keyF_lt : ∀ i < 80, ∀ j < i, cmpS (keyF j) (keyF i) < 0 := by decide +kernel
def zerB (n : Nat) : ByteArray := ⟨(List.replicate n (0 : UInt8)).toArray⟩
theorem zerB_size (n : Nat) : (zerB n).size = n := by
  show (List.replicate n (0 : UInt8)).toArray.size = n
  simp
theorem zerB_body {n : Nat} (h : n ≤ 100) : bodyB (zerB n) = true := by
  unfold bodyB
  rw [zerB_size]
  simp
  omega
def rowsF (z n : Nat) : List Rw := (List.range n).map fun i => (keyF i, zerB z)
theorem rowsF_put {z n : Nat} (h : n < 80) : putR (rowsF z n) (keyF n, zerB z) = rowsF z (n + 1) := by
  rw [putR_end]
  · simp [rowsF, List.range_succ]
  · intro x hx
    obtain ⟨j, hj, rfl⟩ := List.mem_map.1 hx
    exact keyF_lt n h j (List.mem_range.1 hj)
theorem rowsF_size {t : Int} {z n : Nat} : sizeD (tabR t (rowsF z n)).objs = 67 + n * (22 + z) := by
  rw [size_tabR]
  congr 1
  have : ∀ n, ((rowsF z n).map fun r => 20 + r.1.size + r.2.size).sum = n * (22 + z) := by
    intro n
    induction n with
    | zero => simp [rowsF]
    | succ n ih =>
      have e : rowsF z (n + 1) = rowsF z n ++ [(keyF n, zerB z)] := by simp [rowsF, List.range_succ]
      rw [e, List.map_append, List.sum_append, ih]
      simp only [List.map_cons, List.map_nil, List.sum_cons, List.sum_nil, zerB_size]
      have : (keyF n).size = 2 := rfl
      rw [this, Nat.succ_mul]
      omega
  exact this n
end Go.Proofs.YtjfoflbaoceemaaGreat
