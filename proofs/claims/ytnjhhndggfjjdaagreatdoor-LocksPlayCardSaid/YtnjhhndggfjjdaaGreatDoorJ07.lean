/- Package grant's Drop. Package grant's Drop, walked. A Go call as one step of a region that draws. Package grant's Holds. -/
import Derived.Test.YtnjhhndggfjjdaaGreatDoorJ06
import Derived.Deep.Slices
import Derived.Test.YtnjhhndggfjjdaaGreatDoorJ02
import Derived.Deep.RegionHeld3
set_option maxRecDepth 4000
namespace Go.Proofs.YtnjhhndggfjjdaaGreatDoor
open Go.RowKit
theorem elemC : Tryz.prog.elem 62 = 94 := by simp [Program.elem, Tryz.underlying62]
theorem head_claims (A : Option Addr) (l c q : Nat) (h : q ≤ c) (W : World) : (Instr.slice 62 (.slice A l c) none (some (.int .i64 (q : Int))) none).run Tryz.prog W = .ok (.slice A q c) W := by
  rw [run_slice_h W 62 _ _ _ (by rw [elemC]; exact Tryz.underlying62) .i64 _ (by omega) (by omega), elemC, sizeC]
  have : A.map (·.add (0 * 2)) = A := by cases A <;> simp [Addr.add]
  simp [Result.andThen, sliced]
  cases A <;> simp [Addr.add]
theorem tail_claims {w : World} {K : Nat → Prop} {A : Option Addr} {l : List Cl} {n c : Nat} (h : Lst w K eC A l) (hl : l.length = n) (hc : n ≤ c) {q m : Nat} (hq : q ≤ n) (hm : n - q = m) :
    ∃ A', (∀ W, (Instr.slice 62 (.slice A n c) (some (.int .i64 (q : Int))) none none).run Tryz.prog W = .ok (.slice A' m (c - q)) W) ∧ Lst w K eC A' (l.drop q) ∧ (A' = none → A = none) := by
  subst hl hm
  refine ⟨_, fun W => ?_, h.drop (k := q) hc, fun e => by split at e <;> simpa using e⟩
  rw [run_slice_l W 62 _ _ _ (by rw [elemC]; exact Tryz.underlying62) .i64 _ (by omega) (by omega), elemC, sizeC]
  rfl
/-- a list in block q, if it has any -/
def Line (w : World) (v : Value) (l : List Cl) (q : Nat) : Prop := ∃ A c, v = .slice A l.length c ∧ Lst w (fun i => i = q ∧ IsC w i) eC A l ∧ l.length ≤ c ∧ c ≤ maxLen ∧ (A = none → c = 0)
theorem Line.kept {w w' : World} {v : Value} {l : List Cl} {q : Nat} (h : Line w v l q) (hk : IsC w q → w'.heap[q]? = w.heap[q]?) : Line w' v l q := by
  obtain ⟨A, c, e, hl, hr⟩ := h
  refine ⟨A, c, e, fun h0 => ?_, hr⟩
  obtain ⟨g, o, e, ⟨rfl, cur, hi⟩, hg, hc⟩ := hl h0
  have hk' := hk ⟨cur, hi⟩
  exact ⟨g, o, e, ⟨rfl, cur, hk'.trans hi⟩, lt_of_some (hk'.trans hi), fun j u hu => (cell_of_heap hk' _).trans (hc j u hu)⟩
theorem Line.at {w : World} {v : Value} {l : List Cl} {q : Nat} (h : Line w v l q) : At w v l := by
  obtain ⟨A, c, e, hl, hr⟩ := h
  exact ⟨A, c, e, hl.more fun _ _ hi => hi.2, hr⟩
theorem line_of_own {w : World} {base b : Nat} {vH v : Value} {l : List Cl} (h : Own w base eC 94 v l) (hb : b < w.heap.size) (hs : ∀ g, vH.ownBlock = some g → v.ownBlock ≠ some g) (hbH : vH.ownBlock ≠ some b) : ∃ q, Line w v l q ∧ vH.ownBlock ≠ some q ∧ q < w.heap.size := by
  obtain ⟨A, c, e, hl, hr⟩ := own_lst h
  rcases hq : v.ownBlock with _ | q
  · refine ⟨b, ⟨A, c, e, fun h0 => ?_, hr⟩, hbH, hb⟩
    obtain ⟨g, _, _, ⟨_, hk⟩, _⟩ := hl h0
    rw [hq] at hk; cases hk
  · refine ⟨q, ⟨A, c, e, hl.more fun i _ hi => ?_, hr⟩, fun hh => hs q hh hq, (own_blk h hq).2.1⟩
    have : i = q := by have := hi.2; rw [hq] at this; injection this with this; exact this.symm
    subst this
    exact ⟨rfl, (own_blk h hq).2.2⟩
theorem own_ne {α β : Type} {E : Enc α} {E' : Enc β} {T T' : TypeId} {w : World} {base base' : Nat} {v v' : Value} {l : List α} {l' : List β} (h : Own w base E T v l) (h' : Own w base' E' T' v' l') (ht : T ≠ T') {g : Nat} (hg : v.ownBlock = some g) : v'.ownBlock ≠ some g := fun hg' => by
  obtain ⟨_, _, cur, h1⟩ := own_blk h hg
  obtain ⟨_, _, cur', h2⟩ := own_blk h' hg'
  rw [h1] at h2
  injection h2 with h2
  injection h2 with _ h2
  exact ht h2
theorem two_neT {α : Type} {E : Enc α} {T : TypeId} {w : World} {b base off : Nat} {zn : Zn} {vH vL v : Value} {l : List α} (h : Two w b off zn vH vL) (ho : Own w base E T v l) (ht : T = 94 ∨ T = 3 ∨ T = 56) : v.ownBlock ≠ some b := fun e => by
  obtain ⟨_, _, cur, hc⟩ := own_blk ho e
  have := h.blk.symm.trans hc
  injection this with this
  injection this with _ this
  rcases ht with ht | ht | ht
  · exact h.ty.1 (this.trans ht)
  · exact h.ty.2.1 (this.trans ht)
  · exact h.ty.2.2 (this.trans ht)
/-- a lock while somebody is dropped: holders, line, whom it was granted -/
structure DS (w2 : World) (b off : Nat) (zn : Zn) (base : Nat) (H L : List Cl) (done : List Int) (gv vH vL : Value) (q : Nat) (wr : World) : Prop where
  two : Two wr b off zn vH vL
  own : Own wr base eC 94 vH H
  line : Line wr vL L q
  ne : vH.ownBlock ≠ some q
  lt : q < wr.heap.size
  got : Own wr base eI 3 gv done
  keep : Keep (fun i _ => i ≠ b ∧ i < base) w2 wr
  bb : b < base
  sz : base ≤ wr.heap.size
section
variable {w2 : World} {b base off : Nat} {zn : Zn} {H L : List Cl} {done : List Int} {gv vH vL : Value} {q : Nat} {wr : World}
theorem DS.below (d : DS w2 b off zn base H L done gv vH vL q wr) {w' : World} (k : Below wr.heap.size wr w') : DS w2 b off zn base H L done gv vH vL q w' :=
  ⟨d.two.below k d.two.lt, own_keep d.own fun g hg => k.block g (own_blk d.own hg).2.1, d.line.kept fun _ => k.block q d.lt, d.ne, Nat.lt_of_lt_of_le d.lt k.size, own_keep d.got fun g hg => k.block g (own_blk d.got hg).2.1, d.keep.trans (Keep.of_below k), d.bb, Nat.le_trans d.sz k.size⟩
theorem DS.tail (d : DS w2 b off zn base H L done gv vH vL q wr) {v' : Value} {L' : List Cl} (h : Line wr v' L' q) : DS w2 b off zn base H L' done gv vH v' q (wr.setCell ⟨b, off + 1, none⟩ v') := by
  have far : ∀ g, g ≠ b → (wr.setCell ⟨b, off + 1, none⟩ v').heap[g]? = wr.heap[g]? := fun g hg => Below.heap_setCell wr ⟨b, off + 1, none⟩ v' g hg
  refine ⟨Two.set1 d.two _, own_keep d.own fun g hg => far g (fun e => by subst e; exact two_ne d.two d.own hg), h.kept fun hc => far q (isC_ne d.two hc), d.ne, by simpa [World.setCell] using d.lt, own_keep d.got fun g hg => far g (fun e => by subst e; exact two_neT d.two d.got (by decide) hg), d.keep.setCell (fun _ _ h => h.1 rfl) _, d.bb, by simpa [World.setCell] using d.sz⟩
theorem DS.granted (d : DS w2 b off zn base H L done gv vH vL q wr) {H' : List Cl} {w' : World} (h : Granted wr b off zn vH vL base H' w') : ∃ vH', DS w2 b off zn base H' L done gv vH' vL q w' := by
  obtain ⟨vH', t, o, hn, k⟩ := h
  refine ⟨vH', t, o, d.line.kept fun hc => ?_, fun e => ?_, Nat.lt_of_lt_of_le d.lt k.size, own_keep d.got fun g hg => ?_, d.keep.trans (k.mono fun i ob _ hi => ⟨hi.1, fun e => ?_⟩), d.bb, Nat.le_trans d.sz k.size⟩
  · obtain ⟨cur, hc⟩ := hc
    rw [hc]
    exact k.block q _ hc ⟨isC_ne d.two ⟨cur, hc⟩, d.ne⟩
  · rcases hn with hn | ⟨g, hn, hg⟩
    · rw [hn] at e; exact d.ne e
    · rw [hn] at e
      injection e with e
      have := d.lt
      omega
  · obtain ⟨_, hlt, cur, hc⟩ := own_blk d.got hg
    rw [hc]
    exact k.block g _ hc ⟨fun e => by subst e; exact two_neT d.two d.got (by decide) hg, fun e => own_ne d.own d.got (by decide) e hg⟩
  · have := (own_blk d.own e).1
    omega
theorem DS.grown (d : DS w2 b off zn base H L done gv vH vL q wr) {gv' : Value} {done' : List Int} {w' : World} (ho : Own w' base eI 3 gv' done') (hg : wr.grownBy w' gv.ownBlock) : DS w2 b off zn base H L done' gv' vH vL q w' := by
  have far : ∀ g, g < wr.heap.size → gv.ownBlock ≠ some g → w'.heap[g]? = wr.heap[g]? := fun g hlt hne => hg.block g hlt (fun e => hne e.symm)
  refine ⟨d.two.same (far b d.two.lt (two_neT d.two d.got (by decide))), own_keep d.own fun g h => far g (own_blk d.own h).2.1 (own_ne d.own d.got (by decide) h), d.line.kept fun hc => far q d.lt (fun e => ?_), d.ne, Nat.lt_of_lt_of_le d.lt hg.size, ho, d.keep.trans ⟨hg.os, hg.tape, hg.output, hg.size, fun i o hio hi => ?_⟩, d.bb, Nat.le_trans d.sz hg.size⟩
  · obtain ⟨cur, hc⟩ := hc
    obtain ⟨_, _, cur', h2⟩ := own_blk d.got e
    rw [hc] at h2
    injection h2 with h2
    injection h2 with _ h2
    cases h2
  · rw [far i (lt_of_some hio) (fun e => by have := (own_blk d.got e).1; omega)]
    exact hio
theorem DS.lock (d : DS w2 b off zn base H L done gv vH vL q wr) : Lock wr b off zn (H, L) := ⟨vH, vL, d.two, At.own d.own, d.line.at⟩
end
end Go.Proofs.YtnjhhndggfjjdaaGreatDoor
namespace Go.Proofs.YtnjhhndggfjjdaaGreatDoor
open Go.RowKit
theorem Two.store {α : Type} {E : Enc α} {T : TypeId} {w : World} {b base off : Nat} {zn : Zn} {vH vL v : Value} {l : List α} (h : Two w b off zn vH vL) (ho : Own w base E T v l) (ht : T = 94 ∨ T = 3 ∨ T = 56) (i : Nat) (u : Value) : Own (w.setCell ⟨b, i, none⟩ u) base E T v l :=
  own_keep ho fun g hg => Below.heap_setCell w ⟨b, i, none⟩ u g (fun e => by subst e; exact two_neT h ho ht hg)
theorem grant_length (H : List Cl) (x : Cl) : (grantP H x).length ≤ H.length + 1 := by
  unfold grantP
  split <;> simp
theorem grant_modes {H : List Cl} {x : Cl} (h : ∀ c ∈ H, 0 < c.2 ∧ c.2 < 6) (hx : 0 < x.2 ∧ x.2 < 6) : ∀ c ∈ grantP H x, 0 < c.2 ∧ c.2 < 6 := by
  intro c hc
  unfold grantP at hc
  split at hc
  · rcases List.mem_or_eq_of_mem_set hc with h1 | h1
    · exact h c h1
    · subst h1; exact hx
  · rcases List.mem_append.1 hc with h1 | h1
    · exact h c h1
    · obtain rfl : c = x := by simpa using h1
      exact hx
theorem without_modes {H : List Cl} {who : Int} (h : ∀ c ∈ H, 0 < c.2 ∧ c.2 < 6) : ∀ c ∈ withoutP H who, 0 < c.2 ∧ c.2 < 6 := fun c hc => h c (List.mem_filter.1 hc).1
theorem without_length (H : List Cl) (who : Int) : (withoutP H who).length ≤ H.length := List.length_filter_le _ _
def DropR (w2 : World) (b off : Nat) (zn : Zn) (base : Nat) (H0 L0 : List Cl) (m : Nat) (gv : Value) (wr : World) : Prop :=
  ∃ (H L : List Cl) (done : List Int) (vH vL : Value) (q : Nat), L.length = m ∧ drainP H0 L0 = (done ++ (drainP H L).1, (drainP H L).2) ∧ DS w2 b off zn base H L done gv vH vL q wr ∧ H.length + L.length ≤ 30000 ∧ done.length + L.length ≤ 30000 ∧ (∀ c ∈ H, 0 < c.2 ∧ c.2 < 6) ∧ (∀ c ∈ L, 0 < c.2 ∧ c.2 < 6)
theorem drain_go {H L : List Cl} {x : Cl} (h : fitsP H x = true) : drainP H (x :: L) = (x.1 :: (drainP (grantP H x) L).1, (drainP (grantP H x) L).2) := by simp [drainP, h]
theorem drain_stop {H L : List Cl} {x : Cl} (h : fitsP H x = false) : drainP H (x :: L) = ([], (H, x :: L)) := by simp [drainP, h]
set_option maxHeartbeats 2000000 in
theorem drop_ {w : World} {b off : Nat} {zn : Zn} {s : Lk} (h : Lock w b off zn s) (hok : Ok s) (hn : s.1.length ≤ 10000) (hm : s.2.length ≤ 10000) (hT : Tab w) (hb0 : 0 ≠ b) (who : Int) :
    Calls Tryz.prog 34 #[.pointer (some ⟨b, off, none⟩), .int .i64 who] w fun e w' => ∃ v, e = .returned v ∧ Own w' w.heap.size eI 3 v (dropP s who).1 ∧ Lock w' b off zn (dropP s who).2 ∧ Keep (fun i _ => i ≠ b) w w' := by
  obtain ⟨H, L⟩ := s
  obtain ⟨vH, vL, h2, aH, aL⟩ := h
  have hbs := h2.lt
  have hol := own_lists h2 aH aL (by simp only at hn ⊢; omega) (by simp only at hm ⊢; omega)
  simp only at hol hn hm
  have HOL := Lib.hid hol
  have HT := Lib.hid hT
  have MH := Lib.hid hok.mH
  have ML := Lib.hid hok.mL
  simp only at MH ML
  unfold dropP
  simp only
  clear hol hT hok aH aL h2
  go_enter Tryz.func34, Tryz.ntmps34
  go_wp2_with fail
  refine HOL.out.mono ?_
  rintro e w1 ⟨rfl, vH1, vL1, t1, o1, o2, sep, k1⟩
  obtain ⟨A1, c1, e1, _, _, _, _⟩ := own_lst o1
  obtain ⟨A2, c2, e2, _, _, _, _⟩ := own_lst o2
  have p0 := t1.c0
  rw [e1] at p0
  have hwo := without_ who o1 (by omega)
  rw [e1] at hwo
  have HWO := Lib.hid hwo
  have T1 := Lib.hid t1
  have O1 := Lib.hid o1
  have O2 := Lib.hid o2
  have K1 := Lib.hid k1
  have SEP := Lib.hid sep
  have E1 := Lib.hid e1
  have E2 := Lib.hid e2
  have hTb1 : Tab w1 := HT.out.keep k1 fun _ => hb0
  have HT1 := Lib.hid hTb1
  have hN1 := without_length H who
  have hN2 := without_length L who
  clear hwo t1 o1 o2 k1 sep e1 e2 hTb1 HOL
  generalize hnn : H.length = n at *
  generalize hmm : L.length = m at *
  go_wp2_with fail
  refine HWO.out.mono ?_
  rintro e w2 ⟨vH2, rfl, o3, ob3, g3⟩
  have hob : vH2.ownBlock = vH1.ownBlock := by rw [E1.out]; exact ob3
  have hg3 : w1.grownBy w2 vH1.ownBlock := by rw [E1.out]; exact g3
  have t2 : Two w2 b off zn vH1 vL1 := Two.grown T1.out hg3 (two_ne T1.out O1.out)
  have o4 : Own w2 w.heap.size eC 94 vL1 L := own_keep O2.out fun g hg => hg3.block g (own_blk O2.out hg).2.1 (fun e => SEP.out g e.symm hg)
  have k2 : Keep (fun i _ => i ≠ b ∧ i < w.heap.size) w w2 := (K1.out.mono fun _ _ _ hi => hi.1).grown hg3 fun g o hg ho hi => by
    have := (own_blk O1.out hg).1
    omega
  obtain ⟨A3, c3, e3, _, _, _, _⟩ := own_lst o3
  have q0 := t2.c0
  have f0 := t2.frozen off
  rw [E1.out] at q0
  -- behind the first store
  have t5 : Two (w2.setCell ⟨b, off, none⟩ vH2) b off zn vH2 vL1 := Two.set0 t2 _
  have o5 := Two.store t2 o3 (by decide) off vH2
  have o6 := Two.store t2 o4 (by decide) off vH2
  have k5 : Keep (fun i _ => i ≠ b ∧ i < w.heap.size) w (w2.setCell ⟨b, off, none⟩ vH2) := k2.setCell (fun _ _ h => h.1 rfl) _
  have hTb2 : Tab (w2.setCell ⟨b, off, none⟩ vH2) := HT.out.keep k5 fun _ => ⟨hb0, HT.out.lt⟩
  have hwo2 := without_ who o6 (by omega)
  have p1 := t5.c1
  rw [E2.out] at hwo2 p1
  generalize hz : (withoutP H who).length = z1 at *
  have HWO2 := Lib.hid hwo2
  have T5 := Lib.hid t5
  have O5 := Lib.hid o5
  have O6 := Lib.hid o6
  have K5 := Lib.hid k5
  have HT2 := Lib.hid hTb2
  have OB := Lib.hid hob
  clear hwo2 t5 o5 o6 k5 hTb2 hob hg3 t2 o4 k2 o3 ob3 g3 HWO p0
  subst e3
  go_wp2_with fail
  generalize w2.setCell ⟨b, off, none⟩ (.slice A3 z1 c3) = w3 at *
  refine HWO2.out.mono ?_
  rintro e w4 ⟨vL4, rfl, o7, ob7, g7⟩
  have hg7 : w3.grownBy w4 vL1.ownBlock := by rw [E2.out]; exact g7
  have t7 : Two w4 b off zn (.slice A3 z1 c3) vL1 := Two.grown T5.out hg7 (two_ne T5.out O6.out)
  have o8 : Own w4 w.heap.size eC 94 (.slice A3 z1 c3) (withoutP H who) := own_keep O5.out fun g hg => hg7.block g (own_blk O5.out hg).2.1 (fun e => SEP.out g (by rw [← OB.out]; exact hg) e.symm)
  have k7 : Keep (fun i _ => i ≠ b ∧ i < w.heap.size) w w4 := K5.out.grown hg7 fun g o hg ho hi => by
    have := (own_blk O6.out hg).1
    omega
  have hobL : vL4.ownBlock = vL1.ownBlock := by rw [E2.out]; exact ob7
  obtain ⟨A4, c4, e4, _, _, _, _⟩ := own_lst o7
  have r1 := t7.c1
  have f1 := t7.frozen (off + 1)
  rw [E2.out] at r1
  have t8 : Two (w4.setCell ⟨b, off + 1, none⟩ vL4) b off zn (.slice A3 z1 c3) vL4 := Two.set1 t7 _
  have o9 := Two.store t7 o7 (by decide) (off + 1) vL4
  have o10 := Two.store t7 o8 (by decide) (off + 1) vL4
  have k8 : Keep (fun i _ => i ≠ b ∧ i < w.heap.size) w (w4.setCell ⟨b, off + 1, none⟩ vL4) := k7.setCell (fun _ _ h => h.1 rfl) _
  obtain ⟨q, hline, hneq, hltq⟩ := line_of_own (vH := .slice A3 z1 c3) o9 t8.lt (fun g hg hg' => SEP.out g (by rw [← OB.out]; exact hg) (by rw [← hobL]; exact hg')) (two_ne t8 o10)
  have hds : DS w b off zn w.heap.size (withoutP H who) (withoutP L who) [] (.slice none 0 0) (.slice A3 z1 c3) vL4 q (w4.setCell ⟨b, off + 1, none⟩ vL4) :=
    ⟨t8, o10, hline, hneq, hltq, own_nil _ _, k8, hbs, k8.size⟩
  have HDS := Lib.hid hds
  have hz2 : (withoutP L who).length ≤ m := hN2
  generalize hzz : (withoutP L who).length = z2 at *
  subst e4
  clear o7 ob7 g7 hg7 t7 o8 k7 hobL t8 o9 o10 k8 hline hds HWO2 T5 O5 O6 K5 HT2 OB SEP K1 O1 O2 T1 HT1 q0 f0 p1
  go_wp2_with fail
  generalize w4.setCell ⟨b, off + 1, none⟩ (.slice A4 z2 c4) = w5 at *
  go_loopg [5, 6] z2 (fun k gv _ wr => DropR w b off zn w.heap.size (withoutP H who) (withoutP L who) k gv wr)
  case atStart =>
    exact ⟨withoutP H who, withoutP L who, [], _, _, q, hzz, by simp, HDS.out, by rw [hz, hzz]; omega, by rw [hzz]; show 0 + z2 ≤ _; omega, without_modes MH.out, without_modes ML.out⟩
  case round =>
    obtain ⟨H', L', done, vH', vL', q', hlen, hdr, d, hbn, hbd, hmH, hmL⟩ := hrel
    obtain ⟨AL, cL, eL, lL, hlc, hcm, hnil⟩ := d.line
    obtain ⟨AH, cH, eH, lH, _, _, _⟩ := own_lst d.own
    have p1 := d.two.c1
    have p0 := d.two.c0
    have g1 := d.two.frozen (off + 1)
    rw [eL] at p1
    have HDR := Lib.hid hdr
    have D := Lib.hid d
    have hTr : Tab wr := HT.out.keep d.keep fun _ => ⟨hb0, HT.out.lt⟩
    have HTR := Lib.hid hTr
    have HMH := Lib.hid hmH
    have HML := Lib.hid hmL
    have HBN := Lib.hid hbn
    have HBD := Lib.hid hbd
    have HEL := Lib.hid eL
    rcases L' with _ | ⟨x, L2⟩
    · clear hdr d lL lH eH hTr hmH hmL eL
      simp only [List.length_nil] at hlen p1
      subst hlen
      have HG := Lib.hid D.out.got
      have HE := Lib.hid HDR.out
      have hres : drainP (withoutP H who) (withoutP L who) = (done, (H', [])) := by rw [HE.out]; simp [drainP]
      have HRES := Lib.hid hres
      clear hres
      go_wp2_with fail
      go_ret
      exact ⟨u5, rfl, by rw [HRES.out]; exact HG.out, by rw [HRES.out]; exact D.out.lock, D.out.keep.mono fun i o ho hi => ⟨hi, lt_of_some ho⟩⟩
    · have hx := hmL x (by simp)
      obtain ⟨g, o, rfl, hgl, d1, d2⟩ := lL.atC (j := 0) (by simp)
      have hfi := fits_lock d.two eH lH (by omega) hmH x hx.2 hTr
      simp only [List.getElem_cons_zero, Nat.zero_mul, Nat.add_zero] at d1 d2
      obtain ⟨x1, x2⟩ := x
      unfold valC at hfi
      simp only at *
      generalize hfv : fitsP H' (x1, x2) = fv at *
      have HFV := Lib.hid hfv
      have HFI := Lib.hid hfi
      have hl0 : 0 < L2.length + 1 := by omega
      have hl1 : ((L2.length : Int) + 1 : Int) > 0 := by omega
      obtain ⟨A', hsl, hl', hA'⟩ := tail_claims lL rfl hlc (q := 1) (m := L2.length) (by simp) (by simp)
      have hline' : Line wr (.slice A' L2.length (cL - 1)) L2 q' := ⟨A', cL - 1, rfl, hl', by simp at hlc; omega, by omega, fun e => by cases hA' e⟩
      have HL' := Lib.hid hline'
      simp only [List.length_cons] at *
      clear hdr d lL lH eH hTr hmL eL hfi hfv hl' hline' hnil hmH p0
      have hsl1 : ∀ W, (Instr.slice 62 (.slice (some ⟨g, o, none⟩) (L2.length + 1) cL) (some (.int .i64 1)) none none).run Tryz.prog W = .ok (.slice A' L2.length (cL - 1)) W := hsl
      clear hsl
      generalize hk2 : L2.length = k2 at *
      subst hlen
      go_wp2_with fail
      refine HFI.out.mono ?_
      rintro e w6 ⟨rfl, hb6⟩
      have D6 := Lib.hid (D.out.below hb6)
      have l6 := HL'.out.kept (w' := w6) fun _ => hb6.block q' D.out.lt
      have m1 := (cell_of_heap (hb6.block g hgl) o).trans d1
      have m2 := (cell_of_heap (hb6.block g hgl) (o + 1)).trans d2
      have p6 := (cell_of_heap (hb6.block b D.out.two.lt) (off + 1)).trans p1
      cases fv
      · have hres : drainP (withoutP H who) (withoutP L who) = (done, (H', (x1, x2) :: L2)) := by rw [HDR.out, drain_stop HFV.out]; simp
        have HRES := Lib.hid hres
        clear hres hb6 l6 m1 m2 p6 d1 d2
        go_wp2_with fail
        go_ret
        exact ⟨u5, rfl, by rw [HRES.out]; exact D6.out.got, by rw [HRES.out]; exact D6.out.lock, D6.out.keep.mono fun i o ho hi => ⟨hi, lt_of_some ho⟩⟩
      · have hal := alloc_below w6 (.cells #[.int .i64 x1, .int .i64 (x2 : Int)] 94)
        have D7 := D6.out.below hal
        have l7 := l6.kept (w' := w6.alloc (.cells #[.int .i64 x1, .int .i64 (x2 : Int)] 94)) fun _ => hal.block q' D6.out.lt
        have D8 := D7.tail l7
        have p7 := (cell_of_heap (hal.block b D6.out.two.lt) (off + 1)).trans p6
        have f7 := D7.two.frozen (off + 1)
        have hbn6 : b ≠ w6.heap.size := Nat.ne_of_lt D6.out.two.lt
        have hgn6 : w6.heap.size ≠ b := hbn6.symm
        have n1 : ((w6.alloc (.cells #[.int .i64 x1, .int .i64 (x2 : Int)] 94)).setCell ⟨b, off + 1, none⟩ (.slice A' k2 (cL - 1))).cell? ⟨w6.heap.size, 0, none⟩ = some (.int .i64 x1) := (cell_of_heap (Below.heap_setCell _ ⟨b, off + 1, none⟩ _ _ hgn6) 0).trans ((Blk.new w6 _ _).cell 0)
        have n2 : ((w6.alloc (.cells #[.int .i64 x1, .int .i64 (x2 : Int)] 94)).setCell ⟨b, off + 1, none⟩ (.slice A' k2 (cL - 1))).cell? ⟨w6.heap.size, 1, none⟩ = some (.int .i64 (x2 : Int)) := (cell_of_heap (Below.heap_setCell _ ⟨b, off + 1, none⟩ _ _ hgn6) 1).trans ((Blk.new w6 _ _).cell 1)
        have hlt8 : w6.heap.size < ((w6.alloc (.cells #[.int .i64 x1, .int .i64 (x2 : Int)] 94)).setCell ⟨b, off + 1, none⟩ (.slice A' k2 (cL - 1))).heap.size := by simp [World.setCell]
        have hgr := grant_ D8.two D8.own D8.sz (by have := HBN.out; omega) (x1, x2)
        unfold valC at hgr
        simp only at hgr
        have HGR := Lib.hid hgr
        have HD8 := Lib.hid D8
        have H6 := Lib.hid (fun g0 (hg0 : vH'.ownBlock = some g0) => (own_blk D6.out.own hg0).2.1)
        clear hgr D7 l7 D8 hal l6 hb6 d1 d2 p1
        go_wp2_with fail
        generalize (w6.alloc (.cells #[.int .i64 x1, .int .i64 (x2 : Int)] 94)).setCell ⟨b, off + 1, none⟩ (.slice A' k2 (cL - 1)) = w7 at *
        refine HGR.out.mono ?_
        rintro e w8 ⟨rfl, hgd⟩
        have hgd0 := hgd
        obtain ⟨vH9, D9⟩ := HD8.out.granted hgd
        obtain ⟨_, _, _, _, hk8⟩ := hgd0
        have hb8 : w8.heap[w6.heap.size]? = w7.heap[w6.heap.size]? := by
          rw [Array.getElem?_eq_getElem hlt8]
          exact hk8.block _ _ (Array.getElem?_eq_getElem hlt8) ⟨hgn6, fun e => by have := H6.out _ e; omega⟩
        have s1 := (cell_of_heap hb8 0).trans n1
        have hal9 := alloc_below w8 (.cells #[.int .i64 x1] 3)
        have D10 := D9.below hal9
        have hone : Lst (w8.alloc (.cells #[.int .i64 x1] 3)) (fun i => w8.heap.size ≤ i) eI (some ⟨w8.heap.size, 0, none⟩) [x1] := fun _ =>
          ⟨_, 0, rfl, Nat.le_refl _, by simp, fun j u hu => by rw [(Blk.new w8 3 _).cell, Nat.zero_add]; simpa [cellsE, eI] using hu⟩
        obtain ⟨v11, w11, hap, ho11, hg11, _⟩ := append_own tyI D10.got hone rfl 1 (by have := HBD.out; show done.length + 1 ≤ 1000000; omega) D10.sz
        have D11 := D10.grown ho11 hg11
        have HD11 := Lib.hid D11
        have HAP := Lib.hid hap
        clear hgd hk8 hb8 hal9 D9 D10 hone hap ho11 hg11 D11 n1 n2
        go_wp2_with (at_builtin; refine wpList_append_run rfl (.tmp 62) (.tmp 65) 39 39 rfl _ _ rfl rfl HAP.out ?_)
        go_roundg k2
        case measure => omega
        case rel =>
          exact ⟨grantP H' (x1, x2), L2, done ++ [x1], vH9, _, q', hk2, by rw [HDR.out, drain_go HFV.out]; simp, HD11.out, by have := HBN.out; have := grant_length H' (x1, x2); omega, by have := HBD.out; simp; omega, grant_modes HMH.out (HML.out _ (by simp)), fun c hc => HML.out c (by simp [hc])⟩
end Go.Proofs.YtnjhhndggfjjdaaGreatDoor
namespace Go.Proofs.YtnjhhndggfjjdaaGreatDoor
open Go.RowKit
/-- a Go call whose contract is known, as one step of a region that draws -/
theorem step_call {P : Program} {ops : Array Oper} {o : Oper} {a : Act} {w : World} {K : Act → World → Prop} {Q : Exit → Act → World → Prop} {E : Prop} (hg : o.guard = none) {f : Nat} {args : Array Value}
    (he : (execOp a.eval o).run P w = .ok (.enter f args) w) (h : Calls P f args w fun e w' => ∃ u, e = .returned u ∧ K (a.put o.dst u) w') : if Region.wanted o (yielded ops a.tmps) = true then Oper.wp P o a w K Q else E := by
  have hw : Region.wanted o (yielded ops a.tmps) = true := by simp [Region.wanted, hg]
  rw [if_pos hw]
  unfold Oper.wp
  simp only [he, Oper.upon]
  refine h.mono fun e w' ⟨u, hu, hk⟩ => ?_
  subst hu
  exact hk
end Go.Proofs.YtnjhhndggfjjdaaGreatDoor
namespace Go.Proofs.YtnjhhndggfjjdaaGreatDoor
open Go.RowKit
theorem lst_hold (W : World) (x : Ho) : Lst (W.alloc (.cells #[.int .i64 x.1, .int .i64 (x.2.1 : Int), .int .i64 (x.2.2 : Int)] 56)) (fun i => W.heap.size ≤ i) eH (some ⟨W.heap.size, 0, none⟩) [x] := fun _ =>
  ⟨_, 0, rfl, Nat.le_refl _, by simp, fun j u hu => by rw [(Blk.new W 56 _).cell, Nat.zero_add]; simpa [cellsE, eH] using hu⟩
/-- one more behind a row of holds -/
theorem append_hold {w W : World} {base : Nat} {v : Value} {l : List Ho} (ho : Own W base eH 56 v l) (hb : base ≤ W.heap.size) (hn : l.length ≤ 100000) (k : Below base w W) (x : Ho) :
    ∃ v' W', (Builtin.append_ #[71, 71] 71 #[v, .slice (some ⟨W.heap.size, 0, none⟩) 1 1]).run Tryz.prog (W.alloc (.cells #[.int .i64 x.1, .int .i64 (x.2.1 : Int), .int .i64 (x.2.2 : Int)] 56)) = .ok v' W' ∧
      Own W' base eH 56 v' (l ++ [x]) ∧ Below base w W' ∧ ∀ g, g < W.heap.size → v.ownBlock ≠ some g → W'.heap[g]? = W.heap[g]? := by
  have hal := alloc_below W (.cells #[.int .i64 x.1, .int .i64 (x.2.1 : Int), .int .i64 (x.2.2 : Int)] 56)
  have ho2 := own_keep (W' := W.alloc (.cells #[.int .i64 x.1, .int .i64 (x.2.1 : Int), .int .i64 (x.2.2 : Int)] 56)) ho fun g hg => hal.block g (own_blk ho hg).2.1
  obtain ⟨v', W', hap, ho', hg', _⟩ := append_own tyH ho2 (lst_hold W x) rfl 1 (by show l.length + 1 ≤ _; omega) (Nat.le_trans hb hal.size)
  refine ⟨v', W', hap, ho', (k.trans (hal.mono hb)).grown hg' (Nat.le_trans hb hal.size) (fun g hg => ?_), fun g hlt hne => (hg'.block g (Nat.lt_of_lt_of_le hlt hal.size) (fun e => hne e.symm)).trans (hal.block g hlt)⟩
  exact (own_blk ho2 hg).1
def Hold1 (w : World) (H L : List Cl) (k : Nat) (v i : Value) (wr : World) : Prop :=
  ∃ j, j + k = H.length ∧ i = .int .i64 (j : Int) ∧ Own wr w.heap.size eH 56 v ((H.take j).map (holdsA L)) ∧ Below w.heap.size w wr
def Hold2 (w : World) (H L : List Cl) (k : Nat) (v i : Value) (wr : World) : Prop :=
  ∃ j, j + k = L.length ∧ i = .int .i64 (j : Int) ∧ Own wr w.heap.size eH 56 v (H.map (holdsA L) ++ ((L.take j).filter fun c => modeP H c.1 == 0).map holdsB) ∧ Below w.heap.size w wr
theorem holds1_next {H L : List Cl} {j : Nat} (h : j < H.length) : (H.take j).map (holdsA L) ++ [(H[j].1, H[j].2, modeP L H[j].1)] = (H.take (j + 1)).map (holdsA L) := by
  rw [List.take_succ_eq_append_getElem h, List.map_append]; rfl
theorem holds2_in {H L : List Cl} {j : Nat} (h : j < L.length) (hz : modeP H L[j].1 = 0) : (((L.take j).filter fun c => modeP H c.1 == 0).map holdsB) ++ [(L[j].1, 0, L[j].2)] = ((L.take (j + 1)).filter fun c => modeP H c.1 == 0).map holdsB := by
  rw [List.take_succ_eq_append_getElem h, List.filter_append, List.map_append]
  simp [hz, holdsB]
theorem holds2_out {H L : List Cl} {j : Nat} (h : j < L.length) (hz : modeP H L[j].1 ≠ 0) : (((L.take j).filter fun c => modeP H c.1 == 0).map holdsB) = ((L.take (j + 1)).filter fun c => modeP H c.1 == 0).map holdsB := by
  rw [List.take_succ_eq_append_getElem h, List.filter_append]
  simp [hz]
set_option maxHeartbeats 2000000 in
theorem holds_ {w : World} {b off : Nat} {zn : Zn} {s : Lk} (h : Lock w b off zn s) (hn : s.1.length ≤ 10000) (hm : s.2.length ≤ 10000) :
    Calls Tryz.prog 36 #[.pointer (some ⟨b, off, none⟩)] w fun e w' => ∃ v, e = .returned v ∧ Own w' w.heap.size eH 56 v (holdsP s) ∧ Below w.heap.size w w' := by
  obtain ⟨H, L⟩ := s
  obtain ⟨vH, vL, h2, aH, aL⟩ := h
  obtain ⟨A1, c1, rfl, l1, _, _, _⟩ := aH
  obtain ⟨A2, c2, rfl, l2, _, _, _⟩ := aL
  simp only at *
  have b0 := h2.c0
  have hbs := h2.lt
  have H2 := Lib.hid h2
  have L1 := Lib.hid l1
  have L2 := Lib.hid l2
  unfold holdsP
  simp only
  clear h2 l1 l2
  generalize hnn : H.length = n at *
  generalize hmm : L.length = m at *
  have HN := Lib.hid hnn
  have HM := Lib.hid hmm
  clear hnn hmm
  go_enter Tryz.func36, Tryz.ntmps36
  go_wp2_with fail
  go_loopg [3, 5, 15] n (fun k v _ i wr => Hold1 w H L k v i wr)
  case atStart => exact ⟨0, by rw [HN.out]; omega, rfl, own_nil _ _, Below.refl _ _⟩
  case round =>
    obtain ⟨j, hj, rfl, ho, hb⟩ := hrel
    have HJ := Lib.hid hj
    have HO := Lib.hid ho
    have HB := Lib.hid hb
    clear hj ho hb
    by_cases hlt : j < n
    · have hx : j < H.length := by rw [HN.out]; exact hlt
      obtain ⟨g, o, rfl, hgl, d1, d2⟩ := (L1.out.below HB.out).atC hx
      have hT := H2.out.below HB.out hbs
      have hbr := hT.lt
      have p1 := hT.c1
      have hmo := fun W (hb : Below wr.heap.size wr W) => mode_of (w := W) (c := c2) ((L2.out.below HB.out).below hb) HM.out (by omega) (H[j]).1
      have hnx := holds1_next (L := L) hx
      have hlen : ((H.take j).map (holdsA L)).length ≤ 100000 := by rw [List.length_map, List.length_take]; omega
      have HNX := Lib.hid hnx
      have HMO := Lib.hid hmo
      have HLE := Lib.hid hlen
      clear hmo hT hnx hlen
      generalize modeP L (H[j]).1 = z at *
      generalize (H[j]).1 = x1 at *
      generalize (H[j]).2 = x2 at *
      go_wp2_with fail
      have hal := alloc_below wr (.cells #[.int .i64 x1, .int .i64 (x2 : Int)] 94)
      have e0 : (wr.alloc (.cells #[.int .i64 x1, .int .i64 (x2 : Int)] 94)).cell? ⟨wr.heap.size, 0, none⟩ = some (.int .i64 x1) := (Blk.new wr _ _).cell 0
      have e1 : (wr.alloc (.cells #[.int .i64 x1, .int .i64 (x2 : Int)] 94)).cell? ⟨wr.heap.size, 1, none⟩ = some (.int .i64 (x2 : Int)) := (Blk.new wr _ _).cell 1
      have p1' : (wr.alloc (.cells #[.int .i64 x1, .int .i64 (x2 : Int)] 94)).cell? ⟨b, off + 1, none⟩ = some (.slice A2 m c2) := (cell_of_heap (hal.block b hbr) (off + 1)).trans p1
      have HAL := Lib.hid hal
      have hne : u3.ownBlock ≠ some wr.heap.size := fun e => by have := (own_blk HO.out e).2.1; omega
      have hnb : u3.ownBlock ≠ some b := two_neT (H2.out.below HB.out hbs) HO.out (by decide)
      have HNE := Lib.hid hne
      have HNB := Lib.hid hnb
      clear hal hne hnb
      generalize wr.alloc (.cells #[.int .i64 x1, .int .i64 (x2 : Int)] 94) = wA at *
      have hS0 : (fun W : World => W.cell? ⟨wr.heap.size, 0, none⟩ = some (.int .i64 x1) ∧ W.cell? ⟨wr.heap.size, 1, none⟩ = some (.int .i64 (x2 : Int)) ∧ W.cell? ⟨b, off + 1, none⟩ = some (.slice A2 m c2)) wA.drew := ⟨e0, e1, p1'⟩
      go_region_held3 (fun W : World => W.cell? ⟨wr.heap.size, 0, none⟩ = some (.int .i64 x1) ∧ W.cell? ⟨wr.heap.size, 1, none⟩ = some (.int .i64 (x2 : Int)) ∧ W.cell? ⟨b, off + 1, none⟩ = some (.slice A2 m c2))
        (first | exact hS0 | exact hS1 | exact hS2 | exact hS3)
        (first | (refine step_call rfl (f := 50) (by go_simp) ((HMO.out _ HAL.out.drew).mono ?_); rintro e w1 ⟨rfl, hb1⟩; have hb2 := below_drew_on HAL.out hb1 HAL.out.size; have hb3 := HB.out.trans (hb2.mono HB.out.size); have hS1 : (fun W : World => W.cell? ⟨wr.heap.size, 0, none⟩ = some (.int .i64 x1) ∧ W.cell? ⟨wr.heap.size, 1, none⟩ = some (.int .i64 (x2 : Int)) ∧ W.cell? ⟨b, off + 1, none⟩ = some (.slice A2 m c2)) w1 := ⟨(cell_of_heap (hb1.block wr.heap.size (block_of_cell e0)) 0).trans e0, (cell_of_heap (hb1.block wr.heap.size (block_of_cell e0)) 1).trans e1, (cell_of_heap (hb1.block b (block_of_cell p1')) (off + 1)).trans p1'⟩; obtain ⟨v3, w3, hap, ho3, hb4, hfar⟩ := append_hold (own_keep HO.out fun g hg => hb2.block g (own_blk HO.out hg).2.1) hb3.size HLE.out hb3 (x1, x2, z); have hlt0 := block_of_cell hS1.1; have hltb := block_of_cell hS1.2.2; have hne0 := HNE.out; have hneb := HNB.out; have hS2 : (fun W : World => W.cell? ⟨wr.heap.size, 0, none⟩ = some (.int .i64 x1) ∧ W.cell? ⟨wr.heap.size, 1, none⟩ = some (.int .i64 (x2 : Int)) ∧ W.cell? ⟨b, off + 1, none⟩ = some (.slice A2 m c2)) (w1.alloc (.cells #[.int .i64 x1, .int .i64 (x2 : Int), .int .i64 (z : Int)] 56)) := ⟨(cell_of_heap ((alloc_below w1 _).block _ hlt0) 0).trans hS1.1, (cell_of_heap ((alloc_below w1 _).block _ hlt0) 1).trans hS1.2.1, (cell_of_heap ((alloc_below w1 _).block _ hltb) (off + 1)).trans hS1.2.2⟩; have hS3 : (fun W : World => W.cell? ⟨wr.heap.size, 0, none⟩ = some (.int .i64 x1) ∧ W.cell? ⟨wr.heap.size, 1, none⟩ = some (.int .i64 (x2 : Int)) ∧ W.cell? ⟨b, off + 1, none⟩ = some (.slice A2 m c2)) w3 := ⟨(cell_of_heap (hfar _ hlt0 hne0) 0).trans hS1.1, (cell_of_heap (hfar _ hlt0 hne0) 1).trans hS1.2.1, (cell_of_heap (hfar _ hltb hneb) (off + 1)).trans hS1.2.2⟩; rw [HNX.out] at ho3; have HO3 := Lib.hid ho3; have HB4 := Lib.hid hb4; have HAP := Lib.hid hap; clear hb1 hb2 hb3 hap ho3 hb4 hfar hlt0 hltb hne0 hneb; refine ⟨_, rfl, ?_⟩) | (refine step_append_at rfl (.tmp 19) (.tmp 32) 71 71 rfl _ _ rfl rfl HAP.out ?_))
      go_wp2_with fail
      go_roundg (n - (j + 1))
      case measure => have := HJ.out; have := HN.out; omega
      case rel => exact ⟨j + 1, by have := HN.out; omega, by go_num, HO3.out, HB4.out⟩
    · have he : j = n := by have := HJ.out; have := HN.out; omega
      subst he
      have hall : H.take j = H := List.take_of_length_le (by rw [HN.out]; exact Nat.le_refl _)
      have ho1 := HO.out
      rw [hall] at ho1
      have HO1 := Lib.hid ho1
      have HB1 := Lib.hid HB.out
      have p0 := (H2.out.below HB.out hbs).c0
      have p1 := (H2.out.below HB.out hbs).c1
      clear HO HB ho1 hall HJ
      go_wp2_with fail
      go_loopg [3, 7, 40] m (fun k v _ i wr => Hold2 w H L k v i wr)
      case atStart => exact ⟨0, by rw [HM.out]; omega, rfl, by simpa using HO1.out, HB1.out⟩
      case round =>
        obtain ⟨i, hi, rfl, ho, hb⟩ := hrel
        have HI := Lib.hid hi
        have HO := Lib.hid ho
        have HB := Lib.hid hb
        clear hi ho hb
        by_cases hlt : i < m
        · have hx : i < L.length := by rw [HM.out]; exact hlt
          obtain ⟨g, o, rfl, hgl, d1, d2⟩ := (L2.out.below HB.out).atC hx
          have hT := H2.out.below HB.out hbs
          have hbr := hT.lt
          have p0 := hT.c0
          have hmo := fun W (hb : Below wr.heap.size wr W) => mode_of (w := W) (c := c1) ((L1.out.below HB.out).below hb) HN.out (by omega) (L[i]).1
          have hin := fun h => holds2_in (H := H) hx h
          have hout := fun h => holds2_out (H := H) hx h
          have hlen : (H.map (holdsA L) ++ ((L.take i).filter fun c => modeP H c.1 == 0).map holdsB).length ≤ 100000 := by
            rw [List.length_append, List.length_map, List.length_map, HN.out]
            have := List.length_filter_le (fun c : Cl => modeP H c.1 == 0) (L.take i)
            rw [List.length_take] at this
            omega
          have HIN := Lib.hid hin
          have HOUT := Lib.hid hout
          have HMO := Lib.hid hmo
          have HLE := Lib.hid hlen
          clear hmo hT hin hout hlen
          generalize modeP H (L[i]).1 = z at *
          generalize (L[i]).1 = x1 at *
          generalize (L[i]).2 = x2 at *
          go_wp2_with fail
          have hal := alloc_below wr (.cells #[.int .i64 x1, .int .i64 (x2 : Int)] 94)
          have e0 : (wr.alloc (.cells #[.int .i64 x1, .int .i64 (x2 : Int)] 94)).cell? ⟨wr.heap.size, 0, none⟩ = some (.int .i64 x1) := (Blk.new wr _ _).cell 0
          have e1 : (wr.alloc (.cells #[.int .i64 x1, .int .i64 (x2 : Int)] 94)).cell? ⟨wr.heap.size, 1, none⟩ = some (.int .i64 (x2 : Int)) := (Blk.new wr _ _).cell 1
          have p0' : (wr.alloc (.cells #[.int .i64 x1, .int .i64 (x2 : Int)] 94)).cell? ⟨b, off, none⟩ = some (.slice A1 j c1) := (cell_of_heap (hal.block b hbr) off).trans p0
          have HAL := Lib.hid hal
          clear hal
          generalize wr.alloc (.cells #[.int .i64 x1, .int .i64 (x2 : Int)] 94) = wA at *
          refine wp_region_still_tail 6 (by kernel_rfl) (by kernel_rfl) ?_
          simp only [List.take_succ_cons, List.take_zero, List.drop_succ_cons, List.drop_zero]
          repeat still_step
          refine wpStill_nil ?_
          go_wp2_with fail
          refine (HMO.out _ HAL.out.drew).mono ?_
          rintro e w1 ⟨rfl, hb1⟩
          have hb2 := below_drew_on HAL.out hb1 HAL.out.size
          have hb3 := HB.out.trans (hb2.mono HB.out.size)
          have s0 := (cell_of_heap (hb1.block wr.heap.size (block_of_cell e0)) 0).trans e0
          have s1 := (cell_of_heap (hb1.block wr.heap.size (block_of_cell e0)) 1).trans e1
          have ho2 := own_keep HO.out fun g hg => hb2.block g (own_blk HO.out hg).2.1
          by_cases hz : z = 0
          · subst hz
            obtain ⟨v3, w3, hap, ho3, hb4, _⟩ := append_hold ho2 hb3.size HLE.out hb3 (x1, 0, x2)
            rw [List.append_assoc, HIN.out rfl] at ho3
            have HO3 := Lib.hid ho3
            have HB4 := Lib.hid hb4
            have HAP := Lib.hid hap
            clear hb1 hb2 hb3 hap ho3 hb4 e0 e1 p0' ho2
            go_wp2_with (at_builtin; refine wpList_append_run rfl (.tmp 52) (.tmp 58) 71 71 rfl _ _ rfl rfl HAP.out ?_)
            go_roundg (m - (i + 1))
            case measure => have := HI.out; have := HM.out; omega
            case rel => exact ⟨i + 1, by have := HM.out; omega, by go_num, HO3.out, HB4.out⟩
          · have hzn : ¬ ((z : Int) = 0) := by omega
            have hoo := HOUT.out hz
            rw [hoo] at ho2
            have HO3 := Lib.hid ho2
            have HB4 := Lib.hid hb3
            clear hb1 hb2 hb3 e0 e1 p0' ho2 s0 s1 hoo
            go_wp2_with fail
            go_roundg (m - (i + 1))
            case measure => have := HI.out; have := HM.out; omega
            case rel => exact ⟨i + 1, by have := HM.out; omega, by go_num, HO3.out, HB4.out⟩
        · have he : i = m := by have := HI.out; have := HM.out; omega
          subst he
          have hall : L.take i = L := List.take_of_length_le (by rw [HM.out]; exact Nat.le_refl _)
          have ho1 := HO.out
          rw [hall] at ho1
          have HO2 := Lib.hid ho1
          clear ho1 hall
          go_wp2_with fail
          go_ret
          exact ⟨_, rfl, HO2.out, HB.out⟩
end Go.Proofs.YtnjhhndggfjjdaaGreatDoor
