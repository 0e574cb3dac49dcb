/- . . . . . . -/
import Derived.Test.YtjfoflbaoceemaaGreatJ11
import Derived.Test.YtjfoflbaoceemaaGreatJ13
import Derived.Test.YtjfoflbaoceemaaGreatJ32
import Derived.Test.YtjfoflbaoceemaaGreatJ33
import Derived.Test.YtjfoflbaoceemaaGreatJ39
import Derived.Deep.RegionWith
import Derived.Test.YtjfoflbaoceemaaGreatJ06
import Derived.Test.YtjfoflbaoceemaaGreatJ25
import Derived.Test.YtjfoflbaoceemaaGreatJ19
import Derived.Deep.QuietTactic
import Derived.BigQuiet
import Derived.StillTailTactics
import Derived.Test.YtjfoflbaoceemaaGreatJ29
import Derived.Test.YtjfoflbaoceemaaGreatJ15
set_option maxRecDepth 4000
namespace Go.Proofs.YtjfoflbaoceemaaGreat
open Go.RowKit
structure ShutK (p : Prop) : Prop where out : p
theorem LogAt.beside {w w' : World} {g gd b : Nat} {R : Nat → Prop} {s : Dk} {L : Lg} {T : TypeId} {cs : Array Value} (h : LogAt w g gd R s L) (k : Keep (fun i _ => i ≠ b) w w') (hb : R b) (hT : Blk w b T cs) (h5 : T ≠ 5) : LogAt w' g gd R s L := by
  obtain ⟨O, vr, vs, h⟩ := h
  obtain ⟨_, b1, b2, b3⟩ := h.rO b hb
  refine ⟨O, vr, vs, h.disk.keep k (fun i _ hi e => b1 (e ▸ hi)), fun i hi => Nat.lt_of_lt_of_le (h.hi i hi) k.size, h.head.keep k (fun e => b2 e.symm), h.og, ownsRow_keep h.rows k (fun i _ hi e => b3 (e ▸ hi)), h.orr, ?_, fun i hi => ⟨Nat.lt_of_lt_of_le (h.rO i hi).1 k.size, (h.rO i hi).2⟩, h.pf, h.fn, h.nl, h.long⟩
  refine h.held.keep5 (k.mono fun i _ _ hi e => ?_)
  obtain ⟨_, cs5, h2⟩ := hi
  subst e
  exact ne_of_types h2 hT h5 rfl
theorem LogAt.under {w : World} {g gd : Nat} {R : Nat → Prop} {s : Dk} {L : Lg} (h : LogAt w g gd R s L) : ∃ Q, DiskR w gd Q s ∧ (∀ i, R i → Q i) ∧ Q g ∧ ∀ w' s', DiskR w' gd Q s' → Keep (fun i _ => Q i) w w' → s'.n = s.n → LogAt w' g gd R s' L := by
  obtain ⟨O, vr, vs, h⟩ := h
  refine ⟨fun i => i < w.heap.size ∧ ¬ O i, ⟨O, h.disk, h.hi, fun i hi => hi⟩, fun i hi => ⟨(h.rO i hi).1, (h.rO i hi).2.1⟩, ⟨h.head.lt, h.og⟩, fun w' s' hd k hn => ?_⟩
  obtain ⟨O', d1, d2, d3⟩ := hd
  have hg : g < w.heap.size ∧ ¬ O g := ⟨h.head.lt, h.og⟩
  have hr : ∀ i, vr.ownBlock = some i → i < w.heap.size ∧ ¬ O i := fun i hi => ⟨rows_lt h.rows i hi, h.orr i hi⟩
  have hR : ∀ i, R i → i < w.heap.size ∧ ¬ O i := fun i hi => ⟨(h.rO i hi).1, (h.rO i hi).2.1⟩
  exact ⟨O', vr, vs, d1, d2, h.head.keep k hg, (d3 g hg).2, ownsRow_keep h.rows k fun i _ hi => hr i hi, fun i hi => (d3 i (hr i hi)).2, h.held.keep5 (k.mono fun i _ _ hi => hR i hi.1),
    fun i hi => ⟨(d3 i (hR i hi)).1, (d3 i (hR i hi)).2, (h.rO i hi).2.2⟩, h.pf, by rw [hn]; exact h.fn, h.nl, h.long⟩
abbrev kCells (g : Nat) (next : Int) (sv : Sv) (e : Int) (dead : Bool) : Array Value := #[ptr g, .int .i64 next, .slice sv.a sv.n sv.c, .int .i64 e, .bool dead]
structure KsM (w : World) (b g gd : Nat) (R Q : Nat → Prop) (sv : Sv) (xs : List Oc) (d : Dk) (K : Ks) : Prop where
  log : LogAt w g gd Q d K.L
  box : Blk w b 93 (kCells g K.st.next sv (K.e : Int) K.dead)
  qb : Q b
  qr : ∀ i, R i → Q i ∧ i ≠ b
  obs : ObsAt w (fun i => Q i ∧ i ≠ b) sv xs
  eq : obsOf xs = K.st.objs
def KsAt (w : World) (b gd : Nat) (R : Nat → Prop) (d : Dk) (K : Ks) : Prop := ∃ g Q sv xs, KsM w b g gd R Q sv xs d K
section
variable {w w' : World} {b g gd : Nat} {R Q R' : Nat → Prop} {sv : Sv} {xs : List Oc} {d : Dk} {K : Ks}
theorem KsM.below (h : KsM w b g gd R Q sv xs d K) (k : Below w.heap.size w w') : KsM w' b g gd R Q sv xs d K :=
  ⟨h.log.below k, h.box.below k h.box.lt, h.qb, h.qr, h.obs.below k, h.eq⟩
theorem KsAt.below (h : KsAt w b gd R d K) (k : Below w.heap.size w w') : KsAt w' b gd R d K := by
  obtain ⟨g, Q, sv, xs, h⟩ := h
  exact ⟨g, Q, sv, xs, h.below k⟩
theorem ObsAt.more {K1 K2 : Nat → Prop} (h : ObsAt w K1 sv xs) (hk : ∀ i, i < w.heap.size → K1 i → K2 i) : ObsAt w K2 sv xs := ⟨h.row.more hk, fun x hx => (h.all x hx).more hk⟩
theorem ObsAt.keep {K1 : Nat → Prop} {P : Nat → Obj → Prop} (h : ObsAt w K1 sv xs) (k : Keep P w w') (hk : ∀ i o, w.heap[i]? = some o → K1 i → P i o) : ObsAt w' K1 sv xs := ⟨h.row.keep k hk, fun x hx => (h.all x hx).keep k hk⟩
theorem KsM.grow (h : KsM w b g gd R Q sv xs d K) (k : Below w.heap.size w w') : KsM w' b g gd (fun i => R i ∨ w.heap.size ≤ i ∧ i < w'.heap.size) (fun i => Q i ∨ w.heap.size ≤ i ∧ i < w'.heap.size) sv xs d K :=
  ⟨h.log.grow k, h.box.below k h.box.lt, .inl h.qb, fun i hi => by
    rcases hi with hi | hi
    · exact ⟨.inl (h.qr i hi).1, (h.qr i hi).2⟩
    · exact ⟨.inr hi, by have := h.box.lt; omega⟩, (h.obs.more fun i _ hi => ⟨.inl hi.1, hi.2⟩).below k, h.eq⟩
theorem KsAt.grow (h : KsAt w b gd R d K) (k : Below w.heap.size w w') : KsAt w' b gd (fun i => R i ∨ w.heap.size ≤ i ∧ i < w'.heap.size) d K := by
  obtain ⟨g, Q, sv, xs, h⟩ := h
  exact ⟨g, _, sv, xs, h.grow k⟩
theorem KsM.mono (h : KsM w b g gd R Q sv xs d K) (hR : ∀ i, R' i → R i) : KsM w b g gd R' Q sv xs d K := ⟨h.log, h.box, h.qb, fun i hi => h.qr i (hR i hi), h.obs, h.eq⟩
theorem KsAt.mono (h : KsAt w b gd R d K) (hR : ∀ i, R' i → R i) : KsAt w b gd R' d K := by
  obtain ⟨g, Q, sv, xs, h⟩ := h
  exact ⟨g, Q, sv, xs, h.mono hR⟩
theorem KsM.set (h : KsM w b g gd R Q sv xs d K) (i : Nat) (u : Value) : LogAt (w.setCell ⟨b, i, none⟩ u) g gd Q d K.L ∧ ObsAt (w.setCell ⟨b, i, none⟩ u) (fun i => Q i ∧ i ≠ b) sv xs ∧ Blk (w.setCell ⟨b, i, none⟩ u) b 93 ((kCells g K.st.next sv (K.e : Int) K.dead).setIfInBounds i u) ∧ Keep (fun i _ => R i) w (w.setCell ⟨b, i, none⟩ u) := by
  have k : Keep (fun i _ => i ≠ b) w (w.setCell ⟨b, i, none⟩ u) := (Keep.refl w).setCell (fun _ _ hk => hk rfl) _
  exact ⟨h.log.beside k h.qb h.box (by decide), h.obs.keep k fun i _ _ hi => hi.2, h.box.set_ i u, k.mono fun i _ _ hi => (h.qr i hi).2⟩
theorem KsM.state (h : KsM w b g gd R Q sv xs d K) {s2 : Sv} {ys : List Oc} (ho : ObsAt w (fun i => Q i ∧ i ≠ b) s2 ys) (s : St) (he : obsOf ys = s.objs) :
    KsM ((w.setCell ⟨b, 1, none⟩ (.int .i64 s.next)).setCell ⟨b, 2, none⟩ (.slice s2.a s2.n s2.c)) b g gd R Q s2 ys d { K with st := s } ∧ Keep (fun i _ => R i) w ((w.setCell ⟨b, 1, none⟩ (.int .i64 s.next)).setCell ⟨b, 2, none⟩ (.slice s2.a s2.n s2.c)) := by
  have k : Keep (fun i _ => i ≠ b) w ((w.setCell ⟨b, 1, none⟩ (.int .i64 s.next)).setCell ⟨b, 2, none⟩ (.slice s2.a s2.n s2.c)) := ((Keep.refl w).setCell (p := ⟨b, 1, none⟩) (fun _ _ hk => hk rfl) _).setCell (p := ⟨b, 2, none⟩) (fun _ _ hk => hk rfl) _
  refine ⟨⟨h.log.beside k h.qb h.box (by decide), ?_, h.qb, h.qr, ho.keep k fun i _ _ hi => hi.2, he⟩, k.mono fun i _ _ hi => (h.qr i hi).2⟩
  have := (h.box.set_ 1 (.int .i64 s.next)).set_ 2 (.slice s2.a s2.n s2.c)
  simpa [kCells] using this
theorem KsM.under (h : KsM w b g gd R Q sv xs d K) : ∃ P : Nat → Prop, DiskR w gd P d ∧ (∀ i, Q i → P i) ∧ P b ∧ P g ∧ ∀ w' d', DiskR w' gd P d' → Keep (fun i _ => P i) w w' → d'.n = d.n → KsM w' b g gd R Q sv xs d' K := by
  obtain ⟨P, h1, h2, h2g, h3⟩ := h.log.under
  exact ⟨P, h1, h2, h2 b h.qb, h2g, fun w' d' hd hk hn => ⟨h3 w' d' hd hk hn, h.box.keep hk (h2 b h.qb), h.qb, h.qr, h.obs.keep hk fun i _ _ hi => h2 i hi.1, h.eq⟩⟩
theorem KsM.cells (h : KsM w b g gd R Q sv xs d K) : w.cell? ⟨b, 0, none⟩ = some (ptr g) ∧ w.cell? ⟨b, 1, none⟩ = some (.int .i64 K.st.next) ∧ w.cell? ⟨b, 2, none⟩ = some (.slice sv.a sv.n sv.c) ∧ w.cell? ⟨b, 3, none⟩ = some (.int .i64 (K.e : Int)) ∧ w.cell? ⟨b, 4, none⟩ = some (.bool K.dead) ∧ b < w.heap.size :=
  ⟨h.box.cell 0, h.box.cell 1, h.box.cell 2, h.box.cell 3, h.box.cell 4, h.box.lt⟩
theorem KsM.froz (h : KsM w b g gd R Q sv xs d K) : w.frozen? ⟨b, 0, none⟩ = false ∧ w.frozen? ⟨b, 1, none⟩ = false ∧ w.frozen? ⟨b, 2, none⟩ = false ∧ w.frozen? ⟨b, 3, none⟩ = false ∧ w.frozen? ⟨b, 4, none⟩ = false :=
  ⟨h.box.frozen 0, h.box.frozen 1, h.box.frozen 2, h.box.frozen 3, h.box.frozen 4⟩
theorem KsM.gcell (h : KsM w b g gd R Q sv xs d K) : w.cell? ⟨g, 0, none⟩ = some (ptr gd) := by
  obtain ⟨_, _, h0, _⟩ := h.log.cells
  exact h0
end
theorem logAt_ (w : World) : Calls Tryz.prog 38 #[] w fun e w' => e = .returned (.int .i64 194) ∧ w = w' := by
  have h := rneed_ 96 w
  rw [show ((2 + 2 * cutR 96 : Nat) : Int) = 194 from rfl] at h
  have H := ShutK.mk h
  clear h
  go_enter Tryz.func38, Tryz.ntmps38
  go_wp2_with fail
  refine H.out.mono ?_
  rintro e w1 ⟨rfl, rfl⟩
  go_wp2_with fail
  go_ret
  exact ⟨rfl, rfl⟩
theorem kneed_ (w : World) : Calls Tryz.prog 12 #[] w fun e w' => e = .returned (.int .i64 354) ∧ w = w' := by
  go_enter Tryz.func12, Tryz.ntmps12
  go_wp2_with fail
  refine (logAt_ w).mono ?_
  rintro e w1 ⟨rfl, rfl⟩
  go_wp2_with fail
  go_ret
  exact ⟨rfl, rfl⟩
theorem rdP_any {w w' : World} {r : Option (Int × List UInt8)} {e : Ending} (h : RdP w r e w') : ∃ v f, e = .returned (.tuple #[.int .i64 ((r.map (·.1)).getD 0), v, f]) ∧ Below w.heap.size w w' := by
  obtain ⟨h1, ⟨rfl, rfl⟩ | ⟨k, b, A, c, rfl, rfl, _⟩⟩ := h
  · exact ⟨_, _, rfl, h1⟩
  · exact ⟨_, _, rfl, h1⟩
def OpK (w : World) (gd : Nat) (R : Nat → Prop) (s : Dk) (e : Nat) (x : Ending) (w' : World) : Prop :=
  ∃ (g : Nat) (R' : Nat → Prop), x = .returned (ptr g) ∧ (∀ i, R i → R' i) ∧ LogAt w' g gd R' s (opK s e) ∧ Keep (fun i _ => R i) w w'
theorem openLog_ {w : World} {gd : Nat} {R : Nat → Prop} {s : Dk} (h : DiskR w gd R s) (hn : 354 ≤ s.n) (e : Nat) : Calls Tryz.prog 70 #[ptr gd, .int .i64 (e : Int)] w (OpK w gd R s e) := by
  have ho := open_ h 194 160 (by omega) (by omega) (e : Int)
  have HO := ShutK.mk ho
  clear ho h
  go_enter Tryz.func70, Tryz.ntmps70
  go_wp2_with fail
  refine (logAt_ w).mono ?_
  rintro x w1 ⟨rfl, rfl⟩
  go_wp2_with fail
  refine HO.out.mono ?_
  rintro x w2 ⟨g, R', L', rfl, hR, hl, hop, hk⟩
  have HR := ShutK.mk hR
  have HL := ShutK.mk hl
  have HP := ShutK.mk hop
  have HK := ShutK.mk hk
  clear hR hl hop hk HO
  go_wp2_with fail
  go_ret
  have e1 : L' = opK s e := opK_of HP.out
  exact ⟨g, R', rfl, HR.out, e1 ▸ HL.out, HK.out⟩
end Go.Proofs.YtjfoflbaoceemaaGreat
namespace Go.Proofs.YtjfoflbaoceemaaGreat
open Go.RowKit
structure BearK (s : St) : Prop where
  short : ∀ o ∈ s.objs, o.short 450
  fits : ∀ o ∈ s.objs, o.fits
theorem Base.bear {s : St} (h : Base s) : BearK s := ⟨fun o ho => by obtain ⟨a, b, c⟩ := h.short o ho; exact ⟨by omega, by omega, by omega⟩, h.right.fits⟩
def TurnK (w : World) (b gd : Nat) (R : Nat → Prop) (d : Dk) (K : Ks) (c : Int) (s : St) (e : Ending) (w' : World) : Prop :=
  e = .returned (.bool (decide (c = 0))) ∧ (c = 0 → KsAt w' b gd R d { K with st := s }) ∧ (c ≠ 0 → KsAt w' b gd R d K) ∧ Keep (fun i _ => R i) w w'
section
variable {w : World} {b g gd : Nat} {R Q : Nat → Prop} {sv : Sv} {xs : List Oc} {d : Dk} {K : Ks}
theorem mem_obs {P : Ob → Prop} (h : ∀ o ∈ obsOf xs, P o) : ∀ x ∈ xs, P x.o := fun _ hx => h _ (List.mem_map_of_mem hx)
theorem applyK (h : KsM w b g gd R Q sv xs d K) (hb : BearK K.st) {W : World} (k : Below w.heap.size w W) {K2 : Nat → Prop} {A2 : Option Addr} {n2 c2 : Nat} {l : List Ef} (hl : Lst W K2 eEf A2 l) (hln : l.length = n2) (hn2 : n2 ≤ 50000) :
    Calls Tryz.prog 50 #[.agg #[.int .i64 K.st.next, .slice sv.a sv.n sv.c], .slice A2 n2 c2] W (Applied W (applyS K.st l)) := by
  have e : (⟨K.st.next, obsOf xs⟩ : St) = K.st := by rw [h.eq]
  have := apply_o (h.obs.below k) (mem_obs (P := fun o => o.short 450) (by rw [h.eq]; exact hb.short)) (mem_obs (P := fun o => o.fits) (by rw [h.eq]; exact hb.fits)) K.st.next (c2 := c2) hl hln hn2
  rw [e] at this
  exact this
set_option maxHeartbeats 1000000 in
theorem kturn_ (h : KsM w b g gd R Q sv xs d K) (hb : BearK K.st) {K2 : Nat → Prop} {A2 : Option Addr} {n2 c2 : Nat} {l : List Ef} (hl : Lst w K2 eEf A2 l) (hln : l.length = n2) (hn2 : n2 ≤ 50000) {c : Int} {s : St} (ha : applyS K.st l = (c, s)) :
    Calls Tryz.prog 43 #[ptr b, .slice A2 n2 c2] w (TurnK w b gd R d K c s) := by
  have hap := applyK (c2 := c2) h hb (Below.refl _ _) hl hln hn2
  rw [ha] at hap
  obtain ⟨c0, c1, c2', c3, c4, hlt⟩ := h.cells
  have HAP := ShutK.mk hap
  have H := ShutK.mk h
  clear h hb hl hln hap ha c0 c3 c4
  go_enter Tryz.func43, Tryz.ntmps43
  go_wp2_with fail
  refine HAP.out.mono ?_
  rintro e w1 ⟨⟨a', n', k'⟩, ys, rfl, hobs, heq, hbel⟩
  have kb := alloc_below w1 (.cells #[.int .i64 s.next, .slice a' n' k'] 54)
  have hg := H.out.grow hbel
  have hlt1 := hbel.size
  have hob : ObsAt w1 (fun i => (Q i ∨ w.heap.size ≤ i ∧ i < w1.heap.size) ∧ i ≠ b) ⟨a', n', k'⟩ ys := hobs.more fun i h1 h2 => ⟨.inr ⟨h2, h1⟩, by omega⟩
  have HG := ShutK.mk (hg.below kb)
  have HO := ShutK.mk (hob.below kb)
  have HK := ShutK.mk (Keep.of_below (K := fun i _ => R i) (hbel.trans (kb.mono hlt1)))
  have HE := ShutK.mk heq
  have HG1 := ShutK.mk (hg.mono (R' := R) fun i hi => .inl hi)
  have HB1 := ShutK.mk (hbel.trans (kb.mono hlt1))
  obtain ⟨_, d1, d2, _, _, _⟩ := HG.out.cells
  obtain ⟨_, f1, f2, _, _⟩ := HG.out.froz
  clear hobs heq hbel HAP hg hob kb
  by_cases hc : c = 0
  · subst hc
    go_wp2_with fail
    go_ret
    obtain ⟨r1, r2⟩ := HG.out.state HO.out s HE.out
    exact ⟨rfl, fun _ => ⟨g, _, _, _, r1.mono fun i hi => .inl hi⟩, fun h => absurd rfl h, HK.out.trans (r2.mono fun i _ _ hi => .inl hi)⟩
  · have hc2 : (c != 0) = true := by simpa using hc
    have HC := ShutK.mk hc
    clear hc
    go_wp2_with fail
    go_ret
    exact ⟨by rw [decide_eq_false HC.out]; rfl, fun h => absurd h HC.out, fun _ => ⟨g, Q, sv, xs, H.out.below HB1.out⟩, HK.out⟩
end
end Go.Proofs.YtjfoflbaoceemaaGreat
namespace Go.Proofs.YtjfoflbaoceemaaGreat
open Go.RowKit
theorem reader_cell {T : TypeId} {w : World} {g B : Nat} {r : Rd} (h : ReaderAt T w g B r) : w.cell? ⟨g, 1, none⟩ = some (.bool r.bad) ∧ w.frozen? ⟨g, 1, none⟩ = false := by
  obtain ⟨A, m, c, hb, _⟩ := h
  exact ⟨by rw [hb.cell]; rfl, hb.frozen 1⟩
theorem beq1 (n : Nat) : ((n : Int) == 1) = decide (n = 1) := by rw [Bool.eq_iff_iff]; simp; omega
theorem beq0 (n : Nat) : ((n : Int) == 0) = decide (n = 0) := by rw [Bool.eq_iff_iff]; simp
theorem retB {a b : Bool} (h : a = b) : Ending.returned (.bool a) = .returned (.bool b) := by rw [h]
set_option maxHeartbeats 400000 in
theorem rdFlag (w : World) (g B : Nat) (r : Rd) (h : ReaderAt 227 w g B r) : Calls Tryz.prog 184 #[.pointer (some ⟨g, 0, none⟩)] w (FlagP 227 w g B r) := by
  go_enter Tryz.func184, Tryz.ntmps184
  go_wp2_with fail
  refine (take_ w g B r _ h (by omega) (by omega)).mono ?_
  rintro e w1 ⟨A, m, c, rfl, hr, hR, hK⟩
  have h2 := taken_le r (Int.toNat 1)
  generalize hT : r.take (Int.toNat 1) = p at *
  obtain ⟨xs, r1⟩ := p
  have hle : m ≤ 1 := by
    have h1 := hr.1
    simp at h1 h2
    omega
  have HT := Lib.hid (flag_of hT)
  have HR := Lib.hid hr
  have HR2 := Lib.hid hR
  have HK := Lib.hid hK
  obtain ⟨c1, f1⟩ := reader_cell hR
  clear hr hR hK h hT h2
  go_wp2_with fail
  refine (join_ _ _ _ _ _ _ HR.out (by omega)).mono ?_
  rintro e w2 ⟨rfl, rfl⟩
  by_cases h1 : 1 < joinN xs
  · go_wp2
    go_ret
    obtain ⟨k1, k2⟩ := reader_set1 (l := r1.rest) (b := r1.bad) HR2.out
    exact ⟨retB (by rw [HT.out]; exact beq1 _), by rw [HT.out, if_pos h1]; exact k1, HK.out.trans k2⟩
  · go_wp2
    go_ret
    exact ⟨retB (by rw [HT.out]; exact beq1 _), by rw [HT.out, if_neg h1]; exact HR2.out, HK.out⟩
theorem rdDone (w : World) (g B : Nat) (r : Rd) (h : ReaderAt 227 w g B r) : Calls Tryz.prog 129 #[.pointer (some ⟨g, 0, none⟩)] w fun e w' => e = .returned (.bool r.done) ∧ w = w' := by
  obtain ⟨rest, bad⟩ := r
  obtain ⟨A, m, c, hb, h1, h2, hr, hB⟩ := h
  have c0 := hb.cell 0
  have c1 := hb.cell 1
  simp at c0 c1
  have hm := hr.1
  simp only at hm
  have e : (⟨rest, bad⟩ : Rd).done = (!bad && decide (m = 0)) := by simp [Rd.done, hm]
  have E := Lib.hid e
  unfold maxLen at h2
  clear hb hr hm e
  cases bad
  · go_enter Tryz.func129, Tryz.ntmps129
    go_wp2
    go_ret
    exact ⟨retB (by rw [E.out]; simp [beq0]), rfl⟩
  · go_enter Tryz.func129, Tryz.ntmps129
    go_wp2
    go_ret
    exact ⟨retB (by rw [E.out]; simp), rfl⟩
end Go.Proofs.YtjfoflbaoceemaaGreat

namespace Go.Proofs.YtjfoflbaoceemaaGreat
open Go.RowKit
theorem rdFailed (w : World) (g B : Nat) (r : Rd) (h : ReaderAt 227 w g B r) : Calls Tryz.prog 176 #[.pointer (some ⟨g, 0, none⟩)] w fun e w' => e = .returned (.bool r.bad) ∧ w = w' := by
  obtain ⟨c1, f1⟩ := reader_cell h
  clear h
  go_enter Tryz.func176, Tryz.ntmps176
  go_wp2
  go_ret
  exact ⟨rfl, rfl⟩
end Go.Proofs.YtjfoflbaoceemaaGreat
namespace Go.Proofs.YtjfoflbaoceemaaGreat
open Go.RowKit
theorem pair_ex {α β : Type} (p : α × β) : ∃ a b, p = (a, b) := ⟨p.1, p.2, rfl⟩
theorem msg_of {r r1 r2 r3 r4 r5 r6 : Rd} {i p n : Int} {cl : Bool} {c b : List UInt8} (h1 : r.int = (i, r1)) (h2 : r1.int = (p, r2)) (h3 : r2.int = (n, r3)) (h4 : r3.flag = (cl, r4)) (h5 : r4.text = (c, r5)) (h6 : r5.text = (b, r6)) :
    r.msgR = r6 ∧ r.msgV = ⟨i, p, n, cl, ⟨c.toArray⟩, ⟨b.toArray⟩⟩ := by
  simp only [Rd.msgR, Rd.msgV, h1, h2, h3, h4, h5, h6, and_self]
structure RM (T : TypeId) (w : World) (g B : Nat) (r : Rd) (wk : World) : Prop where
  keep : Keep (But g) w wk
  res : Blk wk w.heap.size 44 Mg.zero.cells
  rd : ReaderAt T wk g B r
  lt : g < w.heap.size
section
variable {T : TypeId} {w wk w' : World} {g B : Nat} {r r' : Rd}
theorem ReaderAt.lt (h : ReaderAt T w g B r) : g < w.heap.size := by obtain ⟨_, _, _, hb, _⟩ := h; exact hb.lt
theorem ReaderAt.belowR (h : ReaderAt T w g B r) (k : Below w.heap.size w w') : ReaderAt T w' g B r := h.keep (K := fun _ _ => True) (Keep.of_below k) fun _ _ _ => trivial
theorem RM.first (h : ReaderAt T w g B r) : RM T w g B r (w.alloc (.cells Mg.zero.cells 44)) :=
  ⟨Keep.of_below (alloc_below w _), Blk.new w _ _, h.belowR (alloc_below w _), h.lt⟩
theorem RM.next (h : RM T w g B r wk) (hr : ReaderAt T w' g B r') (hk : Keep (But g) wk w') : RM T w g B r' w' :=
  ⟨h.keep.trans hk, h.res.keep hk (by have := h.lt; simp only [But]; omega), hr, h.lt⟩
theorem RM.done (h : RM T w g B r wk) {W : World} (hW : Below w.heap.size wk W) : ReaderAt T W g B r ∧ Keep (But g) w W := by
  refine ⟨h.rd.keep (K := fun i _ => i < w.heap.size) ⟨hW.os, hW.tape, hW.output, hW.size, fun i o ho hi => (hW.block i hi).trans ho⟩ (fun i o hi => ?_), ?_⟩
  · obtain ⟨_, _, _, _, _, _, _, hB⟩ := h.rd
    have := h.lt
    show i < w.heap.size
    omega
  · refine ⟨hW.os.trans h.keep.os, hW.tape.trans h.keep.tape, hW.output.trans h.keep.output, Nat.le_trans h.keep.size hW.size, fun i o ho hi => ?_⟩
    exact (hW.block i (lt_of_some ho)).trans (h.keep.block i o ho hi)
end
section
variable {T : TypeId} {w wk w' : World} {g B : Nat} {r r' : Rd}
theorem RM.fin (h : RM T w g B r wk) (o : Obj) (a b c d e f : Value) : ReaderAt T ((((((((wk.alloc o).setCell ⟨w.heap.size, 0, none⟩ a).setCell ⟨w.heap.size, 1, none⟩ b).setCell ⟨w.heap.size, 2, none⟩ c).setCell ⟨w.heap.size, 3, none⟩ d).setCell ⟨w.heap.size, 4, none⟩ e).setCell ⟨w.heap.size, 5, none⟩ f)) g B r ∧
    Keep (But g) w ((((((((wk.alloc o).setCell ⟨w.heap.size, 0, none⟩ a).setCell ⟨w.heap.size, 1, none⟩ b).setCell ⟨w.heap.size, 2, none⟩ c).setCell ⟨w.heap.size, 3, none⟩ d).setCell ⟨w.heap.size, 4, none⟩ e).setCell ⟨w.heap.size, 5, none⟩ f)) :=
  h.done (below_six ((alloc_below wk o).mono h.keep.size) (Nat.le_refl _) a b c d e f)
end
set_option maxHeartbeats 1000000 in
theorem readM_ {w : World} {g B : Nat} {r : Rd} (h : ReaderAt 227 w g B r) : Calls Tryz.prog 185 #[.pointer (some ⟨g, 0, none⟩)] w
    fun e w' => e = .returned r.msg.val ∧ ReaderAt 227 w' g B r.msgR ∧ Keep (But g) w w' := by
  obtain ⟨i, r1, e1⟩ := pair_ex r.int
  obtain ⟨p, r2, e2⟩ := pair_ex r1.int
  obtain ⟨n, r3, e3⟩ := pair_ex r2.int
  obtain ⟨cl, r4, e4⟩ := pair_ex r3.flag
  obtain ⟨c, r5, e5⟩ := pair_ex r4.text
  obtain ⟨b, r6, e6⟩ := pair_ex r5.text
  obtain ⟨hR, hV⟩ := msg_of e1 e2 e3 e4 e5 e6
  have hz : r.msg = if r6.bad = true then Mg.zero else ⟨i, p, n, cl, ⟨c.toArray⟩, ⟨b.toArray⟩⟩ := by unfold Rd.msg; rw [hR, hV]
  rw [hR, hz]
  have H0 := Lib.hid (RM.first h)
  have E1 := Lib.hid e1
  have E2 := Lib.hid e2
  have E3 := Lib.hid e3
  have E4 := Lib.hid e4
  have E5 := Lib.hid e5
  have E6 := Lib.hid e6
  clear e1 e2 e3 e4 e5 e6 hR hV hz h
  go_enter Tryz.func185, Tryz.ntmps185
  go_wp2_with fail
  refine (rdInt _ _ _ _ H0.out.rd).mono ?_
  rintro e w1 ⟨rfl, hr1, hk1⟩
  rw [E1.out] at hr1 ⊢
  have H1 := Lib.hid (H0.out.next hr1 hk1)
  clear hr1 hk1 H0 E1
  go_wp2_with fail
  refine (rdInt _ _ _ _ H1.out.rd).mono ?_
  rintro e w2 ⟨rfl, hr2, hk2⟩
  rw [E2.out] at hr2 ⊢
  have H2 := Lib.hid (H1.out.next hr2 hk2)
  clear hr2 hk2 H1 E2
  go_wp2_with fail
  refine (rdInt _ _ _ _ H2.out.rd).mono ?_
  rintro e w3 ⟨rfl, hr3, hk3⟩
  rw [E3.out] at hr3 ⊢
  have H3 := Lib.hid (H2.out.next hr3 hk3)
  clear hr3 hk3 H2 E3
  go_wp2_with fail
  refine (rdFlag _ _ _ _ H3.out.rd).mono ?_
  rintro e w4 ⟨rfl, hr4, hk4⟩
  rw [E4.out] at hr4 ⊢
  have H4 := Lib.hid (H3.out.next hr4 hk4)
  clear hr4 hk4 H3 E4
  go_wp2_with fail
  refine (rdText _ _ _ _ H4.out.rd).mono ?_
  rintro e w5 ⟨rfl, hr5, hk5⟩
  rw [E5.out] at hr5 ⊢
  have H5 := Lib.hid (H4.out.next hr5 hk5)
  clear hr5 hk5 H4 E5
  go_wp2_with fail
  refine (rdText _ _ _ _ H5.out.rd).mono ?_
  rintro e w6 ⟨rfl, hr6, hk6⟩
  rw [E6.out] at hr6 ⊢
  have H6 := Lib.hid (H5.out.next hr6 hk6)
  clear hr6 hk6 H5 E6
  go_wp2_with fail
  refine (rdFailed _ _ _ _ (H6.out.rd.belowR (alloc_below w6 (.cells #[.int .i64 i, .int .i64 p, .int .i64 n, .bool cl, .string ⟨c.toArray⟩, .string ⟨b.toArray⟩] 44)))).mono ?_
  rintro e w7 ⟨rfl, rfl⟩
  have hres := H6.out.res.alloc (.cells #[.int .i64 i, .int .i64 p, .int .i64 n, .bool cl, .string ⟨c.toArray⟩, .string ⟨b.toArray⟩] 44)
  have f0 := hres.frozen 0
  have f1 := hres.frozen 1
  have f2 := hres.frozen 2
  have f3 := hres.frozen 3
  have f4 := hres.frozen 4
  have f5 := hres.frozen 5
  have q0 := hres.cell 0
  have q1 := hres.cell 1
  have q2 := hres.cell 2
  have q3 := hres.cell 3
  have q4 := hres.cell 4
  have q5 := hres.cell 5
  have HRES := Lib.hid hres
  have hne : w.heap.size ≠ w6.heap.size := by have := H6.out.res.lt; omega
  clear hres
  obtain ⟨l6, bad⟩ := r6
  simp only
  cases bad
  · have hs := blk_store6 (a' := .int .i64 i) (b' := .int .i64 p) (c' := .int .i64 n) (d' := .bool cl) (e' := .string ⟨c.toArray⟩) (f' := .string ⟨b.toArray⟩) HRES.out
    have t0 := hs.cell 0
    have t1 := hs.cell 1
    have t2 := hs.cell 2
    have t3 := hs.cell 3
    have t4 := hs.cell 4
    have t5 := hs.cell 5
    have hd := H6.out.fin (.cells #[.int .i64 i, .int .i64 p, .int .i64 n, .bool cl, .string ⟨c.toArray⟩, .string ⟨b.toArray⟩] 44) (.int .i64 i) (.int .i64 p) (.int .i64 n) (.bool cl) (.string ⟨c.toArray⟩) (.string ⟨b.toArray⟩)
    have HD := Lib.hid hd
    clear hs hd H6 HRES
    go_wp2_with fail
    refine bodyPost_ret (v := .agg #[.int .i64 i, .int .i64 p, .int .i64 n, .bool cl, .string ⟨c.toArray⟩, .string ⟨b.toArray⟩]) (by simp [results, Tryz.results185, go_sem, t0, t1, t2, t3, t4, t5]) rfl ?_
    exact ⟨rfl, HD.out.1, HD.out.2⟩
  · have hs := blk_store6 (a' := .int .i64 0) (b' := .int .i64 0) (c' := .int .i64 0) (d' := .bool false) (e' := .string ⟨#[]⟩) (f' := .string ⟨#[]⟩) HRES.out
    have t0 := hs.cell 0
    have t1 := hs.cell 1
    have t2 := hs.cell 2
    have t3 := hs.cell 3
    have t4 := hs.cell 4
    have t5 := hs.cell 5
    have hd := H6.out.fin (.cells #[.int .i64 i, .int .i64 p, .int .i64 n, .bool cl, .string ⟨c.toArray⟩, .string ⟨b.toArray⟩] 44) (.int .i64 0) (.int .i64 0) (.int .i64 0) (.bool false) (.string ⟨#[]⟩) (.string ⟨#[]⟩)
    have HD := Lib.hid hd
    clear hs hd H6 HRES
    go_wp2_with fail
    refine bodyPost_ret (v := .agg #[.int .i64 0, .int .i64 0, .int .i64 0, .bool false, .string ⟨#[]⟩, .string ⟨#[]⟩]) (by simp [results, Tryz.results185, go_sem, t0, t1, t2, t3, t4, t5]) rfl ?_
    exact ⟨rfl, HD.out.1, HD.out.2⟩
end Go.Proofs.YtjfoflbaoceemaaGreat
namespace Go.Proofs.YtjfoflbaoceemaaGreat
open Go.RowKit
abbrev put13 (w : World) (g : Nat) (v0 v1 v2 v3 v4 v5 v6 v7 v8 v9 v10 v11 v12 : Value) : World := (((((((((((((w.setCell ⟨g, 0, none⟩ v0).setCell ⟨g, 1, none⟩ v1).setCell ⟨g, 2, none⟩ v2).setCell ⟨g, 3, none⟩ v3).setCell ⟨g, 4, none⟩ v4).setCell ⟨g, 5, none⟩ v5).setCell ⟨g, 6, none⟩ v6).setCell ⟨g, 7, none⟩ v7).setCell ⟨g, 8, none⟩ v8).setCell ⟨g, 9, none⟩ v9).setCell ⟨g, 10, none⟩ v10).setCell ⟨g, 11, none⟩ v11).setCell ⟨g, 12, none⟩ v12)
theorem below_13 {B : Nat} {w w1 : World} (h : Below B w w1) {g : Nat} (hg : B ≤ g) (v0 v1 v2 v3 v4 v5 v6 v7 v8 v9 v10 v11 v12 : Value) : Below B w (put13 w1 g v0 v1 v2 v3 v4 v5 v6 v7 v8 v9 v10 v11 v12) :=
  ((((((((((((h.setCell hg v0).setCell hg v1).setCell hg v2).setCell hg v3).setCell hg v4).setCell hg v5).setCell hg v6).setCell hg v7).setCell hg v8).setCell hg v9).setCell hg v10).setCell hg v11).setCell hg v12
theorem blk_store13 {w : World} {g : Nat} {T : TypeId} {a0 a1 a2 a3 a4 a5 a6 a7 a8 a9 a10 a11 a12 : Value} (h : Blk w g T #[a0, a1, a2, a3, a4, a5, a6, a7, a8, a9, a10, a11, a12]) (v0 v1 v2 v3 v4 v5 v6 v7 v8 v9 v10 v11 v12 : Value) : Blk (put13 w g v0 v1 v2 v3 v4 v5 v6 v7 v8 v9 v10 v11 v12) g T #[v0, v1, v2, v3, v4, v5, v6, v7, v8, v9, v10, v11, v12] := by
  have := ((((((((((((h.set_ 0 v0).set_ 1 v1).set_ 2 v2).set_ 3 v3).set_ 4 v4).set_ 5 v5).set_ 6 v6).set_ 7 v7).set_ 8 v8).set_ 9 v9).set_ 10 v10).set_ 11 v11).set_ 12 v12
  simpa using this
structure RE (T : TypeId) (w : World) (g B : Nat) (r : Rd) (wk : World) : Prop where
  keep : Keep (But g) w wk
  res : Blk wk w.heap.size 46 Ef.zero.cells
  rd : ReaderAt T wk g B r
  lt : g < w.heap.size
section
variable {T : TypeId} {w wk w' : World} {g B : Nat} {r r' : Rd}
theorem RE.first (h : ReaderAt T w g B r) : RE T w g B r (w.alloc (.cells Ef.zero.cells 46)) :=
  ⟨Keep.of_below (alloc_below w _), Blk.new w _ _, h.belowR (alloc_below w _), h.lt⟩
theorem RE.next (h : RE T w g B r wk) (hr : ReaderAt T w' g B r') (hk : Keep (But g) wk w') : RE T w g B r' w' :=
  ⟨h.keep.trans hk, h.res.keep hk (by have := h.lt; simp only [But]; omega), hr, h.lt⟩
theorem RE.done (h : RE T w g B r wk) {W : World} (hW : Below w.heap.size wk W) : ReaderAt T W g B r ∧ Keep (But g) w W := by
  refine ⟨h.rd.keep (K := fun i _ => i < w.heap.size) ⟨hW.os, hW.tape, hW.output, hW.size, fun i o ho hi => (hW.block i hi).trans ho⟩ (fun i o hi => ?_), ?_⟩
  · obtain ⟨_, _, _, _, _, _, _, hB⟩ := h.rd
    have := h.lt
    show i < w.heap.size
    omega
  · refine ⟨hW.os.trans h.keep.os, hW.tape.trans h.keep.tape, hW.output.trans h.keep.output, Nat.le_trans h.keep.size hW.size, fun i o ho hi => ?_⟩
    exact (hW.block i (lt_of_some ho)).trans (h.keep.block i o ho hi)
theorem RE.fin (h : RE T w g B r wk) (v0 v1 v2 v3 v4 v5 v6 v7 v8 v9 v10 v11 v12 : Value) : ReaderAt T (put13 wk w.heap.size v0 v1 v2 v3 v4 v5 v6 v7 v8 v9 v10 v11 v12) g B r ∧ Keep (But g) w (put13 wk w.heap.size v0 v1 v2 v3 v4 v5 v6 v7 v8 v9 v10 v11 v12) :=
  h.done (below_13 (Below.refl _ _) (Nat.le_refl _) v0 v1 v2 v3 v4 v5 v6 v7 v8 v9 v10 v11 v12)
end
theorem ef_of {r r1 r2 r3 r4 r5 r6 r7 : Rd} {k n l : Int} {t : Bool} {o ky v : List UInt8} (h1 : r.int = (k, r1)) (h2 : r1.text = (o, r2)) (h3 : r2.text = (ky, r3)) (h4 : r3.text = (v, r4)) (h5 : r4.int = (n, r5)) (h6 : r5.int = (l, r6)) (h7 : r6.flag = (t, r7)) :
    r.efR = r7.msgR ∧ r.efV = ⟨k, ⟨o.toArray⟩, ⟨ky.toArray⟩, ⟨v.toArray⟩, n, l, t, r7.msg⟩ := by
  simp only [Rd.efR, Rd.efV, h1, h2, h3, h4, h5, h6, h7, and_self]
set_option maxHeartbeats 1000000 in
theorem nextE {w : World} {g B : Nat} {r : Rd} (h : ReaderAt 227 w g B r) : Calls Tryz.prog 133 #[.pointer (some ⟨g, 0, none⟩)] w
    fun e w' => e = .returned r.efV.val_ ∧ ReaderAt 227 w' g B r.efR ∧ Keep (But g) w w' := by
  obtain ⟨k, r1, e1⟩ := pair_ex r.int
  obtain ⟨o, r2, e2⟩ := pair_ex r1.text
  obtain ⟨ky, r3, e3⟩ := pair_ex r2.text
  obtain ⟨v, r4, e4⟩ := pair_ex r3.text
  obtain ⟨n, r5, e5⟩ := pair_ex r4.int
  obtain ⟨l, r6, e6⟩ := pair_ex r5.int
  obtain ⟨t, r7, e7⟩ := pair_ex r6.flag
  obtain ⟨hR, hV⟩ := ef_of e1 e2 e3 e4 e5 e6 e7
  rw [hR, hV]
  have hrm := fun (w : World) (g B : Nat) (h : ReaderAt 227 w g B r7) => readM_ h
  clear hR hV
  generalize r7.msgR = r8 at *
  generalize r7.msg = m at *
  obtain ⟨i, p, y, cl, cr, bd⟩ := m
  have HRM := Lib.hid hrm
  clear hrm
  have H0 := Lib.hid (RE.first h)
  have E1 := Lib.hid e1
  have E2 := Lib.hid e2
  have E3 := Lib.hid e3
  have E4 := Lib.hid e4
  have E5 := Lib.hid e5
  have E6 := Lib.hid e6
  have E7 := Lib.hid e7
  clear e1 e2 e3 e4 e5 e6 e7 h
  go_enter Tryz.func133, Tryz.ntmps133
  go_wp2_with fail
  refine (rdInt _ _ _ _ H0.out.rd).mono ?_
  rintro e w1 ⟨rfl, hr1, hk1⟩
  rw [E1.out] at hr1 ⊢
  have H1 := Lib.hid (H0.out.next hr1 hk1)
  clear hr1 hk1 H0 E1
  go_wp2_with fail
  refine (rdText _ _ _ _ H1.out.rd).mono ?_
  rintro e w2 ⟨rfl, hr2, hk2⟩
  rw [E2.out] at hr2 ⊢
  have H2 := Lib.hid (H1.out.next hr2 hk2)
  clear hr2 hk2 H1 E2
  go_wp2_with fail
  refine (rdText _ _ _ _ H2.out.rd).mono ?_
  rintro e w3 ⟨rfl, hr3, hk3⟩
  rw [E3.out] at hr3 ⊢
  have H3 := Lib.hid (H2.out.next hr3 hk3)
  clear hr3 hk3 H2 E3
  go_wp2_with fail
  refine (rdText _ _ _ _ H3.out.rd).mono ?_
  rintro e w4 ⟨rfl, hr4, hk4⟩
  rw [E4.out] at hr4 ⊢
  have H4 := Lib.hid (H3.out.next hr4 hk4)
  clear hr4 hk4 H3 E4
  go_wp2_with fail
  refine (rdInt _ _ _ _ H4.out.rd).mono ?_
  rintro e w5 ⟨rfl, hr5, hk5⟩
  rw [E5.out] at hr5 ⊢
  have H5 := Lib.hid (H4.out.next hr5 hk5)
  clear hr5 hk5 H4 E5
  go_wp2_with fail
  refine (rdInt _ _ _ _ H5.out.rd).mono ?_
  rintro e w6 ⟨rfl, hr6, hk6⟩
  rw [E6.out] at hr6 ⊢
  have H6 := Lib.hid (H5.out.next hr6 hk6)
  clear hr6 hk6 H5 E6
  go_wp2_with fail
  refine (rdFlag _ _ _ _ H6.out.rd).mono ?_
  rintro e w7 ⟨rfl, hr7, hk7⟩
  rw [E7.out] at hr7 ⊢
  have H7 := Lib.hid (H6.out.next hr7 hk7)
  clear hr7 hk7 H6 E7
  go_wp2_with fail
  refine (HRM.out _ _ _ H7.out.rd).mono ?_
  rintro e w8 ⟨rfl, hr8, hk8⟩
  have H8 := Lib.hid (H7.out.next hr8 hk8)
  clear hr8 hk8 H7
  have hres := H8.out.res
  have f0 := hres.frozen 0
  have f1 := hres.frozen 1
  have f2 := hres.frozen 2
  have f3 := hres.frozen 3
  have f4 := hres.frozen 4
  have f5 := hres.frozen 5
  have f6 := hres.frozen 6
  have f7 := hres.frozen 7
  have f8 := hres.frozen 8
  have f9 := hres.frozen 9
  have f10 := hres.frozen 10
  have f11 := hres.frozen 11
  have f12 := hres.frozen 12
  obtain ⟨q0, q1, q2, q3, q4, q5, q6, q7, q8, q9, q10, q11, q12⟩ := thir_of hres
  simp only [Ef.zero, Mg.zero] at q0 q1 q2 q3 q4 q5 q6 q7 q8 q9 q10 q11 q12
  have hs := blk_store13 hres (.int .i64 k) (.string ⟨o.toArray⟩) (.string ⟨ky.toArray⟩) (.string ⟨v.toArray⟩) (.int .i64 n) (.int .i64 l) (.bool t) (.int .i64 i) (.int .i64 p) (.int .i64 y) (.bool cl) (.string cr) (.string bd)
  have t0 := hs.cell 0
  have t1 := hs.cell 1
  have t2 := hs.cell 2
  have t3 := hs.cell 3
  have t4 := hs.cell 4
  have t5 := hs.cell 5
  have t6 := hs.cell 6
  have t7 := hs.cell 7
  have t8 := hs.cell 8
  have t9 := hs.cell 9
  have t10 := hs.cell 10
  have t11 := hs.cell 11
  have t12 := hs.cell 12
  have hd := H8.out.fin (.int .i64 k) (.string ⟨o.toArray⟩) (.string ⟨ky.toArray⟩) (.string ⟨v.toArray⟩) (.int .i64 n) (.int .i64 l) (.bool t) (.int .i64 i) (.int .i64 p) (.int .i64 y) (.bool cl) (.string cr) (.string bd)
  have HD := Lib.hid hd
  clear hs hd hres H8
  go_wp2_with fail
  refine bodyPost_ret (v := .agg #[.int .i64 k, .string ⟨o.toArray⟩, .string ⟨ky.toArray⟩, .string ⟨v.toArray⟩, .int .i64 n, .int .i64 l, .bool t, .int .i64 i, .int .i64 p, .int .i64 y, .bool cl, .string cr, .string bd]) (by simp [results, Tryz.results133, go_sem, t0, t1, t2, t3, t4, t5, t6, t7, t8, t9, t10, t11, t12]) rfl ?_
  exact ⟨rfl, HD.out.1, HD.out.2⟩
end Go.Proofs.YtjfoflbaoceemaaGreat
