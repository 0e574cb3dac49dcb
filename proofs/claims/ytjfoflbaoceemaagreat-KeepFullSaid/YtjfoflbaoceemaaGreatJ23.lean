/- . . -/
import Derived.Test.YtjfoflbaoceemaaGreatJ22
import Derived.Deep.LoopGhost
import Derived.Test.YtjfoflbaoceemaaGreatJ16
import Derived.LoopTactic
set_option maxRecDepth 4000
namespace Go.Proofs.YtjfoflbaoceemaaGreat
open Go.RowKit
set_option maxHeartbeats 400000 in
theorem clone_o {w : World} {K : Nat → Prop} {A : Option Addr} {n c : Nat} {l : List Oc} (h : Lst w K eO A l) (hl : l.length = n) (hn : n ≤ 100000) (hA : A = none → c = 0) :
    Calls Tryz.prog 143 #[.slice A n c] w fun e w' => ∃ v, e = .returned v ∧ OwnO w' w.heap.size v l ∧ Below w.heap.size w w' := by
  rcases A with _ | a
  · have hc := hA rfl
    have hx : l = [] := h.none_
    subst hx
    simp only [List.length_nil] at hl
    subst hc hl
    clear h hA
    have hnil := fun (W : World) => Lib.run_eql_slice_nil (P := Tryz.prog) W 52 77 none 0 0 0 0 Tryz.underlying52
    simp only [Option.isNone_none] at hnil
    go_enter Tryz.func143, Tryz.ntmps143
    go_wp2
    go_ret
    exact ⟨_, rfl, own_nil _ _, Below.refl _ _⟩
  · have hnil := fun (W : World) => Lib.run_eql_slice_nil (P := Tryz.prog) W 52 77 (some a) n c 0 0 Tryz.underlying52
    simp only [Option.isNone_some] at hnil
    obtain ⟨v', W', hap, ho, hg, hat⟩ := append_own tyO (own_empty w w.heap.size (Nat.le_refl _)) (h.below (alloc_below w (.cells #[] 77))) hl c (by show 0 + n ≤ _; omega) (by simp)
    rw [List.nil_append] at ho
    have hbel : Below w.heap.size w W' := ((Below.refl _ _).alloc (Nat.le_refl _) _).grown hg (by simp) (by intro k hk; simp [Value.ownBlock] at hk; omega)
    have HBE := Lib.hid hbel
    have HO := Lib.hid ho
    clear ho hg hat hbel h hA hl
    go_enter Tryz.func143, Tryz.ntmps143
    go_wp2_with (at_builtin; refine wpList_append_run rfl (.tmp 5) (.tmp 6) 52 52 rfl _ _ rfl rfl hap ?_)
    go_ret
    exact ⟨_, rfl, HO.out, HBE.out⟩
structure CpS (w : World) (next : Int) (s : Sv) (xs : List Oc) (p : Nat) (W : World) : Prop where
  bel : Below w.heap.size w W
  box : Blk W w.heap.size 54 #[.int .i64 next, .slice s.a s.n s.c]
  res : Blk W (w.heap.size + 1) 54 #[.int .i64 0, .slice none 0 0]
  own : OwnO W (w.heap.size + 2) s.val xs
  rows : ∀ x ∈ xs, OcK W (fun i => (i < w.heap.size ∨ w.heap.size + 2 ≤ i) ∧ s.val.ownBlock ≠ some i) x
  fr : ∀ q (h : q < xs.length), 3 * q < p → SlK W (fun i => w.heap.size + 2 ≤ i ∧ s.val.ownBlock ≠ some i) eR xs[q].r xs[q].o.rows
  fm : ∀ q (h : q < xs.length), 3 * q + 1 < p → SlK W (fun i => w.heap.size + 2 ≤ i ∧ s.val.ownBlock ≠ some i) eM xs[q].m xs[q].o.msgs
  fd : ∀ q (h : q < xs.length), 3 * q + 2 < p → SlK W (fun i => w.heap.size + 2 ≤ i ∧ s.val.ownBlock ≠ some i) eM xs[q].d xs[q].o.dead
section
variable {w W W' : World} {next : Int} {s : Sv} {xs : List Oc} {q g p p2 : Nat}
theorem CpS.step (h : CpS w next s xs p W) (k : Below W.heap.size W W') : CpS w next s xs p W' :=
  ⟨h.bel.trans (k.mono h.bel.size), h.box.below k h.box.lt, h.res.below k h.res.lt, own_belowE h.own k, fun x hx => (h.rows x hx).below k, fun q hq hp => (h.fr q hq hp).below k, fun q hq hp => (h.fm q hq hp).below k, fun q hq hp => (h.fd q hq hp).below k⟩
theorem CpS.row (h : CpS w next s xs p W) : Lst W (fun _ => True) eO s.a xs := (own_lst2 h.own).more fun _ _ _ => trivial
theorem CpS.slot (h : CpS w next s xs p W) (h0 : 0 < xs.length) : ∃ g, s.a = some ⟨g, 0, none⟩ ∧ s.val.ownBlock = some g ∧ w.heap.size + 2 ≤ g ∧ g < W.heap.size ∧ ∀ j, W.frozen? ⟨g, j, none⟩ = false := by
  obtain ⟨g, cur, e, hg, hb, _⟩ := own_slot h.own h0
  exact ⟨g, e, by show (Value.slice s.a s.n s.c).ownBlock = _; rw [e]; rfl, hg, hb.lt, fun j => hb.frozen j⟩
theorem CpS.put (h : CpS w next s xs p W) (hq : q < xs.length) (e : s.a = some ⟨g, 0, none⟩) (x : Oc) (f : Nat) (u : Value) (hf : f < 6) (hx : eO.enc x = (eO.enc xs[q]).set f u) (hk : OcK W (fun i => (i < w.heap.size ∨ w.heap.size + 2 ≤ i) ∧ i ≠ g) x)
    (hp : 3 * q ≤ p) (hp2 : p2 ≤ 3 * q + 3) (k1 : 3 * q < p2 → SlK W (fun i => w.heap.size + 2 ≤ i ∧ i ≠ g) eR x.r x.o.rows) (k2 : 3 * q + 1 < p2 → SlK W (fun i => w.heap.size + 2 ≤ i ∧ i ≠ g) eM x.m x.o.msgs) (k3 : 3 * q + 2 < p2 → SlK W (fun i => w.heap.size + 2 ≤ i ∧ i ≠ g) eM x.d x.o.dead) :
    CpS w next s (xs.set q x) p2 (W.setCell ⟨g, q * 6 + f, none⟩ u) := by
  obtain ⟨g', e', eo, hg, _, _⟩ := h.slot (by omega)
  rw [e] at e'
  injection e' with e'
  injection e' with e'
  subst e'
  have ho : OwnO W (w.heap.size + 2) (.slice (some ⟨g, 0, none⟩) s.n s.c) xs := by have := h.own; rw [← e]; exact this
  have ho2 := own_set1 ho hq x hf hx
  have hkeep : Keep (fun i _ => i ≠ g) W (W.setCell ⟨g, q * 6 + f, none⟩ u) := (Keep.refl W).setCell (fun _ _ h => h rfl) u
  refine ⟨h.bel.setCell (by show w.heap.size ≤ g; omega) u, h.box.far (by show w.heap.size ≠ g; omega) u, h.res.far (by show w.heap.size + 1 ≠ g; omega) u, ?_, fun y hy => ?_, fun r hr hlt => ?_, fun r hr hlt => ?_, fun r hr hlt => ?_⟩
  · show Own _ _ _ _ (.slice s.a s.n s.c) _
    rw [e]
    exact ho2
  · have hy2 : OcK W (fun i => (i < w.heap.size ∨ w.heap.size + 2 ≤ i) ∧ i ≠ g) y := by
      rcases List.mem_or_eq_of_mem_set hy with h1 | rfl
      · exact (h.rows y h1).more fun i _ hi => ⟨hi.1, fun e3 => hi.2 (by rw [eo, e3])⟩
      · exact hk
    refine (hy2.keep hkeep fun i _ _ hi => hi.2).more fun i _ hi => ⟨hi.1, fun e3 => hi.2 ?_⟩
    rw [eo] at e3
    injection e3 with e3
    exact e3.symm
  · rw [List.length_set] at hr
    have en : ∀ i, w.heap.size + 2 ≤ i ∧ i ≠ g → w.heap.size + 2 ≤ i ∧ s.val.ownBlock ≠ some i := fun i hi => ⟨hi.1, fun e3 => hi.2 (by rw [eo] at e3; injection e3 with e3; exact e3.symm)⟩
    by_cases hqr : q = r
    · subst hqr
      rw [List.getElem_set_self]
      exact ((k1 hlt).keep hkeep fun i _ _ hi => hi.2).more fun i _ hi => en i hi
    · rw [List.getElem_set_ne hqr]
      exact (((h.fr r hr (by omega)).more (K' := fun i => w.heap.size + 2 ≤ i ∧ i ≠ g) fun i _ hi => ⟨hi.1, fun e3 => hi.2 (by rw [eo, e3])⟩).keep hkeep fun i _ _ hi => hi.2).more fun i _ hi => en i hi
  · rw [List.length_set] at hr
    have en : ∀ i, w.heap.size + 2 ≤ i ∧ i ≠ g → w.heap.size + 2 ≤ i ∧ s.val.ownBlock ≠ some i := fun i hi => ⟨hi.1, fun e3 => hi.2 (by rw [eo] at e3; injection e3 with e3; exact e3.symm)⟩
    by_cases hqr : q = r
    · subst hqr
      rw [List.getElem_set_self]
      exact ((k2 hlt).keep hkeep fun i _ _ hi => hi.2).more fun i _ hi => en i hi
    · rw [List.getElem_set_ne hqr]
      exact (((h.fm r hr (by omega)).more (K' := fun i => w.heap.size + 2 ≤ i ∧ i ≠ g) fun i _ hi => ⟨hi.1, fun e3 => hi.2 (by rw [eo, e3])⟩).keep hkeep fun i _ _ hi => hi.2).more fun i _ hi => en i hi
  · rw [List.length_set] at hr
    have en : ∀ i, w.heap.size + 2 ≤ i ∧ i ≠ g → w.heap.size + 2 ≤ i ∧ s.val.ownBlock ≠ some i := fun i hi => ⟨hi.1, fun e3 => hi.2 (by rw [eo] at e3; injection e3 with e3; exact e3.symm)⟩
    by_cases hqr : q = r
    · subst hqr
      rw [List.getElem_set_self]
      exact ((k3 hlt).keep hkeep fun i _ _ hi => hi.2).more fun i _ hi => en i hi
    · rw [List.getElem_set_ne hqr]
      exact (((h.fd r hr (by omega)).more (K' := fun i => w.heap.size + 2 ≤ i ∧ i ≠ g) fun i _ hi => ⟨hi.1, fun e3 => hi.2 (by rw [eo, e3])⟩).keep hkeep fun i _ _ hi => hi.2).more fun i _ hi => en i hi
theorem CpS.fresh (h : CpS w next s xs p W) (h0 : 0 < xs.length) (e : s.a = some ⟨g, 0, none⟩) {α : Type} {E : Enc α} {t : Sv} {l : List α} (ht : SlK W' (fun i => W.heap.size ≤ i) E t l) : SlK W' (fun i => w.heap.size + 2 ≤ i ∧ i ≠ g) E t l := by
  obtain ⟨g', e', _, _, hlt, _⟩ := h.slot h0
  rw [e] at e'
  injection e' with e'
  injection e' with e'
  subst e'
  have := h.res.lt
  exact ht.more fun i _ hi => ⟨by omega, by omega⟩
theorem CpS.seen (h : CpS w next s xs p W) (h0 : 0 < xs.length) (e : s.a = some ⟨g, 0, none⟩) {α : Type} {E : Enc α} {t : Sv} {l : List α} (ht : SlK W (fun i => w.heap.size + 2 ≤ i ∧ s.val.ownBlock ≠ some i) E t l) : SlK W (fun i => w.heap.size + 2 ≤ i ∧ i ≠ g) E t l := by
  obtain ⟨g', e', eo, _⟩ := h.slot h0
  rw [e] at e'
  injection e' with e'
  injection e' with e'
  subst e'
  exact ht.more fun i _ hi => ⟨hi.1, fun e3 => hi.2 (by rw [eo, e3])⟩
theorem CpS.lvl (h : CpS w next s xs p W) (e : p = p2) : CpS w next s xs p2 W := e ▸ h
theorem CpS.one (h : CpS w next s xs p W) (hq : q < xs.length) (e : s.a = some ⟨g, 0, none⟩) : OcK W (fun i => (i < w.heap.size ∨ w.heap.size + 2 ≤ i) ∧ i ≠ g) xs[q] := by
  obtain ⟨g', e', eo, _⟩ := h.slot (by omega)
  rw [e] at e'
  injection e' with e'
  injection e' with e'
  subst e'
  exact (h.rows xs[q] (List.getElem_mem hq)).more fun i _ hi => ⟨hi.1, fun e3 => hi.2 (by rw [eo, e3])⟩
theorem CpS.new_ {α : Type} {E : Enc α} (h : CpS w next s xs p W) (h0 : 0 < xs.length) (e : s.a = some ⟨g, 0, none⟩) {t : Sv} {l : List α} (ht : SlK W' (fun i => W.heap.size ≤ i) E t l) : SlK W' (fun i => (i < w.heap.size ∨ w.heap.size + 2 ≤ i) ∧ i ≠ g) E t l := by
  obtain ⟨g', e', _, _, hlt, _⟩ := h.slot h0
  rw [e] at e'
  injection e' with e'
  injection e' with e'
  subst e'
  have := h.res.lt
  exact ht.more fun i _ hi => ⟨.inr (by omega), by omega⟩
theorem obs_set {xs : List Oc} {q : Nat} (hq : q < xs.length) (x : Oc) (h : x.o = xs[q].o) : obsOf (xs.set q x) = obsOf xs := by
  unfold obsOf
  rw [List.map_set, h]
  have : xs[q].o = (xs.map (·.o))[q]'(by simpa using hq) := by simp
  rw [this, List.set_getElem_self]
theorem CpS.cells (h : CpS w next s xs p W) (hq : q < xs.length) (e : s.a = some ⟨g, 0, none⟩) :
    W.cell? ⟨g, q * 6 + 3, none⟩ = some (.slice xs[q].r.a xs[q].r.n xs[q].r.c) ∧ W.cell? ⟨g, q * 6 + 4, none⟩ = some (.slice xs[q].m.a xs[q].m.n xs[q].m.c) ∧ W.cell? ⟨g, q * 6 + 5, none⟩ = some (.slice xs[q].d.a xs[q].d.n xs[q].d.c) := by
  obtain ⟨b', o, e', _, _, _, _, c3, c4, c5⟩ := h.row.atO hq
  rw [e] at e'
  injection e' with e'
  injection e' with e1 e2
  subst e1 e2
  rw [Nat.zero_add] at c3 c4 c5
  exact ⟨c3, c4, c5⟩
theorem CpS.rows_ (h : CpS w next s xs (3 * q) W) (k : Below W.heap.size W W') (hq : q < xs.length) (e : s.a = some ⟨g, 0, none⟩) {t : Sv} (ht : SlK W' (fun i => W.heap.size ≤ i) eR t xs[q].o.rows) :
    ∃ ys, CpS w next s ys (3 * q + 1) (W'.setCell ⟨g, q * 6 + 3, none⟩ (.slice t.a t.n t.c)) ∧ obsOf ys = obsOf xs :=
  ⟨xs.set q ⟨xs[q].o, t, xs[q].m, xs[q].d⟩, (h.step k).put hq e _ 3 _ (by omega) rfl ⟨h.new_ (by omega) e ht, ((h.step k).one hq e).msgs, ((h.step k).one hq e).dead⟩ (by omega) (by omega) (fun _ => h.fresh (by omega) e ht) (fun hp => by omega) (fun hp => by omega), obs_set hq _ rfl⟩
theorem CpS.msgs_ (h : CpS w next s xs (3 * q + 1) W) (k : Below W.heap.size W W') (hq : q < xs.length) (e : s.a = some ⟨g, 0, none⟩) {t : Sv} (ht : SlK W' (fun i => W.heap.size ≤ i) eM t xs[q].o.msgs) :
    ∃ ys, CpS w next s ys (3 * q + 2) (W'.setCell ⟨g, q * 6 + 4, none⟩ (.slice t.a t.n t.c)) ∧ obsOf ys = obsOf xs :=
  ⟨xs.set q ⟨xs[q].o, xs[q].r, t, xs[q].d⟩, (h.step k).put hq e _ 4 _ (by omega) rfl ⟨((h.step k).one hq e).rows, h.new_ (by omega) e ht, ((h.step k).one hq e).dead⟩ (by omega) (by omega) (fun _ => (h.step k).seen (by omega) e ((h.step k).fr q hq (by omega))) (fun _ => h.fresh (by omega) e ht) (fun hp => by omega), obs_set hq _ rfl⟩
theorem CpS.dead_ (h : CpS w next s xs (3 * q + 2) W) (k : Below W.heap.size W W') (hq : q < xs.length) (e : s.a = some ⟨g, 0, none⟩) {t : Sv} (ht : SlK W' (fun i => W.heap.size ≤ i) eM t xs[q].o.dead) :
    ∃ ys, CpS w next s ys (3 * q + 3) (W'.setCell ⟨g, q * 6 + 5, none⟩ (.slice t.a t.n t.c)) ∧ obsOf ys = obsOf xs :=
  ⟨xs.set q ⟨xs[q].o, xs[q].r, xs[q].m, t⟩, (h.step k).put hq e _ 5 _ (by omega) rfl ⟨((h.step k).one hq e).rows, ((h.step k).one hq e).msgs, h.new_ (by omega) e ht⟩ (by omega) (by omega) (fun _ => (h.step k).seen (by omega) e ((h.step k).fr q hq (by omega))) (fun _ => (h.step k).seen (by omega) e ((h.step k).fm q hq (by omega))) (fun _ => h.fresh (by omega) e ht), obs_set hq _ rfl⟩
theorem short_of {xs ys : List Oc} {n : Nat} (e : obsOf ys = obsOf xs) (h : ∀ x ∈ xs, x.o.short n) : ∀ y ∈ ys, y.o.short n := fun y hy => by
  have : y.o ∈ obsOf xs := by rw [← e]; exact List.mem_map_of_mem hy
  obtain ⟨x, hx, hxy⟩ := List.mem_map.1 this
  rw [← hxy]; exact h x hx
theorem len_of {xs ys : List Oc} (e : obsOf ys = obsOf xs) : ys.length = xs.length := by simpa [obsOf] using congrArg List.length e
end
structure ShutC (p : Prop) : Prop where out : p
def CopR (w : World) (next : Int) (s : Sv) (os : List Ob) (k : Nat) (i : Value) (wr : World) : Prop :=
  ∃ j xs, j + k = os.length ∧ i = .int .i64 (j : Int) ∧ CpS w next s xs (3 * j) wr ∧ obsOf xs = os
def Cpd (w : World) (next : Int) (os : List Ob) (e : Ending) (w' : World) : Prop :=
  ∃ (s' : Sv) (xs' : List Oc), e = .returned (.agg #[.int .i64 next, .slice s'.a s'.n s'.c]) ∧ OwnO w' w.heap.size s'.val xs' ∧ (∀ x ∈ xs', OcK w' (fun i => w.heap.size + 2 ≤ i ∧ s'.val.ownBlock ≠ some i) x) ∧ obsOf xs' = os ∧ Below w.heap.size w w'
theorem CpS.last {w W : World} {next : Int} {s : Sv} {xs : List Oc} {p : Nat} (h : CpS w next s xs p W) (hp : 3 * xs.length ≤ p) :
    Cpd w next (obsOf xs) (.returned (.agg #[.int .i64 next, .slice s.a s.n s.c])) ((W.setCell ⟨w.heap.size + 1, 0, none⟩ (.int .i64 next)).setCell ⟨w.heap.size + 1, 1, none⟩ (.slice s.a s.n s.c)) := by
  have hk : Keep (fun i _ => i ≠ w.heap.size + 1) W ((W.setCell ⟨w.heap.size + 1, 0, none⟩ (.int .i64 next)).setCell ⟨w.heap.size + 1, 1, none⟩ (.slice s.a s.n s.c)) :=
    ((Keep.refl W).setCell (p := ⟨w.heap.size + 1, 0, none⟩) (fun _ _ h => h rfl) _).setCell (p := ⟨w.heap.size + 1, 1, none⟩) (fun _ _ h => h rfl) _
  have hn : s.val.ownBlock ≠ some (w.heap.size + 1) := own_out h.own (by omega)
  refine ⟨s, xs, rfl, own_base (own_far (own_far h.own hn _) hn _) (by omega), fun x hx => ?_, rfl, (h.bel.setCell (by show w.heap.size ≤ w.heap.size + 1; omega) _).setCell (by show w.heap.size ≤ w.heap.size + 1; omega) _⟩
  obtain ⟨q, hq, rfl⟩ := List.getElem_of_mem hx
  have h1 : OcK W (fun i => w.heap.size + 2 ≤ i ∧ s.val.ownBlock ≠ some i) xs[q] := ⟨h.fr q hq (by omega), h.fm q hq (by omega), h.fd q hq (by omega)⟩
  exact h1.keep hk fun i _ _ hi => by omega
set_option maxHeartbeats 2000000 in
theorem copied_o {w : World} {K : Nat → Prop} {s : Sv} {xs : List Oc} (h : ObsAt w K s xs) (hn : xs.length ≤ 100000) (hs : ∀ x ∈ xs, x.o.short 100000) (next : Int) :
    Calls Tryz.prog 92 #[.agg #[.int .i64 next, .slice s.a s.n s.c]] w (Cpd w next (obsOf xs)) := by
  have k1 := alloc_below w (.cells #[.int .i64 next, .slice s.a s.n s.c] 54)
  have k2 := k1.alloc k1.size (.cells #[.int .i64 0, .slice none 0 0] 54)
  have hcl := clone_o (c := s.c) ((h.row.lst).below k2) h.row.len.symm (by rw [h.row.len]; exact hn) h.row.nil
  have hres := Blk.new (w.alloc (.cells #[.int .i64 next, .slice s.a s.n s.c] 54)) 54 #[.int .i64 0, .slice none 0 0]
  have hbox := (Blk.new w 54 #[.int .i64 next, .slice s.a s.n s.c]).alloc (.cells #[.int .i64 0, .slice none 0 0] 54)
  rw [show (w.alloc (.cells #[.int .i64 next, .slice s.a s.n s.c] 54)).heap.size = w.heap.size + 1 by simp] at hres
  have hz : ((w.alloc (.cells #[.int .i64 next, .slice s.a s.n s.c] 54)).alloc (.cells #[.int .i64 0, .slice none 0 0] 54)).heap.size = w.heap.size + 2 := by simp
  have hall : ∀ W, Below w.heap.size w W → ∀ x ∈ xs, OcK W (fun i => i < w.heap.size) x := fun W k x hx => (OcK.more (K' := fun i => i < w.heap.size) (h.all x hx) fun _ hi _ => hi).below k
  obtain ⟨A, n, c⟩ := s
  have hln := h.row.len
  simp only at hln hcl hbox hres hz ⊢
  have hol : (obsOf xs).length = n := by rw [hln]; simp [obsOf]
  have HOL := Lib.hid hol
  have HALL := Lib.hid hall
  have HRES := Lib.hid hres
  have HBOX := Lib.hid hbox
  have HZ := Lib.hid hz
  have HK2 := Lib.hid k2
  have HCL := Lib.hid hcl
  have HLN := Lib.hid hln
  have HS := Lib.hid hs
  have hn2 : n ≤ 100000 := by omega
  clear h hcl hres hbox hz hall hln k1 k2 hs hol hn
  go_enter Tryz.func92, Tryz.ntmps92
  go_wp2_with fail
  refine HCL.out.mono ?_
  rintro e w1 ⟨v, rfl, ho, hb⟩
  rw [HZ.out] at ho
  obtain ⟨A1, c1, rfl⟩ := own_shape ho HLN.out.symm
  have hbox1 := HBOX.out.below hb HBOX.out.lt
  have hres1 := HRES.out.below hb HRES.out.lt
  have hb2 := HK2.out.trans (hb.mono HK2.out.size)
  have hnb : (Value.slice A1 n c1).ownBlock ≠ some w.heap.size := own_out ho (by omega)
  have hcp : CpS w next ⟨A1, n, c1⟩ xs (3 * 0) (w1.setCell ⟨w.heap.size, 1, none⟩ (.slice A1 n c1)) := by
    refine ⟨hb2.setCell (Nat.le_refl _) _, by simpa using hbox1.set_ 1 (.slice A1 n c1), hres1.far (by show w.heap.size + 1 ≠ w.heap.size; omega) _, own_far ho hnb _, fun x hx => ?_, fun q hq hp => by omega, fun q hq hp => by omega, fun q hq hp => by omega⟩
    have h1 := HALL.out w1 hb2 x hx
    exact (h1.keep ((Keep.refl w1).setCell (K := fun i _ => i ≠ w.heap.size) (p := ⟨w.heap.size, 1, none⟩) (fun _ _ h => h rfl) _) fun i _ _ hi => by omega).more fun i _ hi => ⟨.inl hi, fun e => by have := (own_blk ho e).1; omega⟩
  have b1 := hbox1.cell 1
  have f1 := hbox1.frozen 1
  have HCP := Lib.hid hcp
  simp only [List.getElem?_toArray, List.getElem?_cons_zero, List.getElem?_cons_succ] at b1
  clear ho hb hbox1 hres1 hb2 hnb hcp HCL HBOX HRES HALL
  go_wp2_with fail
  go_loopg [3, 4, 12] n (fun m _ _ i wr => CopR w next ⟨A1, n, c1⟩ (obsOf xs) m i wr)
  case atStart => exact ⟨0, xs, by have := HOL.out; omega, rfl, HCP.out, rfl⟩
  case round =>
    obtain ⟨j, ys, hj, rfl, hst, hys⟩ := hrel
    have HST := Lib.hid hst
    have HJ := Lib.hid hj
    have HYS := Lib.hid hys
    have e1 := hst.box.cell 1
    simp only [List.getElem?_toArray, List.getElem?_cons_zero, List.getElem?_cons_succ] at e1
    clear hst hj hys
    by_cases hlt : j < n
    · obtain ⟨g, eg, _, _, _, _⟩ := HST.out.slot (show 0 < ys.length by have := len_of HYS.out; have := HLN.out; omega)
      simp only at eg
      subst eg
      have HST0 := ShutC.mk HST.out
      have HY0 := ShutC.mk HYS.out
      have hjn : (j : Int) < (n : Int) := by omega
      clear HST HYS
      have hq0 : j < ys.length := by have := len_of HY0.out; have := HLN.out; omega
      obtain ⟨q3, q4, q5⟩ := HST0.out.cells hq0 rfl
      have hc0 := clone_r (c := ys[j].r.c) (HST0.out.one hq0 rfl).rows.lst (HST0.out.one hq0 rfl).rows.len.symm (by have := short_of HY0.out HS.out _ (List.getElem_mem hq0); rw [(HST0.out.one hq0 rfl).rows.len]; exact this.1) (HST0.out.one hq0 rfl).rows.nil
      have hn0 := fun W' (k : Below (wr).heap.size (wr) W') (t : Sv) (ht : SlK W' (fun i => (wr).heap.size ≤ i) eR t ys[j].o.rows) => HST0.out.rows_ k hq0 rfl ht
      have hf0 := fun W' (k : Below (wr).heap.size (wr) W') => (HST0.out.step k).slot (show 0 < ys.length by omega)
      have hg0 := fun W' (k : Below (wr).heap.size (wr) W') => (HST0.out.step k).cells hq0 rfl
      have HC0 := ShutC.mk hc0
      have HNN0 := ShutC.mk hn0
      have HF0 := ShutC.mk hf0
      have HG0 := ShutC.mk hg0
      generalize ys[j].r.a = ra0 at *
      generalize ys[j].r.n = rn0 at *
      generalize ys[j].r.c = rc0 at *
      generalize ys[j].m.a = ma0 at *
      generalize ys[j].m.n = mn0 at *
      generalize ys[j].m.c = mc0 at *
      generalize ys[j].d.a = da0 at *
      generalize ys[j].d.n = dn0 at *
      generalize ys[j].d.c = dc0 at *
      clear hc0 hn0 hf0 hg0
      go_wp2_with fail
      refine HC0.out.mono ?_
      rintro e09 u0 ⟨v0, rfl, ho0, hb0⟩
      obtain ⟨⟨B0, o0, k0⟩, rfl, ht0⟩ := ho0.k
      obtain ⟨X03, X04, X05⟩ := HG0.out _ hb0
      obtain ⟨_, eg0, _, _, hgl0, fz0⟩ := HF0.out _ hb0
      cases eg0
      have fy0 := fz0 (j * 6 + 3)
      obtain ⟨ys1, hst1, hy1⟩ := HNN0.out _ hb0 _ ht0
      have HST1 := ShutC.mk hst1
      have HY1 := ShutC.mk (hy1.trans HY0.out)
      clear fz0 ht0 ho0 hb0 HC0 HNN0 HF0 HG0 hst1 hy1 q3 q4 q5 hq0
      have hq1 : j < ys1.length := by have := len_of HY1.out; have := HLN.out; omega
      obtain ⟨q3, q4, q5⟩ := HST1.out.cells hq1 rfl
      have hc1 := clone_m (c := ys1[j].m.c) (HST1.out.one hq1 rfl).msgs.lst (HST1.out.one hq1 rfl).msgs.len.symm (by have := short_of HY1.out HS.out _ (List.getElem_mem hq1); rw [(HST1.out.one hq1 rfl).msgs.len]; exact this.2.1) (HST1.out.one hq1 rfl).msgs.nil
      have hn1 := fun W' (k : Below (u0.setCell ⟨g, j * 6 + 3, none⟩ (.slice B0 o0 k0)).heap.size (u0.setCell ⟨g, j * 6 + 3, none⟩ (.slice B0 o0 k0)) W') (t : Sv) (ht : SlK W' (fun i => (u0.setCell ⟨g, j * 6 + 3, none⟩ (.slice B0 o0 k0)).heap.size ≤ i) eM t ys1[j].o.msgs) => HST1.out.msgs_ k hq1 rfl ht
      have hf1 := fun W' (k : Below (u0.setCell ⟨g, j * 6 + 3, none⟩ (.slice B0 o0 k0)).heap.size (u0.setCell ⟨g, j * 6 + 3, none⟩ (.slice B0 o0 k0)) W') => (HST1.out.step k).slot (show 0 < ys1.length by omega)
      have hg1 := fun W' (k : Below (u0.setCell ⟨g, j * 6 + 3, none⟩ (.slice B0 o0 k0)).heap.size (u0.setCell ⟨g, j * 6 + 3, none⟩ (.slice B0 o0 k0)) W') => (HST1.out.step k).cells hq1 rfl
      have HC1 := ShutC.mk hc1
      have HNN1 := ShutC.mk hn1
      have HF1 := ShutC.mk hf1
      have HG1 := ShutC.mk hg1
      generalize ys1[j].r.a = ra1 at *
      generalize ys1[j].r.n = rn1 at *
      generalize ys1[j].r.c = rc1 at *
      generalize ys1[j].m.a = ma1 at *
      generalize ys1[j].m.n = mn1 at *
      generalize ys1[j].m.c = mc1 at *
      generalize ys1[j].d.a = da1 at *
      generalize ys1[j].d.n = dn1 at *
      generalize ys1[j].d.c = dc1 at *
      clear hc1 hn1 hf1 hg1
      go_wp2_with fail
      refine HC1.out.mono ?_
      rintro e19 u1 ⟨v1, rfl, ho1, hb1⟩
      obtain ⟨⟨B1, o1, k1⟩, rfl, ht1⟩ := ho1.k
      obtain ⟨X13, X14, X15⟩ := HG1.out _ hb1
      obtain ⟨_, eg1, _, _, hgl1, fz1⟩ := HF1.out _ hb1
      cases eg1
      have fy1 := fz1 (j * 6 + 4)
      obtain ⟨ys2, hst2, hy2⟩ := HNN1.out _ hb1 _ ht1
      have HST2 := ShutC.mk hst2
      have HY2 := ShutC.mk (hy2.trans HY1.out)
      clear fz1 ht1 ho1 hb1 HC1 HNN1 HF1 HG1 hst2 hy2 q3 q4 q5 hq1
      have hq2 : j < ys2.length := by have := len_of HY2.out; have := HLN.out; omega
      obtain ⟨q3, q4, q5⟩ := HST2.out.cells hq2 rfl
      have hc2 := clone_m (c := ys2[j].d.c) (HST2.out.one hq2 rfl).dead.lst (HST2.out.one hq2 rfl).dead.len.symm (by have := short_of HY2.out HS.out _ (List.getElem_mem hq2); rw [(HST2.out.one hq2 rfl).dead.len]; exact this.2.2) (HST2.out.one hq2 rfl).dead.nil
      have hn2 := fun W' (k : Below (u1.setCell ⟨g, j * 6 + 4, none⟩ (.slice B1 o1 k1)).heap.size (u1.setCell ⟨g, j * 6 + 4, none⟩ (.slice B1 o1 k1)) W') (t : Sv) (ht : SlK W' (fun i => (u1.setCell ⟨g, j * 6 + 4, none⟩ (.slice B1 o1 k1)).heap.size ≤ i) eM t ys2[j].o.dead) => HST2.out.dead_ k hq2 rfl ht
      have hf2 := fun W' (k : Below (u1.setCell ⟨g, j * 6 + 4, none⟩ (.slice B1 o1 k1)).heap.size (u1.setCell ⟨g, j * 6 + 4, none⟩ (.slice B1 o1 k1)) W') => (HST2.out.step k).slot (show 0 < ys2.length by omega)
      have hg2 := fun W' (k : Below (u1.setCell ⟨g, j * 6 + 4, none⟩ (.slice B1 o1 k1)).heap.size (u1.setCell ⟨g, j * 6 + 4, none⟩ (.slice B1 o1 k1)) W') => (HST2.out.step k).cells hq2 rfl
      have HC2 := ShutC.mk hc2
      have HNN2 := ShutC.mk hn2
      have HF2 := ShutC.mk hf2
      have HG2 := ShutC.mk hg2
      generalize ys2[j].r.a = ra2 at *
      generalize ys2[j].r.n = rn2 at *
      generalize ys2[j].r.c = rc2 at *
      generalize ys2[j].m.a = ma2 at *
      generalize ys2[j].m.n = mn2 at *
      generalize ys2[j].m.c = mc2 at *
      generalize ys2[j].d.a = da2 at *
      generalize ys2[j].d.n = dn2 at *
      generalize ys2[j].d.c = dc2 at *
      clear hc2 hn2 hf2 hg2
      go_wp2_with fail
      refine HC2.out.mono ?_
      rintro e29 u2 ⟨v2, rfl, ho2, hb2⟩
      obtain ⟨⟨B2, o2, k2⟩, rfl, ht2⟩ := ho2.k
      obtain ⟨X23, X24, X25⟩ := HG2.out _ hb2
      obtain ⟨_, eg2, _, _, hgl2, fz2⟩ := HF2.out _ hb2
      cases eg2
      have fy2 := fz2 (j * 6 + 5)
      obtain ⟨ys3, hst3, hy3⟩ := HNN2.out _ hb2 _ ht2
      have HST3 := ShutC.mk hst3
      have HY3 := ShutC.mk (hy3.trans HY2.out)
      clear fz2 ht2 ho2 hb2 HC2 HNN2 HF2 HG2 hst3 hy3 q3 q4 q5 hq2
      go_wp2_with fail
      go_roundg (n - (j + 1))
      case measure => have := HJ.out; have := HOL.out; omega
      case rel => exact ⟨j + 1, ys3, by have := HOL.out; have := HJ.out; omega, by go_num, HST3.out.lvl (by omega), HY3.out⟩
    · have hys : obsOf ys = obsOf xs := HYS.out
      have r0 := HST.out.res.cell 0
      have r1 := HST.out.res.cell 1
      have g0 := HST.out.res.frozen 0
      have g1 := HST.out.res.frozen 1
      have e0 := HST.out.box.cell 0
      have hlast := HST.out.last (by have := len_of HYS.out; have := HLN.out; have := HJ.out; have := HOL.out; omega)
      rw [hys] at hlast
      have HLAST := ShutC.mk hlast
      simp only [List.getElem?_toArray, List.getElem?_cons_zero, List.getElem?_cons_succ] at r0 r1 e0
      have hjn : ¬ (j : Int) < (n : Int) := by omega
      clear hlast hys
      have hb2 := (HST.out.res.set_ 0 (.int .i64 next)).set_ 1 (.slice A1 n c1)
      have t0 := hb2.cell 0
      have t1 := hb2.cell 1
      simp only [Array.setIfInBounds] at t0 t1
      clear hb2
      go_wp2_with fail
      refine bodyPost_ret (v := .agg #[.int .i64 next, .slice A1 n c1]) (by simp [results, Tryz.results92, go_sem, t0, t1]) rfl ?_
      exact HLAST.out
end Go.Proofs.YtjfoflbaoceemaaGreat
namespace Go.Proofs.YtjfoflbaoceemaaGreat
open Go.RowKit
def Finds (xs : List Rw) (key : ByteArray) (k : Nat) (i : Value) : Prop := ∃ j, j + k = xs.length ∧ i = .int .i64 (j : Int) ∧ findR xs key = j + findR (xs.drop j) key ∧ foundR xs key = foundR (xs.drop j) key
set_option maxHeartbeats 400000 in
theorem find_row {w : World} {K : Nat → Prop} {A : Option Addr} {n c : Nat} {xs : List Rw} (h : Rws w K A xs) (hl : xs.length = n) (hn : n ≤ 1000000) (key : ByteArray) :
    Calls Tryz.prog 235 #[.slice A n c, .string key] w fun e w' => e = .returned (.tuple #[.int .i64 (findR xs key : Int), .bool (foundR xs key)]) ∧ w = w' := by
  have H := Lib.hid h
  have HL := Lib.hid hl
  clear h hl
  go_enter Tryz.func235, Tryz.ntmps235
  go_wp2
  go_loopg [10] n (fun m i wr => Finds xs key m i ∧ w = wr)
  case atStart => exact ⟨⟨0, by rw [HL.out]; omega, rfl, by simp, by simp⟩, rfl⟩
  case round =>
    obtain ⟨⟨j, hj, rfl, h1, h2⟩, rfl⟩ := hrel
    have HJ := Lib.hid hj
    have H1 := Lib.hid h1
    have H2 := Lib.hid h2
    clear hj h1 h2
    by_cases hlt : j < n
    · have hx : j < xs.length := by rw [HL.out]; exact hlt
      obtain ⟨b, o, rfl, hc, _⟩ := H.out.at_ hx
      by_cases hp : 0 ≤ cmpS xs[j].1 key
      · obtain ⟨e1, e2⟩ := find_at hx hp
        have hr1 : (findR xs key : Int) = j := by have := H1.out; omega
        have hr2 : foundR xs key = decide (cmpS xs[j].1 key = 0) := by rw [H2.out, e2]
        have HR1 := Lib.hid hr1
        have HR2 := Lib.hid hr2
        clear e1 e2 hr1 hr2
        generalize xs[j].1 = kj at *
        go_wp2_with (go_at_call 140; refine (keys_ _ _ _).mono ?_; rintro e w' ⟨rfl, rfl⟩)
        go_ret2
        exact ⟨by rw [HR1.out, HR2.out]; rfl, rfl⟩
      · obtain ⟨e1, e2⟩ := find_on hx hp
        have hr1 : findR xs key = j + 1 + findR (xs.drop (j + 1)) key := by rw [H1.out, e1]; omega
        have hr2 : foundR xs key = foundR (xs.drop (j + 1)) key := by rw [H2.out, e2]
        have HR1 := Lib.hid hr1
        have HR2 := Lib.hid hr2
        clear e1 e2 hr1 hr2
        generalize xs[j].1 = kj at *
        go_wp2_with (go_at_call 140; refine (keys_ _ _ _).mono ?_; rintro e w' ⟨rfl, rfl⟩)
        go_roundg (n - (j + 1))
        case measure => have := HJ.out; have := HL.out; omega
        case rel => exact ⟨⟨j + 1, by have := HL.out; omega, by go_num, HR1.out, HR2.out⟩, rfl⟩
    · have he : j = xs.length := by have := HJ.out; have := HL.out; omega
      have h1 : findR xs key = xs.length := by rw [H1.out, he, List.drop_length]; rfl
      have h2 : foundR xs key = false := by rw [H2.out, he, List.drop_length]; rfl
      have h3 : (findR xs key : Int) = (n : Int) := by rw [h1, HL.out]
      have H3 := Lib.hid h3
      have H4 := Lib.hid h2
      clear h1 h2 he h3
      go_wp2
      go_ret2
      exact ⟨by rw [H3.out, H4.out]; rfl, rfl⟩
end Go.Proofs.YtjfoflbaoceemaaGreat
