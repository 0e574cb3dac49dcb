/- . . . -/
import Derived.Test.YtjfoflbaoceemaaGreatJ16
import Derived.Test.YtjfoflbaoceemaaGreatJ14
import Derived.LoopTactic
import Derived.Deep.LoopGhost
import Derived.Deep.Slices
import Derived.ChangeArms
import Derived.Laws.Cover1
set_option maxRecDepth 4000
namespace Go.Proofs.YtjfoflbaoceemaaGreat
open Go.RowKit
structure OwnSt (B b : Nat) (next : Int) (s : Sv) (xs : List Oc) (W : World) : Prop where
  outb : B ≤ b
  blk : Blk W b 54 #[.int .i64 next, .slice s.a s.n s.c]
  own : OwnO W B s.val xs
  nb : s.val.ownBlock ≠ some b
  rows : ∀ x ∈ xs, OcK W (fun i => i ≠ b ∧ s.val.ownBlock ≠ some i ∧ B ≤ i) x
section
variable {B b : Nat} {next : Int} {s : Sv} {xs : List Oc} {W W' : World}
theorem OwnSt.below (h : OwnSt B b next s xs W) (k : Below W.heap.size W W') : OwnSt B b next s xs W' :=
  ⟨h.outb, h.blk.below k h.blk.lt, own_belowE h.own k, h.nb, fun x hx => (h.rows x hx).below k⟩
theorem OwnSt.size (h : OwnSt B b next s xs W) : B ≤ W.heap.size := Nat.le_of_lt (Nat.lt_of_le_of_lt h.outb h.blk.lt)
theorem OwnSt.cap (h : OwnSt B b next s xs W) : s.n = xs.length ∧ s.n ≤ s.c ∧ s.c ≤ maxLen ∧ (s.a = none → s.c = 0) := own_cap h.own
theorem OwnSt.row (h : OwnSt B b next s xs W) : Lst W (fun _ => True) eO s.a xs := (own_lst2 h.own).more fun _ _ _ => trivial
theorem OwnSt.obs (h : OwnSt B b next s xs W) : ObsAt W (fun _ => True) s xs :=
  ⟨⟨h.cap.1, h.row, h.cap.2.1, h.cap.2.2.1, h.cap.2.2.2⟩, fun x hx => (h.rows x hx).more fun _ _ _ => trivial⟩
theorem OwnSt.slot (h : OwnSt B b next s xs W) (h0 : 0 < xs.length) : ∃ g, s.a = some ⟨g, 0, none⟩ ∧ s.val.ownBlock = some g ∧ B ≤ g ∧ g ≠ b ∧ g < W.heap.size ∧ ∀ j, W.frozen? ⟨g, j, none⟩ = false := by
  obtain ⟨g, cur, e, hg, hb, _⟩ := own_slot h.own h0
  have eo : s.val.ownBlock = some g := by show (Value.slice s.a s.n s.c).ownBlock = _; rw [e]; rfl
  exact ⟨g, e, eo, hg, fun e2 => h.nb (by rw [eo, e2]), hb.lt, fun j => hb.frozen j⟩
theorem OwnSt.cells (h : OwnSt B b next s xs W) {q g : Nat} (hq : q < xs.length) (e : s.a = some ⟨g, 0, none⟩) :
    W.cell? ⟨g, q * 6, none⟩ = some (.string xs[q].o.name) ∧ W.cell? ⟨g, q * 6 + 1, none⟩ = some (.int .i64 xs[q].o.kind) ∧ W.cell? ⟨g, q * 6 + 2, none⟩ = some (.int .i64 xs[q].o.limit) ∧ W.cell? ⟨g, q * 6 + 3, none⟩ = some (.slice xs[q].r.a xs[q].r.n xs[q].r.c) ∧
      W.cell? ⟨g, q * 6 + 4, none⟩ = some (.slice xs[q].m.a xs[q].m.n xs[q].m.c) ∧ W.cell? ⟨g, q * 6 + 5, none⟩ = some (.slice xs[q].d.a xs[q].d.n xs[q].d.c) := by
  obtain ⟨b', o, e', _, c0, c1, c2, c3, c4, c5⟩ := h.row.atO hq
  rw [e] at e'
  injection e' with e'
  injection e' with e1 e2
  subst e1 e2
  rw [Nat.zero_add] at c0 c1 c2 c3 c4 c5
  exact ⟨c0, c1, c2, c3, c4, c5⟩
theorem OwnSt.put (h : OwnSt B b next s xs W) {q g : Nat} (hq : q < xs.length) (e : s.a = some ⟨g, 0, none⟩) (x : Oc) (f : Nat) (u : Value) (hf : f < 6) (hx : eO.enc x = (eO.enc xs[q]).set f u) (hk : OcK W (fun i => i ≠ b ∧ i ≠ g ∧ B ≤ i) x) :
    OwnSt B b next s (xs.set q x) (W.setCell ⟨g, q * 6 + f, none⟩ u) := by
  obtain ⟨g', e', eo, _, hgb, _, _⟩ := h.slot (by omega)
  rw [e] at e'
  injection e' with e'
  injection e' with e'
  subst e'
  have ho : OwnO W B (.slice (some ⟨g, 0, none⟩) s.n s.c) xs := by have := h.own; rw [← e]; exact this
  have ho2 := own_set1 ho hq x hf hx
  have hbg : b ≠ g := fun e3 => hgb e3.symm
  have hkeep : Keep (fun i _ => i ≠ g) W (W.setCell ⟨g, q * 6 + f, none⟩ u) := (Keep.refl W).setCell (fun _ _ h => h rfl) u
  refine ⟨h.outb, h.blk.far (by show b ≠ g; exact hbg) u, ?_, h.nb, fun y hy => ?_⟩
  · show Own _ _ _ _ (.slice s.a s.n s.c) _
    rw [e]
    exact ho2
  · have hy2 : OcK W (fun i => i ≠ b ∧ i ≠ g ∧ B ≤ i) y := by
      rcases List.mem_or_eq_of_mem_set hy with h1 | rfl
      · exact (h.rows y h1).more fun i _ hi => ⟨hi.1, fun e3 => hi.2.1 (by rw [eo, e3]), hi.2.2⟩
      · exact hk
    refine (hy2.keep hkeep fun i _ _ hi => hi.2.1).more fun i _ hi => ⟨hi.1, fun e3 => hi.2.1 ?_, hi.2.2⟩
    rw [eo] at e3
    injection e3 with e3
    exact e3.symm
theorem put_below (W : World) {B g : Nat} (hg : B ≤ g) (i : Nat) (u : Value) : Below B W (W.setCell ⟨g, i, none⟩ u) := (Below.refl _ _).setCell hg u
theorem six_below (W : World) {B g : Nat} (hg : B ≤ g) (i : Nat) (a c d e f k : Value) : Below B W ((((((W.setCell ⟨g, i, none⟩ a).setCell ⟨g, i + 1, none⟩ c).setCell ⟨g, i + 2, none⟩ d).setCell ⟨g, i + 3, none⟩ e).setCell ⟨g, i + 4, none⟩ f).setCell ⟨g, i + 5, none⟩ k) :=
  ((((((Below.refl _ _).setCell (p := ⟨g, i, none⟩) hg a).setCell (p := ⟨g, i + 1, none⟩) hg c).setCell (p := ⟨g, i + 2, none⟩) hg d).setCell (p := ⟨g, i + 3, none⟩) hg e).setCell (p := ⟨g, i + 4, none⟩) hg f).setCell (p := ⟨g, i + 5, none⟩) hg k
theorem OwnSt.setNext (h : OwnSt B b next s xs W) (n : Int) : OwnSt B b n s xs (W.setCell ⟨b, 0, none⟩ (.int .i64 n)) := by
  have hkeep : Keep (fun i _ => i ≠ b) W (W.setCell ⟨b, 0, none⟩ (.int .i64 n)) := (Keep.refl W).setCell (fun _ _ h => h rfl) _
  refine ⟨h.outb, ?_, own_far h.own h.nb _, h.nb, fun x hx => (h.rows x hx).keep hkeep fun _ _ _ hi => hi.1⟩
  have := h.blk.set_ 0 (.int .i64 n)
  simpa using this
theorem OwnSt.made {W0 : World} (h : OwnSt B b next s xs W0) (k : Below W0.heap.size W0 W) {q g : Nat} (hq : q < xs.length) (e : s.a = some ⟨g, 0, none⟩) : OcK W (fun i => i ≠ b ∧ i ≠ g ∧ B ≤ i) xs[q] := by
  obtain ⟨g', e', eo, _⟩ := h.slot (by omega)
  rw [e] at e'
  injection e' with e'
  injection e' with e'
  subst e'
  exact ((h.below k).rows xs[q] (List.getElem_mem hq)).more fun i _ hi => ⟨hi.1, fun e3 => hi.2.1 (by rw [eo, e3]), hi.2.2⟩
theorem OwnSt.new_ {α : Type} {E : Enc α} {W0 : World} (h : OwnSt B b next s xs W0) {g : Nat} (h0 : 0 < xs.length) (e : s.a = some ⟨g, 0, none⟩) {t : Sv} {l : List α} (ht : SlK W (fun i => W0.heap.size ≤ i) E t l) : SlK W (fun i => i ≠ b ∧ i ≠ g ∧ B ≤ i) E t l := by
  obtain ⟨g', e', _, _, _, hlt, _⟩ := h.slot h0
  rw [e] at e'
  injection e' with e'
  injection e' with e'
  subst e'
  have := h.blk.lt
  have := h.outb
  exact ht.more fun i _ hi => ⟨by omega, by omega, by omega⟩
theorem OwnSt.putRows {W0 : World} (h : OwnSt B b next s xs W0) (k : Below W0.heap.size W0 W) {q g : Nat} (hq : q < xs.length) (e : s.a = some ⟨g, 0, none⟩) {t : Sv} {l : List Rw} (ht : SlK W (fun i => W0.heap.size ≤ i) eR t l) :
    OwnSt B b next s (xs.set q ⟨{ xs[q].o with rows := l }, t, xs[q].m, xs[q].d⟩) (W.setCell ⟨g, q * 6 + 3, none⟩ (.slice t.a t.n t.c)) :=
  (h.below k).put hq e _ 3 _ (by omega) rfl ⟨h.new_ (by omega) e ht, (h.made k hq e).msgs, (h.made k hq e).dead⟩
theorem OwnSt.putMsgs {W0 : World} (h : OwnSt B b next s xs W0) (k : Below W0.heap.size W0 W) {q g : Nat} (hq : q < xs.length) (e : s.a = some ⟨g, 0, none⟩) {t : Sv} {l : List Mg} (ht : SlK W (fun i => W0.heap.size ≤ i) eM t l) :
    OwnSt B b next s (xs.set q ⟨{ xs[q].o with msgs := l }, xs[q].r, t, xs[q].d⟩) (W.setCell ⟨g, q * 6 + 4, none⟩ (.slice t.a t.n t.c)) :=
  (h.below k).put hq e _ 4 _ (by omega) rfl ⟨(h.made k hq e).rows, h.new_ (by omega) e ht, (h.made k hq e).dead⟩
theorem OwnSt.putAll {W0 : World} (h : OwnSt B b next s xs W0) (k : Below W0.heap.size W0 W) {q g : Nat} (hq : q < xs.length) (e : s.a = some ⟨g, 0, none⟩) (x : Oc) (h1 : x.o.name = xs[q].o.name) (h2 : x.o.kind = xs[q].o.kind) (h3 : x.o.limit = xs[q].o.limit) (hx : OcK W (fun i => W0.heap.size ≤ i) x) :
    OwnSt B b next s (xs.set q x) ((((((W.setCell ⟨g, q * 6, none⟩ (.string x.o.name)).setCell ⟨g, q * 6 + 1, none⟩ (.int .i64 x.o.kind)).setCell ⟨g, q * 6 + 2, none⟩ (.int .i64 x.o.limit)).setCell ⟨g, q * 6 + 3, none⟩ (.slice x.r.a x.r.n x.r.c)).setCell ⟨g, q * 6 + 4, none⟩ (.slice x.m.a x.m.n x.m.c)).setCell ⟨g, q * 6 + 5, none⟩ (.slice x.d.a x.d.n x.d.c)) := by
  obtain ⟨⟨n, ki, li, rs, ms, ds⟩, r, m, d⟩ := x
  simp only at h1 h2 h3
  subst h1 h2 h3
  have a := h.below k
  have hm := h.made k hq e
  have hr : SlK W (fun i => i ≠ b ∧ i ≠ g ∧ B ≤ i) eR r rs := h.new_ (by omega) e hx.rows
  have hmm : SlK W (fun i => i ≠ b ∧ i ≠ g ∧ B ≤ i) eM m ms := h.new_ (by omega) e hx.msgs
  have hd : SlK W (fun i => i ≠ b ∧ i ≠ g ∧ B ≤ i) eM d ds := h.new_ (by omega) e hx.dead
  have kp : ∀ {W1 : World} {y : Oc}, OcK W1 (fun i => i ≠ b ∧ i ≠ g ∧ B ≤ i) y → ∀ (i : Nat) (u : Value), OcK (W1.setCell ⟨g, i, none⟩ u) (fun i => i ≠ b ∧ i ≠ g ∧ B ≤ i) y := fun hy i u =>
    hy.keep ((Keep.refl _).setCell (K := fun i _ => i ≠ g) (fun _ _ h => h rfl) u) fun _ _ _ hi => hi.2.1
  have hy3 : OcK W (fun i => i ≠ b ∧ i ≠ g ∧ B ≤ i) ⟨{ xs[q].o with rows := rs }, r, xs[q].m, xs[q].d⟩ := ⟨hr, hm.msgs, hm.dead⟩
  have hy4 : OcK W (fun i => i ≠ b ∧ i ≠ g ∧ B ≤ i) ⟨{ xs[q].o with rows := rs, msgs := ms }, r, m, xs[q].d⟩ := ⟨hr, hmm, hm.dead⟩
  have hy5 : OcK W (fun i => i ≠ b ∧ i ≠ g ∧ B ≤ i) ⟨{ xs[q].o with rows := rs, msgs := ms, dead := ds }, r, m, d⟩ := ⟨hr, hmm, hd⟩
  have s0 := a.put hq e xs[q] 0 (.string xs[q].o.name) (by omega) rfl hm
  have s1 := s0.put (q := q) (by simpa using hq) e xs[q] 1 (.int .i64 xs[q].o.kind) (by omega) (by rw [List.getElem_set_self]; rfl) (kp hm _ _)
  have s2 := s1.put (q := q) (by simpa using hq) e xs[q] 2 (.int .i64 xs[q].o.limit) (by omega) (by rw [List.getElem_set_self]; rfl) (kp (kp hm _ _) _ _)
  have s3 := s2.put (q := q) (by simpa using hq) e ⟨{ xs[q].o with rows := rs }, r, xs[q].m, xs[q].d⟩ 3 (.slice r.a r.n r.c) (by omega) (by rw [List.getElem_set_self]; rfl) (kp (kp (kp hy3 _ _) _ _) _ _)
  have s4 := s3.put (q := q) (by simpa using hq) e ⟨{ xs[q].o with rows := rs, msgs := ms }, r, m, xs[q].d⟩ 4 (.slice m.a m.n m.c) (by omega) (by rw [List.getElem_set_self]; rfl) (kp (kp (kp (kp hy4 _ _) _ _) _ _) _ _)
  have s5 := s4.put (q := q) (by simpa using hq) e ⟨{ xs[q].o with rows := rs, msgs := ms, dead := ds }, r, m, d⟩ 5 (.slice d.a d.n d.c) (by omega) (by rw [List.getElem_set_self]; rfl) (kp (kp (kp (kp (kp hy5 _ _) _ _) _ _) _ _) _ _)
  simp only [List.set_set, Nat.add_zero] at s5
  exact s5
end
end Go.Proofs.YtjfoflbaoceemaaGreat
namespace Go.Proofs.YtjfoflbaoceemaaGreat
open Go.RowKit
set_option maxHeartbeats 400000 in
theorem clone_r {w : World} {K : Nat → Prop} {A : Option Addr} {n c : Nat} {l : List Rw} (h : Lst w K eR A l) (hl : l.length = n) (hn : n ≤ 100000) (hA : A = none → c = 0) :
    Calls Tryz.prog 144 #[.slice A n c] w fun e w' => ∃ v, e = .returned v ∧ OwnR w' w.heap.size v l ∧ Below w.heap.size w w' := by
  rcases A with _ | a
  · have hc := hA rfl
    have hx : l = [] := h.none_
    subst hx
    simp only [List.length_nil] at hl
    subst hc hl
    clear h hA
    have hnil := fun (W : World) => Lib.run_eql_slice_nil (P := Tryz.prog) W 74 143 none 0 0 0 0 Tryz.underlying74
    simp only [Option.isNone_none] at hnil
    go_enter Tryz.func144, Tryz.ntmps144
    go_wp2
    go_ret
    exact ⟨_, rfl, own_nil _ _, Below.refl _ _⟩
  · have hnil := fun (W : World) => Lib.run_eql_slice_nil (P := Tryz.prog) W 74 143 (some a) n c 0 0 Tryz.underlying74
    simp only [Option.isNone_some] at hnil
    obtain ⟨v', W', hap, ho, hg, hat⟩ := append_own tyR (own_empty w w.heap.size (Nat.le_refl _)) (h.below (alloc_below w (.cells #[] 143))) hl c (by show 0 + n ≤ _; omega) (by simp)
    rw [List.nil_append] at ho
    have hbel : Below w.heap.size w W' := ((Below.refl _ _).alloc (Nat.le_refl _) _).grown hg (by simp) (by intro k hk; simp [Value.ownBlock] at hk; omega)
    have HBE := Lib.hid hbel
    have HO := Lib.hid ho
    clear ho hg hat hbel h hA hl
    go_enter Tryz.func144, Tryz.ntmps144
    go_wp2_with (at_builtin; refine wpList_append_run rfl (.tmp 5) (.tmp 6) 74 74 rfl _ _ rfl rfl hap ?_)
    go_ret
    exact ⟨_, rfl, HO.out, HBE.out⟩
end Go.Proofs.YtjfoflbaoceemaaGreat
namespace Go.Proofs.YtjfoflbaoceemaaGreat
open Go.RowKit
set_option maxHeartbeats 400000 in
theorem clone_m {w : World} {K : Nat → Prop} {A : Option Addr} {n c : Nat} {l : List Mg} (h : Lst w K eM A l) (hl : l.length = n) (hn : n ≤ 100000) (hA : A = none → c = 0) :
    Calls Tryz.prog 145 #[.slice A n c] w fun e w' => ∃ v, e = .returned v ∧ OwnM w' w.heap.size v l ∧ Below w.heap.size w w' := by
  rcases A with _ | a
  · have hc := hA rfl
    have hx : l = [] := h.none_
    subst hx
    simp only [List.length_nil] at hl
    subst hc hl
    clear h hA
    have hnil := fun (W : World) => Lib.run_eql_slice_nil (P := Tryz.prog) W 75 44 none 0 0 0 0 Tryz.underlying75
    simp only [Option.isNone_none] at hnil
    go_enter Tryz.func145, Tryz.ntmps145
    go_wp2
    go_ret
    exact ⟨_, rfl, own_nil _ _, Below.refl _ _⟩
  · have hnil := fun (W : World) => Lib.run_eql_slice_nil (P := Tryz.prog) W 75 44 (some a) n c 0 0 Tryz.underlying75
    simp only [Option.isNone_some] at hnil
    obtain ⟨v', W', hap, ho, hg, hat⟩ := append_own tyM (own_empty w w.heap.size (Nat.le_refl _)) (h.below (alloc_below w (.cells #[] 44))) hl c (by show 0 + n ≤ _; omega) (by simp)
    rw [List.nil_append] at ho
    have hbel : Below w.heap.size w W' := ((Below.refl _ _).alloc (Nat.le_refl _) _).grown hg (by simp) (by intro k hk; simp [Value.ownBlock] at hk; omega)
    have HBE := Lib.hid hbel
    have HO := Lib.hid ho
    clear ho hg hat hbel h hA hl
    go_enter Tryz.func145, Tryz.ntmps145
    go_wp2_with (at_builtin; refine wpList_append_run rfl (.tmp 5) (.tmp 6) 75 75 rfl _ _ rfl rfl hap ?_)
    go_ret
    exact ⟨_, rfl, HO.out, HBE.out⟩
end Go.Proofs.YtjfoflbaoceemaaGreat
