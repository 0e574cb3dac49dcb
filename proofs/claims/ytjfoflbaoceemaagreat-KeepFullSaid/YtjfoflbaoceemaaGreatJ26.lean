/- . . . . . -/
import Derived.Test.YtjfoflbaoceemaaGreatJ25
import Derived.Test.YtjfoflbaoceemaaGreatJ24
import Derived.Test.YtjfoflbaoceemaaGreatJ14
import Derived.Test.YtjfoflbaoceemaaGreatJ15
import Derived.Test.YtjfoflbaoceemaaGreatJ22
import Derived.Lib.SliceRun
import Derived.Deep.RegionLaw
import Derived.Shelf.RegionOpenPlain
import Derived.Test.YtjfoflbaoceemaaGreatProg
import Derived.Test.YtjfoflbaoceemaaGreatJ01
import Derived.WalkKit
import Derived.ProofKit
import Derived.Lib.Hide
import Derived.RegionTactic
import Derived.Deep.QuietTactic
import Derived.BigQuiet
set_option maxRecDepth 4000
namespace Go.Proofs.YtjfoflbaoceemaaGreat
open Go.RowKit
theorem own_set6 {W : World} {base g n c : Nat} {ys : List Mg} (h : OwnM W base (.slice (some ⟨g, 0, none⟩) n c) ys) {q : Nat} (hq : q < ys.length) (x : Mg) :
    OwnM ((((((W.setCell ⟨g, q * 6, none⟩ (.int .i64 x.id)).setCell ⟨g, q * 6 + 1, none⟩ (.int .i64 x.pri)).setCell ⟨g, q * 6 + 2, none⟩ (.int .i64 x.retry)).setCell ⟨g, q * 6 + 3, none⟩ (.bool x.claimed)).setCell ⟨g, q * 6 + 4, none⟩ (.string x.corr)).setCell ⟨g, q * 6 + 5, none⟩ (.string x.body)) base (.slice (some ⟨g, 0, none⟩) n c) (ys.set q x) := by
  obtain ⟨y0, y1, y2, y3, y4, y5, hy⟩ : ∃ a b c d e f, ys[q] = (⟨a, b, c, d, e, f⟩ : Mg) := ⟨_, _, _, _, _, _, rfl⟩
  obtain ⟨x0, x1, x2, x3, x4, x5⟩ := x
  have hk : eM.k = 6 := rfl
  have s0 := own_set1 h hq ⟨x0, y1, y2, y3, y4, y5⟩ (i := 0) (u := .int .i64 x0) (by rw [hk]; omega) (by rw [hy]; rfl)
  have s1 := own_set1 s0 (q := q) (by rw [List.length_set]; exact hq) ⟨x0, x1, y2, y3, y4, y5⟩ (i := 1) (u := .int .i64 x1) (by rw [hk]; omega) (by rw [List.getElem_set_self]; rfl)
  have s2 := own_set1 s1 (q := q) (by rw [List.length_set, List.length_set]; exact hq) ⟨x0, x1, x2, y3, y4, y5⟩ (i := 2) (u := .int .i64 x2) (by rw [hk]; omega) (by rw [List.getElem_set_self]; rfl)
  have s3 := own_set1 s2 (q := q) (by rw [List.length_set, List.length_set, List.length_set]; exact hq) ⟨x0, x1, x2, x3, y4, y5⟩ (i := 3) (u := .bool x3) (by rw [hk]; omega) (by rw [List.getElem_set_self]; rfl)
  have s4 := own_set1 s3 (q := q) (by rw [List.length_set, List.length_set, List.length_set, List.length_set]; exact hq) ⟨x0, x1, x2, x3, x4, y5⟩ (i := 4) (u := .string x4) (by rw [hk]; omega) (by rw [List.getElem_set_self]; rfl)
  have s5 := own_set1 s4 (q := q) (by rw [List.length_set, List.length_set, List.length_set, List.length_set, List.length_set]; exact hq) ⟨x0, x1, x2, x3, x4, x5⟩ (i := 5) (u := .string x5) (by rw [hk]; omega) (by rw [List.getElem_set_self]; rfl)
  simp only [List.set_set, hk, Nat.add_zero] at s5
  exact s5
structure FrS (w : World) (a : Array Value) (O : Nat) (o : Ob) (r m d : Value) (W : World) : Prop where
  below : Below w.heap.size w W
  arg : Blk W w.heap.size 77 a
  res : Blk W (w.heap.size + 1) 77 #[.string ⟨#[]⟩, .int .i64 0, .int .i64 0, .slice none 0 0, .slice none 0 0, .slice none 0 0]
  obj : Blk W O 77 (o.cells r m d)
  out : w.heap.size + 2 ≤ O
  own : ObOwn W (w.heap.size + 2) o r m d
  n1 : r.ownBlock ≠ some O
  n2 : m.ownBlock ≠ some O
  n3 : d.ownBlock ≠ some O
section
variable {w W W' : World} {a : Array Value} {O : Nat} {o : Ob} {r m d : Value}
theorem FrS.step (h : FrS w a O o r m d W) (k : Below W.heap.size W W') : FrS w a O o r m d W' :=
  ⟨h.below.trans (k.mono h.below.size), h.arg.below k h.arg.lt, h.res.below k h.res.lt, h.obj.below k h.obj.lt, h.out, h.own.below k, h.n1, h.n2, h.n3⟩
theorem FrS.new {w w0 w1 : World} {o : Ob} {r m d : Value} {cs : Array Value} (hT : TwoB w 77 cs #[.string ⟨#[]⟩, .int .i64 0, .int .i64 0, .slice none 0 0, .slice none 0 0, .slice none 0 0] w0) (ho : ObOwn w1 w0.heap.size o r m d) (hb : Below w0.heap.size w0 w1) :
    FrS w cs w1.heap.size o r m d (w1.alloc (.cells (o.cells r m d) 77)) := by
  have h1 := hT.step hb
  have h2 := h1.step (alloc_below w1 (.cells (o.cells r m d) 77))
  have lt : ∀ {v : Value}, (∀ g, v.ownBlock = some g → g < w1.heap.size) → v.ownBlock ≠ some w1.heap.size := fun h e => Nat.lt_irrefl _ (h _ e)
  exact ⟨h2.below, h2.obj, h2.res, Blk.new w1 _ _, h1.size, (ho.below (alloc_below w1 _)).base hT.size, lt fun g e => (own_blk ho.rows e).2.1, lt fun g e => (own_blk ho.msgs e).2.1, lt fun g e => (own_blk ho.dead e).2.1⟩
theorem FrS.turn (h : FrS w a O o r m d W) {g : Nat} (hm : m.ownBlock = some g) (k : Keep (fun i _ => i ≠ g) W W') {ms : List Mg} (hms : OwnM W' (w.heap.size + 2) m ms) : FrS w a O { o with msgs := ms } r m d W' := by
  obtain ⟨hg1, hg2, _⟩ := own_blk h.own.msgs hm
  have hO : O ≠ g := fun e => h.n2 (by rw [hm, e])
  refine ⟨h.below.trans (k.below h.below.size fun i _ hi e => ?_), h.arg.keep k (by omega), h.res.keep k (by omega), h.obj.keep k hO, h.out, ⟨?_, hms, ?_, h.own.a1, h.own.a2⟩, h.n1, h.n2, h.n3⟩
  · omega
  · exact own_keep h.own.rows fun i hi => by
      obtain ⟨ob, hob⟩ : ∃ ob, W.heap[i]? = some ob := ⟨_, (own_blk h.own.rows hi).2.2.choose_spec⟩
      rw [hob]
      exact k.block i ob hob fun e => (h.own.a1 i hi).1 (by rw [hm, e])
  · exact own_keep h.own.dead fun i hi => by
      obtain ⟨ob, hob⟩ : ∃ ob, W.heap[i]? = some ob := ⟨_, (own_blk h.own.dead hi).2.2.choose_spec⟩
      rw [hob]
      exact k.block i ob hob fun e => h.own.a2 g hm (by rw [hi, e])
theorem FrS.recut (h : FrS w a O o r m d W) {g : Nat} (hm : m.ownBlock = some g) (k : Keep (fun i _ => i ≠ g) W W') {m' : Value} (hm' : m'.ownBlock = m.ownBlock) {ms : List Mg} (hms : OwnM W' (w.heap.size + 2) m' ms) :
    Blk W' O 77 (o.cells r m d) ∧ FrS w a O { o with msgs := ms } r m' d (W'.setCell ⟨O, 4, none⟩ m') := by
  obtain ⟨hg1, hg2, _⟩ := own_blk h.own.msgs hm
  have hO : O ≠ g := fun e => h.n2 (by rw [hm, e])
  have h4 := h.out
  have hob := h.obj.keep k hO
  refine ⟨hob, (h.below.trans (k.below h.below.size fun i _ hi e => ?_)).setCell (by show w.heap.size ≤ O; omega) _, (h.arg.keep k (by omega)).far (by show w.heap.size ≠ O; omega) _, (h.res.keep k (by omega)).far (by show w.heap.size + 1 ≠ O; omega) _, ?_, h.out, ⟨own_far ?_ h.n1 _, own_far hms (by rw [hm']; exact h.n2) _, own_far ?_ h.n3 _, ?_, ?_⟩, h.n1, by rw [hm']; exact h.n2, h.n3⟩
  · omega
  · have := hob.set_ 4 m'
    simpa [Ob.cells] using this
  · exact own_keep h.own.rows fun i hi => by
      obtain ⟨ob, hob⟩ : ∃ ob, W.heap[i]? = some ob := ⟨_, (own_blk h.own.rows hi).2.2.choose_spec⟩
      rw [hob]
      exact k.block i ob hob fun e => (h.own.a1 i hi).1 (by rw [hm, e])
  · exact own_keep h.own.dead fun i hi => by
      obtain ⟨ob, hob⟩ : ∃ ob, W.heap[i]? = some ob := ⟨_, (own_blk h.own.dead hi).2.2.choose_spec⟩
      rw [hob]
      exact k.block i ob hob fun e => h.own.a2 g hm (by rw [hi, e])
  · rw [hm']; exact h.own.a1
  · rw [hm']; exact h.own.a2
theorem FrS.mnew (h : FrS w a O o r m d W) (k : Below W.heap.size W W') {m' : Value} {ms : List Mg} (hms : OwnM W' W.heap.size m' ms) :
    Blk W' O 77 (o.cells r m d) ∧ FrS w a O { o with msgs := ms } r m' d (W'.setCell ⟨O, 4, none⟩ m') := by
  have h4 := h.out
  have hs := h.step k
  have hl := h.obj.lt
  have hn : ∀ i, i < W.heap.size → m'.ownBlock ≠ some i := fun i hi => own_out hms hi
  refine ⟨hs.obj, hs.below.setCell (by show w.heap.size ≤ O; omega) _, hs.arg.far (by show w.heap.size ≠ O; omega) _, hs.res.far (by show w.heap.size + 1 ≠ O; omega) _, ?_, h.out, ⟨own_far hs.own.rows h.n1 _, own_far (own_base hms (by have := h.res.lt; omega)) (hn O hl) _, own_far hs.own.dead h.n3 _, ?_, ?_⟩, h.n1, hn O hl, h.n3⟩
  · have := hs.obj.set_ 4 m'
    simpa [Ob.cells] using this
  · exact fun g hg => ⟨hn g (own_blk h.own.rows hg).2.1, (h.own.a1 g hg).2⟩
  · exact fun g hg e => hn g (own_blk h.own.dead e).2.1 hg
theorem FrS.dead (h : FrS w a O o r m d W) {d' : Value} {ds : List Mg} (hg : W.grownBy W' d.ownBlock) (hd : OwnM W' (w.heap.size + 2) d' ds) (hb : d'.ownBlock = d.ownBlock ∨ ∃ N, d'.ownBlock = some N ∧ W.heap.size ≤ N) :
    Blk W' O 77 (o.cells r m d) ∧ FrS w a O { o with dead := ds } r m d' (W'.setCell ⟨O, 5, none⟩ d') := by
  have h4 := h.out
  have hOl := h.obj.lt
  have kO : ∀ i, i < W.heap.size → d.ownBlock ≠ some i → W'.heap[i]? = W.heap[i]? := fun i hi hne => hg.block i hi fun e => hne e.symm
  have nO : d'.ownBlock ≠ some O := by
    rcases hb with e | ⟨N, e, hN⟩
    · rw [e]; exact h.n3
    · rw [e]; intro e; injection e with e; omega
  have hlr : ∀ g, r.ownBlock = some g → d'.ownBlock ≠ some g := fun g hg' => by
    rcases hb with e | ⟨N, e, hN⟩
    · rw [e]; exact (h.own.a1 g hg').2
    · rw [e]; intro e; injection e with e
      have := (own_blk h.own.rows hg').2.1
      omega
  have hlm : ∀ g, m.ownBlock = some g → d'.ownBlock ≠ some g := fun g hg' => by
    rcases hb with e | ⟨N, e, hN⟩
    · rw [e]; exact h.own.a2 g hg'
    · rw [e]; intro e; injection e with e
      have := (own_blk h.own.msgs hg').2.1
      omega
  have hbel : Below w.heap.size w W' := h.below.grown hg h.below.size fun g e => by
    have := (own_blk h.own.dead e).1
    omega
  have hR : Blk W' (w.heap.size + 1) 77 #[.string ⟨#[]⟩, .int .i64 0, .int .i64 0, .slice none 0 0, .slice none 0 0, .slice none 0 0] := (kO _ h.res.lt (own_out h.own.dead (by omega))).trans h.res
  have hA : Blk W' w.heap.size 77 a := (kO _ h.arg.lt (own_out h.own.dead (by omega))).trans h.arg
  have hOb : Blk W' O 77 (o.cells r m d) := (kO _ hOl h.n3).trans h.obj
  refine ⟨hOb, hbel.setCell (by show w.heap.size ≤ O; omega) _, hA.far (by show w.heap.size ≠ O; omega) _, hR.far (by show w.heap.size + 1 ≠ O; omega) _, ?_, h.out, ⟨own_far ?_ h.n1 _, own_far ?_ h.n2 _, own_far hd nO _, fun g hg' => ⟨(h.own.a1 g hg').1, hlr g hg'⟩, hlm⟩, h.n1, h.n2, nO⟩
  · have := hOb.set_ 5 d'
    simpa [Ob.cells] using this
  · exact own_keep h.own.rows fun i hi => kO i (own_blk h.own.rows hi).2.1 (h.own.a1 i hi).2
  · exact own_keep h.own.msgs fun i hi => kO i (own_blk h.own.msgs hi).2.1 (h.own.a2 i hi)
theorem FrS.last (h : FrS w a O o r m d W) : Below w.heap.size w ((((((W.setCell ⟨w.heap.size + 1, 0, none⟩ (.string o.name)).setCell ⟨w.heap.size + 1, 1, none⟩ (.int .i64 o.kind)).setCell ⟨w.heap.size + 1, 2, none⟩ (.int .i64 o.limit)).setCell ⟨w.heap.size + 1, 3, none⟩ r).setCell ⟨w.heap.size + 1, 4, none⟩ m).setCell ⟨w.heap.size + 1, 5, none⟩ d) ∧
    Blk ((((((W.setCell ⟨w.heap.size + 1, 0, none⟩ (.string o.name)).setCell ⟨w.heap.size + 1, 1, none⟩ (.int .i64 o.kind)).setCell ⟨w.heap.size + 1, 2, none⟩ (.int .i64 o.limit)).setCell ⟨w.heap.size + 1, 3, none⟩ r).setCell ⟨w.heap.size + 1, 4, none⟩ m).setCell ⟨w.heap.size + 1, 5, none⟩ d) (w.heap.size + 1) 77 (o.cells r m d) ∧
    ObOwn ((((((W.setCell ⟨w.heap.size + 1, 0, none⟩ (.string o.name)).setCell ⟨w.heap.size + 1, 1, none⟩ (.int .i64 o.kind)).setCell ⟨w.heap.size + 1, 2, none⟩ (.int .i64 o.limit)).setCell ⟨w.heap.size + 1, 3, none⟩ r).setCell ⟨w.heap.size + 1, 4, none⟩ m).setCell ⟨w.heap.size + 1, 5, none⟩ d) w.heap.size o r m d :=
  ⟨below_six h.below (by omega) _ _ _ _ _ _, blk_store6 h.res, own_six h.own.rows _ _ _ _ _ _, own_six h.own.msgs _ _ _ _ _ _, own_six h.own.dead _ _ _ _ _ _, h.own.a1, h.own.a2⟩
end
end Go.Proofs.YtjfoflbaoceemaaGreat
namespace Go.Proofs.YtjfoflbaoceemaaGreat
open Go.RowKit
structure ShutF (p : Prop) : Prop where out : p
def Freed (w : World) (o : Ob) (id : Int) (tried : Bool) (e : Ending) (w' : World) : Prop :=
  ∃ r' m' d', e = .returned (.tuple #[(freeO o id tried).val r' m' d', .bool (freeOk o id)]) ∧ ObOwn w' w.heap.size (freeO o id tried) r' m' d' ∧ Below w.heap.size w w'
theorem FrS.freed {w W : World} {a : Array Value} {O : Nat} {o o' : Ob} {r m d : Value} (h : FrS w a O o' r m d W) {id : Int} {tried b : Bool} (hf : freeOk o id = b ∧ freeO o id tried = o') :
    Freed w o id tried (.returned (.tuple #[.agg #[.string o'.name, .int .i64 o'.kind, .int .i64 o'.limit, r, m, d], .bool b])) ((((((W.setCell ⟨w.heap.size + 1, 0, none⟩ (.string o'.name)).setCell ⟨w.heap.size + 1, 1, none⟩ (.int .i64 o'.kind)).setCell ⟨w.heap.size + 1, 2, none⟩ (.int .i64 o'.limit)).setCell ⟨w.heap.size + 1, 3, none⟩ r).setCell ⟨w.heap.size + 1, 4, none⟩ m).setCell ⟨w.heap.size + 1, 5, none⟩ d) := by
  obtain ⟨h1, h2⟩ := hf
  subst h1 h2
  obtain ⟨k1, _, k3⟩ := h.last
  exact ⟨r, m, d, rfl, k3, k1⟩
theorem blk_behind {w w3 : World} {T : TypeId} {cs : Array Value} (hb : Below (w.alloc (.cells cs T)).drew.heap.size (w.alloc (.cells cs T)).drew w3) : Blk w3 w.heap.size T cs := (Blk.new w T cs).drew.below hb (by simp)
theorem keep_six_at (w : World) (g i : Nat) (a b c d e f : Value) : Keep (fun j _ => j ≠ g) w ((((((w.setCell ⟨g, i, none⟩ a).setCell ⟨g, i + 1, none⟩ b).setCell ⟨g, i + 2, none⟩ c).setCell ⟨g, i + 3, none⟩ d).setCell ⟨g, i + 4, none⟩ e).setCell ⟨g, i + 5, none⟩ f) := by
  have hp : ∀ o : Obj, w.heap[g]? = some o → ¬ (g ≠ g) := fun _ _ h => h rfl
  exact ((((((Keep.refl w).setCell (p := ⟨g, i, none⟩) hp a).setCell (p := ⟨g, i + 1, none⟩) hp b).setCell (p := ⟨g, i + 2, none⟩) hp c).setCell (p := ⟨g, i + 3, none⟩) hp d).setCell (p := ⟨g, i + 4, none⟩) hp e).setCell (p := ⟨g, i + 5, none⟩) hp f
theorem append_m {W : World} {base n : Nat} {v : Value} {l : List Mg} (ho : OwnM W base v l) (hn : l.length = n) (hn2 : n ≤ 100000) (hb : base ≤ W.heap.size) (x : Mg) :
    ∃ A c W', (Builtin.append_ #[75, 75] 75 #[v, .slice (some ⟨W.heap.size, 0, none⟩) 1 1]).run Tryz.prog (W.alloc (.cells x.cells 44)) = .ok (.slice A (n + 1) c) W' ∧ OwnM W' base (.slice A (n + 1) c) (l ++ [x]) ∧ (W.alloc (.cells x.cells 44)).grownBy W' v.ownBlock ∧
      ((Value.slice A (n + 1) c).ownBlock = v.ownBlock ∨ ∃ N, (Value.slice A (n + 1) c).ownBlock = some N ∧ (W.alloc (.cells x.cells 44)).heap.size ≤ N) := by
  have hal := alloc_below W (.cells x.cells 44)
  have hone := one_lst eM W 44 x (cs := x.cells) rfl
  obtain ⟨v', W', hap, ho', hg, hv⟩ := append_own tyM (own_belowE ho hal) hone rfl 1 (by show l.length + 1 ≤ _; omega) (Nat.le_trans hb hal.size)
  obtain ⟨A, c, rfl⟩ := own_shape ho' (n := n + 1) (by rw [List.length_append, hn]; rfl)
  refine ⟨A, c, W', hap, ho', hg, ?_⟩
  rcases hv with h | h
  · exact .inl h
  · exact .inr ⟨_, h, Nat.le_refl _⟩
theorem own_at {W : World} {base n c q : Nat} {A : Option Addr} {ys : List Mg} (hq : q < ys.length) (h : OwnM W base (.slice A n c) ys) :
    ∃ g, A = some ⟨g, 0, none⟩ ∧ base ≤ g ∧ W.cell? ⟨g, q * 6, none⟩ = some (.int .i64 ys[q].id) ∧ W.cell? ⟨g, q * 6 + 1, none⟩ = some (.int .i64 ys[q].pri) ∧ W.cell? ⟨g, q * 6 + 2, none⟩ = some (.int .i64 ys[q].retry) ∧
      W.cell? ⟨g, q * 6 + 3, none⟩ = some (.bool ys[q].claimed) ∧ W.cell? ⟨g, q * 6 + 4, none⟩ = some (.string ys[q].corr) ∧ W.cell? ⟨g, q * 6 + 5, none⟩ = some (.string ys[q].body) ∧ ∀ j, W.frozen? ⟨g, j, none⟩ = false := by
  obtain ⟨g, cur, rfl, hg, hb, hc⟩ := own_slot h (by omega)
  refine ⟨g, rfl, hg, ?_, ?_, ?_, ?_, ?_, ?_, fun j => hb.frozen j⟩
  · exact hc _ _ (cellsE_at eM hq (i := 0) rfl)
  · exact hc _ _ (cellsE_at eM hq (i := 1) rfl)
  · exact hc _ _ (cellsE_at eM hq (i := 2) rfl)
  · exact hc _ _ (cellsE_at eM hq (i := 3) rfl)
  · exact hc _ _ (cellsE_at eM hq (i := 4) rfl)
  · exact hc _ _ (cellsE_at eM hq (i := 5) rfl)
end Go.Proofs.YtjfoflbaoceemaaGreat
namespace Go.Proofs.YtjfoflbaoceemaaGreat
open Go.RowKit
section
variable {α : Type} {E : Enc α} {T : TypeId}
theorem own_delete {W : World} {base g n c : Nat} {ys : List α} (h : Own W base E T (.slice (some ⟨g, 0, none⟩) n c) ys) {q : Nat} (hq : q < ys.length) (zs : List Value) (hz : zs.length = E.k) :
    n = ys.length ∧ n ≤ c ∧ c ≤ maxLen ∧ ∃ cur cur1 : Array Value, Blk W g T cur ∧ cur.size = c * E.k ∧ Blk (W.setCells g (q * E.k) (cellsE E (ys.drop (q + 1)))) g T cur1 ∧ cur1.size = c * E.k ∧
      Own ((W.setCells g (q * E.k) (cellsE E (ys.drop (q + 1)))).setCells g ((n - 1) * E.k) zs) base E T (.slice (some ⟨g, 0, none⟩) (n - 1) c) (ys.eraseIdx q) := by
  rcases h.2 with ⟨e, _⟩ | ⟨g', cap, cur, e, hb, hh, hnc, hcm, hcs, htk⟩
  · cases e
  · injection e with e1 e2 e3
    injection e1 with e1
    injection e1 with e1 _ _
    subst e1 e2 e3
    have hk := E.pos
    have hce : cellsE E ys = cellsE E (ys.take q) ++ (E.enc ys[q] ++ cellsE E (ys.drop (q + 1))) := by
      conv => lhs; rw [← List.take_append_drop q ys, List.drop_eq_getElem_cons hq, cellsE_append, cellsE]
    have hpl : (cellsE E (ys.take q)).length = q * E.k := by rw [cellsE_length, List.length_take, Nat.min_eq_left (by omega)]
    have hdl : (cellsE E (ys.drop (q + 1))).length = (ys.length - (q + 1)) * E.k := by rw [cellsE_length, List.length_drop]
    have hlen : (E.enc ys[q]).length = E.k := E.len _
    obtain ⟨mid, hmid⟩ : ∃ mid, mid = E.enc ys[q] ++ cellsE E (ys.drop (q + 1)) := ⟨_, rfl⟩
    have hml : mid.length = E.k + (ys.length - (q + 1)) * E.k := by rw [hmid, List.length_append, hlen, hdl]
    obtain ⟨rest, hrest⟩ : ∃ rest, rest = cur.toList.drop (ys.length * E.k) := ⟨_, rfl⟩
    have hcur : cur.toList = cellsE E (ys.take q) ++ mid ++ rest := by
      conv => lhs; rw [← List.take_append_drop (ys.length * E.k) cur.toList, htk, hce]
      rw [hmid, hrest]
    obtain ⟨news, hnews⟩ : ∃ news, news = cellsE E (ys.drop (q + 1)) := ⟨_, rfl⟩
    rw [← hnews]
    rw [← hnews] at hdl
    have hb0 : Blk W g T (cellsE E (ys.take q) ++ mid.take news.length ++ (mid.drop news.length ++ rest)).toArray := by
      have : cellsE E (ys.take q) ++ mid.take news.length ++ (mid.drop news.length ++ rest) = cellsE E (ys.take q) ++ mid ++ rest := by
        rw [List.append_assoc, ← List.append_assoc (mid.take _), List.take_append_drop, List.append_assoc]
      rw [this, ← hcur]
      exact hh
    have hb1 := blk_setCells news _ (mid.take news.length) _ W (by rw [List.length_take]; omega) hb0
    rw [hpl] at hb1
    have hb1' : Blk (W.setCells g (q * E.k) news) g T ((cellsE E (ys.take q) ++ news) ++ mid.drop news.length ++ rest).toArray := by
      have : (cellsE E (ys.take q) ++ news) ++ mid.drop news.length ++ rest = cellsE E (ys.take q) ++ news ++ (mid.drop news.length ++ rest) := by simp only [List.append_assoc]
      rw [this]
      exact hb1
    have hb2 := blk_setCells zs _ (mid.drop news.length) _ _ (by rw [List.length_drop, hml, hdl]; omega) hb1'
    have hqk : (cellsE E (ys.take q) ++ news).length = (ys.length - 1) * E.k := by
      rw [List.length_append, hpl, hdl, ← Nat.add_mul]
      congr 1
      omega
    rw [hqk] at hb2
    have hsz := congrArg List.length hcur
    simp only [Array.length_toList, List.length_append, hpl, hml] at hsz
    have hdm : (mid.drop news.length).length = E.k := by rw [List.length_drop, hml, hdl]; omega
    refine ⟨rfl, hnc, hcm, cur, _, hh, hcs, hb1, ?_, ?_⟩
    · simp only [List.size_toArray, List.length_append]
      rw [hpl, hdm]
      omega
    · have hel : (ys.eraseIdx q).length = ys.length - 1 := List.length_eraseIdx_of_lt hq
      have hec : cellsE E (ys.eraseIdx q) = cellsE E (ys.take q) ++ news := by rw [List.eraseIdx_eq_take_drop_succ, cellsE_append, hnews]
      refine ⟨by rw [cellsE_length], .inr ⟨g, c, _, by rw [hel], hb, hb2, by rw [hel]; omega, hcm, ?_, ?_⟩⟩
      · simp only [List.size_toArray, List.length_append, hpl, hdl, hz]
        omega
      · rw [hel, hec, List.toList_toArray, ← hqk, List.append_assoc, List.take_left]
end
end Go.Proofs.YtjfoflbaoceemaaGreat
namespace Go.Proofs.YtjfoflbaoceemaaGreat
open Go.RowKit
structure ShutD (p : Prop) : Prop where out : p
def zcM : List Value := [.int .i64 0, .int .i64 0, .int .i64 0, .bool false, .string ⟨#[]⟩, .string ⟨#[]⟩]
theorem zc_at (w : World) (ty : TypeId) (b o c : Nat) (hc : ∀ j, j < 6 → (w.cell? ⟨b, o + j, none⟩).isSome = true) (hf : ∀ j, j < 6 → w.frozen? ⟨b, o + j, none⟩ = false) :
    (Builtin.clear_ #[75] ty #[.slice (some ⟨b, o, none⟩) 1 c]).run Tryz.prog w = .ok (.tuple #[]) (w.setCells b o zcM) := by
  have hst := run_storeCells_cells (P := Tryz.prog) b o zcM 0 w (by simpa [zcM] using hc) (by simpa [zcM] using hf) (by intro v hv; simp [zcM] at hv; rcases hv with rfl | rfl | rfl <;> rfl)
  simp only [Nat.add_zero] at hst
  have hz : (Builtin.zeroCells (Value.agg #[.int .i64 0, .int .i64 0, .int .i64 0, .bool false, .string ⟨#[]⟩, .string ⟨#[]⟩]).cells 1).toList = zcM := by kernel_rfl
  rw [← hz] at hst ⊢
  simp [Builtin.clear_, run_underlying Tryz.underlying75, Tryz.zeroValue44, hst]
theorem grown_setCells {w w1 : World} {g : Nat} (h : w.grownBy w1 (some g)) (o : Nat) (vs : List Value) : w.grownBy (w1.setCells g o vs) (some g) := by
  obtain ⟨h1, h2, h3, h4⟩ := setCells_plain g vs o w1
  exact ⟨h1.trans h.os, h2.trans h.tape, h3.trans h.output, by rw [h4]; exact h.size, fun i hi hne => (heap_setCells_far g vs o w1 i (fun e => hne (by rw [e]))).trans (h.block i hi hne)⟩
set_option maxHeartbeats 4000000 in
theorem delete_m {w : World} {base : Nat} {v : Value} {l : List Mg} {q : Nat} (ho : OwnM w base v l) (hq : q < l.length) (hn : l.length ≤ 100000) :
    Calls Tryz.prog 246 #[v, .int .i64 (q : Int), .int .i64 ((q : Int) + 1)] w fun e w' => ∃ v', e = .returned v' ∧ OwnM w' base v' (l.eraseIdx q) ∧ v'.ownBlock = v.ownBlock ∧ w.grownBy w' v.ownBlock := by
  obtain ⟨A, c, rfl⟩ := own_shape ho rfl
  obtain ⟨g, _, rfl, _⟩ := own_slot ho (by omega)
  have hod : OwnM w.drew base (.slice (some ⟨g, 0, none⟩) l.length c) l := ho
  obtain ⟨_, hlc, hcm, cur, cur1, hB, hBs, hB1, hB1s, hO1⟩ := own_delete hod hq zcM rfl
  obtain ⟨A0, c0, e0, hlst, _⟩ := own_lst hod
  injection e0 with eA _ ec
  subst eA ec
  obtain ⟨A', hsl, hL, hno⟩ := tail_m hlst rfl hlc (show q + 1 ≤ l.length by omega) rfl
  obtain ⟨a', rfl⟩ : ∃ a, A' = some a := by
    rcases A' with _ | a
    · cases hno rfl
    · exact ⟨a, rfl⟩
  have hsl' : ∀ W, (Instr.slice 75 (.slice (some ⟨g, 0, none⟩) l.length c) (some (.int .i64 ((q : Int) + 1))) none none).run Tryz.prog W = .ok (.slice (some a') (l.length - (q + 1)) (c - (q + 1))) W := hsl
  have hsrc : ∀ t u, (cellsE eM (l.drop (q + 1)))[t]? = some u → w.drew.cell? (a'.add t) = some u := fun t u hu => by
    have h0 : 0 < (l.drop (q + 1)).length := by
      rcases Nat.eq_zero_or_pos (l.drop (q + 1)).length with h0 | h0
      · rw [List.eq_nil_of_length_eq_zero h0] at hu
        simp [cellsE] at hu
      · exact h0
    obtain ⟨b, o, e, _, _, hc⟩ := hL h0
    injection e with e
    subst e
    rw [add_none]
    exact hc t u hu
  have hnl : (cellsE eM (l.drop (q + 1))).length = (l.length - (q + 1)) * 6 := by rw [cellsE_length, List.length_drop]; rfl
  have hk6 : eM.k = 6 := rfl
  rw [hk6] at hBs hB1 hB1s hO1
  have hone := cellsE_one eM (l.drop (q + 1))
  have hspare : ∀ t, t < (cellsE eM (l.drop (q + 1))).length → (w.drew.cell? ⟨g, 0 + q * 6 + t, none⟩).isSome = true ∧ w.drew.frozen? ⟨g, 0 + q * 6 + t, none⟩ = false := fun t ht => by
    rw [hnl] at ht
    refine ⟨?_, hB.frozen _⟩
    rw [hB.cell, Array.getElem?_eq_getElem (by rw [hBs]; omega)]
    rfl
  have hW1e : w.drew.setCells g (0 + q * 6) (cellsE eM (l.drop (q + 1))) = w.drew.setCells g (q * 6) (cellsE eM (l.drop (q + 1))) := by rw [Nat.zero_add]
  have hg1 : w.grownBy (w.drew.setCells g (q * 6) (cellsE eM (l.drop (q + 1)))) (some g) := grown_setCells (w := w) (w1 := w.drew) ⟨rfl, rfl, rfl, Nat.le_refl _, fun _ _ _ => rfl⟩ _ _
  have hcl : ∀ ty, (Builtin.clear_ #[75] ty #[.slice (some ⟨g, (l.length - 1) * 6, none⟩) 1 (c - (l.length - 1))]).run Tryz.prog (w.drew.setCells g (q * 6) (cellsE eM (l.drop (q + 1)))) = .ok (.tuple #[]) ((w.drew.setCells g (q * 6) (cellsE eM (l.drop (q + 1)))).setCells g ((l.length - 1) * 6) zcM) := fun ty =>
    zc_at _ ty g ((l.length - 1) * 6) _ (fun j hj => by rw [hB1.cell, Array.getElem?_eq_getElem (by rw [hB1s]; omega)]; rfl) (fun j _ => hB1.frozen _)
  have hg2 := grown_setCells hg1 ((l.length - 1) * 6) zcM
  obtain ⟨i0, hi0, hz0, hz1, hz2⟩ := info_parts infoM
  generalize cellsE eM (l.drop (q + 1)) = news at *
  generalize hW1 : w.drew.setCells g (q * 6) news = W1 at *
  have HE := ShutD.mk hW1e
  have S1 := ShutD.mk hnl
  have S2 := ShutD.mk hsrc
  have S3 := ShutD.mk hone
  have S4 := ShutD.mk hspare
  have HO1 := ShutD.mk hO1
  have HG2 := ShutD.mk hg2
  have HCL := ShutD.mk hcl
  have mixed : Tryz.prog.follows .mixedOrders = true := by kernel_rfl
  clear ho hod hB hB1 hBs hB1s hO1 hlst hsl hL hno hsrc hnl hk6 hone hspare hW1e hg1 hcl hg2 hW1
  generalize l.length = n at *
  have hp : n - 1 = q + (n - (q + 1)) := by omega
  have hone : 1 = n - (q + (n - (q + 1))) := by omega
  have hcl := HCL.out
  rw [hp] at hcl HO1 HG2
  rw [show (Value.slice (some ⟨g, (q + (n - (q + 1))) * 6, none⟩) 1 (c - (q + (n - (q + 1))))) = .slice (some ⟨g, (q + (n - (q + 1))) * 6, none⟩) (n - (q + (n - (q + 1)))) (c - (q + (n - (q + 1)))) by rw [← hone]] at hcl
  clear HCL hp hone
  have hqc : q ≤ c := by omega
  have hqc1 : q + 1 ≤ c := by omega
  go_enter Tryz.func246, Tryz.ntmps246
  go_wp2_with fail
  go_region_law_o (refine step_append_room rfl (.tmp 22) (.tmp 25) 75 rfl 44 i0 6 Tryz.underlying75 hi0 hz1 g 0 q c (by simp [Act.eval, Act.put]) a' (n - (q + 1)) (c - (q + 1)) news (by simp [Act.eval, Act.put]) S1.out S2.out S3.out (by omega) S4.out ?_; rw [HE.out])
  go_wp2
  go_ret
  exact ⟨_, rfl, HO1.out, rfl, HG2.out⟩
end Go.Proofs.YtjfoflbaoceemaaGreat
namespace Go.Proofs.YtjfoflbaoceemaaGreat
open Go.RowKit
theorem two_new (w : World) (x : Mg) : Below w.heap.size w (((w.alloc (.cells x.cells 44)).alloc (.cells x.cells 44)).drew) ∧ Blk (((w.alloc (.cells x.cells 44)).alloc (.cells x.cells 44)).drew) (w.heap.size + 1) 44 x.cells := by
  have h1 := alloc_below w (.cells x.cells 44)
  refine ⟨((h1.alloc h1.size _).drew), ?_⟩
  have := Blk.new (w.alloc (.cells x.cells 44)) 44 x.cells
  rw [show (w.alloc (.cells x.cells 44)).heap.size = w.heap.size + 1 by simp] at this
  exact this.drew
set_option maxHeartbeats 1000000 in
theorem tried_ (m : Mg) (hm : m.fits) (limit : Int) (w : World) : Calls Tryz.prog 245 #[m.val, .int .i64 limit] w fun e w' => e = .returned (.tuple #[m.tried.val, .bool (triedB m.retry limit)]) ∧ Below w.heap.size w w' := by
  obtain ⟨i, p, r, cl, c, b⟩ := m
  have h5 : -9223372036854775808 ≤ r := hm.2.2.1
  clear hm
  rcases Int.lt_or_le 999 r with h | h
  · have E : Hid (more1 r = 1000) := by
      have e : more1 r = 1000 := by unfold more1; rw [if_neg (by omega)]
      exact e
    obtain ⟨h1, h2⟩ := two_new w ⟨i, p, 1000, false, c, b⟩
    have H1 := Lib.hid h1
    have q0 := h2.cell 0
    have q1 := h2.cell 1
    have q2 := h2.cell 2
    have q3 := h2.cell 3
    have q4 := h2.cell 4
    have q5 := h2.cell 5
    clear h1 h2
    simp only [Mg.cells, List.getElem?_toArray, List.getElem?_cons_zero, List.getElem?_cons_succ] at H1 q0 q1 q2 q3 q4 q5
    go_enter Tryz.func245, Tryz.ntmps245
    go_wp2_with fail
    go_region
    go_wp2_with fail
    refine bodyPost_ret (v := .tuple #[.agg #[.int .i64 i, .int .i64 p, .int .i64 (1000), .bool false, .string c, .string b], .bool (decide (limit ≤ 1000))]) (by simp [results, Tryz.results245, go_sem]) rfl ?_
    exact ⟨by simp only [Mg.tried, Mg.val, Mg.cells, triedB, E.out], H1.out⟩
  · have E : Hid (more1 r = r + 1) := by
      have e : more1 r = r + 1 := by unfold more1; rw [if_pos (by omega)]
      exact e
    obtain ⟨h1, h2⟩ := two_new w ⟨i, p, r + 1, false, c, b⟩
    have H1 := Lib.hid h1
    have q0 := h2.cell 0
    have q1 := h2.cell 1
    have q2 := h2.cell 2
    have q3 := h2.cell 3
    have q4 := h2.cell 4
    have q5 := h2.cell 5
    clear h1 h2
    simp only [Mg.cells, List.getElem?_toArray, List.getElem?_cons_zero, List.getElem?_cons_succ] at H1 q0 q1 q2 q3 q4 q5
    go_enter Tryz.func245, Tryz.ntmps245
    go_wp2_with fail
    go_region
    go_wp2_with fail
    refine bodyPost_ret (v := .tuple #[.agg #[.int .i64 i, .int .i64 p, .int .i64 (r + 1), .bool false, .string c, .string b], .bool (decide (limit ≤ r + 1))]) (by simp [results, Tryz.results245, go_sem]) rfl ?_
    exact ⟨by simp only [Mg.tried, Mg.val, Mg.cells, triedB, E.out], H1.out⟩
end Go.Proofs.YtjfoflbaoceemaaGreat
