/- Words for a call that turns an object of its own: where it lies, beside its result; a message of a row of one's own stored whole. -/
import Derived.Test.YtobbopakdaoemaaTwoB
set_option maxRecDepth 4000
namespace Go.Proofs.Ytobbopakdaoemaa
open Go.RowKit
/-- a message stored over another one -/
theorem own_set6 {W : World} {base g n c : Nat} {ys : List Mg} (h : OwnM W base (.slice (some ⟨g, 0, none⟩) n c) ys) {q : Nat} (hq : q < ys.length) (x : Mg) :
    OwnM ((((((W.setCell ⟨g, q * 6, none⟩ (.int .i64 x.id)).setCell ⟨g, q * 6 + 1, none⟩ (.int .i64 x.pri)).setCell ⟨g, q * 6 + 2, none⟩ (.int .i64 x.retry)).setCell ⟨g, q * 6 + 3, none⟩ (.bool x.claimed)).setCell ⟨g, q * 6 + 4, none⟩ (.string x.corr)).setCell ⟨g, q * 6 + 5, none⟩ (.string x.body)) base (.slice (some ⟨g, 0, none⟩) n c) (ys.set q x) := by
  obtain ⟨y0, y1, y2, y3, y4, y5, hy⟩ : ∃ a b c d e f, ys[q] = (⟨a, b, c, d, e, f⟩ : Mg) := ⟨_, _, _, _, _, _, rfl⟩
  obtain ⟨x0, x1, x2, x3, x4, x5⟩ := x
  have hk : eM.k = 6 := rfl
  have s0 := own_set1 h hq ⟨x0, y1, y2, y3, y4, y5⟩ (i := 0) (u := .int .i64 x0) (by rw [hk]; omega) (by rw [hy]; rfl)
  have s1 := own_set1 s0 (q := q) (by rw [List.length_set]; exact hq) ⟨x0, x1, y2, y3, y4, y5⟩ (i := 1) (u := .int .i64 x1) (by rw [hk]; omega) (by rw [List.getElem_set_self]; rfl)
  have s2 := own_set1 s1 (q := q) (by rw [List.length_set, List.length_set]; exact hq) ⟨x0, x1, x2, y3, y4, y5⟩ (i := 2) (u := .int .i64 x2) (by rw [hk]; omega) (by rw [List.getElem_set_self]; rfl)
  have s3 := own_set1 s2 (q := q) (by rw [List.length_set, List.length_set, List.length_set]; exact hq) ⟨x0, x1, x2, x3, y4, y5⟩ (i := 3) (u := .bool x3) (by rw [hk]; omega) (by rw [List.getElem_set_self]; rfl)
  have s4 := own_set1 s3 (q := q) (by rw [List.length_set, List.length_set, List.length_set, List.length_set]; exact hq) ⟨x0, x1, x2, x3, x4, y5⟩ (i := 4) (u := .string x4) (by rw [hk]; omega) (by rw [List.getElem_set_self]; rfl)
  have s5 := own_set1 s4 (q := q) (by rw [List.length_set, List.length_set, List.length_set, List.length_set, List.length_set]; exact hq) ⟨x0, x1, x2, x3, x4, x5⟩ (i := 5) (u := .string x5) (by rw [hk]; omega) (by rw [List.getElem_set_self]; rfl)
  simp only [List.set_set, hk, Nat.add_zero] at s5
  exact s5
/-- an object of the call's own at block O, its argument's block and its result's, and its rows -/
structure FrS (w : World) (a : Array Value) (O : Nat) (o : Ob) (r m d : Value) (W : World) : Prop where
  below : Below w.heap.size w W
  arg : Blk W w.heap.size 25 a
  res : Blk W (w.heap.size + 1) 25 #[.string ⟨#[]⟩, .int .i64 0, .int .i64 0, .slice none 0 0, .slice none 0 0, .slice none 0 0]
  obj : Blk W O 25 (o.cells r m d)
  out : w.heap.size + 2 ≤ O
  own : ObOwn W (w.heap.size + 2) o r m d
  n1 : r.ownBlock ≠ some O
  n2 : m.ownBlock ≠ some O
  n3 : d.ownBlock ≠ some O
section
variable {w W W' : World} {a : Array Value} {O : Nat} {o : Ob} {r m d : Value}
theorem FrS.step (h : FrS w a O o r m d W) (k : Below W.heap.size W W') : FrS w a O o r m d W' :=
  ⟨h.below.trans (k.mono h.below.size), h.arg.below k h.arg.lt, h.res.below k h.res.lt, h.obj.below k h.obj.lt, h.out, h.own.below k, h.n1, h.n2, h.n3⟩
theorem FrS.new {w w0 w1 : World} {o : Ob} {r m d : Value} {cs : Array Value} (hT : TwoB w 25 cs #[.string ⟨#[]⟩, .int .i64 0, .int .i64 0, .slice none 0 0, .slice none 0 0, .slice none 0 0] w0) (ho : ObOwn w1 w0.heap.size o r m d) (hb : Below w0.heap.size w0 w1) :
    FrS w cs w1.heap.size o r m d (w1.alloc (.cells (o.cells r m d) 25)) := by
  have h1 := hT.step hb
  have h2 := h1.step (alloc_below w1 (.cells (o.cells r m d) 25))
  have lt : ∀ {v : Value}, (∀ g, v.ownBlock = some g → g < w1.heap.size) → v.ownBlock ≠ some w1.heap.size := fun h e => Nat.lt_irrefl _ (h _ e)
  exact ⟨h2.below, h2.obj, h2.res, Blk.new w1 _ _, h1.size, (ho.below (alloc_below w1 _)).base hT.size, lt fun g e => (own_blk ho.rows e).2.1, lt fun g e => (own_blk ho.msgs e).2.1, lt fun g e => (own_blk ho.dead e).2.1⟩
/-- what its own messages' block alone turns -/
theorem FrS.turn (h : FrS w a O o r m d W) {g : Nat} (hm : m.ownBlock = some g) (k : Keep (fun i _ => i ≠ g) W W') {ms : List Mg} (hms : OwnM W' (w.heap.size + 2) m ms) : FrS w a O { o with msgs := ms } r m d W' := by
  obtain ⟨hg1, hg2, _⟩ := own_blk h.own.msgs hm
  have hO : O ≠ g := fun e => h.n2 (by rw [hm, e])
  refine ⟨h.below.trans (k.below h.below.size fun i _ hi e => ?_), h.arg.keep k (by omega), h.res.keep k (by omega), h.obj.keep k hO, h.out, ⟨?_, hms, ?_, h.own.a1, h.own.a2⟩, h.n1, h.n2, h.n3⟩
  · omega
  · exact own_keep h.own.rows fun i hi => by
      obtain ⟨ob, hob⟩ : ∃ ob, W.heap[i]? = some ob := ⟨_, (own_blk h.own.rows hi).2.2.choose_spec⟩
      rw [hob]
      exact k.block i ob hob fun e => (h.own.a1 i hi).1 (by rw [hm, e])
  · exact own_keep h.own.dead fun i hi => by
      obtain ⟨ob, hob⟩ : ∃ ob, W.heap[i]? = some ob := ⟨_, (own_blk h.own.dead hi).2.2.choose_spec⟩
      rw [hob]
      exact k.block i ob hob fun e => h.own.a2 g hm (by rw [hi, e])
/-- its own messages' block turned, and their slice stored anew -/
theorem FrS.recut (h : FrS w a O o r m d W) {g : Nat} (hm : m.ownBlock = some g) (k : Keep (fun i _ => i ≠ g) W W') {m' : Value} (hm' : m'.ownBlock = m.ownBlock) {ms : List Mg} (hms : OwnM W' (w.heap.size + 2) m' ms) :
    Blk W' O 25 (o.cells r m d) ∧ FrS w a O { o with msgs := ms } r m' d (W'.setCell ⟨O, 4, none⟩ m') := by
  obtain ⟨hg1, hg2, _⟩ := own_blk h.own.msgs hm
  have hO : O ≠ g := fun e => h.n2 (by rw [hm, e])
  have h4 := h.out
  have hob := h.obj.keep k hO
  refine ⟨hob, (h.below.trans (k.below h.below.size fun i _ hi e => ?_)).setCell (by show w.heap.size ≤ O; omega) _, (h.arg.keep k (by omega)).far (by show w.heap.size ≠ O; omega) _, (h.res.keep k (by omega)).far (by show w.heap.size + 1 ≠ O; omega) _, ?_, h.out, ⟨own_far ?_ h.n1 _, own_far hms (by rw [hm']; exact h.n2) _, own_far ?_ h.n3 _, ?_, ?_⟩, h.n1, by rw [hm']; exact h.n2, h.n3⟩
  · omega
  · have := hob.set_ 4 m'
    simpa [Ob.cells] using this
  · exact own_keep h.own.rows fun i hi => by
      obtain ⟨ob, hob⟩ : ∃ ob, W.heap[i]? = some ob := ⟨_, (own_blk h.own.rows hi).2.2.choose_spec⟩
      rw [hob]
      exact k.block i ob hob fun e => (h.own.a1 i hi).1 (by rw [hm, e])
  · exact own_keep h.own.dead fun i hi => by
      obtain ⟨ob, hob⟩ : ∃ ob, W.heap[i]? = some ob := ⟨_, (own_blk h.own.dead hi).2.2.choose_spec⟩
      rw [hob]
      exact k.block i ob hob fun e => h.own.a2 g hm (by rw [hi, e])
  · rw [hm']; exact h.own.a1
  · rw [hm']; exact h.own.a2
/-- its messages' slice stored anew, a row that was made behind -/
theorem FrS.mnew (h : FrS w a O o r m d W) (k : Below W.heap.size W W') {m' : Value} {ms : List Mg} (hms : OwnM W' W.heap.size m' ms) :
    Blk W' O 25 (o.cells r m d) ∧ FrS w a O { o with msgs := ms } r m' d (W'.setCell ⟨O, 4, none⟩ m') := by
  have h4 := h.out
  have hs := h.step k
  have hl := h.obj.lt
  have hn : ∀ i, i < W.heap.size → m'.ownBlock ≠ some i := fun i hi => own_out hms hi
  refine ⟨hs.obj, hs.below.setCell (by show w.heap.size ≤ O; omega) _, hs.arg.far (by show w.heap.size ≠ O; omega) _, hs.res.far (by show w.heap.size + 1 ≠ O; omega) _, ?_, h.out, ⟨own_far hs.own.rows h.n1 _, own_far (own_base hms (by have := h.res.lt; omega)) (hn O hl) _, own_far hs.own.dead h.n3 _, ?_, ?_⟩, h.n1, hn O hl, h.n3⟩
  · have := hs.obj.set_ 4 m'
    simpa [Ob.cells] using this
  · exact fun g hg => ⟨hn g (own_blk h.own.rows hg).2.1, (h.own.a1 g hg).2⟩
  · exact fun g hg e => hn g (own_blk h.own.dead e).2.1 hg
/-- those set aside: one more, and their slice stored anew -/
theorem FrS.dead (h : FrS w a O o r m d W) {d' : Value} {ds : List Mg} (hg : W.grownBy W' d.ownBlock) (hd : OwnM W' (w.heap.size + 2) d' ds) (hb : d'.ownBlock = d.ownBlock ∨ ∃ N, d'.ownBlock = some N ∧ W.heap.size ≤ N) :
    Blk W' O 25 (o.cells r m d) ∧ FrS w a O { o with dead := ds } r m d' (W'.setCell ⟨O, 5, none⟩ d') := by
  have h4 := h.out
  have hOl := h.obj.lt
  have kO : ∀ i, i < W.heap.size → d.ownBlock ≠ some i → W'.heap[i]? = W.heap[i]? := fun i hi hne => hg.block i hi fun e => hne e.symm
  have nO : d'.ownBlock ≠ some O := by
    rcases hb with e | ⟨N, e, hN⟩
    · rw [e]; exact h.n3
    · rw [e]; intro e; injection e with e; omega
  have hlr : ∀ g, r.ownBlock = some g → d'.ownBlock ≠ some g := fun g hg' => by
    rcases hb with e | ⟨N, e, hN⟩
    · rw [e]; exact (h.own.a1 g hg').2
    · rw [e]; intro e; injection e with e
      have := (own_blk h.own.rows hg').2.1
      omega
  have hlm : ∀ g, m.ownBlock = some g → d'.ownBlock ≠ some g := fun g hg' => by
    rcases hb with e | ⟨N, e, hN⟩
    · rw [e]; exact h.own.a2 g hg'
    · rw [e]; intro e; injection e with e
      have := (own_blk h.own.msgs hg').2.1
      omega
  have hbel : Below w.heap.size w W' := h.below.grown hg h.below.size fun g e => by
    have := (own_blk h.own.dead e).1
    omega
  have hR : Blk W' (w.heap.size + 1) 25 #[.string ⟨#[]⟩, .int .i64 0, .int .i64 0, .slice none 0 0, .slice none 0 0, .slice none 0 0] := (kO _ h.res.lt (own_out h.own.dead (by omega))).trans h.res
  have hA : Blk W' w.heap.size 25 a := (kO _ h.arg.lt (own_out h.own.dead (by omega))).trans h.arg
  have hOb : Blk W' O 25 (o.cells r m d) := (kO _ hOl h.n3).trans h.obj
  refine ⟨hOb, hbel.setCell (by show w.heap.size ≤ O; omega) _, hA.far (by show w.heap.size ≠ O; omega) _, hR.far (by show w.heap.size + 1 ≠ O; omega) _, ?_, h.out, ⟨own_far ?_ h.n1 _, own_far ?_ h.n2 _, own_far hd nO _, fun g hg' => ⟨(h.own.a1 g hg').1, hlr g hg'⟩, hlm⟩, h.n1, h.n2, nO⟩
  · have := hOb.set_ 5 d'
    simpa [Ob.cells] using this
  · exact own_keep h.own.rows fun i hi => kO i (own_blk h.own.rows hi).2.1 (h.own.a1 i hi).2
  · exact own_keep h.own.msgs fun i hi => kO i (own_blk h.own.msgs hi).2.1 (h.own.a2 i hi)
/-- the result: six cells stored -/
theorem FrS.last (h : FrS w a O o r m d W) : Below w.heap.size w ((((((W.setCell ⟨w.heap.size + 1, 0, none⟩ (.string o.name)).setCell ⟨w.heap.size + 1, 1, none⟩ (.int .i64 o.kind)).setCell ⟨w.heap.size + 1, 2, none⟩ (.int .i64 o.limit)).setCell ⟨w.heap.size + 1, 3, none⟩ r).setCell ⟨w.heap.size + 1, 4, none⟩ m).setCell ⟨w.heap.size + 1, 5, none⟩ d) ∧
    Blk ((((((W.setCell ⟨w.heap.size + 1, 0, none⟩ (.string o.name)).setCell ⟨w.heap.size + 1, 1, none⟩ (.int .i64 o.kind)).setCell ⟨w.heap.size + 1, 2, none⟩ (.int .i64 o.limit)).setCell ⟨w.heap.size + 1, 3, none⟩ r).setCell ⟨w.heap.size + 1, 4, none⟩ m).setCell ⟨w.heap.size + 1, 5, none⟩ d) (w.heap.size + 1) 25 (o.cells r m d) ∧
    ObOwn ((((((W.setCell ⟨w.heap.size + 1, 0, none⟩ (.string o.name)).setCell ⟨w.heap.size + 1, 1, none⟩ (.int .i64 o.kind)).setCell ⟨w.heap.size + 1, 2, none⟩ (.int .i64 o.limit)).setCell ⟨w.heap.size + 1, 3, none⟩ r).setCell ⟨w.heap.size + 1, 4, none⟩ m).setCell ⟨w.heap.size + 1, 5, none⟩ d) w.heap.size o r m d :=
  ⟨below_six h.below (by omega) _ _ _ _ _ _, blk_store6 h.res, own_six h.own.rows _ _ _ _ _ _, own_six h.own.msgs _ _ _ _ _ _, own_six h.own.dead _ _ _ _ _ _, h.own.a1, h.own.a2⟩
end
end Go.Proofs.Ytobbopakdaoemaa
