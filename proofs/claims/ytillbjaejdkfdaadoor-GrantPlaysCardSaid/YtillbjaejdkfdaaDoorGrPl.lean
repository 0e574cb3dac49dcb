/- What the law on any row of calls carries: two locks of package grant and one of the document's. -/
import Derived.Test.YtillbjaejdkfdaaDoorRkD
import Derived.Test.YtillbjaejdkfdaaDoorRkE
import Derived.Test.YtillbjaejdkfdaaDoorRkS
import Derived.Test.YtillbjaejdkfdaaDoorOpenA
set_option maxRecDepth 4000
namespace Go.Proofs.YtillbjaejdkfdaaDoor
open Go.RowKit
/-- every block is left alone but locks and rows of holds -/
def IK (W W' : World) : Prop := ∀ (g : Nat) (cur : Array Value) (t : TypeId), W.heap[g]? = some (.cells cur t (0, 0)) → t ≠ 27 → t ≠ 31 → t ≠ 42 → W'.heap[g]? = W.heap[g]?
theorem IK.below {W W' : World} (k : Below W.heap.size W W') : IK W W' := fun g _ _ h _ _ _ => k.block g (lt_of_some h)
theorem own_ik {W W' : World} {base : Nat} {v : Value} {l : List Int} (ho : Own W base eI 3 v l) (k : IK W W') : Own W' base eI 3 v l :=
  own_keep ho fun g hg => by
    obtain ⟨_, _, cur, hc⟩ := own_blk ho hg
    exact k g cur _ hc (by decide) (by decide) (by decide)
theorem blk_ik {W W' : World} {g : Nat} {cs : Array Value} (h : Blk W g 33 cs) (k : IK W W') : Blk W' g 33 cs := (k g cs _ h (by decide) (by decide) (by decide)).trans h
section
variable {w0 W W' : World} {b b2 : Nat} {s s2 : Lk}
theorem G.blk (g : G w0 b s W) : ∃ cs, Blk W b 27 cs := by
  obtain ⟨vH, vL, h2, _⟩ := g.lock
  exact ⟨_, h2⟩
theorem G.ik (g : G w0 b s W) (k : Keep (fun i _ => i ≠ b) W W') : IK W W' := fun i cur t hc h1 _ _ => by
  obtain ⟨cs, hb⟩ := g.blk
  rw [hc]
  exact k.block i _ hc (ne_of_types (g := b) hb hc h1)
/-- another lock's call -/
theorem G.other (g : G w0 b s W) (g2 : G w0 b2 s2 W) (hne : b ≠ b2) (k : Keep (fun i _ => i ≠ b2) W W') : G w0 b s W' :=
  ⟨g.lock.keep hne k g2.lock.ne, g.ok, g.tab.keep k fun _ => g2.b0, below_of_keep g.below k g2.ge g.below.size, g.ge, g.b0⟩
/-- a call of the document's lock -/
theorem G.rturn (g : G w0 b s W) {br : Nat} {vH vL : Value} (h2 : RTwo W br vH vL) (hb : w0.heap.size ≤ br) (hm : 0 < w0.heap.size) (k : RKeep w0.heap.size br W W') : G w0 b s W' :=
  ⟨g.lock.rkeep h2 k, g.ok, g.tab.rkeep k hb hm, g.below.trans (k.below g.below.size fun i o hi => ⟨by omega, .inl hi⟩), g.ge, g.b0⟩
theorem rk_ik {base br : Nat} {vH vL : Value} (h2 : RTwo W br vH vL) (k : RKeep base br W W') : IK W W' := fun i cur t hc _ h3 h4 => by
  rw [hc]
  exact k.block i _ hc ⟨ne_of_types (g := br) h2 hc h3, .inr fun cur' e => by injection e with _ e; exact h4 e⟩
theorem rk_new (W : World) (base : Nat) : RLk base W.heap.size ([], []) (W.alloc (.cells #[.slice none 0 0, .slice none 0 0] 31)) :=
  ⟨_, _, Blk.new W _ _, own_nil _ _, own_nil _ _, fun g hg => by simp [Value.ownBlock] at hg⟩
end
/-- two locks of the package, and the document's one -/
structure PL (w0 : World) (bx bo br : Nat) (sx so sr : Lk) (W : World) : Prop where
  gx : G w0 bx sx W
  go : G w0 bo so W
  rl : RLk w0.heap.size br sr W
  ok : Ok sr
  rb : w0.heap.size ≤ br
  mb : 0 < w0.heap.size
  xo : bx ≠ bo
section
variable {w0 W W' : World} {bx bo br : Nat} {sx so sr : Lk}
theorem PL.new {w0 w1 : World} (h0 : Tab w0) (hT : Tab w1) (h : Below w0.heap.size w0 w1) :
    PL w0 w1.heap.size (w1.heap.size + 1) (w1.heap.size + 1 + 1) ([], []) ([], []) ([], []) (((w1.alloc (.cells #[.slice none 0 0, .slice none 0 0] 27)).alloc (.cells #[.slice none 0 0, .slice none 0 0] 27)).alloc (.cells #[.slice none 0 0, .slice none 0 0] 31)) := by
  have g1 := G.new hT h
  have g2 := G.new g1.tab g1.below
  have e1 : (w1.alloc (.cells #[.slice none 0 0, .slice none 0 0] 27)).heap.size = w1.heap.size + 1 := by simp
  have e2 : ((w1.alloc (.cells #[.slice none 0 0, .slice none 0 0] 27)).alloc (.cells #[.slice none 0 0, .slice none 0 0] 27)).heap.size = w1.heap.size + 1 + 1 := by simp
  have r := rk_new ((w1.alloc (.cells #[.slice none 0 0, .slice none 0 0] 27)).alloc (.cells #[.slice none 0 0, .slice none 0 0] 27)) w0.heap.size
  rw [e2] at r
  rw [e1] at g2
  exact ⟨(g1.next (alloc_below _ _)).next (alloc_below _ _), g2.next (alloc_below _ _), r, ok_none, by have := h.size; omega, h0.lt, by omega⟩
theorem PL.next (p : PL w0 bx bo br sx so sr W) (k : Below W.heap.size W W') : PL w0 bx bo br sx so sr W' :=
  ⟨p.gx.next k, p.go.next k, p.rl.below k, p.ok, p.rb, p.mb, p.xo⟩
theorem PL.turnX (p : PL w0 bx bo br sx so sr W) {s' : Lk} (g : G w0 bx s' W') (k : Keep (fun i _ => i ≠ bx) W W') : PL w0 bx bo br s' so sr W' ∧ IK W W' := by
  obtain ⟨cs, hb⟩ := p.gx.blk
  exact ⟨⟨g, p.go.other p.gx p.xo.symm k, p.rl.keep hb k, p.ok, p.rb, p.mb, p.xo⟩, p.gx.ik k⟩
theorem PL.turnO (p : PL w0 bx bo br sx so sr W) {s' : Lk} (g : G w0 bo s' W') (k : Keep (fun i _ => i ≠ bo) W W') : PL w0 bx bo br sx s' sr W' ∧ IK W W' := by
  obtain ⟨cs, hb⟩ := p.go.blk
  exact ⟨⟨p.gx.other p.go p.xo k, g, p.rl.keep hb k, p.ok, p.rb, p.mb, p.xo⟩, p.go.ik k⟩
theorem PL.turnR (p : PL w0 bx bo br sx so sr W) {s' : Lk} (h : RLk w0.heap.size br s' W') (hok : Ok s') (k : RKeep w0.heap.size br W W') : PL w0 bx bo br sx so s' W' ∧ IK W W' := by
  obtain ⟨vH, vL, hk⟩ := p.rl
  exact ⟨⟨p.gx.rturn hk.two p.rb p.mb k, p.go.rturn hk.two p.rb p.mb k, h, hok, p.rb, p.mb, p.xo⟩, rk_ik hk.two k⟩
theorem PL.askX (p : PL w0 bx bo br sx so sr W) (ht : total sx ≤ 9000) (who mode : Int) :
    Calls Tryd.prog 9 #[.pointer (some ⟨bx, 0, none⟩), .int .i64 who, .int .i64 mode] W fun e w' => e = .returned (.bool (askP sx who (mdN mode)).1) ∧ PL w0 bx bo br (askP sx who (mdN mode)).2 so sr w' ∧ IK W w' :=
  (p.gx.ask ht who mode).mono fun _ _ ⟨he, g, k⟩ => ⟨he, p.turnX g k⟩
theorem PL.askO (p : PL w0 bx bo br sx so sr W) (ht : total so ≤ 9000) (who mode : Int) :
    Calls Tryd.prog 9 #[.pointer (some ⟨bo, 0, none⟩), .int .i64 who, .int .i64 mode] W fun e w' => e = .returned (.bool (askP so who (mdN mode)).1) ∧ PL w0 bx bo br sx (askP so who (mdN mode)).2 sr w' ∧ IK W w' :=
  (p.go.ask ht who mode).mono fun _ _ ⟨he, g, k⟩ => ⟨he, p.turnO g k⟩
theorem PL.askR (p : PL w0 bx bo br sx so sr W) (ht : total sr ≤ 9000) (who mode : Int) :
    Calls Tryd.prog 10 #[.pointer (some ⟨br, 0, none⟩), .int .i64 who, .int .i64 mode] W fun e w' => e = .returned (.bool (askP sr who (mdN mode)).1) ∧ PL w0 bx bo br sx so (askP sr who (mdN mode)).2 w' ∧ IK W w' := by
  unfold total at ht
  exact (rask_ p.rl p.gx.below.size p.ok (by omega) (by omega) who mode).mono fun _ _ ⟨he, h, k⟩ => ⟨he, p.turnR h (ok_ask p.ok who (mdN_lt mode)) k⟩
theorem PL.dropX (p : PL w0 bx bo br sx so sr W) (ht : total sx ≤ 9000) (who : Int) :
    Calls Tryd.prog 12 #[.pointer (some ⟨bx, 0, none⟩), .int .i64 who] W fun e w' => ∃ v, e = .returned v ∧ Own w' W.heap.size eI 3 v (dropP sx who).1 ∧ PL w0 bx bo br (dropP sx who).2 so sr w' ∧ IK W w' :=
  (p.gx.drop ht who).mono fun _ _ ⟨v, he, ho, g, k⟩ => ⟨v, he, ho, p.turnX g k⟩
theorem PL.dropR (p : PL w0 bx bo br sx so sr W) (ht : total sr ≤ 9000) (who : Int) :
    Calls Tryd.prog 13 #[.pointer (some ⟨br, 0, none⟩), .int .i64 who] W fun e w' => ∃ v, e = .returned v ∧ Own w' W.heap.size eI 3 v (dropP sr who).1 ∧ PL w0 bx bo br sx so (dropP sr who).2 w' ∧ IK W w' := by
  unfold total at ht
  exact (rdrop_ p.rl p.gx.below.size p.ok (by omega) (by omega) who).mono fun _ _ ⟨v, he, ho, h, k⟩ => ⟨v, he, ho, p.turnR h (ok_drop p.ok who) k⟩
theorem PL.holdsX (p : PL w0 bx bo br sx so sr W) (ht : total sx ≤ 9000) :
    Calls Tryd.prog 15 #[.pointer (some ⟨bx, 0, none⟩)] W fun e w' => ∃ v, e = .returned v ∧ Own w' W.heap.size eH 42 v (holdsP sx) ∧ Below W.heap.size W w' :=
  (p.gx.holds ht).mono fun _ _ ⟨v, he, ho, _, k⟩ => ⟨v, he, ho, k⟩
theorem PL.holdsR (p : PL w0 bx bo br sx so sr W) (ht : total sr ≤ 9000) :
    Calls Tryd.prog 16 #[.pointer (some ⟨br, 0, none⟩)] W fun e w' => ∃ v, e = .returned v ∧ Own w' W.heap.size eH 42 v (holdsP sr) ∧ Below W.heap.size W w' := by
  unfold total at ht
  obtain ⟨H, L⟩ := sr
  obtain ⟨vH, vL, hk⟩ := p.rl
  obtain ⟨A, c, e, l, _⟩ := own_lst hk.oH
  obtain ⟨A', c', e', l', _⟩ := own_lst hk.oL
  simp only [List.length_map] at e e' l l' ht
  subst e e'
  exact rholds_ hk.two l l' rfl rfl (by omega) (by omega) p.ok
theorem PL.waitsX (p : PL w0 bx bo br sx so sr W) (ht : total sx ≤ 9000) (who : Int) :
    Calls Tryd.prog 17 #[.pointer (some ⟨bx, 0, none⟩), .int .i64 who] W fun e w' => ∃ v, e = .returned v ∧ Own w' W.heap.size eI 3 v (waitsP sx who) ∧ Below W.heap.size W w' :=
  (p.gx.waits ht who).mono fun _ _ ⟨v, he, ho, _, k⟩ => ⟨v, he, ho, k⟩
theorem PL.waitsR (p : PL w0 bx bo br sx so sr W) (ht : total sr ≤ 9000) (who : Int) :
    Calls Tryd.prog 18 #[.pointer (some ⟨br, 0, none⟩), .int .i64 who] W fun e w' => ∃ v, e = .returned v ∧ Own w' W.heap.size eI 3 v (waitsP sr who) ∧ Below W.heap.size W w' := by
  unfold total at ht
  obtain ⟨H, L⟩ := sr
  obtain ⟨vH, vL, hk⟩ := p.rl
  obtain ⟨A, c, e, l, _⟩ := own_lst hk.oH
  obtain ⟨A', c', e', l', _⟩ := own_lst hk.oL
  simp only [List.length_map] at e e' l l' ht
  subst e e'
  exact rwaits_ hk.two l l' rfl rfl (by omega) (by omega) p.ok who
end
end Go.Proofs.YtillbjaejdkfdaaDoor
