/- A slice that holds these rows, as a value; an object in memory: its name, its kind and limit, and its three rows. -/
import Derived.Test.YtobbopakdaoemaaRwE
import Derived.Test.YtobbopakdaoemaaMqC
import Derived.Test.YtobbopakdaoemaaDdP
set_option maxRecDepth 4000
namespace Go.Proofs.Ytobbopakdaoemaa
open Go.RowKit
section
variable {α : Type} {E : Enc α} {T : TypeId}
/-- this slice holds these rows -/
def Sl (w : World) (E : Enc α) (v : Value) (l : List α) : Prop := ∃ A c, v = .slice A l.length c ∧ Lst w (fun _ => True) E A l ∧ l.length ≤ c ∧ c ≤ maxLen ∧ (A = none → c = 0)
theorem Sl.below {w w' : World} {v : Value} {l : List α} (h : Sl w E v l) (k : Below w.heap.size w w') : Sl w' E v l := by
  obtain ⟨A, c, e, h1, h2⟩ := h
  exact ⟨A, c, e, h1.below k, h2⟩
theorem Sl.nil (w : World) (E : Enc α) : Sl w E (.slice none 0 0) ([] : List α) := ⟨none, 0, rfl, Lst.nil _ _ _ _, Nat.le_refl _, by unfold maxLen; omega, fun _ => rfl⟩
theorem Own.sl {w : World} {base : Nat} {v : Value} {l : List α} (h : Own w base E T v l) : Sl w E v l := by
  obtain ⟨A, c, e, h1, h2, h3, h4⟩ := own_lst h
  exact ⟨A, c, e, h1.more fun _ _ _ => trivial, h2, h3, h4⟩
/-- a row of one's own survives whatever is stored elsewhere -/
theorem own_far {w : World} {base : Nat} {v : Value} {l : List α} (h : Own w base E T v l) {p : Addr} (hp : v.ownBlock ≠ some p.block) (u : Value) : Own (w.setCell p u) base E T v l :=
  own_keep h fun g hg => Below.heap_setCell w p u g fun e => hp (by rw [hg, e])
theorem own_out {w : World} {base b : Nat} {v : Value} {l : List α} (h : Own w base E T v l) (hb : b < base) : v.ownBlock ≠ some b := fun e => by
  have := (own_blk h e).1
  omega
end
abbrev Ob.cells (o : Ob) (r m d : Value) : Array Value := #[.string o.name, .int .i64 o.kind, .int .i64 o.limit, r, m, d]
abbrev Ob.val (o : Ob) (r m d : Value) : Value := .agg (o.cells r m d)
/-- its rows lie so -/
def ObAt (w : World) (o : Ob) (r m d : Value) : Prop := Sl w eR r o.rows ∧ Sl w eM m o.msgs ∧ Sl w eM d o.dead
theorem ObAt.below {w w' : World} {o : Ob} {r m d : Value} (h : ObAt w o r m d) (k : Below w.heap.size w w') : ObAt w' o r m d := ⟨h.1.below k, h.2.1.below k, h.2.2.below k⟩
/-- its rows are the call's own, each of them apart from the others -/
structure ObOwn (w : World) (base : Nat) (o : Ob) (r m d : Value) : Prop where
  rows : OwnR w base r o.rows
  msgs : OwnM w base m o.msgs
  dead : OwnM w base d o.dead
  a1 : ∀ g, r.ownBlock = some g → m.ownBlock ≠ some g ∧ d.ownBlock ≠ some g
  a2 : ∀ g, m.ownBlock = some g → d.ownBlock ≠ some g
theorem ObOwn.at_ {w : World} {base : Nat} {o : Ob} {r m d : Value} (h : ObOwn w base o r m d) : ObAt w o r m d := ⟨h.rows.sl, h.msgs.sl, h.dead.sl⟩
theorem ObOwn.below {w w' : World} {base : Nat} {o : Ob} {r m d : Value} (h : ObOwn w base o r m d) (k : Below w.heap.size w w') : ObOwn w' base o r m d :=
  ⟨own_belowE h.rows k, own_belowE h.msgs k, own_belowE h.dead k, h.a1, h.a2⟩
theorem ObOwn.base {w : World} {base base' : Nat} {o : Ob} {r m d : Value} (h : ObOwn w base o r m d) (hb : base' ≤ base) : ObOwn w base' o r m d :=
  ⟨own_base h.rows hb, own_base h.msgs hb, own_base h.dead hb, h.a1, h.a2⟩
end Go.Proofs.Ytobbopakdaoemaa
