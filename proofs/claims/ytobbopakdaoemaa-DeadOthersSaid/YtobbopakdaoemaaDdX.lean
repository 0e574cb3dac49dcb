/- What a call of Free leaves. -/
import Derived.Test.YtobbopakdaoemaaDdS
import Derived.Test.YtobbopakdaoemaaCat
set_option maxRecDepth 4000
namespace Go.Proofs.Ytobbopakdaoemaa
open Go.RowKit
/-- a fact that the walk must not look through -/
structure ShutF (p : Prop) : Prop where out : p
/-- what a call of Free leaves -/
def Freed (w : World) (o : Ob) (id : Int) (tried : Bool) (e : Ending) (w' : World) : Prop :=
  ∃ r' m' d', e = .returned (.tuple #[(freeO o id tried).val r' m' d', .bool (freeOk o id)]) ∧ ObOwn w' w.heap.size (freeO o id tried) r' m' d' ∧ Below w.heap.size w w'
/-- the same, of a known object -/
def Back (w : World) (o : Ob) (b : Bool) (e : Ending) (w' : World) : Prop := ∃ r' m' d', e = .returned (.tuple #[o.val r' m' d', .bool b]) ∧ ObOwn w' w.heap.size o r' m' d' ∧ Below w.heap.size w w'
theorem Freed.as {w : World} {o o' : Ob} {id : Int} {tried b : Bool} (h : freeO o id tried = o' ∧ freeOk o id = b) : ∀ e w', Freed w o id tried e w' → Back w o' b e w' := by
  obtain ⟨h1, h2⟩ := h
  subst h1 h2
  exact fun _ _ h => h
theorem FrS.freed {w W : World} {a : Array Value} {O : Nat} {o o' : Ob} {r m d : Value} (h : FrS w a O o' r m d W) {id : Int} {tried b : Bool} (hf : freeOk o id = b ∧ freeO o id tried = o') :
    Freed w o id tried (.returned (.tuple #[.agg #[.string o'.name, .int .i64 o'.kind, .int .i64 o'.limit, r, m, d], .bool b])) ((((((W.setCell ⟨w.heap.size + 1, 0, none⟩ (.string o'.name)).setCell ⟨w.heap.size + 1, 1, none⟩ (.int .i64 o'.kind)).setCell ⟨w.heap.size + 1, 2, none⟩ (.int .i64 o'.limit)).setCell ⟨w.heap.size + 1, 3, none⟩ r).setCell ⟨w.heap.size + 1, 4, none⟩ m).setCell ⟨w.heap.size + 1, 5, none⟩ d) := by
  obtain ⟨h1, h2⟩ := hf
  subst h1 h2
  obtain ⟨k1, _, k3⟩ := h.last
  exact ⟨r, m, d, rfl, k3, k1⟩
/-- a block that was made ahead of a call -/
theorem blk_behind {w w3 : World} {T : TypeId} {cs : Array Value} (hb : Below (w.alloc (.cells cs T)).drew.heap.size (w.alloc (.cells cs T)).drew w3) : Blk w3 w.heap.size T cs := (Blk.new w T cs).drew.below hb (by simp)
theorem keep_six_at (w : World) (g i : Nat) (a b c d e f : Value) : Keep (fun j _ => j ≠ g) w ((((((w.setCell ⟨g, i, none⟩ a).setCell ⟨g, i + 1, none⟩ b).setCell ⟨g, i + 2, none⟩ c).setCell ⟨g, i + 3, none⟩ d).setCell ⟨g, i + 4, none⟩ e).setCell ⟨g, i + 5, none⟩ f) := by
  have hp : ∀ o : Obj, w.heap[g]? = some o → ¬ (g ≠ g) := fun _ _ h => h rfl
  exact ((((((Keep.refl w).setCell (p := ⟨g, i, none⟩) hp a).setCell (p := ⟨g, i + 1, none⟩) hp b).setCell (p := ⟨g, i + 2, none⟩) hp c).setCell (p := ⟨g, i + 3, none⟩) hp d).setCell (p := ⟨g, i + 4, none⟩) hp e).setCell (p := ⟨g, i + 5, none⟩) hp f
/-- one message more behind a row of one's own, as its slice -/
theorem append_m {W : World} {base n : Nat} {v : Value} {l : List Mg} (ho : OwnM W base v l) (hn : l.length = n) (hn2 : n ≤ 100000) (hb : base ≤ W.heap.size) (x : Mg) :
    ∃ A c W', (Builtin.append_ #[23, 23] 23 #[v, .slice (some ⟨W.heap.size, 0, none⟩) 1 1]).run Try.prog (W.alloc (.cells x.cells 34)) = .ok (.slice A (n + 1) c) W' ∧ OwnM W' base (.slice A (n + 1) c) (l ++ [x]) ∧ (W.alloc (.cells x.cells 34)).grownBy W' v.ownBlock ∧
      ((Value.slice A (n + 1) c).ownBlock = v.ownBlock ∨ ∃ N, (Value.slice A (n + 1) c).ownBlock = some N ∧ (W.alloc (.cells x.cells 34)).heap.size ≤ N) := by
  have hal := alloc_below W (.cells x.cells 34)
  have hone := one_lst eM W 34 x (cs := x.cells) rfl
  obtain ⟨v', W', hap, ho', hg, hv⟩ := append_own tyM (own_belowE ho hal) hone rfl 1 (by show l.length + 1 ≤ _; omega) (Nat.le_trans hb hal.size)
  obtain ⟨A, c, rfl⟩ := own_shape ho' (n := n + 1) (by rw [List.length_append, hn]; rfl)
  refine ⟨A, c, W', hap, ho', hg, ?_⟩
  rcases hv with h | h
  · exact .inl h
  · exact .inr ⟨_, h, Nat.le_refl _⟩
/-- one message of a row of one's own: where it lies -/
theorem own_at {W : World} {base n c q : Nat} {A : Option Addr} {ys : List Mg} (hq : q < ys.length) (h : OwnM W base (.slice A n c) ys) :
    ∃ g, A = some ⟨g, 0, none⟩ ∧ base ≤ g ∧ W.cell? ⟨g, q * 6, none⟩ = some (.int .i64 ys[q].id) ∧ W.cell? ⟨g, q * 6 + 1, none⟩ = some (.int .i64 ys[q].pri) ∧ W.cell? ⟨g, q * 6 + 2, none⟩ = some (.int .i64 ys[q].retry) ∧
      W.cell? ⟨g, q * 6 + 3, none⟩ = some (.bool ys[q].claimed) ∧ W.cell? ⟨g, q * 6 + 4, none⟩ = some (.string ys[q].corr) ∧ W.cell? ⟨g, q * 6 + 5, none⟩ = some (.string ys[q].body) ∧ ∀ j, W.frozen? ⟨g, j, none⟩ = false := by
  obtain ⟨g, cur, rfl, hg, hb, hc⟩ := own_slot h (by omega)
  refine ⟨g, rfl, hg, ?_, ?_, ?_, ?_, ?_, ?_, fun j => hb.frozen j⟩
  · exact hc _ _ (cellsE_at eM hq (i := 0) rfl)
  · exact hc _ _ (cellsE_at eM hq (i := 1) rfl)
  · exact hc _ _ (cellsE_at eM hq (i := 2) rfl)
  · exact hc _ _ (cellsE_at eM hq (i := 3) rfl)
  · exact hc _ _ (cellsE_at eM hq (i := 4) rfl)
  · exact hc _ _ (cellsE_at eM hq (i := 5) rfl)
end Go.Proofs.Ytobbopakdaoemaa
