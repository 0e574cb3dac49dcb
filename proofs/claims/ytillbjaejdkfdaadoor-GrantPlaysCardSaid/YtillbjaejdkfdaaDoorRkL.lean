/- The document's lock, one word for what a law carries of it. -/
import Derived.Test.YtillbjaejdkfdaaDoorRkH
set_option maxRecDepth 4000
namespace Go.Proofs.YtillbjaejdkfdaaDoor
open Go.RowKit
/-- no row of holds -/
def NoH (o : Obj) : Prop := ∀ cur, o ≠ .cells cur 42 (0, 0)
structure RK (base b : Nat) (s : Lk) (vH vL : Value) (w : World) : Prop where
  two : RTwo w b vH vL
  oH : Own w base eH 42 vH (s.1.map hdA)
  oL : Own w base eH 42 vL (s.2.map lnA)
  sep : ∀ g, vH.ownBlock = some g → vL.ownBlock ≠ some g
def RLk (base b : Nat) (s : Lk) (w : World) : Prop := ∃ vH vL, RK base b s vH vL w
section
variable {w w' : World} {base b : Nat} {s : Lk} {vH vL : Value}
theorem rown_ne {α : Type} {E : Enc α} {v : Value} {l : List α} {base' : Nat} (h : RTwo w b vH vL) (ho : Own w base' E 42 v l) : v.ownBlock ≠ some b := fun e => by
  obtain ⟨_, _, cur, hc⟩ := own_blk ho e
  have := h.symm.trans hc
  injection this with this
  injection this with _ this
  cases this
theorem RK.below (h : RK base b s vH vL w) (k : Below w.heap.size w w') : RK base b s vH vL w' :=
  ⟨h.two.below k h.two.lt, own_belowE h.oH k, own_belowE h.oL k, h.sep⟩
theorem RLk.below (h : RLk base b s w) (k : Below w.heap.size w w') : RLk base b s w' := by
  obtain ⟨vH, vL, h⟩ := h
  exact ⟨vH, vL, h.below k⟩
theorem RLk.keep (h : RLk base b s w) {b2 : Nat} {cs : Array Value} (h2 : Blk w b2 27 cs) (k : Keep (fun i _ => i ≠ b2) w w') : RLk base b s w' := by
  obtain ⟨vH, vL, h⟩ := h
  have hk : ∀ (g : Nat) (t : TypeId) (cur : Array Value), w.heap[g]? = some (.cells cur t (0, 0)) → t ≠ 27 → w'.heap[g]? = w.heap[g]? := fun g t cur hc ht => by
    rw [hc]
    exact k.block g _ hc (ne_of_types h2 hc ht)
  refine ⟨vH, vL, (hk b _ _ h.two (by decide)).trans h.two, own_keep h.oH fun g hg => ?_, own_keep h.oL fun g hg => ?_, h.sep⟩
  · obtain ⟨_, _, cur, hc⟩ := own_blk h.oH hg
    exact hk g _ cur hc (by decide)
  · obtain ⟨_, _, cur, hc⟩ := own_blk h.oL hg
    exact hk g _ cur hc (by decide)
/-- what a call of the document's lock leaves alone -/
abbrev RKeep (base b : Nat) (w w' : World) : Prop := Keep (fun i o => i ≠ b ∧ (i < base ∨ NoH o)) w w'
/-- a grant lock stands under it -/
theorem Lock.rkeep {b2 : Nat} {s2 : Lk} (h : Lock w b2 s2) {vH vL : Value} (h2 : RTwo w b vH vL) (k : RKeep base b w w') : Lock w' b2 s2 := by
  obtain ⟨uH, uL, t, aH, aL⟩ := h
  have hb : b2 ≠ b := ne_of_types (g := b) h2 t (by decide)
  have hq : ∀ i cur, w.heap[i]? = some (.cells cur 49 (0, 0)) → i ≠ b ∧ (i < base ∨ NoH (.cells cur 49 (0, 0))) := fun i cur hc =>
    ⟨ne_of_types (g := b) h2 hc (by decide), .inr fun cur' e => by injection e with _ e; cases e⟩
  exact ⟨uH, uL, k.block b2 _ t ⟨hb, .inr fun cur e => by injection e with _ e; cases e⟩, aH.kept k hq, aL.kept k hq⟩
theorem Tab.rkeep (h : Tab w) (k : RKeep base b w w') (hb : base ≤ b) (hg : 0 < base) : Tab w' := by
  have e : w'.heap[0]? = w.heap[0]? := by
    rw [Array.getElem?_eq_getElem h.lt]
    exact k.block _ _ (Array.getElem?_eq_getElem h.lt) ⟨by omega, .inl hg⟩
  exact fun p hp => ⟨(cell_of_heap e _).trans (h p hp).1, (cell_of_heap e _).trans (h p hp).2⟩
theorem RK.far (h : RK base b s vH vL w) {g : Nat} (hg : vH.ownBlock = some g ∨ vL.ownBlock = some g) (o : Obj) (ho : w.heap[g]? = some o) : ¬ (g ≠ b ∧ (g < base ∨ NoH o)) := fun ⟨_, h2⟩ => by
  rcases hg with hg | hg
  all_goals
    first
      | (obtain ⟨hb, _, cur, hc⟩ := own_blk h.oH hg; rcases h2 with h2 | h2; omega; exact h2 cur (by rw [hc] at ho; injection ho with ho; exact ho.symm))
      | (obtain ⟨hb, _, cur, hc⟩ := own_blk h.oL hg; rcases h2 with h2 | h2; omega; exact h2 cur (by rw [hc] at ho; injection ho with ho; exact ho.symm))
/-- the line anew, in a row of the call's own -/
theorem rk_line {W v : _} {L' : List Cl} (h : RK base b s vH vL w) (k : Below w.heap.size w W) (ho : Own W w.heap.size eH 42 v (L'.map lnA)) (hbase : base ≤ w.heap.size) :
    RK base b (s.1, L') vH v (W.setCell ⟨b, 1, none⟩ v) ∧ RKeep base b w (W.setCell ⟨b, 1, none⟩ v) := by
  have h2 := h.below k
  refine ⟨⟨Blk.set_ h2.two 1 _, own_keep h2.oH fun g hg => ?_, own_base (own_keep ho fun g hg => ?_) hbase, fun g hg hg' => ?_⟩, (Keep.of_below k).setCell (fun _ _ hi => hi.1 rfl) _⟩
  · exact Below.heap_setCell W ⟨b, 1, none⟩ _ g (fun e => by subst e; exact rown_ne h2.two h2.oH hg)
  · exact Below.heap_setCell W ⟨b, 1, none⟩ _ g (fun e => by subst e; exact rown_ne h2.two ho hg)
  · have h3 := (own_blk h.oH hg).2.1
    have h4 := (own_blk ho hg').1
    omega
/-- the holders anew, in a row of the call's own -/
theorem rk_held {W v : _} {H' : List Cl} (h : RK base b s vH vL w) (k : Below w.heap.size w W) (ho : Own W w.heap.size eH 42 v (H'.map hdA)) (hbase : base ≤ w.heap.size) :
    RK base b (H', s.2) v vL (W.setCell ⟨b, 0, none⟩ v) ∧ RKeep base b w (W.setCell ⟨b, 0, none⟩ v) := by
  have h2 := h.below k
  refine ⟨⟨Blk.set_ h2.two 0 _, own_base (own_keep ho fun g hg => ?_) hbase, own_keep h2.oL fun g hg => ?_, fun g hg hg' => ?_⟩, (Keep.of_below k).setCell (fun _ _ hi => hi.1 rfl) _⟩
  · exact Below.heap_setCell W ⟨b, 0, none⟩ _ g (fun e => by subst e; exact rown_ne h2.two ho hg)
  · exact Below.heap_setCell W ⟨b, 0, none⟩ _ g (fun e => by subst e; exact rown_ne h2.two h2.oL hg)
  · have h3 := (own_blk h.oL hg').2.1
    have h4 := (own_blk ho hg).1
    omega
/-- a holder's mode stored -/
theorem rk_set {H L : List Cl} {g n c : Nat} (h : RK base b (H, L) (.slice (some ⟨g, 0, none⟩) n c) vL w) {k : Nat} (hk : k < H.length) (x : Cl) (hx0 : (H[k]?).map (·.1) = some x.1) :
    RK base b (H.set k x, L) (.slice (some ⟨g, 0, none⟩) n c) vL (w.setCell ⟨g, k * 3 + 1, none⟩ (.int .i64 (x.2 : Int))) ∧ RKeep base b w (w.setCell ⟨g, k * 3 + 1, none⟩ (.int .i64 (x.2 : Int))) := by
  have hx : (H[k]).1 = x.1 := by rw [List.getElem?_eq_getElem hk, Option.map_some] at hx0; injection hx0
  have hgb : b ≠ g := fun e => by subst e; exact rown_ne h.two h.oH rfl
  have hkm : k < (H.map hdA).length := by rw [List.length_map]; exact hk
  have ho := own_set1 h.oH hkm (hdA x) (i := 1) (u := .int .i64 (x.2 : Int)) (by show 1 < 3; omega) (by
    rw [List.getElem_map]
    show [Value.int .i64 x.1, .int .i64 (x.2 : Int), .int .i64 ((0 : Nat) : Int)] = [Value.int .i64 (H[k]).1, .int .i64 (x.2 : Int), .int .i64 ((0 : Nat) : Int)]
    rw [hx])
  refine ⟨⟨Blk.far h.two (p := ⟨g, k * 3 + 1, none⟩) hgb _, ?_, own_keep h.oL fun g' hg' => ?_, h.sep⟩, (Keep.refl _).setCell (p := ⟨g, k * 3 + 1, none⟩) (fun o ho => h.far (.inl rfl) o ho) _⟩
  · have e : (H.set k x).map hdA = (H.map hdA).set k (hdA x) := List.map_set
    simp only [e]
    exact ho
  · exact Below.heap_setCell w ⟨g, k * 3 + 1, none⟩ _ g' (fun e => by subst e; exact h.sep _ rfl hg')
/-- a holder more -/
theorem rk_append {H L : List Cl} (h : RK base b (H, L) vH vL w) (hbase : base ≤ w.heap.size) (hn : H.length ≤ 100000) (x : Cl) :
    ∃ v' W', (Builtin.append_ #[29, 29] 29 #[vH, .slice (some ⟨w.heap.size, 0, none⟩) 1 1]).run Tryd.prog (w.alloc (.cells #[.int .i64 x.1, .int .i64 (x.2 : Int), .int .i64 0] 42)) = .ok v' W' ∧
      RTwo W' b vH vL ∧ RK base b (H ++ [x], L) v' vL (W'.setCell ⟨b, 0, none⟩ v') ∧ RKeep base b w (W'.setCell ⟨b, 0, none⟩ v') ∧ ∀ i, i < w.heap.size → vH.ownBlock ≠ some i → i ≠ b → (W'.setCell ⟨b, 0, none⟩ v').heap[i]? = w.heap[i]? := by
  have hal := alloc_below w (.cells #[.int .i64 x.1, .int .i64 (x.2 : Int), .int .i64 0] 42)
  have h2 := h.below hal
  obtain ⟨v', W', hap, ho', hg', hat⟩ := append_own tyH h2.oH (lst_hold w (hdA x)) rfl 1 (by show (H.map hdA).length + 1 ≤ _; rw [List.length_map]; omega) (Nat.le_trans hbase hal.size)
  have hap' : (Builtin.append_ #[29, 29] 29 #[vH, .slice (some ⟨w.heap.size, 0, none⟩) 1 1]).run Tryd.prog (w.alloc (.cells #[.int .i64 x.1, .int .i64 (x.2 : Int), .int .i64 0] 42)) = .ok v' W' := hap
  have hb' : b < (w.alloc (.cells #[.int .i64 x.1, .int .i64 (x.2 : Int), .int .i64 0] 42)).heap.size := h2.two.lt
  have t2 : RTwo W' b vH vL := (hg'.block b hb' (fun e => rown_ne h2.two h2.oH e.symm)).trans h2.two
  have hL2 : Own W' base eH 42 vL (L.map lnA) := own_keep h2.oL fun g hg => hg'.block g (own_blk h2.oL hg).2.1 (fun e => h.sep g e.symm hg)
  refine ⟨v', W', hap', t2, ⟨Blk.set_ t2 0 _, own_keep (by simp only [List.map_append]; exact ho') fun g hg => ?_, own_keep hL2 fun g hg => ?_, fun g hg hg' => ?_⟩, ?_, fun i hi h3 h4 => ?_⟩
  · exact Below.heap_setCell W' ⟨b, 0, none⟩ _ g (fun e => by subst e; exact rown_ne t2 ho' hg)
  · exact Below.heap_setCell W' ⟨b, 0, none⟩ _ g (fun e => by subst e; exact rown_ne t2 hL2 hg)
  · rcases hat with e | e
    · exact h.sep g (e ▸ hg) hg'
    · have h5 := (own_blk h2.oL hg').2.1
      rw [e] at hg
      injection hg with hg
      omega
  · exact (((Keep.of_below hal).grown hg' fun g o hg ho => h.far (.inl hg) o ho).setCell (fun _ _ hi => hi.1 rfl) _)
  · rw [Below.heap_setCell W' ⟨b, 0, none⟩ _ i h4]
    exact (hg'.block i (Nat.lt_of_lt_of_le hi hal.size) (fun e => h3 e.symm)).trans (hal.block i hi)
end
end Go.Proofs.YtillbjaejdkfdaaDoor
