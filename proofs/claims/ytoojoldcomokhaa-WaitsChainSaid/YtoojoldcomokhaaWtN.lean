/- One edge more in a map of rows; a graph of two such maps. -/
import Derived.Test.YtoojoldcomokhaaWtM
set_option maxRecDepth 4000
namespace Go.Proofs.Ytoojoldcomokhaa
open Go.RowKit Go.Maps Go.MapKept Go.ChangeShapes
open Go.WideElems (Fit)
theorem isMap_groups {w : World} {k : TypeId} {base : Nat} {e : TypeId} {q : IntKind} {b n : Nat} {D : DataW Unit} (h : w.ownsGroups Try.prog k base e q b n D) : IsMap D := by
  obtain ⟨es, clock, _, _, _, rfl, _⟩ := h
  exact ⟨_, rfl⟩
/-- what a map of rows answers, and what a store of that row with one more behind leaves -/
theorem adj_push {w : World} {b base : Nat} {l : List (Int × Int)} (h : Adj w b base l) (hl : l.length ≤ 100000) (hb : base ≤ w.heap.size) {a x : Int} (ha : Wf a) (hx : Wf x) :
    ∃ v, (∀ W : World, W.heap[b]? = w.heap[b]? → (Instr.lookup 33 (.map (some b)) (.int .i64 a) false).run Try.prog W = .ok v W) ∧ Own w base eI 3 v (succs l a) ∧ (∀ No : Nat → Prop, w.Shuns b No → ∀ g, v.ownBlock = some g → ¬ No g) ∧
      ∃ v' w1 w2, (Builtin.append_ #[27, 27] 27 #[v, .slice (some ⟨w.heap.size, 0, none⟩) 1 1]).run Try.prog (w.alloc (.cells #[.int .i64 x] 3)) = .ok v' w1 ∧
        (Instr.mapUpdate 33 (.map (some b)) (.int .i64 a) v').run Try.prog w1 = .ok () w2 ∧ Adj w2 b base (l ++ [(a, x)]) ∧ w.grownBy w1 v.ownBlock ∧ w1.grownBy w2 (some b) ∧
        (∀ No : Nat → Prop, w.Shuns b No → (∀ g, No g → g < w.heap.size) → w2.Shuns b No) := by
  obtain ⟨D, hown, hD⟩ := h
  have hmax : l.length < maxLen := by unfold maxLen; omega
  obtain ⟨v, zs, hrun, hat, hoi, hzl, hback⟩ := hown.at lawI Try.underlying33 (zeroS _) hmax (keyI ha)
  have hmap := isMap_groups hown
  have hzs : zs = succs l a := lits_inj (by rw [← hD a ha, hat, itemsD_row hoi])
  subst hzs
  obtain ⟨es, clock, hes, F, hes2, _, hbb, _, _⟩ := hown
  have hlook : ∀ W : World, W.heap[b]? = w.heap[b]? → (Instr.lookup 33 (.map (some b)) (.int .i64 a) false).run Try.prog W = .ok v W := fun W hW =>
    look_same lawI Try.underlying33 zeroS F (keyI ha) hes hrun (hW.trans hes)
  have hshun : ∀ No : Nat → Prop, w.Shuns b No → ∀ g, v.ownBlock = some g → ¬ No g := by
    rcases Maps.fit_look false lawI Try.underlying33 (zeroS w) hes F (keyI ha) with ⟨h1, _⟩ | ⟨e0, _, m0, _, h1, _⟩
    · rw [hrun] at h1
      obtain rfl : v = .slice none 0 0 := by simpa using h1
      intro _ _ g hg; cases hg
    · rw [hrun] at h1
      obtain rfl : v = e0.val := by simpa using h1
      exact fun No hs g hg => hs es clock hes e0 m0 g hg
  have hal := alloc_below w (.cells #[.int .i64 x] 3)
  have ho : Own w base eI 3 v (succs l a) := own_of_ints hoi
  have ho2 := own_keep (W' := w.alloc (.cells #[.int .i64 x] 3)) ho fun g hg => hal.block g (own_blk ho hg).2.1
  obtain ⟨v', w1, hap, ho', hg', hloc⟩ := append_own tyI ho2 (int_one w x) rfl 1 (by show (succs l a).length + 1 ≤ _; omega) (Nat.le_trans hb hal.size)
  have hall : w.grownBy w1 v.ownBlock := (World.grownBy_alloc w _ v.ownBlock).trans hg'
  have hoi' : w1.ownsInts base 3 .i64 v' (succs l a ++ [x]) := by
    refine ⟨?_, fun z hz => ?_⟩
    · rw [← cellsI]; exact ho'
    · rcases List.mem_append.1 hz with hz | hz
      · exact hoi.2 z hz
      · rw [List.mem_singleton.1 hz]; exact hx
  have hloc' : v'.ownBlock = v.ownBlock ∨ ∃ g, v'.ownBlock = some g ∧ w.heap.size ≤ g := hloc.imp id fun e => ⟨_, e, hal.size⟩
  obtain ⟨w2, hup, hown2, hg2⟩ := hback w1 v' _ hall hoi' (by simp; omega) hloc'
  refine ⟨v, hlook, ho, hshun, v', w1, w2, hap, hup, ⟨_, by rw [List.length_append]; exact hown2, fun y hy => ?_⟩, hall, hg2, fun No hs hn => ?_⟩
  · by_cases hya : y = a
    · subst hya
      rw [atKey_put_same (k := .int .i64 y) hmap trivial, itemsD_row hoi', succs_same]
    · rw [atKey_put_other (fun e => hya (by injection e)), hD y hy, succs_other hya]
  · have hbl : b < w.heap.size := lt_of_some hes
    have hb1 : w1.heap[b]? = some (.map es clock) := (hall.block b hbl (fun e1 => by have := (own_blk ho e1.symm).1; omega)).trans hes
    obtain ⟨es', clock', hb2, hwho⟩ := stored_who lawI Try.underlying33 hb1 F (Nat.lt_of_le_of_lt hes2 hmax) (keyI ha) hup
    intro es2 clock2 hb2' y hy g hyg
    obtain ⟨rfl, rfl⟩ : es' = es2 ∧ clock' = clock2 := by rw [hb2] at hb2'; simpa using hb2'
    rcases hwho y hy with ⟨hy0, _⟩ | ⟨_, hval⟩
    · exact hs es clock hes y hy0 g hyg
    · rw [hval] at hyg
      rcases hloc' with e | ⟨g', e, hge⟩
      · exact hshun No hs g (e ▸ hyg)
      · intro hN
        rw [e] at hyg
        injection hyg with hyg
        have := hn g hN
        omega
/-- two maps of rows: no row of the one is a row of the other -/
structure Graph (w : World) (b1 b2 base : Nat) (l1 l2 : List (Int × Int)) : Prop where
  a1 : Adj w b1 base l1
  a2 : Adj w b2 base l2
  ne : b1 ≠ b2
  lt1 : b1 < base
  lt2 : b2 < base
  base : base ≤ w.heap.size
  apart : ∃ S : Nat → Prop, w.Shuns b1 S ∧ w.Shuns b2 (fun g => ¬ S g)
/-- what stays as it was: but the two maps and rows of numbers from base on -/
def KG (b1 b2 base : Nat) (i : Nat) (o : Obj) : Prop := i ≠ b1 ∧ i ≠ b2 ∧ (i < base ∨ ∀ cs, o ≠ .cells cs 3 (0, 0))
section
variable {w w' : World} {b1 b2 base : Nat} {l1 l2 : List (Int × Int)}
theorem Graph.symm (h : Graph w b1 b2 base l1 l2) : Graph w b2 b1 base l2 l1 := by
  obtain ⟨S, s1, s2⟩ := h.apart
  exact ⟨h.a2, h.a1, h.ne.symm, h.lt2, h.lt1, h.base, fun g => ¬ S g, s2, fun es clock hb x hx g hg hn => hn (s1 es clock hb x hx g hg)⟩
theorem KG.symm {i : Nat} {o : Obj} (h : KG b1 b2 base i o) : KG b2 b1 base i o := ⟨h.2.1, h.1, h.2.2⟩
theorem Graph.below (h : Graph w b1 b2 base l1 l2) (k : Below w.heap.size w w') : Graph w' b1 b2 base l1 l2 := by
  obtain ⟨S, s1, s2⟩ := h.apart
  exact ⟨h.a1.below k, h.a2.below k, h.ne, h.lt1, h.lt2, Nat.le_trans h.base k.size, S, s1.kept (grown_of_below k) h.a1.lt (by simp), s2.kept (grown_of_below k) h.a2.lt (by simp)⟩
theorem keep_row {v : Value} {zs : List Int} (ho : Own w base eI 3 v zs) (hg : w.grownBy w' v.ownBlock) : Keep (KG b1 b2 base) w w' := (Keep.refl w).grown hg fun g o e h hk => by
  obtain ⟨hb, _, cur, hc⟩ := own_blk ho e
  rw [h] at hc
  injection hc with hc
  rcases hk.2.2 with h1 | h1
  · omega
  · exact h1 cur hc
theorem graph_push (h : Graph w b1 b2 base l1 l2) (hl : l1.length ≤ 100000) {a x : Int} (ha : Wf a) (hx : Wf x) :
    ∃ v, (∀ W : World, W.heap[b1]? = w.heap[b1]? → (Instr.lookup 33 (.map (some b1)) (.int .i64 a) false).run Try.prog W = .ok v W) ∧
      ∃ v' w1 w2, (Builtin.append_ #[27, 27] 27 #[v, .slice (some ⟨w.heap.size, 0, none⟩) 1 1]).run Try.prog (w.alloc (.cells #[.int .i64 x] 3)) = .ok v' w1 ∧
        (Instr.mapUpdate 33 (.map (some b1)) (.int .i64 a) v').run Try.prog w1 = .ok () w2 ∧ Graph w2 b1 b2 base (l1 ++ [(a, x)]) l2 ∧ Keep (KG b1 b2 base) w w1 ∧ Keep (KG b1 b2 base) w w2 := by
  obtain ⟨S, s1, s2⟩ := h.apart
  obtain ⟨v, hlook, ho, hsh, v', w1, w2, hap, hup, hadj, hg1, hg2, hs2⟩ := adj_push h.a1 hl h.base ha hx
  have hv2 : some b2 ≠ v.ownBlock := fun e => by have := (own_blk ho e.symm).1; have := h.lt2; omega
  have t1 : w.Shuns b1 (fun g => S g ∧ g < w.heap.size) := fun es clock hb y hy g hg hN => s1 es clock hb y hy g hg hN.1
  have t2 : w.Shuns b2 (fun g => ¬ (S g ∧ g < w.heap.size)) := by
    obtain ⟨D2, hown2, _⟩ := h.a2
    exact s2.reno hown2 fun g hg => by
      rcases Nat.lt_or_ge g w.heap.size with hlt | hge
      · exact .inl fun hs => hg ⟨hs, hlt⟩
      · exact .inr hge
  have c1 := h.a2.kept hg1 hv2 (s2.rowsOff fun j hj => hsh S s1 j hj)
  have c2 : Adj w2 b2 base l2 := by
    obtain ⟨D2, hown2, hD2⟩ := c1
    exact ⟨D2, hown2.kept hg2 (fun e => h.ne (by injection e with e; exact e.symm)) (hown2.rowsAbove fun j hj => by injection hj with hj; subst hj; exact h.lt1), hD2⟩
  have k1 : Keep (KG b1 b2 base) w w1 := keep_row ho hg1
  refine ⟨v, hlook, v', w1, w2, hap, hup, ⟨hadj, c2, h.ne, h.lt1, h.lt2, Nat.le_trans h.base (Nat.le_trans hg1.size hg2.size), _, hs2 _ t1 (fun g hg => hg.2), (t2.kept hg1 h.a2.lt hv2).kept hg2 c1.lt (fun e => h.ne (by injection e with e; exact e.symm))⟩, k1, k1.grown hg2 fun g o e _ hk => ?_⟩
  injection e with e
  exact hk.1 e.symm
theorem Graph.drew (h : Graph w b1 b2 base l1 l2) : Graph w.drew b1 b2 base l1 l2 := ⟨h.a1, h.a2, h.ne, h.lt1, h.lt2, h.base, h.apart⟩
/-- two new maps, of no edges -/
theorem adj_new {base : Nat} (h : w.heap[b1]? = some (.map #[] 0)) (hb : b1 < base) : Adj w b1 base [] :=
  ⟨.map [], ⟨#[], 0, h, ⟨by simp, stamped_empty 0, by simp⟩, Nat.le_refl _, rfl, hb, by simp, by simp⟩, fun _ _ => rfl⟩
theorem shuns_new (h : w.heap[b1]? = some (.map #[] 0)) (No : Nat → Prop) : w.Shuns b1 No := fun es clock hb x hx => by
  rw [h] at hb
  cases hb
  simp at hx
theorem graph_new (h1 : w.heap[b1]? = some (.map #[] 0)) (h2 : w.heap[b2]? = some (.map #[] 0)) (hne : b1 ≠ b2) (hb1 : b1 < base) (hb2 : b2 < base) (hb : base ≤ w.heap.size) : Graph w b1 b2 base [] [] :=
  ⟨adj_new h1 hb1, adj_new h2 hb2, hne, hb1, hb2, hb, fun _ => True, shuns_new h1 _, shuns_new h2 _⟩
end
/-- what is found in a map of rows -/
theorem adj_at {w : World} {b base : Nat} {l : List (Int × Int)} (h : Adj w b base l) (hl : l.length ≤ 100000) {a : Int} (ha : Wf a) :
    ∃ v, (∀ W : World, W.heap[b]? = w.heap[b]? → (Instr.lookup 33 (.map (some b)) (.int .i64 a) false).run Try.prog W = .ok v W) ∧ Own w base eI 3 v (succs l a) ∧ ∀ x ∈ succs l a, Wf x := by
  obtain ⟨D, hown, hD⟩ := h
  obtain ⟨v, zs, hrun, hat, hoi, _, _⟩ := hown.at lawI Try.underlying33 (zeroS _) (by unfold maxLen; omega) (keyI ha)
  obtain rfl : zs = succs l a := lits_inj (by rw [← hD a ha, hat, itemsD_row hoi])
  obtain ⟨es, clock, hes, F, _⟩ := hown
  exact ⟨v, fun W hW => look_same lawI Try.underlying33 zeroS F (keyI ha) hes hrun (hW.trans hes), own_of_ints hoi, hoi.2⟩
/-- a set of numbers at block b -/
def Met (w : World) (b : Nat) (ms : List Int) : Prop := w.ownsMap (H := Unit) Try.prog 3 unitElem b ms.length (setOf (.agg []) (ms.map (Lit.int .i64)))
section
variable {w w' : World} {b : Nat} {ms : List Int} {x : Int}
theorem met_keys (ms : List Int) : ∀ y ∈ ms.map (Lit.int .i64), WideAt.IsKeyLit y := fun y hy => by
  obtain ⟨z, _, rfl⟩ := List.mem_map.1 hy
  exact trivial
theorem met_has (ms : List Int) (x : Int) : Maps.has (setOf (H := Unit) (.agg []) (ms.map (Lit.int .i64))) (.int .i64 x) = decide (x ∈ ms) := by
  rw [has_setOf _ _ _ (met_keys ms), Bool.eq_iff_iff, List.any_eq_true, decide_eq_true_iff]
  constructor
  · rintro ⟨y, hy, e⟩
    obtain ⟨z, hz, rfl⟩ := List.mem_map.1 hy
    simp [Lit.sameKey] at e
    exact e ▸ hz
  · exact fun h => ⟨_, List.mem_map.2 ⟨x, h, rfl⟩, by simp [Lit.sameKey]⟩
theorem Met.lt (h : Met w b ms) : b < w.heap.size := World.ownsMap.lt h
theorem Met.kept {row : Option Nat} (h : Met w b ms) (hg : w.grownBy w' row) (hne : some b ≠ row) : Met w' b ms := World.ownsMap.kept h hg hne
theorem Met.below (h : Met w b ms) (k : Below w.heap.size w w') : Met w' b ms := h.kept (grown_of_below k) (by simp)
theorem Met.put_ (h : Met w b ms) (hx : Wf x) (hl : ms.length ≤ 100000) : ∃ w', (Instr.mapUpdate 38 (.map (some b)) (.int .i64 x) (.agg #[])).run Try.prog w = .ok () w' ∧ Met w' b (ms ++ [x]) ∧ w.grownBy w' (some b) := by
  obtain ⟨w', h1, h2, h3⟩ := World.ownsMap.update h lawI Try.underlying38 (by unfold maxLen; omega) (keyI hx) (val := .agg #[]) (unitElem_mk (H := Unit))
  refine ⟨w', h1, ?_, h3⟩
  unfold Met
  rw [List.map_append, List.length_append]
  show w'.ownsMap _ _ _ _ _ (setOf _ (_ ++ [Lit.int .i64 x]))
  rw [setOf_snoc]
  exact h2
theorem Met.look (h : Met w b ms) (hx : Wf x) : (Instr.lookup 38 (.map (some b)) (.int .i64 x) true).run Try.prog w = .ok (.tuple #[.agg #[], .bool (decide (x ∈ ms))]) w := by
  obtain ⟨v, ps, h1, h2⟩ := World.ownsMap.look_ok h lawI Try.underlying38 (zeroU w) (zd := .agg []) (zp := []) unitElem_mk (keyI hx)
  obtain ⟨rfl, _⟩ := unitElem_inv h2
  rw [h1, met_has]
theorem met_new (w : World) : Met (w.alloc (.map #[] 0)) w.heap.size [] := World.ownsMap_made w _ _ _
end
end Go.Proofs.Ytoojoldcomokhaa
