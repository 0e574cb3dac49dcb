/- A queue of numbers in memory: taken from the front, appended to at the end. -/
import Derived.Test.YtoojoldcomokhaaEnc
import Derived.ArgAppend
set_option maxRecDepth 4000
namespace Go.Proofs.Ytoojoldcomokhaa
open Go.RowKit
/-- the slice lies in block g, from somewhere on -/
def Que (w : World) (base g : Nat) (v : Value) (l : List Int) : Prop :=
  ∃ off cap cur, v = .slice (some ⟨g, off, none⟩) l.length cap ∧ base ≤ g ∧ Blk w g 3 cur ∧ off + cap ≤ cur.size ∧ l.length ≤ cap ∧ cap ≤ maxLen ∧ ∀ j x, l[j]? = some x → cur[off + j]? = some (.int .i64 x)
section
variable {w w' : World} {base g : Nat} {v : Value} {l : List Int}
theorem que_one (hb : base ≤ w.heap.size) (x : Int) : Que (w.alloc (.cells #[.int .i64 x] 3)) base w.heap.size (.slice (some ⟨w.heap.size, 0, none⟩) 1 1) [x] :=
  ⟨0, 1, #[.int .i64 x], rfl, hb, Blk.new _ _ _, Nat.le_refl _, Nat.le_refl _, by unfold maxLen; omega, fun j y hj => by
    match j, hj with
    | 0, hj => simp at hj; subst hj; rfl⟩
theorem Que.lt (h : Que w base g v l) : base ≤ g ∧ g < w.heap.size := by
  obtain ⟨_, _, _, _, h1, h2, _⟩ := h
  exact ⟨h1, h2.lt⟩
theorem Que.same (h : Que w base g v l) (hk : w'.heap[g]? = w.heap[g]?) : Que w' base g v l := by
  obtain ⟨off, cap, cur, h1, h2, h3, hr⟩ := h
  exact ⟨off, cap, cur, h1, h2, hk.trans h3, hr⟩
theorem Que.below (h : Que w base g v l) (k : Below w.heap.size w w') : Que w' base g v l := h.same (k.block g h.lt.2)
/-- the first of it, and the rest -/
theorem Que.head_ {a : Int} (h : Que w base g v (a :: l)) : ∃ off cap, v = .slice (some ⟨g, off, none⟩) (l.length + 1) cap ∧ w.cell? ⟨g, off, none⟩ = some (.int .i64 a) ∧
    ∃ v', (∀ W, (Instr.slice 27 (.slice (some ⟨g, off, none⟩) (l.length + 1) cap) (some (.int .i64 1)) none none).run Try.prog W = .ok v' W) ∧ Que w base g v' l := by
  obtain ⟨off, cap, cur, rfl, hb, hk, hs, hn, hm, hc⟩ := h
  have c0 := hc 0 a rfl
  rw [Nat.add_zero] at c0
  rw [List.length_cons] at hn
  refine ⟨off, cap, rfl, (hk.cell off).trans c0, .slice (some ⟨g, if cap = 1 then off else off + 1, none⟩) l.length (cap - 1), fun W => ?_, ?_⟩
  · rw [run_slice_l W 27 _ _ _ (by rw [elemI]; exact Try.underlying27) .i64 _ (by omega) (by omega), elemI, sizeI]
    simp only [Result.andThen, sliced]
    by_cases h1 : cap = 1
    · simp [h1]
    · simp [h1, Addr.add]
  · by_cases h1 : cap = 1
    · subst h1
      have hl : l = [] := List.eq_nil_of_length_eq_zero (by omega)
      subst hl
      exact ⟨off, 0, cur, rfl, hb, hk, by omega, Nat.zero_le _, by omega, fun j x hj => by simp at hj⟩
    · rw [if_neg h1]
      exact ⟨off + 1, cap - 1, cur, rfl, hb, hk, by omega, by omega, by omega, fun j x hj => by
        have := hc (j + 1) x (by simpa using hj)
        rw [← this]; congr 1; omega⟩
theorem que_append (h : Que w base g v l) (hbase : base ≤ w.heap.size) (hn : l.length ≤ 100000) (x : Int) :
    ∃ v' g' W', (Builtin.append_ #[27, 27] 27 #[v, .slice (some ⟨w.heap.size, 0, none⟩) 1 1]).run Try.prog (w.alloc (.cells #[.int .i64 x] 3)) = .ok v' W' ∧ Que W' base g' v' (l ++ [x]) ∧ (g' = g ∨ w.heap.size ≤ g') ∧ w.grownBy W' (some g) := by
  obtain ⟨off, cap, cur, rfl, hb, hk, hs, hnc, hm, hc⟩ := h
  obtain ⟨i0, hi, hz0, hz1, hz2⟩ := info_parts (show (Try.prog.info? 3).map (fun i => (i.zero, i.size, i.bytes)) = some (some (.int .i64 0), 1, 8) by kernel_rfl)
  have hk1 := hk.alloc (.cells #[.int .i64 x] 3)
  have hnew := cell_one_new w (.int .i64 x) 3
  have hga : w.grownBy (w.alloc (.cells #[.int .i64 x] 3)) (some g) := World.grownBy_alloc w _ _
  have hsz : (w.alloc (.cells #[.int .i64 x] 3)).heap.size = w.heap.size + 1 := by simp
  have h1c : ∀ u ∈ [Value.int .i64 x], u.oneCell' = true := fun u hu => by rw [List.mem_singleton.1 hu]; rfl
  generalize w.alloc (.cells #[.int .i64 x] 3) = wA at *
  by_cases hroom : l.length + 1 ≤ cap
  · have hr := run_append_room_cells (P := Try.prog) wA 27 27 3 i0 Try.underlying27 hi g off l.length cap ⟨w.heap.size, 0, none⟩ 1 1 [.int .i64 x] (by simp [hz1]) hnew h1c hroom
      (fun j hj => by
        obtain rfl : j = 0 := by simpa using hj
        rw [hz1, hk1.cell, Array.getElem?_eq_getElem (by omega)]; rfl) (fun j _ => hk1.frozen _)
    rw [hz1, Nat.mul_one] at hr
    refine ⟨_, g, _, hr, ⟨off, cap, cur.setIfInBounds (off + l.length) (.int .i64 x), by simp, hb, hk1.set_ _ _, by simpa using hs, by simpa using hroom, hm, fun j y hj => ?_⟩, .inl rfl, hga.trans ⟨rfl, rfl, rfl, by simp [World.setCells, World.setCell], fun i _ hne => heap_setCells_far g _ _ _ i fun e => hne (by rw [e])⟩⟩
    rcases Nat.lt_or_ge j l.length with hlt | hge
    · rw [List.getElem?_append_left hlt] at hj
      rw [Array.getElem?_setIfInBounds_ne (by omega)]
      exact hc j y hj
    · have hj0 : j = l.length := by
        have := (List.getElem?_eq_some_iff.1 hj).1
        simp at this; omega
      subst hj0
      simp at hj
      subst hj
      rw [Array.getElem?_setIfInBounds_self_of_lt (by omega)]
  · have holds : ∀ j u, (l.map (Value.int .i64))[j]? = some u → wA.cell? ((⟨g, off, none⟩ : Addr).add j) = some u := fun j u hj => by
      rw [List.getElem?_map] at hj
      cases hlj : l[j]? with
      | none => rw [hlj] at hj; cases hj
      | some y =>
        rw [hlj] at hj
        simp at hj
        subst hj
        rw [add_none, hk1.cell]
        exact hc j y hlj
    have hr := run_append_grow (P := Try.prog) wA 27 27 3 i0 (.int .i64 0) Try.underlying27 hi hz0 ⟨g, off, none⟩ l.length cap (l.map (Value.int .i64)) (by simp [hz1]) holds ⟨w.heap.size, 0, none⟩ 1 1 [.int .i64 x] (by simp [hz1]) hnew (by omega) (by omega)
      (growslice_fits (by omega) (by rw [hz2]; omega))
    have hge := grownCap_ge wA (l.length + 1) cap 3
    have hcm := grownCap_le_maxLen wA (l.length + 1) cap 3 (by unfold maxLen; omega)
    generalize grownCap wA (l.length + 1) cap 3 = C at *
    have hd : wA.drew.heap.size = w.heap.size + 1 := hsz
    refine ⟨_, _, _, hr, ⟨0, C, _, by simp, by rw [hd]; omega, heap_alloc_new _ _, ?_, by simpa using hge, hcm, fun j y hj => ?_⟩, .inr (by rw [hd]; omega), hga.trans ⟨rfl, rfl, rfl, by simp, fun i hi' _ => (alloc_below wA.drew _).block i hi'⟩⟩
    · simp [Builtin.zeroCells, Value.cells]; omega
    · have hjl := (List.getElem?_eq_some_iff.1 hj).1
      rw [Nat.zero_add, Array.getElem?_append_left (by simpa using hjl)]
      have : ((l ++ [x]).map (Value.int .i64))[j]? = some (.int .i64 y) := by rw [List.getElem?_map, hj]; rfl
      simpa using this
end
end Go.Proofs.Ytoojoldcomokhaa
