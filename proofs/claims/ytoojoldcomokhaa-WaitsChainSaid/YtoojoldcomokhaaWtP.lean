/- Edges, and who can be come to from whom; rings; a search that goes on till nobody is left. Plain. -/
import Derived.Test.YtoojoldcomokhaaEnc
set_option maxRecDepth 4000
namespace Go.Proofs.Ytoojoldcomokhaa
/-- steps lead from one to another, one or more -/
inductive Reach (l : List (Int × Int)) : Int → Int → Prop
  | one {a b : Int} : (a, b) ∈ l → Reach l a b
  | more {a b c : Int} : Reach l a b → (b, c) ∈ l → Reach l a c
def flipE (l : List (Int × Int)) : List (Int × Int) := l.map fun e => (e.2, e.1)
section
variable {l : List (Int × Int)} {a b c who : Int}
theorem mem_flip : (a, b) ∈ flipE l ↔ (b, a) ∈ l := by
  unfold flipE
  rw [List.mem_map]
  constructor
  · rintro ⟨⟨x, y⟩, h, e⟩
    simp only [Prod.mk.injEq] at e
    obtain ⟨rfl, rfl⟩ := e
    exact h
  · exact fun h => ⟨_, h, rfl⟩
theorem Reach.trans (h : Reach l a b) (k : Reach l b c) : Reach l a c := by
  induction k with
  | one e => exact .more h e
  | more _ e ih => exact .more ih e
theorem Reach.head (h : (a, b) ∈ l) (k : Reach l b c) : Reach l a c := (Reach.one h).trans k
theorem reach_flip_of (h : Reach l a b) : Reach (flipE l) b a := by
  induction h with
  | one e => exact .one (mem_flip.2 e)
  | more _ e ih => exact .head (mem_flip.2 e) ih
theorem flip_flip (l : List (Int × Int)) : flipE (flipE l) = l := by
  unfold flipE
  rw [List.map_map]
  exact List.map_id l
theorem reach_flip : Reach (flipE l) a b ↔ Reach l b a := ⟨fun h => by have := reach_flip_of h; rwa [flip_flip] at this, reach_flip_of⟩
theorem Reach.target (h : Reach l a b) : ∃ x, (x, b) ∈ l := by
  cases h with
  | one e => exact ⟨_, e⟩
  | more _ e => exact ⟨_, e⟩
/-- all that stand at the other end of one's edges -/
def succs (l : List (Int × Int)) (x : Int) : List Int := (l.filter fun e => e.1 == x).map (·.2)
theorem mem_succs : b ∈ succs l a ↔ (a, b) ∈ l := by
  unfold succs
  rw [List.mem_map]
  constructor
  · rintro ⟨⟨x, y⟩, h, e⟩
    obtain ⟨h1, h2⟩ := List.mem_filter.1 h
    simp at h2 e
    subst h2 e
    exact h1
  · exact fun h => ⟨_, List.mem_filter.2 ⟨h, by simp⟩, rfl⟩
theorem succs_length (l : List (Int × Int)) (x : Int) : (succs l x).length ≤ l.length := by
  unfold succs
  rw [List.length_map]
  exact List.length_filter_le _ _
theorem succs_nil (x : Int) : succs [] x = [] := rfl
theorem succs_same (l : List (Int × Int)) (a b : Int) : succs (l ++ [(a, b)]) a = succs l a ++ [b] := by
  unfold succs
  rw [List.filter_append, List.map_append]
  simp
theorem succs_other {x : Int} (h : x ≠ a) : succs (l ++ [(a, b)]) x = succs l x := by
  unfold succs
  rw [List.filter_append, List.map_append]
  have : (a == x) = false := by simpa using fun e => h e.symm
  simp [this]
theorem flip_snoc (l : List (Int × Int)) (e : Int × Int) : flipE (l ++ [e]) = flipE l ++ [(e.2, e.1)] := by
  unfold flipE
  rw [List.map_append]; rfl
theorem flip_length (l : List (Int × Int)) : (flipE l).length = l.length := List.length_map ..
end
theorem nodup_short {xs : List Int} : ∀ {ys : List Int}, xs.Nodup → (∀ x ∈ xs, x ∈ ys) → xs.length ≤ ys.length := by
  induction xs with
  | nil => intro _ _ _; exact Nat.zero_le _
  | cons x r ih =>
    intro ys hn hs
    obtain ⟨h1, h2⟩ := List.nodup_cons.1 hn
    have hx := hs x (List.mem_cons_self ..)
    have := ih (ys := ys.erase x) h2 fun y hy => (List.mem_erase_of_ne (fun e : y = x => h1 (e ▸ hy))).2 (hs y (List.mem_cons_of_mem _ hy))
    rw [List.length_erase_of_mem hx] at this
    have := List.length_pos_of_mem hx
    rw [List.length_cons]
    omega
/-- met so far, and those still to be left -/
structure Search (l : List (Int × Int)) (who : Int) (ms os : List Int) : Prop where
  nodup : ms.Nodup
  met : ∀ x ∈ ms, Reach l who x
  opn : ∀ x ∈ os, x = who ∨ x ∈ ms
  done : ∀ x, x = who ∨ x ∈ ms → x ∈ os ∨ ∀ y ∈ succs l x, y ∈ ms
  len : os.length ≤ ms.length + 1
/-- while one is being left: some of those next to it are met -/
structure Mid (l : List (Int × Int)) (who pt : Int) (i : Nat) (ms os : List Int) : Prop where
  nodup : ms.Nodup
  met : ∀ x ∈ ms, Reach l who x
  opn : ∀ x ∈ os, x = who ∨ x ∈ ms
  cur : pt = who ∨ pt ∈ ms
  done : ∀ x, x = who ∨ x ∈ ms → x ∈ os ∨ (∀ y ∈ succs l x, y ∈ ms) ∨ x = pt
  part : ∀ y ∈ (succs l pt).take i, y ∈ ms
  len : os.length ≤ ms.length
section
variable {l : List (Int × Int)} {who a x : Int} {ms os : List Int} {i : Nat}
theorem Search.start (l : List (Int × Int)) (who : Int) : Search l who [] [who] :=
  ⟨List.nodup_nil, fun _ h => (by cases h), fun x h => .inl (by simpa using h), fun x h => .inl (by simpa using h), by simp⟩
theorem Search.leave (h : Search l who ms (os ++ [a])) : Mid l who a 0 ms os := by
  refine ⟨h.nodup, h.met, fun x hx => h.opn x (List.mem_append_left _ hx), h.opn a (by simp), fun x hx => ?_, fun y hy => by simp at hy, by have := h.len; simp at this; omega⟩
  rcases h.done x hx with h1 | h1
  · rcases List.mem_append.1 h1 with h1 | h1
    · exact .inl h1
    · exact .inr (.inr (by simpa using h1))
  · exact .inr (.inl h1)
theorem Mid.known (h : Mid l who a i ms os) (hi : (succs l a)[i]? = some x) (hx : x ∈ ms) : Mid l who a (i + 1) ms os := by
  refine ⟨h.nodup, h.met, h.opn, h.cur, h.done, fun y hy => ?_, h.len⟩
  obtain ⟨hl, rfl⟩ := List.getElem?_eq_some_iff.1 hi
  rw [List.take_succ_eq_append_getElem hl] at hy
  rcases List.mem_append.1 hy with hy | hy
  · exact h.part y hy
  · rw [List.mem_singleton.1 hy]; exact hx
theorem Mid.fresh (h : Mid l who a i ms os) (hi : (succs l a)[i]? = some x) (hx : x ∉ ms) : Mid l who a (i + 1) (ms ++ [x]) (os ++ [x]) := by
  obtain ⟨hl, hxe⟩ := List.getElem?_eq_some_iff.1 hi
  have hedge : (a, x) ∈ l := mem_succs.1 (List.mem_of_getElem? hi)
  refine ⟨?_, fun y hy => ?_, fun y hy => ?_, ?_, fun y hy => ?_, fun y hy => ?_, ?_⟩
  · rw [List.nodup_append]
    refine ⟨h.nodup, by simp, fun u hu v hv e => ?_⟩
    rw [List.mem_singleton.1 hv] at e
    exact hx (e ▸ hu)
  · rcases List.mem_append.1 hy with hy | hy
    · exact h.met y hy
    · rw [List.mem_singleton.1 hy]
      rcases h.cur with e | e
      · exact .one (e ▸ hedge)
      · exact .more (h.met a e) hedge
  · rcases List.mem_append.1 hy with hy | hy
    · exact (h.opn y hy).imp id fun h => List.mem_append_left _ h
    · exact .inr (List.mem_append_right _ hy)
  · exact h.cur.imp id fun h => List.mem_append_left _ h
  · have old : (y = who ∨ y ∈ ms) ∨ y = x := by
      rcases hy with hy | hy
      · exact .inl (.inl hy)
      · rcases List.mem_append.1 hy with hy | hy
        · exact .inl (.inr hy)
        · exact .inr (by simpa using hy)
    rcases old with old | rfl
    · rcases h.done y old with h1 | h1 | h1
      · exact .inl (List.mem_append_left _ h1)
      · exact .inr (.inl fun z hz => List.mem_append_left _ (h1 z hz))
      · exact .inr (.inr h1)
    · exact .inl (by simp)
  · rw [List.take_succ_eq_append_getElem hl] at hy
    rcases List.mem_append.1 hy with hy | hy
    · exact List.mem_append_left _ (h.part y hy)
    · rw [List.mem_singleton.1 hy, hxe]; simp
  · have := h.len
    simp; omega
theorem Mid.leave (h : Mid l who a i ms os) (hi : (succs l a).length ≤ i) : Search l who ms os := by
  refine ⟨h.nodup, h.met, h.opn, fun x hx => ?_, by have := h.len; omega⟩
  rcases h.done x hx with h1 | h1 | rfl
  · exact .inl h1
  · exact .inr h1
  · exact .inr fun y hy => h.part y (by rw [List.take_of_length_le hi]; exact hy)
theorem Search.all (h : Search l who ms []) (x : Int) : x ∈ ms ↔ Reach l who x := by
  have cl : ∀ x, x = who ∨ x ∈ ms → ∀ y ∈ succs l x, y ∈ ms := fun x hx => (h.done x hx).resolve_left (by simp)
  refine ⟨h.met x, fun hr => ?_⟩
  induction hr with
  | one e => exact cl who (.inl rfl) _ (mem_succs.2 e)
  | more _ e ih => exact cl _ (.inr ih) _ (mem_succs.2 e)
theorem met_short (hn : ms.Nodup) (h : ∀ x ∈ ms, Reach l who x) : ms.length ≤ l.length := by
  have := nodup_short (ys := l.map (·.2)) hn fun x hx => by
    obtain ⟨y, hy⟩ := (h x hx).target
    exact List.mem_map.2 ⟨_, hy, rfl⟩
  simpa using this
end
/-- the ring that one is in -/
structure IsRing (l : List (Int × Int)) (who : Int) (r : List Int) : Prop where
  up : r.Pairwise (· < ·)
  mem : ∀ x, x ∈ r ↔ Reach l who x ∧ Reach l x who
theorem up_unique : ∀ {r s : List Int}, r.Pairwise (· < ·) → s.Pairwise (· < ·) → (∀ x, x ∈ r ↔ x ∈ s) → r = s
  | [], [], _, _, _ => rfl
  | [], y :: s, _, _, h => absurd ((h y).2 (List.mem_cons_self ..)) (by simp)
  | x :: r, [], _, _, h => absurd ((h x).1 (List.mem_cons_self ..)) (by simp)
  | x :: r, y :: s, h1, h2, h => by
    obtain ⟨a1, b1⟩ := List.pairwise_cons.1 h1
    obtain ⟨a2, b2⟩ := List.pairwise_cons.1 h2
    have e : x = y := by
      rcases List.mem_cons.1 ((h x).1 (List.mem_cons_self ..)) with e | e
      · exact e
      · rcases List.mem_cons.1 ((h y).2 (List.mem_cons_self ..)) with e' | e'
        · exact e'.symm
        · have := a1 y e'; have := a2 x e; omega
    subst e
    rw [up_unique b1 b2 fun z => ?_]
    constructor
    · intro hz
      rcases List.mem_cons.1 ((h z).1 (List.mem_cons_of_mem _ hz)) with e | e
      · have := a1 z hz; omega
      · exact e
    · intro hz
      rcases List.mem_cons.1 ((h z).2 (List.mem_cons_of_mem _ hz)) with e | e
      · have := a2 z hz; omega
      · exact e
theorem IsRing.unique {l : List (Int × Int)} {who : Int} {r s : List Int} (h : IsRing l who r) (k : IsRing l who s) : r = s := up_unique h.up k.up fun x => (h.mem x).trans (k.mem x).symm
theorem up_nodup {r : List Int} (h : r.Pairwise (· < ·)) : r.Nodup := h.imp fun h => by omega
theorem IsRing.short {l : List (Int × Int)} {who : Int} {r : List Int} (h : IsRing l who r) : r.length ≤ l.length := met_short (up_nodup h.up) fun x hx => ((h.mem x).1 hx).1
theorem up_of_sorted {r : List Int} (h : r.Pairwise (fun x y => decide (x ≤ y) = true)) (hn : r.Nodup) : r.Pairwise (· < ·) :=
  (List.Pairwise.and h hn).imp fun ⟨h1, h2⟩ => by simp at h1; omega
theorem sort_up {zs : List Int} (hn : zs.Nodup) : (zs.mergeSort fun x y => decide (x ≤ y)).Pairwise (· < ·) :=
  up_of_sorted (List.pairwise_mergeSort (fun a b c h1 h2 => by simp at *; omega) (fun a b => by simp; omega) zs) ((List.mergeSort_perm zs _).nodup_iff.2 hn)
theorem mem_sort {zs : List Int} {x : Int} : x ∈ (zs.mergeSort fun x y => decide (x ≤ y)) ↔ x ∈ zs := (List.mergeSort_perm zs _).mem_iff
end Go.Proofs.Ytoojoldcomokhaa
