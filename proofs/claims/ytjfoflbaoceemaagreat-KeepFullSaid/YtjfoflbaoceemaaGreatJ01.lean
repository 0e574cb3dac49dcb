/- . . . . . . . -/
import Derived.Below
import Derived.Laws.OwnMore
import Derived.Deep.Draws
import Derived.Laws.Rows
import Derived.Laws.AppendOwn
import Derived.Deep.MidRow
import Derived.Test.YtjfoflbaoceemaaGreatProg
import Derived.WalkKit
import Derived.ProofKit
import Derived.LoopTactic
import Derived.Laws.Cover1
import Derived.Lib.Hide
import Derived.Laws.MakeOwn
import Derived.Laws.NewBlocks
import Derived.WalkLawsBesides
set_option maxRecDepth 4000
namespace Go.Proofs.YtjfoflbaoceemaaGreat

abbrev Sec := List UInt8
abbrev Wr := Nat × Sec
def play : List Sec → List Wr → List Sec
  | s, [] => s
  | s, x :: r => play (s.set x.1 x.2) r
def olds : List Sec → List Wr → List Wr
  | _, [] => []
  | s, x :: r => (x.1, s.getD x.1 []) :: olds (s.set x.1 x.2) r
def settle (k : Nat → Bool) : Nat → List Sec → List Wr → List Sec
  | _, s, [] => s
  | i, s, x :: r => settle k (i + 1) (if k i then s.set x.1 x.2 else s) r

theorem play_append : ∀ (l m : List Wr) (s : List Sec), play s (l ++ m) = play (play s l) m
  | [], _, _ => rfl
  | _ :: l, m, _ => play_append l m _
theorem play_snoc (s : List Sec) (l : List Wr) (x : Wr) : play s (l ++ [x]) = (play s l).set x.1 x.2 := by rw [play_append]; rfl
theorem play_length : ∀ (l : List Wr) (s : List Sec), (play s l).length = s.length
  | [], _ => rfl
  | x :: l, s => by rw [play, play_length l, List.length_set]
theorem olds_snoc : ∀ (l : List Wr) (s : List Sec) (x : Wr), olds s (l ++ [x]) = olds s l ++ [(x.1, (play s l).getD x.1 [])]
  | [], _, _ => rfl
  | y :: l, s, x => by simp [olds, olds_snoc l, play]
theorem olds_length : ∀ (l : List Wr) (s : List Sec), (olds s l).length = l.length
  | [], _ => rfl
  | x :: l, s => by simp [olds, olds_length l]
theorem settle_length (k : Nat → Bool) : ∀ (l : List Wr) (i : Nat) (s : List Sec), (settle k i s l).length = s.length
  | [], _, _ => rfl
  | x :: l, i, s => by
    rw [settle, settle_length k l]
    split <;> simp
theorem take_snoc' {α : Type} (l : List α) (k : Nat) (x : α) (h : l[k]? = some x) : l.take (k + 1) = l.take k ++ [x] := by
  obtain ⟨hk, rfl⟩ := List.getElem?_eq_some_iff.1 h
  exact List.take_succ_eq_append_getElem hk
theorem at_of_lt {α : Type} (l : List α) (k : Nat) (h : k < l.length) : ∃ x, l[k]? = some x := ⟨l[k], List.getElem?_eq_getElem h⟩

structure Dk where
  sure : List Sec
  l : List Wr
  count : Nat
  ends : Bool
  left : Nat
def secs (s : List Sec) : Prop := ∀ x ∈ s, x.length = 64
def wrs (n : Nat) (l : List Wr) : Prop := ∀ x ∈ l, x.1 < n ∧ x.2.length = 64
structure Dk.ok (s : Dk) : Prop where
  sure : secs s.sure
  l : wrs s.sure.length s.l
  many : s.sure.length ≤ 4096
def Dk.now (s : Dk) : List Sec := play s.sure s.l
def Dk.n (s : Dk) : Nat := s.sure.length
def Dk.broken (s : Dk) : Bool := s.ends && s.left == 0
def Dk.wr (s : Dk) (i : Nat) (b : Sec) : Dk := { s with l := s.l ++ [(i, b)], count := s.count + 1, left := if s.ends then s.left - 1 else s.left }
def Dk.sync (s : Dk) : Dk := { s with sure := play s.sure s.l, l := [] }
def Dk.crash (s : Dk) (k : Nat → Bool) : Dk := { s with sure := settle k 0 s.sure s.l, l := [], ends := false, left := 0 }
def Dk.new (n : Nat) : Dk := ⟨List.replicate n (List.replicate 64 0), [], 0, false, 0⟩

theorem secs_set {s : List Sec} (h : secs s) (i : Nat) {b : Sec} (hb : b.length = 64) : secs (s.set i b) := fun x hx => by
  rcases List.mem_or_eq_of_mem_set hx with hx | rfl
  · exact h x hx
  · exact hb
theorem secs_play : ∀ {l : List Wr} {s : List Sec}, secs s → wrs s.length l → secs (play s l)
  | [], _, h, _ => h
  | x :: l, s, h, hl => secs_play (l := l) (secs_set h _ (hl x (by simp)).2) fun y hy => by
    have := hl y (by simp [hy])
    simpa using this
theorem secs_settle (k : Nat → Bool) : ∀ {l : List Wr} {i : Nat} {s : List Sec}, secs s → wrs s.length l → secs (settle k i s l)
  | [], _, _, h, _ => h
  | x :: l, i, s, h, hl => by
    rw [settle]
    refine secs_settle k (l := l) ?_ fun y hy => ?_
    · split
      · exact secs_set h _ (hl x (by simp)).2
      · exact h
    · have := hl y (by simp [hy])
      split <;> simpa using this
theorem secs_getD {s : List Sec} (h : secs s) {i : Nat} (hi : i < s.length) : (s.getD i []).length = 64 := by
  rw [List.getD_eq_getElem?_getD, List.getElem?_eq_getElem hi]
  exact h _ (List.getElem_mem hi)
theorem Dk.ok.now {s : Dk} (h : s.ok) : secs s.now := secs_play h.sure h.l
theorem Dk.now_length (s : Dk) : s.now.length = s.n := play_length _ _
theorem Dk.ok.wr {s : Dk} (h : s.ok) {i : Nat} {b : Sec} (hi : i < s.n) (hb : b.length = 64) : (s.wr i b).ok :=
  ⟨h.sure, fun x hx => by
    rcases List.mem_append.1 hx with hx | hx
    · exact h.l x hx
    · rw [List.mem_singleton.1 hx]; exact ⟨hi, hb⟩, h.many⟩
theorem Dk.ok.sync {s : Dk} (h : s.ok) : s.sync.ok := ⟨h.now, (fun x hx => by cases hx), by show (play _ _).length ≤ _; rw [play_length]; exact h.many⟩
theorem Dk.ok.crash {s : Dk} (h : s.ok) (k : Nat → Bool) : (s.crash k).ok := ⟨secs_settle k h.sure h.l, (fun x hx => by cases hx), by show (settle k 0 s.sure s.l).length ≤ _; rw [settle_length]; exact h.many⟩
theorem Dk.ok.new {n : Nat} (h : n ≤ 4096) : (Dk.new n).ok :=
  ⟨fun x hx => by rw [List.eq_of_mem_replicate hx]; simp, fun x hx => by simp [Dk.new] at hx, by simp [Dk.new]; exact h⟩
theorem Dk.wr_now (s : Dk) (i : Nat) (b : Sec) : (s.wr i b).now = s.now.set i b := play_snoc _ _ _
theorem Dk.wr_olds (s : Dk) (i : Nat) (b : Sec) : YtjfoflbaoceemaaGreat.olds (s.wr i b).sure (s.wr i b).l = YtjfoflbaoceemaaGreat.olds s.sure s.l ++ [(i, s.now.getD i [])] := olds_snoc _ _ _
theorem Dk.n_wr (s : Dk) (i : Nat) (b : Sec) : (s.wr i b).n = s.n := rfl
theorem Dk.n_sync (s : Dk) : s.sync.n = s.n := play_length _ _
theorem Dk.n_crash (s : Dk) (k : Nat → Bool) : (s.crash k).n = s.n := settle_length _ _ _ _
theorem Dk.n_new (m : Nat) : (Dk.new m).n = m := by simp [Dk.new, Dk.n]
theorem Dk.crash_now (s : Dk) (k : Nat → Bool) : (s.crash k).now = settle k 0 s.sure s.l := rfl

/-! one write undone -/
end Go.Proofs.YtjfoflbaoceemaaGreat
namespace Go.Proofs.YtjfoflbaoceemaaGreat
theorem zA1 {α : Type} {l : List α} {i : Nat} {a : α} : l.toArray.setIfInBounds i a = (l.set i a).toArray := List.setIfInBounds_toArray ..
theorem zA2 {α : Type} {a b : α} {l : List α} : (a :: l).set 0 b = b :: l := rfl
theorem zA3 {α : Type} {a b : α} {l : List α} {n : Nat} : (a :: l).set (n + 1) b = a :: l.set n b := rfl
open Go.RowKit
structure Keep (K : Nat → Obj → Prop) (w w' : World) : Prop where
  os : w'.os = w.os
  tape : w'.tape = w.tape
  output : w'.output = w.output
  size : w.heap.size ≤ w'.heap.size
  block : ∀ i o, w.heap[i]? = some o → K i o → w'.heap[i]? = some o

section
variable {K K' : Nat → Obj → Prop} {w w1 w2 : World}
theorem Keep.refl (w : World) : Keep K w w := ⟨rfl, rfl, rfl, Nat.le_refl _, fun _ _ h _ => h⟩
theorem Keep.trans (h : Keep K w w1) (k : Keep K w1 w2) : Keep K w w2 :=
  ⟨k.os.trans h.os, k.tape.trans h.tape, k.output.trans h.output, Nat.le_trans h.size k.size, fun i o ho hk => k.block i o (h.block i o ho hk) hk⟩
theorem Keep.mono (h : Keep K w w1) (hk : ∀ i o, w.heap[i]? = some o → K' i o → K i o) : Keep K' w w1 := ⟨h.os, h.tape, h.output, h.size, fun i o ho hi => h.block i o ho (hk i o ho hi)⟩
theorem lt_of_some {w : World} {i : Nat} {o : Obj} (h : w.heap[i]? = some o) : i < w.heap.size := by
  rcases Nat.lt_or_ge i w.heap.size with hlt | hge
  · exact hlt
  · rw [Array.getElem?_eq_none hge] at h; cases h
theorem Keep.of_below (h : Below w.heap.size w w1) : Keep K w w1 := ⟨h.os, h.tape, h.output, h.size, fun i _ ho _ => (h.block i (lt_of_some ho)).trans ho⟩
theorem Keep.below {B : Nat} (h : Keep K w w1) (hB : B ≤ w.heap.size) (hk : ∀ i o, i < B → K i o) : Below B w w1 :=
  ⟨h.os, h.tape, h.output, h.size, fun i hi => by
    have hlt : i < w.heap.size := by omega
    rw [Array.getElem?_eq_getElem hlt]
    exact h.block i _ (Array.getElem?_eq_getElem hlt) (hk i _ hi)⟩
theorem Keep.alloc (h : Keep K w w1) (o : Obj) : Keep K w (w1.alloc o) :=
  ⟨h.os, h.tape, h.output, Nat.le_trans h.size (by simp), fun i o' ho hk => by
    have := h.block i o' ho hk
    exact (Below.heap_alloc w1 o i (lt_of_some this)).trans this⟩
theorem Keep.drew (h : Keep K w w1) : Keep K w w1.drew := ⟨h.os, h.tape, h.output, h.size, h.block⟩
theorem Keep.setCell (h : Keep K w w1) {p : Addr} (hp : ∀ o, w.heap[p.block]? = some o → ¬ K p.block o) (v : Value) : Keep K w (w1.setCell p v) :=
  ⟨h.os, h.tape, h.output, by simpa [World.setCell] using h.size, fun i o ho hk =>
    (Below.heap_setCell w1 p v i (fun e => by subst e; exact hp o ho hk)).trans (h.block i o ho hk)⟩
theorem heap_setCells_far (b : Nat) : ∀ (vs : List Value) (o : Nat) (w : World) (i : Nat), i ≠ b → (w.setCells b o vs).heap[i]? = w.heap[i]?
  | [], _, _, _, _ => rfl
  | v :: r, o, w, i, h => by
    rw [World.setCells, heap_setCells_far b r (o + 1) _ i h]
    exact Below.heap_setCell w ⟨b, o, none⟩ v i h
theorem setCells_plain (b : Nat) : ∀ (vs : List Value) (o : Nat) (w : World), (w.setCells b o vs).os = w.os ∧ (w.setCells b o vs).tape = w.tape ∧ (w.setCells b o vs).output = w.output ∧ (w.setCells b o vs).heap.size = w.heap.size
  | [], _, _ => ⟨rfl, rfl, rfl, rfl⟩
  | v :: r, o, w => by
    rw [World.setCells]
    have := setCells_plain b r (o + 1) (w.setCell ⟨b, o, none⟩ v)
    simpa [World.setCell] using this
theorem Keep.setCells (h : Keep K w w1) {b : Nat} (hp : ∀ o, w.heap[b]? = some o → ¬ K b o) (o : Nat) (vs : List Value) : Keep K w (w1.setCells b o vs) := by
  obtain ⟨h1, h2, h3, h4⟩ := setCells_plain b vs o w1
  exact ⟨h1.trans h.os, h2.trans h.tape, h3.trans h.output, by rw [h4]; exact h.size, fun i ob ho hk =>
    (heap_setCells_far b vs o w1 i (fun e => by subst e; exact hp ob ho hk)).trans (h.block i ob ho hk)⟩
theorem Keep.grown {row : Option Nat} (h : Keep K w w1) (hg : w1.grownBy w2 row) (hr : ∀ g o, row = some g → w.heap[g]? = some o → ¬ K g o) : Keep K w w2 :=
  ⟨hg.os.trans h.os, hg.tape.trans h.tape, hg.output.trans h.output, Nat.le_trans h.size hg.size, fun i o ho hk =>
    (hg.block i (lt_of_some (h.block i o ho hk)) (fun e => hr i o e.symm ho hk)).trans (h.block i o ho hk)⟩
end

def Blk (w : World) (g : Nat) (t : TypeId) (cs : Array Value) : Prop := w.heap[g]? = some (.cells cs t (0, 0))
section
variable {w w' : World} {g : Nat} {t : TypeId} {cs : Array Value}
theorem Blk.lt (h : Blk w g t cs) : g < w.heap.size := lt_of_some h
theorem Blk.cell (h : Blk w g t cs) (i : Nat) : w.cell? ⟨g, i, none⟩ = cs[i]? := cell_of_row w g i cs t (0, 0) h
theorem Blk.frozen (h : Blk w g t cs) (i : Nat) : w.frozen? ⟨g, i, none⟩ = false := by
  unfold Blk at h
  simp [World.frozen?, h]
theorem Blk.new (w : World) (t : TypeId) (cs : Array Value) : Blk (w.alloc (.cells cs t)) w.heap.size t cs := heap_alloc_new w _
theorem Blk.alloc (h : Blk w g t cs) (o : Obj) : Blk (w.alloc o) g t cs := (Below.heap_alloc w o g h.lt).trans h
theorem Blk.set_ (h : Blk w g t cs) (i : Nat) (u : Value) : Blk (w.setCell ⟨g, i, none⟩ u) g t (cs.setIfInBounds i u) := by
  unfold Blk at h ⊢
  simp [World.setCell, Array.getElem?_modify, h]
theorem Blk.far (h : Blk w g t cs) {p : Addr} (hp : g ≠ p.block) (u : Value) : Blk (w.setCell p u) g t cs := (Below.heap_setCell w p u g hp).trans h
theorem Blk.fars (h : Blk w g t cs) {b : Nat} (hp : g ≠ b) (o : Nat) (vs : List Value) : Blk (w.setCells b o vs) g t cs := (heap_setCells_far b vs o w g hp).trans h
theorem Blk.keep {K : Nat → Obj → Prop} (h : Blk w g t cs) (k : Keep K w w') (hk : K g (.cells cs t (0, 0))) : Blk w' g t cs := k.block g _ h hk
theorem Blk.below {B : Nat} (h : Blk w g t cs) (k : Below B w w') (hk : g < B) : Blk w' g t cs := (k.block g hk).trans h
theorem Blk.drew (h : Blk w g t cs) : Blk w.drew g t cs := h
end
theorem ne_of_types {w : World} {g i : Nat} {t u : TypeId} {cs ds : Array Value} (h : Blk w g t cs) (k : w.heap[i]? = some (.cells ds u (0, 0))) (hne : u ≠ t) : i ≠ g := by
  rintro rfl
  unfold Blk at h
  rw [h] at k
  injection k with k
  injection k with _ k
  exact hne k.symm
theorem blk_setCells {g : Nat} {t : TypeId} : ∀ (vs pre old post : List Value) (w : World), old.length = vs.length → Blk w g t (pre ++ old ++ post).toArray →
    Blk (w.setCells g pre.length vs) g t (pre ++ vs ++ post).toArray
  | [], pre, old, post, w, hl, h => by
    obtain rfl : old = [] := List.eq_nil_of_length_eq_zero hl
    exact h
  | v :: r, pre, old, post, w, hl, h => by
    match old, hl with
    | x :: o, hl =>
      have h1 := h.set_ pre.length v
      have e : (pre ++ x :: o ++ post).toArray.setIfInBounds pre.length v = ((pre ++ [v]) ++ o ++ post).toArray := by simp
      rw [e] at h1
      have h2 := blk_setCells r (pre ++ [v]) o post _ (by simpa using hl) h1
      have e2 : (pre ++ [v]).length = pre.length + 1 := by simp
      rw [e2] at h2
      have e3 : pre ++ [v] ++ r ++ post = pre ++ v :: r ++ post := by simp
      rw [e3] at h2
      exact h2

theorem block_of_cell {w : World} {a : Addr} {v : Value} (h : w.cell? a = some v) : a.block < w.heap.size := by
  rcases Nat.lt_or_ge a.block w.heap.size with hlt | hge
  · exact hlt
  · simp [World.cell?, Array.getElem?_eq_none hge] at h
theorem cell_of_heap {w w' : World} {b : Nat} (h : w'.heap[b]? = w.heap[b]?) (o : Nat) : w'.cell? ⟨b, o, none⟩ = w.cell? ⟨b, o, none⟩ := World.cell?_of_block (a := ⟨b, o, none⟩) h
theorem add_none (b o j : Nat) : (⟨b, o, none⟩ : Addr).add j = ⟨b, o + j, none⟩ := by
  unfold Addr.add; split
  · simp [*]
  · rfl
theorem below_drewN {B : Nat} {a w : World} (h : Below B a w) (n : Nat) : Below B a (w.drewN n) := ⟨h.os, h.tape, h.output, h.size, h.block⟩
theorem alloc_below (w : World) (o : Obj) : Below w.heap.size w (w.alloc o) := (Below.refl _ _).alloc (Nat.le_refl _) _
end Go.Proofs.YtjfoflbaoceemaaGreat
namespace Go.Proofs.YtjfoflbaoceemaaGreat
open Go.RowKit

abbrev u8 (b : UInt8) : Value := .int .u8 (b.toNat : Int)
def cellsB (l : List UInt8) : List Value := l.map u8
theorem cellsB_length (l : List UInt8) : (cellsB l).length = l.length := by simp [cellsB]
theorem cellsB_append (l m : List UInt8) : cellsB (l ++ m) = cellsB l ++ cellsB m := by simp [cellsB]
theorem cellsB_get (l : List UInt8) (j : Nat) : (cellsB l)[j]? = l[j]?.map u8 := by simp [cellsB]
theorem cellsB_one (l : List UInt8) : ∀ v ∈ cellsB l, v.oneCell' = true := by
  intro v hv
  obtain ⟨b, _, rfl⟩ := List.mem_map.1 hv
  rfl
end Go.Proofs.YtjfoflbaoceemaaGreat
namespace Go.Proofs.YtjfoflbaoceemaaGreat
open Go.RowKit

/-! rows of equal parts -/
theorem flat_length {α : Type} {c : Nat} : ∀ {ls : List (List α)}, (∀ x ∈ ls, x.length = c) → ls.flatten.length = ls.length * c
  | [], _ => by simp
  | x :: r, h => by
    rw [List.flatten_cons, List.length_append, flat_length (ls := r) fun y hy => h y (by simp [hy]), h x (by simp), List.length_cons, Nat.add_mul, Nat.one_mul, Nat.add_comm]
theorem flat_split {α : Type} {c : Nat} {ls : List (List α)} (h : ∀ x ∈ ls, x.length = c) {i : Nat} {x : List α} (hx : ls[i]? = some x) :
    ls.flatten = (ls.take i).flatten ++ x ++ (ls.drop (i + 1)).flatten ∧ (ls.take i).flatten.length = i * c ∧ x.length = c ∧
      ∀ y, (ls.set i y).flatten = (ls.take i).flatten ++ y ++ (ls.drop (i + 1)).flatten := by
  obtain ⟨hi, rfl⟩ := List.getElem?_eq_some_iff.1 hx
  have e : ls = ls.take i ++ ls[i] :: ls.drop (i + 1) := by rw [← List.drop_eq_getElem_cons hi, List.take_append_drop]
  refine ⟨?_, ?_, h _ (List.getElem_mem hi), fun y => ?_⟩
  · conv => lhs; rw [e]
    simp only [List.flatten_append, List.flatten_cons, List.append_assoc]
  · rw [flat_length fun y hy => h y (List.mem_of_mem_take hy), List.length_take, Nat.min_eq_left (by omega)]
  · rw [List.set_eq_take_append_cons_drop, if_pos hi]
    simp
section
variable {w : World} {g : Nat} {t : TypeId} {ls : List (List Value)} {rest : List Value} {c i : Nat} {x : List Value}
theorem part_range (hb : Blk w g t (ls.flatten ++ rest).toArray) (h : ∀ x ∈ ls, x.length = c) (hx : ls[i]? = some x) : w.rangeAt g (i * c) x := by
  obtain ⟨e, hl, hc, _⟩ := flat_split h hx
  intro j v hv
  rw [hb.cell, List.getElem?_toArray, e, List.append_assoc, List.append_assoc, List.getElem?_append_right (by omega), hl, Nat.add_sub_cancel_left, List.getElem?_append_left (List.getElem?_eq_some_iff.1 hv).1]
  exact hv
theorem part_there (hb : Blk w g t (ls.flatten ++ rest).toArray) (h : ∀ x ∈ ls, x.length = c) (hx : ls[i]? = some x) : w.there g (i * c) c := by
  have hr := part_range hb h hx
  have hc := (flat_split h hx).2.2.1
  exact fun j hj => ⟨hr.isSome j (by omega), hb.frozen _⟩
theorem part_set (hb : Blk w g t (ls.flatten ++ rest).toArray) (h : ∀ x ∈ ls, x.length = c) (hi : i < ls.length) {y : List Value} (hy : y.length = c) :
    Blk (w.setCells g (i * c) y) g t ((ls.set i y).flatten ++ rest).toArray := by
  obtain ⟨e, hl, hc, hs⟩ := flat_split h (List.getElem?_eq_getElem hi)
  rw [hs, ← hl, List.append_assoc]
  refine blk_setCells y _ _ _ w (hc.trans hy.symm) ?_
  rw [← List.append_assoc, ← e]; exact hb
end

/-! a disk -/
def cellU (x : Wr) : List Value := .int .i64 (x.1 : Int) :: cellsB x.2
def thereL (s : List Sec) : List (List Value) := s.map cellsB
def unsL (l : List Wr) : List (List Value) := l.map cellU
theorem thereL_each {s : List Sec} (h : secs s) : ∀ x ∈ thereL s, x.length = 64 := fun x hx => by
  obtain ⟨y, hy, rfl⟩ := List.mem_map.1 hx
  rw [cellsB_length]; exact h y hy
structure DiskM (w : World) (g : Nat) (O : Nat → Prop) (gt : Nat) (v : Value) (t : List Sec) (u : List Wr) (s : Dk) : Prop where
  head : Blk w g 83 #[.slice (some ⟨gt, 0, none⟩) s.n s.n, v, .int .i64 (s.count : Int), .bool s.ends, .int .i64 (s.left : Int)]
  there : Blk w gt 110 (thereL t).flatten.toArray
  uns : w.ownsRow 0 112 65 v u.length (unsL u).flatten
  og : O g
  ot : O gt
  ou : ∀ k, v.ownBlock = some k → O k
  ok : s.ok
def Src (w : World) (O : Nat → Prop) (b o : Nat) (xs : List UInt8) : Prop := b < w.heap.size ∧ (¬ O b ∨ ∃ cs, Blk w b 5 cs) ∧ ∀ j u, (cellsB xs)[j]? = some u → w.cell? ⟨b, o + j, none⟩ = some u
theorem Src.of_blk {w : World} {O : Nat → Prop} {b : Nat} {xs : List UInt8} (h : Blk w b 5 (cellsB xs).toArray) : Src w O b 0 xs :=
  ⟨h.lt, .inr ⟨_, h⟩, fun j u hu => by rw [h.cell, Nat.zero_add, List.getElem?_toArray]; exact hu⟩
theorem Src.ne {w : World} {O : Nat → Prop} {b o i T : Nat} {xs : List UInt8} {cs : Array Value} (h : Src w O b o xs) (hi : Blk w i T cs) (hO : O i) (hT : 5 ≠ T) : b ≠ i := by
  rcases h.2.1 with hn | ⟨ds, hd⟩
  · rintro rfl; exact hn hO
  · exact ne_of_types hi hd hT
def DiskAt (w : World) (g : Nat) (O : Nat → Prop) (s : Dk) : Prop := ∃ gt v, DiskM w g O gt v s.now (olds s.sure s.l) s
abbrev Out (O : Nat → Prop) : Nat → Obj → Prop := fun i _ => ¬ O i
section
variable {w w' : World} {g : Nat} {O O' : Nat → Prop} {gt : Nat} {v : Value} {t : List Sec} {u : List Wr} {s : Dk}
theorem ownsRow_keep {K : Nat → Obj → Prop} {e size n : Nat} {xs : List Value} (h : w.ownsRow 0 e size v n xs) (k : Keep K w w') (hk : ∀ i o, v.ownBlock = some i → K i o) : w'.ownsRow 0 e size v n xs := by
  refine ⟨h.1, ?_⟩
  rcases h.2 with hn | ⟨g, cap, cur, rfl, hb, hg, r⟩
  · exact .inl hn
  · exact .inr ⟨g, cap, cur, rfl, hb, k.block g _ hg (hk g _ rfl), r⟩
theorem DiskM.keep {K : Nat → Obj → Prop} (h : DiskM w g O gt v t u s) (k : Keep K w w') (hk : ∀ i o, O i → K i o) : DiskM w' g O gt v t u s :=
  ⟨h.head.keep k (hk _ _ h.og), h.there.keep k (hk _ _ h.ot), ownsRow_keep h.uns k (fun i o hi => hk i o (h.ou i hi)), h.og, h.ot, h.ou, h.ok⟩
theorem DiskAt.keep {K : Nat → Obj → Prop} (h : DiskAt w g O s) (k : Keep K w w') (hk : ∀ i o, O i → K i o) : DiskAt w' g O s := by
  obtain ⟨gt, v, h⟩ := h
  exact ⟨gt, v, h.keep k hk⟩
theorem DiskAt.below (h : DiskAt w g O s) (k : Below w.heap.size w w') : DiskAt w' g O s := h.keep (K := fun _ _ => True) (Keep.of_below k) fun _ _ _ => trivial
theorem DiskM.more (h : DiskM w g O gt v t u s) (hO : ∀ i, O i → O' i) : DiskM w g O' gt v t u s := ⟨h.head, h.there, h.uns, hO _ h.og, hO _ h.ot, fun k hk => hO _ (h.ou k hk), h.ok⟩
theorem DiskAt.more (h : DiskAt w g O s) (hO : ∀ i, O i → O' i) : DiskAt w g O' s := by
  obtain ⟨gt, v, h⟩ := h
  exact ⟨gt, v, h.more hO⟩
theorem own_lt (h : w.ownsRow 0 112 65 v u.length (unsL u).flatten) : ∀ k, v.ownBlock = some k → k < w.heap.size := fun k hk => (h.lt k hk).2
theorem DiskAt.cut (h : DiskAt w g O s) : DiskAt w g (fun i => O i ∧ i < w.heap.size) s := by
  obtain ⟨gt, v, h⟩ := h
  exact ⟨gt, v, ⟨h.head, h.there, h.uns, ⟨h.og, h.head.lt⟩, ⟨h.ot, h.there.lt⟩, fun k hk => ⟨h.ou k hk, own_lt h.uns k hk⟩, h.ok⟩⟩
theorem DiskM.slice (h : DiskM w g O gt v t u s) : ∃ A c, v = .slice A u.length c := by
  rcases h.uns.2 with ⟨rfl, h0⟩ | ⟨g, cap, cur, rfl, _⟩
  · exact ⟨none, 0, by rw [h0]⟩
  · exact ⟨_, cap, rfl⟩
theorem DiskM.head_ne_there (h : DiskM w g O gt v t u s) : g ≠ gt := ne_of_types h.there h.head (by decide)
theorem own_ne {T : TypeId} {i : Nat} {cs : Array Value} (h : w.ownsRow 0 112 65 v u.length (unsL u).flatten) (hi : Blk w i T cs) (hT : T ≠ 112) : ∀ k, v.ownBlock = some k → k ≠ i := by
  intro k hk
  rcases h.2 with ⟨rfl, _⟩ | ⟨g, cap, cur, rfl, _, hg, _⟩
  · cases hk
  · simp [Value.ownBlock] at hk
    subst hk
    exact ne_of_types hi hg (fun e => hT e.symm)
end
end Go.Proofs.YtjfoflbaoceemaaGreat
namespace Go.Proofs.YtjfoflbaoceemaaGreat
open Go.RowKit
abbrev ptr (g : Nat) : Value := .pointer (some ⟨g, 0, none⟩)
section
variable {w : World} {g : Nat} {O : Nat → Prop} {s : Dk}
theorem len_ (h : DiskAt w g O s) : Calls Tryz.prog 40 #[ptr g] w fun e w' => e = .returned (.int .i64 (s.n : Int)) ∧ w = w' := by
  obtain ⟨gt, v, h⟩ := h
  have c0 := h.head.cell 0
  simp at c0
  clear h
  go_enter Tryz.func40, Tryz.ntmps40
  go_wp2
  go_ret
  exact ⟨rfl, rfl⟩
theorem has_yes (h : DiskAt w g O s) (i : Nat) (hi : i < s.n) : Calls Tryz.prog 62 #[ptr g, .int .i64 (i : Int)] w fun e w' => e = .returned (.bool true) ∧ w = w' := by
  have H := Lib.hid h
  clear h
  go_enter Tryz.func62, Tryz.ntmps62
  go_wp2_with (go_at_call 40; refine (len_ H.out).mono ?_; rintro e w' ⟨rfl, rfl⟩)
  go_ret
  exact ⟨rfl, rfl⟩
theorem has_no (h : DiskAt w g O s) (i : Int) (hi : i < 0 ∨ (s.n : Int) ≤ i) : Calls Tryz.prog 62 #[ptr g, .int .i64 i] w fun e w' => e = .returned (.bool false) ∧ w = w' := by
  have H := Lib.hid h
  clear h
  rcases Int.lt_or_le i 0 with h0 | h0
  · clear hi
    go_enter Tryz.func62, Tryz.ntmps62
    go_wp2
    go_ret
    exact ⟨rfl, rfl⟩
  · have h1 : (s.n : Int) ≤ i := by omega
    have h2 : decide (i < (s.n : Int)) = false := by simpa using h1
    clear hi
    go_enter Tryz.func62, Tryz.ntmps62
    go_wp2_with (go_at_call 40; refine (len_ H.out).mono ?_; rintro e w' ⟨rfl, rfl⟩)
    go_ret
    exact ⟨rfl, rfl⟩
theorem broken_ (h : DiskAt w g O s) : Calls Tryz.prog 59 #[ptr g] w fun e w' => e = .returned (.bool s.broken) ∧ w = w' := by
  obtain ⟨gt, v, h⟩ := h
  have c3 := h.head.cell 3
  have c4 := h.head.cell 4
  simp at c3 c4
  clear h
  unfold Dk.broken
  generalize s.ends = e at *
  generalize s.left = l at *
  cases e
  · go_enter Tryz.func59, Tryz.ntmps59
    go_wp2
    go_ret
    exact ⟨rfl, rfl⟩
  · go_enter Tryz.func59, Tryz.ntmps59
    go_wp2
    go_ret
    refine ⟨?_, rfl⟩
    have : ((l : Int) == 0) = (l == 0) := by rw [Bool.eq_iff_iff]; simp
    simp [this]
theorem broken_is {b : Bool} (h : DiskAt w g O s) (hb : s.broken = b) : Calls Tryz.prog 59 #[ptr g] w fun e w' => e = .returned (.bool b) ∧ w = w' :=
  (broken_ h).mono fun _ _ ⟨h1, h2⟩ => ⟨by rw [h1, hb], h2⟩
theorem DiskM.set {gt : Nat} {v : Value} {t : List Sec} {u : List Wr} (h : DiskM w g O gt v t u s) {w' : World} {v' : Value} {u' : List Wr} {s' : Dk} (hw : Keep (fun i _ => i ≠ g) w w')
    (hh : Blk w' g 83 #[.slice (some ⟨gt, 0, none⟩) s'.n s'.n, v', .int .i64 (s'.count : Int), .bool s'.ends, .int .i64 (s'.left : Int)])
    (hu : w'.ownsRow 0 112 65 v' u'.length (unsL u').flatten) (ho : ∀ k, v'.ownBlock = some k → O k) (hs : s'.ok) : DiskM w' g O gt v' t u' s' :=
  ⟨hh, h.there.keep hw (fun e => h.head_ne_there e.symm), hu, h.og, h.ot, ho, hs⟩
theorem keep_set (hg : O g) (w : World) (i : Nat) (v : Value) : Keep (fun i _ => i ≠ g) w (w.setCell ⟨g, i, none⟩ v) ∧ Keep (Out O) w (w.setCell ⟨g, i, none⟩ v) :=
  ⟨(Keep.refl w).setCell (fun _ _ hk => hk rfl) v, (Keep.refl w).setCell (fun _ _ hk => hk hg) v⟩
theorem sync_no (h : DiskAt w g O s) (hb : s.broken = true) : Calls Tryz.prog 189 #[ptr g] w fun e w' => e = .returned (.bool false) ∧ w = w' := by
  have H := Lib.hid h
  have HB := Lib.hid hb
  clear h hb
  go_enter Tryz.func189, Tryz.ntmps189
  go_wp2_with (go_at_call 59; refine (broken_is H.out HB.out).mono ?_; rintro e w' ⟨rfl, rfl⟩)
  go_ret
  exact ⟨rfl, rfl⟩
theorem sync_ (h : DiskAt w g O s) (hb : s.broken = false) : Calls Tryz.prog 189 #[ptr g] w fun e w' => e = .returned (.bool true) ∧ DiskAt w' g O s.sync ∧ Keep (Out O) w w' := by
  have H := Lib.hid h
  have HB := Lib.hid hb
  obtain ⟨gt, v, h⟩ := h
  have c1 := h.head.cell 1
  have f1 := h.head.frozen 1
  simp at c1
  have HM := Lib.hid h
  clear h hb
  go_enter Tryz.func189, Tryz.ntmps189
  go_wp2_with (go_at_call 59; refine (broken_is H.out HB.out).mono ?_; rintro e w' ⟨rfl, rfl⟩)
  go_ret
  obtain ⟨k1, k2⟩ := keep_set HM.out.og w 1 (.slice none 0 0)
  refine ⟨rfl, ⟨gt, .slice none 0 0, HM.out.set k1 ?_ (World.ownsRow_nil _ _ _ _) (fun k hk => by cases hk) HM.out.ok.sync⟩, k2⟩
  rw [Dk.n_sync]
  exact HM.out.head.set_ 1 (.slice none 0 0)
end
end Go.Proofs.YtjfoflbaoceemaaGreat
namespace Go.Proofs.YtjfoflbaoceemaaGreat
open Go.RowKit
theorem info5 : (Tryz.prog.info? 5).map (fun i => (i.zero, i.size, i.bytes)) = some (some (.int .u8 0), 1, 1) := by kernel_rfl
theorem made5 (n : Nat) (hn : n ≤ 1000000) (w : World) : (Instr.makeSlice 42 (.int .i64 (n : Int)) (.int .i64 (n : Int))).run Tryz.prog w =
    .ok (.slice (some ⟨w.heap.size, 0, none⟩) n n) (w.alloc (.cells (cellsB (List.replicate n 0)).toArray 5)) := by
  obtain ⟨i0, hi, hz0, hz1, hz2⟩ := info_parts info5
  have h := run_make (P := Tryz.prog) w 42 5 i0 _ Tryz.underlying42 hi hz0 .i64 .i64 n n (by omega) (by omega) (by rw [hz2]; omega) (by omega)
  rw [h]
  simp only [Int.toNat_natCast, hz1, Nat.mul_one]
  congr 3
  apply Array.ext
  · simp [madeCells, cellsB]
  · intro i h1 h2
    simp [madeCells, cellsB, Value.cells]
    simp [Nat.mod_one, u8]
end Go.Proofs.YtjfoflbaoceemaaGreat
namespace Go.Proofs.YtjfoflbaoceemaaGreat
open Go.RowKit
theorem info54 : (Tryz.prog.info? 110).map (fun i => (i.zero, i.size, i.bytes)) = some (some (.agg (Array.replicate 64 (.int .u8 0))), 64, 64) := by kernel_rfl
theorem zeros_flat (n c : Nat) : (thereL (List.replicate n (List.replicate c 0))).flatten = List.replicate (n * c) (.int .u8 0) := by
  simp [thereL, cellsB, u8]
def zeroT (n : Nat) : Array Value := (thereL (List.replicate n (List.replicate 64 0))).flatten.toArray
theorem made54 (n : Nat) (hn : n ≤ 4096) (w : World) : (Instr.makeSlice 80 (.int .i64 (n : Int)) (.int .i64 (n : Int))).run Tryz.prog w =
    .ok (.slice (some ⟨w.heap.size, 0, none⟩) n n) (w.alloc (.cells (zeroT n) 110)) := by
  unfold zeroT
  obtain ⟨i0, hi, hz0, hz1, hz2⟩ := info_parts info54
  have h := run_make (P := Tryz.prog) w 80 110 i0 _ Tryz.underlying80 hi hz0 .i64 .i64 n n (by omega) (by omega) (by rw [hz2]; omega) (by omega)
  rw [h, zeros_flat]
  simp only [Int.toNat_natCast, hz1]
  congr 3
  apply Array.ext
  · simp [madeCells]
  · intro i h1 h2
    have : i % 64 < 64 := Nat.mod_lt _ (by omega)
    simp [madeCells, Value.cells, this]
def zeros (n : Nat) : List UInt8 := List.replicate n 0
theorem zeros_length (n : Nat) : (zeros n).length = n := by simp [zeros]
theorem make64 (w : World) : (Instr.makeSlice 42 (.int .i64 64) (.int .i64 64)).run Tryz.prog w = .ok (.slice (some ⟨w.heap.size, 0, none⟩) 64 64) (w.alloc (.cells (cellsB (zeros 64)).toArray 5)) := made5 64 (by omega) w
def cutN (n : Int) : Nat := (min (max n 0) 4096).toNat
def NewP (w : World) (n : Nat) (e : Ending) (w' : World) : Prop :=
  e = .returned (ptr (w.heap.size + 1)) ∧ DiskAt w' (w.heap.size + 1) (fun i => w.heap.size ≤ i) (Dk.new n) ∧ Below w.heap.size w w' ∧ w'.heap.size = w.heap.size + 2
theorem new_post (w : World) (n : Nat) (hn : n ≤ 4096) : NewP w n (.returned (ptr (w.heap.size + 1)))
    ((w.alloc (.cells (zeroT n) 110)).alloc (.cells #[.slice (some ⟨w.heap.size, 0, none⟩) n n, .slice none 0 0, .int .i64 0, .bool false, .int .i64 0] 83)) := by
  unfold zeroT
  refine ⟨rfl, ⟨w.heap.size, .slice none 0 0, ⟨?_, (Blk.new w 110 _).alloc _, World.ownsRow_nil _ _ _ _, by omega, Nat.le_refl _, fun k hk => (by cases hk), Dk.ok.new hn⟩⟩, ?_, by simp⟩
  · rw [Dk.n_new]
    have := Blk.new (w.alloc (.cells (thereL (List.replicate n (List.replicate 64 0))).flatten.toArray 110)) 83 #[.slice (some ⟨w.heap.size, 0, none⟩) n n, .slice none 0 0, .int .i64 0, .bool false, .int .i64 0]
    simp only [World.size_alloc] at this
    exact this
  · exact ((Below.refl _ _).alloc (Nat.le_refl _) _).alloc (by simp) _
set_option maxHeartbeats 400000 in
theorem new_ (w : World) (n : Int) : Calls Tryz.prog 11 #[.int .i64 n] w (NewP w (cutN n)) := by
  have h1 : ∀ m : Nat, m ≤ 4096 → (m : Int) = min (max n 0) 4096 → cutN n = m := fun m _ h => by unfold cutN; omega
  have H1 := Lib.hid h1
  clear h1
  rcases Int.lt_or_le n 0 with h0 | h0
  · have hmk : ∀ W, (Instr.makeSlice 80 (.int .i64 0) (.int .i64 0)).run Tryz.prog W = .ok (.slice (some ⟨W.heap.size, 0, none⟩) 0 0) (W.alloc (.cells (zeroT 0) 110)) := made54 0 (by omega)
    have HP := Lib.hid (new_post w 0 (by omega))
    rw [H1.out 0 (by omega) (by omega)]
    go_enter Tryz.func11, Tryz.ntmps11
    go_wp2
    go_ret
    exact HP.out
  · rcases Int.lt_or_le 4096 n with h2 | h2
    · have hmk : ∀ W, (Instr.makeSlice 80 (.int .i64 4096) (.int .i64 4096)).run Tryz.prog W = .ok (.slice (some ⟨W.heap.size, 0, none⟩) 4096 4096) (W.alloc (.cells (zeroT 4096) 110)) := made54 4096 (by omega)
      have HP := Lib.hid (new_post w 4096 (by omega))
      rw [H1.out 4096 (by omega) (by omega)]
      go_enter Tryz.func11, Tryz.ntmps11
      go_wp2
      go_ret
      exact HP.out
    · obtain ⟨m, rfl⟩ := Int.eq_ofNat_of_zero_le h0
      have hmk := made54 m (by omega)
      have HP := Lib.hid (new_post w m (by omega))
      rw [H1.out m (by omega) (by omega)]
      go_enter Tryz.func11, Tryz.ntmps11
      go_wp2
      go_ret
      exact HP.out
end Go.Proofs.YtjfoflbaoceemaaGreat
