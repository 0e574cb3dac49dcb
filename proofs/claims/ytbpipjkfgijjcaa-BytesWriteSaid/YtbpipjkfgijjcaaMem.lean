/- Words for memory: a block known whole; what a call leaves alone; bytes that lie somewhere; a writer's parts; a reader. -/
import Derived.Test.YtbpipjkfgijjcaaPure
import Derived.Below
import Derived.Laws.OwnMore
import Derived.Deep.Draws
import Derived.Laws.Rows
import Derived.Laws.AppendOwn
namespace Go.Proofs.Ytbpipjkfgijjcaa
open Go.RowKit

abbrev u8 (b : UInt8) : Value := .int .u8 (b.toNat : Int)
def cellsB (l : List UInt8) : List Value := l.map u8
theorem cellsB_length (l : List UInt8) : (cellsB l).length = l.length := by simp [cellsB]
theorem cellsB_append (l m : List UInt8) : cellsB (l ++ m) = cellsB l ++ cellsB m := by simp [cellsB]
theorem cellsB_get (l : List UInt8) (j : Nat) : (cellsB l)[j]? = l[j]?.map u8 := by simp [cellsB]
theorem cellsB_one (l : List UInt8) : ∀ v ∈ cellsB l, v.oneCell' = true := by
  intro v hv
  obtain ⟨b, _, rfl⟩ := List.mem_map.1 hv
  rfl

/-- all blocks for which K says so are as they were; nothing else than blocks has turned -/
structure Keep (K : Nat → Obj → Prop) (w w' : World) : Prop where
  os : w'.os = w.os
  tape : w'.tape = w.tape
  output : w'.output = w.output
  size : w.heap.size ≤ w'.heap.size
  block : ∀ i o, w.heap[i]? = some o → K i o → w'.heap[i]? = some o

section
variable {K K' : Nat → Obj → Prop} {w w1 w2 : World}
theorem Keep.refl (w : World) : Keep K w w := ⟨rfl, rfl, rfl, Nat.le_refl _, fun _ _ h _ => h⟩
theorem Keep.trans (h : Keep K w w1) (k : Keep K w1 w2) : Keep K w w2 :=
  ⟨k.os.trans h.os, k.tape.trans h.tape, k.output.trans h.output, Nat.le_trans h.size k.size, fun i o ho hk => k.block i o (h.block i o ho hk) hk⟩
theorem Keep.mono (h : Keep K w w1) (hk : ∀ i o, K' i o → K i o) : Keep K' w w1 := ⟨h.os, h.tape, h.output, h.size, fun i o ho hi => h.block i o ho (hk i o hi)⟩
theorem lt_of_some {w : World} {i : Nat} {o : Obj} (h : w.heap[i]? = some o) : i < w.heap.size := by
  rcases Nat.lt_or_ge i w.heap.size with hlt | hge
  · exact hlt
  · rw [Array.getElem?_eq_none hge] at h; cases h
theorem Keep.of_below (h : Below w.heap.size w w1) : Keep K w w1 := ⟨h.os, h.tape, h.output, h.size, fun i _ ho _ => (h.block i (lt_of_some ho)).trans ho⟩
theorem Keep.below {B : Nat} (h : Keep K w w1) (hB : B ≤ w.heap.size) (hk : ∀ i o, i < B → K i o) : Below B w w1 :=
  ⟨h.os, h.tape, h.output, h.size, fun i hi => by
    have hlt : i < w.heap.size := by omega
    rw [Array.getElem?_eq_getElem hlt]
    exact h.block i _ (Array.getElem?_eq_getElem hlt) (hk i _ hi)⟩
theorem Keep.alloc (h : Keep K w w1) (o : Obj) : Keep K w (w1.alloc o) :=
  ⟨h.os, h.tape, h.output, Nat.le_trans h.size (by simp), fun i o' ho hk => by
    have := h.block i o' ho hk
    exact (Below.heap_alloc w1 o i (lt_of_some this)).trans this⟩
theorem Keep.drewN (h : Keep K w w1) (n : Nat) : Keep K w (w1.drewN n) := ⟨h.os, h.tape, h.output, h.size, h.block⟩
theorem Keep.drew (h : Keep K w w1) : Keep K w w1.drew := ⟨h.os, h.tape, h.output, h.size, h.block⟩
theorem Keep.setCell (h : Keep K w w1) {p : Addr} (hp : ∀ o, w.heap[p.block]? = some o → ¬ K p.block o) (v : Value) : Keep K w (w1.setCell p v) :=
  ⟨h.os, h.tape, h.output, by simpa [World.setCell] using h.size, fun i o ho hk =>
    (Below.heap_setCell w1 p v i (fun e => by subst e; exact hp o ho hk)).trans (h.block i o ho hk)⟩
theorem Keep.grown {row : Option Nat} (h : Keep K w w1) (hg : w1.grownBy w2 row) (hr : ∀ g o, row = some g → w.heap[g]? = some o → ¬ K g o) : Keep K w w2 :=
  ⟨hg.os.trans h.os, hg.tape.trans h.tape, hg.output.trans h.output, Nat.le_trans h.size hg.size, fun i o ho hk =>
    (hg.block i (lt_of_some (h.block i o ho hk)) (fun e => hr i o e.symm ho hk)).trans (h.block i o ho hk)⟩
end

/-- block g is just these cells, none of them frozen -/
def Blk (w : World) (g : Nat) (t : TypeId) (cs : Array Value) : Prop := w.heap[g]? = some (.cells cs t (0, 0))
section
variable {w w' : World} {g : Nat} {t : TypeId} {cs : Array Value}
theorem Blk.lt (h : Blk w g t cs) : g < w.heap.size := lt_of_some h
theorem Blk.cell (h : Blk w g t cs) (i : Nat) : w.cell? ⟨g, i, none⟩ = cs[i]? := cell_of_row w g i cs t (0, 0) h
theorem Blk.frozen (h : Blk w g t cs) (i : Nat) : w.frozen? ⟨g, i, none⟩ = false := by
  unfold Blk at h
  simp [World.frozen?, h]
theorem Blk.new (w : World) (t : TypeId) (cs : Array Value) : Blk (w.alloc (.cells cs t)) w.heap.size t cs := heap_alloc_new w _
theorem Blk.alloc (h : Blk w g t cs) (o : Obj) : Blk (w.alloc o) g t cs := (Below.heap_alloc w o g h.lt).trans h
theorem Blk.set_ (h : Blk w g t cs) (i : Nat) (u : Value) : Blk (w.setCell ⟨g, i, none⟩ u) g t (cs.setIfInBounds i u) := by
  unfold Blk at h ⊢
  simp [World.setCell, Array.getElem?_modify, h]
theorem Blk.far (h : Blk w g t cs) {p : Addr} (hp : g ≠ p.block) (u : Value) : Blk (w.setCell p u) g t cs := (Below.heap_setCell w p u g hp).trans h
theorem Blk.keep {K : Nat → Obj → Prop} (h : Blk w g t cs) (k : Keep K w w') (hk : K g (.cells cs t (0, 0))) : Blk w' g t cs := k.block g _ h hk
theorem Blk.below {B : Nat} (h : Blk w g t cs) (k : Below B w w') (hk : g < B) : Blk w' g t cs := (k.block g hk).trans h
end

/-- the slice of address A and length n holds these bytes; they lie below block B -/
def RB (w : World) (B : Nat) (A : Option Addr) (n : Nat) (xs : List UInt8) : Prop :=
  xs.length = n ∧ (0 < n → ∃ b o, A = some ⟨b, o, none⟩ ∧ b < B ∧ ∀ j x, xs[j]? = some x → w.cell? ⟨b, o + j, none⟩ = some (u8 x))
section
variable {w w' : World} {B n : Nat} {A : Option Addr} {xs : List UInt8}
theorem RB.nil_ (A : Option Addr) : RB w B A 0 [] := ⟨rfl, fun h => absurd h (by omega)⟩
theorem RB.same (h : RB w B A n xs) (k : ∀ b o, b < B → w'.cell? ⟨b, o, none⟩ = w.cell? ⟨b, o, none⟩) : RB w' B A n xs :=
  ⟨h.1, fun hn => by
    obtain ⟨b, o, e, hb, hc⟩ := h.2 hn
    exact ⟨b, o, e, hb, fun j x hx => (k b _ hb).trans (hc j x hx)⟩⟩
theorem RB.below (h : RB w B A n xs) (k : Below B w w') : RB w' B A n xs := h.same fun b o hb => k.cell (p := ⟨b, o, none⟩) hb
theorem RB.more {B' : Nat} (h : RB w B A n xs) (hB : B ≤ B') : RB w B' A n xs :=
  ⟨h.1, fun hn => by
    obtain ⟨b, o, e, hb, hc⟩ := h.2 hn
    exact ⟨b, o, e, by omega, hc⟩⟩
theorem RB.take (h : RB w B A n xs) {k : Nat} (hk : k ≤ n) : RB w B A k (xs.take k) :=
  ⟨by rw [List.length_take, h.1]; omega, fun hn => by
    obtain ⟨b, o, e, hb, hc⟩ := h.2 (by omega)
    refine ⟨b, o, e, hb, fun j x hx => hc j x ?_⟩
    rw [List.getElem?_take] at hx
    split at hx
    · exact hx
    · cases hx⟩
theorem RB.drop (h : RB w B A n xs) {k c : Nat} (hk : k ≤ n) (hc : n ≤ c) : RB w B (if c = k then A else A.map (·.add (k * 1))) (n - k) (xs.drop k) :=
  ⟨by rw [List.length_drop, h.1], fun hn => by
    obtain ⟨b, o, e, hb, hcell⟩ := h.2 (by omega)
    rw [if_neg (by omega), e]
    refine ⟨b, o + k, ?_, hb, fun j x hx => ?_⟩
    · simp only [Option.map_some, Nat.mul_one, Addr.add]
      by_cases h0 : k = 0
      · simp [h0]
      · simp [h0]
    · rw [Nat.add_assoc]
      exact hcell _ x (by rw [← hx, List.getElem?_drop])⟩
end

/-- a reader at block g: what is left, and whether it has failed; its bytes lie below block B -/
def ReaderAt (T : TypeId) (w : World) (g B : Nat) (r : Rd) : Prop :=
  ∃ A n c, Blk w g T #[.slice A n c, .bool r.bad] ∧ n ≤ c ∧ c ≤ maxLen ∧ RB w B A n r.rest ∧ B ≤ g
theorem ReaderAt.keep {T : TypeId} {w w' : World} {g B : Nat} {r : Rd} {K : Nat → Obj → Prop} (h : ReaderAt T w g B r) (k : Keep K w w') (hk : ∀ i o, i < B ∨ i = g → K i o) : ReaderAt T w' g B r := by
  obtain ⟨A, n, c, hb, hn, hc, hr, hB⟩ := h
  have hlt := hb.lt
  exact ⟨A, n, c, hb.keep k (hk _ _ (.inr rfl)), hn, hc, hr.below (k.below (by omega) fun i o hi => hk i o (.inl hi)), hB⟩

/-- the parts that hang at this pointer, the last one first -/
def Parts (w : World) : List ByteArray → Value → Prop
  | [], q => q = .pointer none
  | t :: r, q => ∃ h q', q = .pointer (some ⟨h, 0, none⟩) ∧ Blk w h 52 #[q', .string t] ∧ Parts w r q'
def spell : List ByteArray → List UInt8
  | [] => []
  | t :: r => spell r ++ t.data.toList
theorem Parts.keep {w w' : World} {K : Nat → Obj → Prop} (k : Keep K w w') (hk : ∀ i cs, w.heap[i]? = some (.cells cs 52 (0, 0)) → K i (.cells cs 52 (0, 0))) :
    ∀ {l : List ByteArray} {q : Value}, Parts w l q → Parts w' l q
  | [], _, h => h
  | _ :: _, _, ⟨h, q', e, hb, hr⟩ => ⟨h, q', e, hb.keep k (hk _ _ hb), Parts.keep k hk hr⟩
theorem Parts.ptr {w : World} : ∀ {l : List ByteArray} {q : Value}, Parts w l q → ∃ a, q = .pointer a
  | [], _, h => ⟨none, h⟩
  | _ :: _, _, ⟨h, _, e, _, _⟩ => ⟨some ⟨h, 0, none⟩, e⟩

/-- a writer at block g: bs was written -/
def WriterAt (w : World) (g : Nat) (bs : List UInt8) : Prop :=
  ∃ l q, Blk w g 27 #[q, .int .i64 (bs.length : Int)] ∧ Parts w l q ∧ spell l = bs
theorem WriterAt.keep {w w' : World} {g : Nat} {bs : List UInt8} {K : Nat → Obj → Prop} (h : WriterAt w g bs) (k : Keep K w w')
    (hg : ∀ cs, K g (.cells cs 27 (0, 0))) (hk : ∀ i cs, w.heap[i]? = some (.cells cs 52 (0, 0)) → K i (.cells cs 52 (0, 0))) : WriterAt w' g bs := by
  obtain ⟨l, q, hb, hp, hs⟩ := h
  exact ⟨l, q, hb.keep k (hg _), hp.keep k hk, hs⟩
/-- all blocks but g -/
abbrev But (g : Nat) : Nat → Obj → Prop := fun i _ => i ≠ g
theorem ne_of_types {w : World} {g i : Nat} {t u : TypeId} {cs ds : Array Value} (h : Blk w g t cs) (k : w.heap[i]? = some (.cells ds u (0, 0))) (hne : u ≠ t) : i ≠ g := by
  rintro rfl
  unfold Blk at h
  rw [h] at k
  injection k with k
  injection k with _ k
  exact hne k.symm
end Go.Proofs.Ytbpipjkfgijjcaa
