/- All locks in memory: rows of locks; the table; a lock in its row, as package grant's calls take it. -/
import Derived.Test.YtnjhhndggfjjdaaDoorLkP
import Derived.Test.YtnjhhndggfjjdaaDoorNmW
import Derived.Test.YtnjhhndggfjjdaaDoorGqX
set_option maxRecDepth 4000
namespace Go.Proofs.YtnjhhndggfjjdaaDoor
open Go.RowKit
/-- a slice, by its address, its length and its capacity -/
abbrev Sl := Option Addr × Nat × Nat
def Sl.val (s : Sl) : Value := .slice s.1 s.2.1 s.2.2
/-- a lock in a row: holders, line, name -/
abbrev Re := Sl × Sl × Nm
def eL : Enc Re := ⟨fun r => [r.1.val, r.2.1.val, .int .i64 r.2.2.1, .string r.2.2.2.1, .string r.2.2.2.2], 5, by omega, fun _ => rfl, fun _ v hv => by simp at hv; rcases hv with rfl | rfl | rfl | rfl | rfl <;> rfl⟩
def valL (r : Re) : Value := .agg #[r.1.val, r.2.1.val, .int .i64 r.2.2.1, .string r.2.2.2.1, .string r.2.2.2.2]
theorem tyL : RowTy eL 62 48 := ⟨Tryd.underlying48, .agg #[.slice none 0 0, .slice none 0 0, .int .i64 0, .string ⟨#[]⟩, .string ⟨#[]⟩], 88, by kernel_rfl, rfl, by omega⟩
/-- a block of locks -/
def IsL (w : World) (i : Nat) : Prop := ∃ cur, w.heap[i]? = some (.cells cur 62 (0, 0))
theorem Lst.atL {w : World} {K : Nat → Prop} {A : Option Addr} {l : List Re} (h : Lst w K eL A l) {j : Nat} (hj : j < l.length) :
    ∃ b o, A = some ⟨b, o, none⟩ ∧ K b ∧ b < w.heap.size ∧ w.cell? ⟨b, o + j * 5, none⟩ = some l[j].1.val ∧ w.cell? ⟨b, o + j * 5 + 1, none⟩ = some l[j].2.1.val ∧ w.cell? ⟨b, o + j * 5 + 2, none⟩ = some (.int .i64 l[j].2.2.1) ∧ w.cell? ⟨b, o + j * 5 + 3, none⟩ = some (.string l[j].2.2.2.1) ∧ w.cell? ⟨b, o + j * 5 + 4, none⟩ = some (.string l[j].2.2.2.2) := by
  obtain ⟨b, o, e, hk, hl, hc⟩ := h (by omega)
  have at_ := fun i v (hi : (eL.enc l[j])[i]? = some v) => hc (j * 5 + i) v (cellsE_at eL hj hi)
  refine ⟨b, o, e, hk, hl, ?_, ?_, ?_, ?_, ?_⟩
  · exact at_ 0 _ rfl
  · rw [Nat.add_assoc]; exact at_ 1 _ rfl
  · rw [Nat.add_assoc]; exact at_ 2 _ rfl
  · rw [Nat.add_assoc]; exact at_ 3 _ rfl
  · rw [Nat.add_assoc]; exact at_ 4 _ rfl
theorem set_self {cs : Array Value} {i : Nat} {v : Value} (h : cs[i]? = some v) : cs.setIfInBounds i v = cs := by
  apply Array.ext_getElem?
  intro j
  rw [Array.getElem?_setIfInBounds]
  split
  · rename_i e
    subst e
    split
    · exact h.symm
    · obtain ⟨l, _⟩ := Array.getElem?_eq_some_iff.1 h
      omega
  · rfl
/-- a lock wherever it stands, in a block known whole -/
theorem two_of_cells {w : World} {b off : Nat} {T : TypeId} {cs : Array Value} {vH vL : Value} (h : Blk w b T cs) (ht : T ≠ 78 ∧ T ≠ 3 ∧ T ≠ 53) (h0 : w.cell? ⟨b, off, none⟩ = some vH) (h1 : w.cell? ⟨b, off + 1, none⟩ = some vL) : Two w b off ⟨T, cs⟩ vH vL := by
  rw [h.cell] at h0 h1
  obtain ⟨l1, _⟩ := Array.getElem?_eq_some_iff.1 h1
  have e : (⟨T, cs⟩ : Zn).with off vH vL = cs := by
    unfold Zn.with
    simp only
    rw [set_self h0, set_self h1]
  exact ⟨by rw [e]; exact h, l1, ht⟩
/-- a row's entry and what it stands for -/
structure RowOk (w : World) (r : Re) (e : Ent) : Prop where
  name : r.2.2 = e.1
  held : At w r.1.val e.2.1
  line : At w r.2.1.val e.2.2
theorem RowOk.kept {w w' : World} {r : Re} {e : Ent} {Q : Nat → Obj → Prop} (h : RowOk w r e) (k : Keep Q w w') (hq : ∀ i cur, w.heap[i]? = some (.cells cur 78 (0, 0)) → Q i (.cells cur 78 (0, 0))) : RowOk w' r e :=
  ⟨h.name, h.held.kept k hq, h.line.kept k hq⟩
theorem RowOk.below {w w' : World} {r : Re} {e : Ent} (h : RowOk w r e) (k : Below w.heap.size w w') : RowOk w' r e := ⟨h.name, h.held.below k, h.line.below k⟩
/-- the rows are these locks -/
def RowsOk (w : World) (rs : List Re) (s : TS) : Prop := rs.length = s.length ∧ ∀ j (hj : j < rs.length) (hs : j < s.length), RowOk w rs[j] s[j]
theorem RowsOk.kept {w w' : World} {rs : List Re} {s : TS} {Q : Nat → Obj → Prop} (h : RowsOk w rs s) (k : Keep Q w w') (hq : ∀ i cur, w.heap[i]? = some (.cells cur 78 (0, 0)) → Q i (.cells cur 78 (0, 0))) : RowsOk w' rs s :=
  ⟨h.1, fun j hj hs => (h.2 j hj hs).kept k hq⟩
theorem RowsOk.below {w w' : World} {rs : List Re} {s : TS} (h : RowsOk w rs s) (k : Below w.heap.size w w') : RowsOk w' rs s := ⟨h.1, fun j hj hs => (h.2 j hj hs).below k⟩
/-- the table at block b: how many it counts, and its locks -/
structure LT0 (w : World) (b : Nat) (n : Int) (A : Option Addr) (c : Nat) (rs : List Re) (s : TS) : Prop where
  blk : Blk w b 50 #[.int .i64 n, .slice A s.length c]
  lst : Lst w (IsL w) eL A rs
  rows : RowsOk w rs s
  le : s.length ≤ c
  max : c ≤ maxLen
  nil : A = none → c = 0
def LT (w : World) (b : Nat) (n : Int) (s : TS) : Prop := ∃ A c rs, LT0 w b n A c rs s
theorem lst_kept {w w' : World} {A : Option Addr} {rs : List Re} {Q : Nat → Obj → Prop} (h : Lst w (IsL w) eL A rs) (k : Keep Q w w') (hq : ∀ i cur, w.heap[i]? = some (.cells cur 62 (0, 0)) → Q i (.cells cur 62 (0, 0))) : Lst w' (IsL w') eL A rs := fun h0 => by
  obtain ⟨g, o, e, ⟨cur, hk⟩, hg, hc⟩ := h h0
  have hk' := k.block g _ hk (hq g cur hk)
  exact ⟨g, o, e, ⟨cur, hk'⟩, lt_of_some hk', fun j u hu => (cell_of_heap (hk'.trans hk.symm) _).trans (hc j u hu)⟩
theorem lst_below {w w' : World} {A : Option Addr} {rs : List Re} (h : Lst w (IsL w) eL A rs) (k : Below w.heap.size w w') : Lst w' (IsL w') eL A rs := lst_kept h (Keep.of_below (K := fun _ _ => True) k) fun _ _ _ => trivial
theorem LT0.lt {w : World} {b : Nat} {n : Int} {A : Option Addr} {c : Nat} {rs : List Re} {s : TS} (h : LT0 w b n A c rs s) : b < w.heap.size := h.blk.lt
theorem LT0.below {w w' : World} {b : Nat} {n : Int} {A : Option Addr} {c : Nat} {rs : List Re} {s : TS} (h : LT0 w b n A c rs s) (k : Below w.heap.size w w') : LT0 w' b n A c rs s :=
  ⟨h.blk.below k h.lt, lst_below h.lst k, h.rows.below k, h.le, h.max, h.nil⟩
theorem LT.below {w w' : World} {b : Nat} {n : Int} {s : TS} (h : LT w b n s) (k : Below w.heap.size w w') : LT w' b n s := by
  obtain ⟨A, c, rs, h⟩ := h
  exact ⟨A, c, rs, h.below k⟩
theorem LT.lt {w : World} {b : Nat} {n : Int} {s : TS} (h : LT w b n s) : b < w.heap.size := by
  obtain ⟨A, c, rs, h⟩ := h
  exact h.lt
/-- another block than the table's turned -/
theorem LT.keep {w w' : World} {b b' : Nat} {n : Int} {s : TS} (h : LT w b n s) {T : TypeId} {cs : Array Value} (hb : Blk w b' T cs) (ht : T ≠ 78 ∧ T ≠ 62) (hne : b ≠ b') (k : Keep (fun i _ => i ≠ b') w w') : LT w' b n s := by
  obtain ⟨A, c, rs, h⟩ := h
  exact ⟨A, c, rs, h.blk.keep k hne, lst_kept h.lst k fun i cur hi => ne_of_types hb hi (fun e => ht.2 e.symm), h.rows.kept k fun i cur hi => ne_of_types hb hi (fun e => ht.1 e.symm), h.le, h.max, h.nil⟩
/-- the j-th lock of a row, as package grant's calls take it -/
theorem row_lock {w : World} {A : Option Addr} {rs : List Re} {s : TS} (h : Lst w (IsL w) eL A rs) (hr : RowsOk w rs s) {j : Nat} (hj : j < rs.length) (hs : j < s.length) :
    ∃ g o zn, A = some ⟨g, o, none⟩ ∧ g < w.heap.size ∧ Lock w g (o + j * 5) zn s[j].2 := by
  obtain ⟨g, o, e, ⟨cur, hk⟩, hg, h0, h1, _⟩ := h.atL hj
  have hrow := hr.2 j hj hs
  exact ⟨g, o, ⟨_, cur⟩, e, hg, _, _, two_of_cells (show Blk w g _ cur from hk) (by decide) h0 h1, hrow.held, hrow.line⟩
/-- a lock that is copied into a block of its own -/
theorem box_lock {w : World} {r : Re} {e : Ent} (h : RowOk w r e) : Lock (w.alloc (.cells #[r.1.val, r.2.1.val, .int .i64 r.2.2.1, .string r.2.2.2.1, .string r.2.2.2.2] 62)) w.heap.size 0 ⟨62, #[r.1.val, r.2.1.val, .int .i64 r.2.2.1, .string r.2.2.2.1, .string r.2.2.2.2]⟩ e.2 := by
  have B := Blk.new w 62 #[r.1.val, r.2.1.val, .int .i64 r.2.2.1, .string r.2.2.2.1, .string r.2.2.2.2]
  exact ⟨_, _, two_of_cells (off := 0) B (by decide) (B.cell 0) (B.cell 1), h.held.below (alloc_below w _), h.line.below (alloc_below w _)⟩
theorem elemL : Tryd.prog.elem 48 = 62 := by simp [Program.elem, Tryd.underlying48]
theorem sizeL : ∀ w, (Go.sizeOf 62).run Tryd.prog w = .ok 5 w := Tryd.sizeOf62
/-- package locks' New -/
theorem lnew_ (w : World) : Calls Tryd.prog 8 #[] w fun e w' => e = .returned (.pointer (some ⟨w.heap.size, 0, none⟩)) ∧ w' = w.alloc (.cells #[.int .i64 0, .slice none 0 0] 50) := by
  go_enter Tryd.func8, Tryd.ntmps8
  go_wp2
  go_ret
  exact ⟨rfl, rfl⟩
theorem LT.new (w : World) : LT (w.alloc (.cells #[.int .i64 0, .slice none 0 0] 50)) w.heap.size 0 [] :=
  ⟨none, 0, [], Blk.new w _ _, Lst.nil _ _ _ _, ⟨rfl, fun j hj => absurd hj (by simp)⟩, Nat.le_refl _, by unfold maxLen; omega, fun _ => rfl⟩
end Go.Proofs.YtnjhhndggfjjdaaDoor
