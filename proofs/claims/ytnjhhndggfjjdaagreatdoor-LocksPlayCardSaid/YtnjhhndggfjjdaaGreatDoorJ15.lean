/- All locks in memory: rows of locks; the table; a lock in its row, as package grant's calls take it. Where the lock of a name stands: the library's BinarySearchFunc at locks. A lock put into a row of them at a place: the library's Insert at locks. -/
import Derived.Test.YtnjhhndggfjjdaaGreatDoorJ13
import Derived.Test.YtnjhhndggfjjdaaGreatDoorJ09
import Derived.RegionTactic
import Derived.Deep.RegionWith
import Derived.BigQuiet
import Derived.Deep.QuietTactic
import Derived.Lib.AppendZeros
import Derived.Lib.AppendZerosOnto
import Derived.Lib.Overlaps
import Derived.Laws.Externs
import Derived.Laws.IdiomCopy
import Derived.Laws.NewBlocks
import Derived.Shelf.RegionOpenPlain
set_option maxRecDepth 4000
namespace Go.Proofs.YtnjhhndggfjjdaaGreatDoor
open Go.RowKit
/-- a slice, by its address, its length and its capacity -/
abbrev Sl := Option Addr × Nat × Nat
def Sl.val (s : Sl) : Value := .slice s.1 s.2.1 s.2.2
/-- a lock in a row: holders, line, name -/
abbrev Re := Sl × Sl × Nm
def eL : Enc Re := ⟨fun r => [r.1.val, r.2.1.val, .int .i64 r.2.2.1, .string r.2.2.2.1, .string r.2.2.2.2], 5, by omega, fun _ => rfl, fun _ v hv => by simp at hv; rcases hv with rfl | rfl | rfl | rfl | rfl <;> rfl⟩
def valL (r : Re) : Value := .agg #[r.1.val, r.2.1.val, .int .i64 r.2.2.1, .string r.2.2.2.1, .string r.2.2.2.2]
theorem tyL : RowTy eL 66 51 := ⟨Tryz.underlying51, .agg #[.slice none 0 0, .slice none 0 0, .int .i64 0, .string ⟨#[]⟩, .string ⟨#[]⟩], 88, by kernel_rfl, rfl, by omega⟩
/-- a block of locks -/
def IsL (w : World) (i : Nat) : Prop := ∃ cur, w.heap[i]? = some (.cells cur 66 (0, 0))
theorem Lst.atL {w : World} {K : Nat → Prop} {A : Option Addr} {l : List Re} (h : Lst w K eL A l) {j : Nat} (hj : j < l.length) :
    ∃ b o, A = some ⟨b, o, none⟩ ∧ K b ∧ b < w.heap.size ∧ w.cell? ⟨b, o + j * 5, none⟩ = some l[j].1.val ∧ w.cell? ⟨b, o + j * 5 + 1, none⟩ = some l[j].2.1.val ∧ w.cell? ⟨b, o + j * 5 + 2, none⟩ = some (.int .i64 l[j].2.2.1) ∧ w.cell? ⟨b, o + j * 5 + 3, none⟩ = some (.string l[j].2.2.2.1) ∧ w.cell? ⟨b, o + j * 5 + 4, none⟩ = some (.string l[j].2.2.2.2) := by
  obtain ⟨b, o, e, hk, hl, hc⟩ := h (by omega)
  have at_ := fun i v (hi : (eL.enc l[j])[i]? = some v) => hc (j * 5 + i) v (cellsE_at eL hj hi)
  refine ⟨b, o, e, hk, hl, ?_, ?_, ?_, ?_, ?_⟩
  · exact at_ 0 _ rfl
  · rw [Nat.add_assoc]; exact at_ 1 _ rfl
  · rw [Nat.add_assoc]; exact at_ 2 _ rfl
  · rw [Nat.add_assoc]; exact at_ 3 _ rfl
  · rw [Nat.add_assoc]; exact at_ 4 _ rfl
theorem set_self {cs : Array Value} {i : Nat} {v : Value} (h : cs[i]? = some v) : cs.setIfInBounds i v = cs := by
  apply Array.ext_getElem?
  intro j
  rw [Array.getElem?_setIfInBounds]
  split
  · rename_i e
    subst e
    split
    · exact h.symm
    · obtain ⟨l, _⟩ := Array.getElem?_eq_some_iff.1 h
      omega
  · rfl
/-- a lock wherever it stands, in a block known whole -/
theorem two_of_cells {w : World} {b off : Nat} {T : TypeId} {cs : Array Value} {vH vL : Value} (h : Blk w b T cs) (ht : T ≠ 94 ∧ T ≠ 3 ∧ T ≠ 56) (h0 : w.cell? ⟨b, off, none⟩ = some vH) (h1 : w.cell? ⟨b, off + 1, none⟩ = some vL) : Two w b off ⟨T, cs⟩ vH vL := by
  rw [h.cell] at h0 h1
  obtain ⟨l1, _⟩ := Array.getElem?_eq_some_iff.1 h1
  have e : (⟨T, cs⟩ : Zn).with off vH vL = cs := by
    unfold Zn.with
    simp only
    rw [set_self h0, set_self h1]
  exact ⟨by rw [e]; exact h, l1, ht⟩
/-- a row's entry and what it stands for -/
structure RowOk (w : World) (r : Re) (e : Ent) : Prop where
  name : r.2.2 = e.1
  held : At w r.1.val e.2.1
  line : At w r.2.1.val e.2.2
theorem RowOk.kept {w w' : World} {r : Re} {e : Ent} {Q : Nat → Obj → Prop} (h : RowOk w r e) (k : Keep Q w w') (hq : ∀ i cur, w.heap[i]? = some (.cells cur 94 (0, 0)) → Q i (.cells cur 94 (0, 0))) : RowOk w' r e :=
  ⟨h.name, h.held.kept k hq, h.line.kept k hq⟩
theorem RowOk.below {w w' : World} {r : Re} {e : Ent} (h : RowOk w r e) (k : Below w.heap.size w w') : RowOk w' r e := ⟨h.name, h.held.below k, h.line.below k⟩
/-- the rows are these locks -/
def RowsOk (w : World) (rs : List Re) (s : TS) : Prop := rs.length = s.length ∧ ∀ j (hj : j < rs.length) (hs : j < s.length), RowOk w rs[j] s[j]
theorem RowsOk.kept {w w' : World} {rs : List Re} {s : TS} {Q : Nat → Obj → Prop} (h : RowsOk w rs s) (k : Keep Q w w') (hq : ∀ i cur, w.heap[i]? = some (.cells cur 94 (0, 0)) → Q i (.cells cur 94 (0, 0))) : RowsOk w' rs s :=
  ⟨h.1, fun j hj hs => (h.2 j hj hs).kept k hq⟩
theorem RowsOk.below {w w' : World} {rs : List Re} {s : TS} (h : RowsOk w rs s) (k : Below w.heap.size w w') : RowsOk w' rs s := ⟨h.1, fun j hj hs => (h.2 j hj hs).below k⟩
/-- the table at block b: how many it counts, and its locks -/
structure LT0 (w : World) (b : Nat) (n : Int) (A : Option Addr) (c : Nat) (rs : List Re) (s : TS) : Prop where
  blk : Blk w b 53 #[.int .i64 n, .slice A s.length c]
  lst : Lst w (IsL w) eL A rs
  rows : RowsOk w rs s
  le : s.length ≤ c
  max : c ≤ maxLen
  nil : A = none → c = 0
def LT (w : World) (b : Nat) (n : Int) (s : TS) : Prop := ∃ A c rs, LT0 w b n A c rs s
theorem lst_kept {w w' : World} {A : Option Addr} {rs : List Re} {Q : Nat → Obj → Prop} (h : Lst w (IsL w) eL A rs) (k : Keep Q w w') (hq : ∀ i cur, w.heap[i]? = some (.cells cur 66 (0, 0)) → Q i (.cells cur 66 (0, 0))) : Lst w' (IsL w') eL A rs := fun h0 => by
  obtain ⟨g, o, e, ⟨cur, hk⟩, hg, hc⟩ := h h0
  have hk' := k.block g _ hk (hq g cur hk)
  exact ⟨g, o, e, ⟨cur, hk'⟩, lt_of_some hk', fun j u hu => (cell_of_heap (hk'.trans hk.symm) _).trans (hc j u hu)⟩
theorem lst_below {w w' : World} {A : Option Addr} {rs : List Re} (h : Lst w (IsL w) eL A rs) (k : Below w.heap.size w w') : Lst w' (IsL w') eL A rs := lst_kept h (Keep.of_below (K := fun _ _ => True) k) fun _ _ _ => trivial
theorem LT0.lt {w : World} {b : Nat} {n : Int} {A : Option Addr} {c : Nat} {rs : List Re} {s : TS} (h : LT0 w b n A c rs s) : b < w.heap.size := h.blk.lt
theorem LT0.below {w w' : World} {b : Nat} {n : Int} {A : Option Addr} {c : Nat} {rs : List Re} {s : TS} (h : LT0 w b n A c rs s) (k : Below w.heap.size w w') : LT0 w' b n A c rs s :=
  ⟨h.blk.below k h.lt, lst_below h.lst k, h.rows.below k, h.le, h.max, h.nil⟩
theorem LT.below {w w' : World} {b : Nat} {n : Int} {s : TS} (h : LT w b n s) (k : Below w.heap.size w w') : LT w' b n s := by
  obtain ⟨A, c, rs, h⟩ := h
  exact ⟨A, c, rs, h.below k⟩
theorem LT.lt {w : World} {b : Nat} {n : Int} {s : TS} (h : LT w b n s) : b < w.heap.size := by
  obtain ⟨A, c, rs, h⟩ := h
  exact h.lt
/-- another block than the table's turned -/
theorem LT.keep {w w' : World} {b b' : Nat} {n : Int} {s : TS} (h : LT w b n s) {T : TypeId} {cs : Array Value} (hb : Blk w b' T cs) (ht : T ≠ 94 ∧ T ≠ 66) (hne : b ≠ b') (k : Keep (fun i _ => i ≠ b') w w') : LT w' b n s := by
  obtain ⟨A, c, rs, h⟩ := h
  exact ⟨A, c, rs, h.blk.keep k hne, lst_kept h.lst k fun i cur hi => ne_of_types hb hi (fun e => ht.2 e.symm), h.rows.kept k fun i cur hi => ne_of_types hb hi (fun e => ht.1 e.symm), h.le, h.max, h.nil⟩
/-- the j-th lock of a row, as package grant's calls take it -/
theorem row_lock {w : World} {A : Option Addr} {rs : List Re} {s : TS} (h : Lst w (IsL w) eL A rs) (hr : RowsOk w rs s) {j : Nat} (hj : j < rs.length) (hs : j < s.length) :
    ∃ g o zn, A = some ⟨g, o, none⟩ ∧ g < w.heap.size ∧ Lock w g (o + j * 5) zn s[j].2 := by
  obtain ⟨g, o, e, ⟨cur, hk⟩, hg, h0, h1, _⟩ := h.atL hj
  have hrow := hr.2 j hj hs
  exact ⟨g, o, ⟨_, cur⟩, e, hg, _, _, two_of_cells (show Blk w g _ cur from hk) (by decide) h0 h1, hrow.held, hrow.line⟩
/-- a lock that is copied into a block of its own -/
theorem box_lock {w : World} {r : Re} {e : Ent} (h : RowOk w r e) : Lock (w.alloc (.cells #[r.1.val, r.2.1.val, .int .i64 r.2.2.1, .string r.2.2.2.1, .string r.2.2.2.2] 66)) w.heap.size 0 ⟨66, #[r.1.val, r.2.1.val, .int .i64 r.2.2.1, .string r.2.2.2.1, .string r.2.2.2.2]⟩ e.2 := by
  have B := Blk.new w 66 #[r.1.val, r.2.1.val, .int .i64 r.2.2.1, .string r.2.2.2.1, .string r.2.2.2.2]
  exact ⟨_, _, two_of_cells (off := 0) B (by decide) (B.cell 0) (B.cell 1), h.held.below (alloc_below w _), h.line.below (alloc_below w _)⟩
theorem elemL : Tryz.prog.elem 51 = 66 := by simp [Program.elem, Tryz.underlying51]
theorem sizeL : ∀ w, (Go.sizeOf 66).run Tryz.prog w = .ok 5 w := Tryz.sizeOf66
/-- package locks' New -/
theorem lnew_ (w : World) : Calls Tryz.prog 5 #[] w fun e w' => e = .returned (.pointer (some ⟨w.heap.size, 0, none⟩)) ∧ w' = w.alloc (.cells #[.int .i64 0, .slice none 0 0] 53) := by
  go_enter Tryz.func5, Tryz.ntmps5
  go_wp2
  go_ret
  exact ⟨rfl, rfl⟩
theorem LT.new (w : World) : LT (w.alloc (.cells #[.int .i64 0, .slice none 0 0] 53)) w.heap.size 0 [] :=
  ⟨none, 0, [], Blk.new w _ _, Lst.nil _ _ _ _, ⟨rfl, fun j hj => absurd hj (by simp)⟩, Nat.le_refl _, by unfold maxLen; omega, fun _ => rfl⟩
end Go.Proofs.YtnjhhndggfjjdaaGreatDoor
namespace Go.Proofs.YtnjhhndggfjjdaaGreatDoor
open Go.RowKit
set_option maxHeartbeats 1000000 in
theorem placeF_ (r : Re) (n : Nm) (w : World) : Calls Tryz.prog 71 #[valL r, valN n] w fun e w' => e = .returned (.int .i64 (cmpN r.2.2 n)) ∧ Below w.heap.size w w' := by
  obtain ⟨⟨A1, n1, c1⟩, ⟨A2, n2, c2⟩, r1, r2, r3⟩ := r
  obtain ⟨d, o, q⟩ := n
  have hal := (alloc_below w (.cells #[.slice A1 n1 c1, .slice A2 n2 c2, .int .i64 r1, .string r2, .string r3] 66)).trans ((alloc_below (w.alloc (.cells #[.slice A1 n1 c1, .slice A2 n2 c2, .int .i64 r1, .string r2, .string r3] 66)) (.cells #[.int .i64 d, .string o, .string q] 31)).mono (by simp))
  have hcm := ncompare_ (r1, r2, r3) (d, o, q)
  unfold valL valN Sl.val at *
  simp only at *
  generalize cmpN (r1, r2, r3) (d, o, q) = z at *
  have HAL := Lib.hid hal
  have HCM := Lib.hid hcm
  clear hal hcm
  go_enter Tryz.func71, Tryz.ntmps71
  go_wp2_with (go_at_call 72; refine (HCM.out _).mono ?_; rintro e w' ⟨rfl, hb'⟩)
  go_ret
  exact ⟨rfl, HAL.out.trans (hb'.mono HAL.out.size)⟩
theorem enters_placeF : ∀ args w, (callFunc 71 args).run Tryz.prog w = .ok (.enter 71 args) w := enters_of Tryz.func71 (by kernel_rfl) rfl
/-- the rows ahead of a name -/
def aheadR (n : Nm) (r : Re) : Bool := decide (cmpN r.2.2 n < 0)
def spotR (l : List Re) (n : Nm) : Nat := l.findIdx fun r => !aheadR n r
def hitR (l : List Re) (n : Nm) : Bool := match l[spotR l n]? with
  | some r => cmpN r.2.2 n == 0
  | none => false
def RiseR (l : List Re) (n : Nm) : Prop := ∀ i j (hi : i < l.length) (hj : j < l.length), i ≤ j → aheadR n l[j] = true → aheadR n l[i] = true
theorem spotR_at {l : List Re} {n : Nm} {k : Nat} (hk : k ≤ l.length) (h1 : ∀ q (hq : q < l.length), q < k → aheadR n l[q] = true) (h2 : ∀ q (hq : q < l.length), k ≤ q → aheadR n l[q] = false) : spotR l n = k := by
  unfold spotR
  rcases Nat.lt_or_ge k l.length with h | h
  · exact (List.findIdx_eq h).2 ⟨by simp [h2 k h (Nat.le_refl _)], fun q hq => by simp [h1 q (by omega) hq]⟩
  · obtain rfl : k = l.length := by omega
    exact List.findIdx_eq_length.2 fun x hx => by
      obtain ⟨q, hq, rfl⟩ := List.getElem_of_mem hx
      simp [h1 q hq hq]
theorem mid_num {a b : Nat} (h : a + b ≤ 4000000) : wrap64 (IntKind.u64.wrap (wrap64 ((a : Int) + (b : Int))) / 2) = (((a + b) / 2 : Nat) : Int) := by
  have e : wrap64 ((a : Int) + (b : Int)) = ((a + b : Nat) : Int) := by unfold wrap64; omega
  rw [e, show IntKind.u64.wrap ((a + b : Nat) : Int) = ((a + b : Nat) : Int) by simp [IntKind.wrap, IntKind.bits, IntKind.signed]; omega]
  unfold wrap64
  omega
def BsR (w : World) (l : List Re) (n : Nm) (k : Nat) (i j : Value) (wr : World) : Prop :=
  ∃ a b : Nat, b - a = k ∧ a ≤ b ∧ b ≤ l.length ∧ i = .int .i64 (a : Int) ∧ j = .int .i64 (b : Int) ∧ (∀ q (hq : q < l.length), q < a → aheadR n l[q] = true) ∧ (∀ q (hq : q < l.length), b ≤ q → aheadR n l[q] = false) ∧ Below w.heap.size w wr
set_option maxHeartbeats 2000000 in
theorem search_ {w : World} {A : Option Addr} {m c : Nat} {l : List Re} (h : Lst w (IsL w) eL A l) (hl : l.length = m) (hm : m ≤ 1000000) (n : Nm) (hr : RiseR l n) :
    Calls Tryz.prog 70 #[.slice A m c, valN n, .func (.func 71) #[] #[]] w fun e w' => e = .returned (.tuple #[.int .i64 (spotR l n : Int), .bool (hitR l n)]) ∧ Below w.heap.size w w' := by
  have H := Lib.hid h
  have HL := Lib.hid hl
  have HR := Lib.hid hr
  clear h hl hr
  unfold valN
  have hal := alloc_below w (.cells #[.int .i64 n.1, .string n.2.1, .string n.2.2] 31)
  have hB := Blk.new w 31 #[.int .i64 n.1, .string n.2.1, .string n.2.2]
  have HAL := Lib.hid hal
  have HB0 := Lib.hid hB
  clear hal hB
  go_enter Tryz.func70, Tryz.ntmps70
  go_wp2_with fail
  generalize hwA : w.alloc (.cells #[.int .i64 n.1, .string n.2.1, .string n.2.2] 31) = wA at *
  go_loopg [9, 10] m (fun k i j wr => BsR wA l n k i j wr)
  case atStart => exact ⟨0, m, by omega, by omega, by rw [HL.out]; exact Nat.le_refl _, rfl, rfl, fun q _ hq => absurd hq (Nat.not_lt_zero q), fun q hq h => by rw [HL.out] at hq; omega, Below.refl _ _⟩
  case round =>
    obtain ⟨a, b, hk, hab, hbl, rfl, rfl, h1, h2, hb⟩ := hrel
    have H1 := Lib.hid h1
    have H2 := Lib.hid h2
    have HB := Lib.hid hb
    have HK := Lib.hid hk
    clear h1 h2 hb hk
    have hlm : l.length = m := HL.out
    by_cases hlt : a < b
    · have hmid := mid_num (a := a) (b := b) (by omega)
      have f1 : (0 : Int) ≤ ((a : Int) + (b : Int)) / 2 := by omega
      have f2 : ((a : Int) + (b : Int)) / 2 < (m : Int) := by omega
      have f3 : (((a : Int) + (b : Int)) / 2).toNat = (a + b) / 2 := by omega
      have hx : (a + b) / 2 < l.length := by omega
      have hqm : (a + b) / 2 < m := by omega
      obtain ⟨g, o, rfl, _, hg, d0, d1, d2, d3, d4⟩ := (lst_below H.out (HAL.out.trans (HB.out.mono HAL.out.size))).atL hx
      have hcl := placeF_ l[(a + b) / 2] n
      have hah : aheadR n l[(a + b) / 2] = decide (cmpN l[(a + b) / 2].2.2 n < 0) := rfl
      have hup : aheadR n l[(a + b) / 2] = true → ∀ i (hi : i < l.length), i < (a + b) / 2 + 1 → aheadR n l[i] = true := fun h i hi h2 => HR.out i _ hi hx (by omega) h
      have hdn : aheadR n l[(a + b) / 2] = false → ∀ i (hi : i < l.length), (a + b) / 2 ≤ i → aheadR n l[i] = false := fun h i hi h2 => by
        cases h3 : aheadR n l[i]
        · rfl
        · rw [HR.out _ i hx hi h2 h3] at h; cases h
      have hbx : wr.cell? ⟨w.heap.size, 0, none⟩ = some (.int .i64 n.1) ∧ wr.cell? ⟨w.heap.size, 1, none⟩ = some (.string n.2.1) ∧ wr.cell? ⟨w.heap.size, 2, none⟩ = some (.string n.2.2) := by
        have h := HB0.out.below HB.out HB0.out.lt
        exact ⟨h.cell 0, h.cell 1, h.cell 2⟩
      obtain ⟨b0, b1, b2⟩ := hbx
      have HUP := Lib.hid hup
      have HDN := Lib.hid hdn
      have HAH := Lib.hid hah
      unfold valN valL at hcl
      generalize cmpN l[(a + b) / 2].2.2 n = z at *
      generalize l[(a + b) / 2].1.val = u1 at *
      generalize l[(a + b) / 2].2.1.val = u2 at *
      generalize l[(a + b) / 2].2.2.1 = u3 at *
      generalize l[(a + b) / 2].2.2.2.1 = u4 at *
      generalize l[(a + b) / 2].2.2.2.2 = u5 at *
      clear hup hdn hah
      go_wp2_with fail
      have hS0 : (fun W : World => W.cell? ⟨g, o + (a + b) / 2 * 5, none⟩ = some u1 ∧ W.cell? ⟨g, o + (a + b) / 2 * 5 + 1, none⟩ = some u2 ∧ W.cell? ⟨g, o + (a + b) / 2 * 5 + 2, none⟩ = some (.int .i64 u3) ∧ W.cell? ⟨g, o + (a + b) / 2 * 5 + 3, none⟩ = some (.string u4) ∧ W.cell? ⟨g, o + (a + b) / 2 * 5 + 4, none⟩ = some (.string u5) ∧ W.cell? ⟨w.heap.size, 0, none⟩ = some (.int .i64 n.1) ∧ W.cell? ⟨w.heap.size, 1, none⟩ = some (.string n.2.1) ∧ W.cell? ⟨w.heap.size, 2, none⟩ = some (.string n.2.2)) wr.drew := ⟨d0, d1, d2, d3, d4, b0, b1, b2⟩
      have hgw := block_of_cell b0
      go_region_held3 (fun W : World => W.cell? ⟨g, o + (a + b) / 2 * 5, none⟩ = some u1 ∧ W.cell? ⟨g, o + (a + b) / 2 * 5 + 1, none⟩ = some u2 ∧ W.cell? ⟨g, o + (a + b) / 2 * 5 + 2, none⟩ = some (.int .i64 u3) ∧ W.cell? ⟨g, o + (a + b) / 2 * 5 + 3, none⟩ = some (.string u4) ∧ W.cell? ⟨g, o + (a + b) / 2 * 5 + 4, none⟩ = some (.string u5) ∧ W.cell? ⟨w.heap.size, 0, none⟩ = some (.int .i64 n.1) ∧ W.cell? ⟨w.heap.size, 1, none⟩ = some (.string n.2.1) ∧ W.cell? ⟨w.heap.size, 2, none⟩ = some (.string n.2.2))
        (first | exact hS0 | exact hS1)
        (first | (go_at_call 71; refine (hcl _).mono ?_; rintro e w1 ⟨rfl, hb1⟩; have HB1 := Lib.hid hb1; have hS1 : (fun W : World => W.cell? ⟨g, o + (a + b) / 2 * 5, none⟩ = some u1 ∧ W.cell? ⟨g, o + (a + b) / 2 * 5 + 1, none⟩ = some u2 ∧ W.cell? ⟨g, o + (a + b) / 2 * 5 + 2, none⟩ = some (.int .i64 u3) ∧ W.cell? ⟨g, o + (a + b) / 2 * 5 + 3, none⟩ = some (.string u4) ∧ W.cell? ⟨g, o + (a + b) / 2 * 5 + 4, none⟩ = some (.string u5) ∧ W.cell? ⟨w.heap.size, 0, none⟩ = some (.int .i64 n.1) ∧ W.cell? ⟨w.heap.size, 1, none⟩ = some (.string n.2.1) ∧ W.cell? ⟨w.heap.size, 2, none⟩ = some (.string n.2.2)) w1 := ⟨(cell_of_heap (hb1.block g hg) _).trans d0, (cell_of_heap (hb1.block g hg) _).trans d1, (cell_of_heap (hb1.block g hg) _).trans d2, (cell_of_heap (hb1.block g hg) _).trans d3, (cell_of_heap (hb1.block g hg) _).trans d4, (cell_of_heap (hb1.block _ hgw) _).trans b0, (cell_of_heap (hb1.block _ hgw) _).trans b1, (cell_of_heap (hb1.block _ hgw) _).trans b2⟩; clear hb1))
      have HB2 := Lib.hid (HB.out.trans ((Below.refl _ wr).drew.trans HB1.out |>.mono HB.out.size))
      by_cases hz : z < 0
      · have e : decide (z < 0) = true := by simpa using hz
        rw [e] at HAH
        rw [e]
        have HUP2 := Lib.hid (HUP.out HAH.out)
        go_wp2_with fail
        go_roundg (b - ((a + b) / 2 + 1))
        case measure => have := HK.out; omega
        case rel => exact ⟨(a + b) / 2 + 1, b, by omega, by omega, by omega, by go_num, rfl, HUP2.out, H2.out, HB2.out⟩
      · have e : decide (z < 0) = false := by simpa using hz
        rw [e] at HAH
        rw [e]
        have HDN2 := Lib.hid (HDN.out HAH.out)
        go_wp2_with fail
        go_roundg ((a + b) / 2 - a)
        case measure => have := HK.out; omega
        case rel => exact ⟨a, (a + b) / 2, by omega, by omega, by omega, rfl, by go_num, H1.out, HDN2.out, HB2.out⟩
    · obtain rfl : a = b := by omega
      have hsp : spotR l n = a := spotR_at hbl (fun q hq h => H1.out q hq h) (fun q hq h => H2.out q hq h)
      have HSP := Lib.hid hsp
      have HBE := Lib.hid (HAL.out.trans (HB.out.mono HAL.out.size))
      have hbx : wr.cell? ⟨w.heap.size, 0, none⟩ = some (.int .i64 n.1) ∧ wr.cell? ⟨w.heap.size, 1, none⟩ = some (.string n.2.1) ∧ wr.cell? ⟨w.heap.size, 2, none⟩ = some (.string n.2.2) := by
        have h := HB0.out.below HB.out HB0.out.lt
        exact ⟨h.cell 0, h.cell 1, h.cell 2⟩
      obtain ⟨b0, b1, b2⟩ := hbx
      clear hsp
      by_cases ham : a < m
      · have hx : a < l.length := by omega
        obtain ⟨g, o, rfl, _, hg, d0, d1, d2, d3, d4⟩ := (lst_below H.out HBE.out).atL hx
        have hcl := placeF_ l[a] n
        have hhit : hitR l n = (cmpN l[a].2.2 n == 0) := by
          unfold hitR
          rw [HSP.out, List.getElem?_eq_getElem hx]
        have HH := Lib.hid hhit
        unfold valN valL at hcl
        generalize cmpN l[a].2.2 n = z at *
        generalize l[a].1.val = u1 at *
        generalize l[a].2.1.val = u2 at *
        generalize l[a].2.2.1 = u3 at *
        generalize l[a].2.2.2.1 = u4 at *
        generalize l[a].2.2.2.2 = u5 at *
        clear hhit
        have hgw := block_of_cell b0
        have hdt : decide ((a : Int) < (m : Int)) = true := by simpa using ham
        go_wp2_with fail
        have hS0 : (fun W : World => W.cell? ⟨g, o + a * 5, none⟩ = some u1 ∧ W.cell? ⟨g, o + a * 5 + 1, none⟩ = some u2 ∧ W.cell? ⟨g, o + a * 5 + 2, none⟩ = some (.int .i64 u3) ∧ W.cell? ⟨g, o + a * 5 + 3, none⟩ = some (.string u4) ∧ W.cell? ⟨g, o + a * 5 + 4, none⟩ = some (.string u5) ∧ W.cell? ⟨w.heap.size, 0, none⟩ = some (.int .i64 n.1) ∧ W.cell? ⟨w.heap.size, 1, none⟩ = some (.string n.2.1) ∧ W.cell? ⟨w.heap.size, 2, none⟩ = some (.string n.2.2)) wr.drew := ⟨d0, d1, d2, d3, d4, b0, b1, b2⟩
        go_region_held3 (fun W : World => W.cell? ⟨g, o + a * 5, none⟩ = some u1 ∧ W.cell? ⟨g, o + a * 5 + 1, none⟩ = some u2 ∧ W.cell? ⟨g, o + a * 5 + 2, none⟩ = some (.int .i64 u3) ∧ W.cell? ⟨g, o + a * 5 + 3, none⟩ = some (.string u4) ∧ W.cell? ⟨g, o + a * 5 + 4, none⟩ = some (.string u5) ∧ W.cell? ⟨w.heap.size, 0, none⟩ = some (.int .i64 n.1) ∧ W.cell? ⟨w.heap.size, 1, none⟩ = some (.string n.2.1) ∧ W.cell? ⟨w.heap.size, 2, none⟩ = some (.string n.2.2))
          (first | exact hS0 | exact hS1)
          (first | (go_at_call 71; refine (hcl _).mono ?_; rintro e w1 ⟨rfl, hb1⟩; have HB1 := Lib.hid hb1; have hS1 : (fun W : World => W.cell? ⟨g, o + a * 5, none⟩ = some u1 ∧ W.cell? ⟨g, o + a * 5 + 1, none⟩ = some u2 ∧ W.cell? ⟨g, o + a * 5 + 2, none⟩ = some (.int .i64 u3) ∧ W.cell? ⟨g, o + a * 5 + 3, none⟩ = some (.string u4) ∧ W.cell? ⟨g, o + a * 5 + 4, none⟩ = some (.string u5) ∧ W.cell? ⟨w.heap.size, 0, none⟩ = some (.int .i64 n.1) ∧ W.cell? ⟨w.heap.size, 1, none⟩ = some (.string n.2.1) ∧ W.cell? ⟨w.heap.size, 2, none⟩ = some (.string n.2.2)) w1 := ⟨(cell_of_heap (hb1.block g hg) _).trans d0, (cell_of_heap (hb1.block g hg) _).trans d1, (cell_of_heap (hb1.block g hg) _).trans d2, (cell_of_heap (hb1.block g hg) _).trans d3, (cell_of_heap (hb1.block g hg) _).trans d4, (cell_of_heap (hb1.block _ hgw) _).trans b0, (cell_of_heap (hb1.block _ hgw) _).trans b1, (cell_of_heap (hb1.block _ hgw) _).trans b2⟩; clear hb1))
        have HB2 := Lib.hid (HBE.out.trans ((Below.refl _ wr).drew.trans HB1.out |>.mono HBE.out.size))
        go_wp2_with fail
        refine bodyPost_ret (v := .tuple #[.int .i64 (a : Int), .bool (z == 0)]) (by simp [results, Tryz.results70, go_sem]) rfl ?_
        exact ⟨by rw [HSP.out, HH.out], HB2.out⟩
      · have hdt : decide ((a : Int) < (m : Int)) = false := by simpa using ham
        have hhit : hitR l n = false := by
          unfold hitR
          rw [HSP.out, List.getElem?_eq_none (by omega)]
        have HH := Lib.hid hhit
        clear hhit
        go_wp2_with fail
        go_quiet (fail)
        go_wp2_with fail
        refine bodyPost_ret (v := .tuple #[.int .i64 (a : Int), .bool false]) (by simp [results, Tryz.results70, go_sem]) rfl ?_
        exact ⟨by rw [HSP.out, HH.out], below_drewN HBE.out _⟩
end Go.Proofs.YtnjhhndggfjjdaaGreatDoor
namespace Go.Proofs.YtnjhhndggfjjdaaGreatDoor
open Go.RowKit
def linsP (l : List Re) (i : Nat) (x : Re) : List Re := l.take i ++ x :: l.drop i
theorem linsP_length {l : List Re} {i : Nat} (x : Re) : (linsP l i x).length = l.length + 1 := by
  have := congrArg List.length (List.take_append_drop i l)
  unfold linsP
  simp only [List.length_append, List.length_cons] at this ⊢
  omega
theorem lins_cells {l : List Re} {i : Nat} {x : Re} (hi : i ≤ l.length) {z : Nat} {u : Value} (hz : (cellsE eL (linsP l i x))[z]? = some u) :
    (z < i * 5 ∧ (cellsE eL l)[z]? = some u) ∨ (∃ j, z = i * 5 + j ∧ (eL.enc x)[j]? = some u) ∨ ∃ j, z = i * 5 + 5 + j ∧ (cellsE eL (l.drop i))[j]? = some u := by
  unfold linsP at hz
  rw [cellsE_append, cellsE] at hz
  have hl1 : (cellsE eL (l.take i)).length = i * 5 := by rw [cellsE_length, List.length_take, Nat.min_eq_left hi]; rfl
  have hl2 : (eL.enc x).length = 5 := rfl
  rcases Nat.lt_or_ge z (i * 5) with h | h
  · left
    rw [List.getElem?_append_left (by omega), cellsE_take, List.getElem?_take] at hz
    split at hz
    · exact ⟨h, hz⟩
    · cases hz
  · rw [List.getElem?_append_right (by omega), hl1] at hz
    rcases Nat.lt_or_ge z (i * 5 + 5) with h' | h'
    · right; left
      rw [List.getElem?_append_left (by omega)] at hz
      exact ⟨z - i * 5, by omega, hz⟩
    · right; right
      rw [List.getElem?_append_right (by omega), hl2] at hz
      exact ⟨z - i * 5 - 5, by omega, hz⟩
theorem lown_ins {W : World} {base g c : Nat} {cur : Array Value} {l : List Re} {i : Nat} {x : Re} (hi : i ≤ l.length) (hb : Blk W g 66 cur) (hbase : base ≤ g) (hc : l.length + 1 ≤ c) (hcm : c ≤ maxLen) (hs : cur.size = c * 5)
    (h1 : ∀ (z : Nat) (u : Value), z < i * 5 → (cellsE eL l)[z]? = some u → cur[z]? = some u) (h2 : ∀ (j : Nat) (u : Value), (eL.enc x)[j]? = some u → cur[i * 5 + j]? = some u) (h3 : ∀ (j : Nat) (u : Value), (cellsE eL (l.drop i))[j]? = some u → cur[i * 5 + 5 + j]? = some u) :
    Own W base eL 66 (.slice (some ⟨g, 0, none⟩) (l.length + 1) c) (linsP l i x) := by
  refine ⟨by rw [cellsE_length], .inr ⟨g, c, cur, by rw [linsP_length], hbase, hb, by rw [linsP_length]; exact hc, hcm, hs, ?_⟩⟩
  rw [← cellsE_length]
  refine take_of_cells fun z u hz => ?_
  rcases lins_cells hi hz with ⟨hlt, h⟩ | ⟨j, rfl, h⟩ | ⟨j, rfl, h⟩
  · exact h1 z u hlt h
  · exact h2 j u h
  · exact h3 j u h
/-- a copy of claims whose cells are known -/
theorem lcopy_claims (w : World) (ty : TypeId) (b o dLen dCap : Nat) (a : Addr) (sLen sCap N : Nat) (cs : List Value) (hN : Nat.min sLen dLen = N) (hn : cs.length = N * 5)
    (hsrc : ∀ j v, cs[j]? = some v → w.cell? (a.add j) = some v) (hc : ∀ j, j < cs.length → (w.cell? ⟨b, o + j, none⟩).isSome = true) (hf : ∀ j, j < cs.length → w.frozen? ⟨b, o + j, none⟩ = false) (h1 : ∀ v ∈ cs, v.oneCell' = true) :
    (Builtin.copy_ #[51, 51] ty #[.slice (some ⟨b, o, none⟩) dLen dCap, .slice (some a) sLen sCap]).run Tryz.prog w = .ok (goInt N) (w.setCells b o cs) := by
  have hl := run_loadCells_list (P := Tryz.prog) w a cs hsrc
  rw [hn] at hl
  have hst := run_storeCells_cells (P := Tryz.prog) b o cs 0 w (by simpa using hc) (by simpa using hf) h1
  simp [Builtin.copy_, run_underlying Tryz.underlying51, Builtin.lenOf, Builtin.firstCells, hN, hl, hst]
theorem loverlaps_ (w : World) {vb g : Nat} {cA cB : Array Value} (o lb cb : Nat) (hA : Blk w vb 66 cA) (hB : Blk w g 66 cB) (hne : vb ≠ g) (hs : cB.size ≠ 0) :
    (callFunc 73 #[.slice (some ⟨vb, 0, none⟩) 1 1, .slice (some ⟨g, o, none⟩) lb cb]).run Tryz.prog w = .ok (.value (.bool false)) w := by
  rw [run_callFunc_extern Tryz.func73 (by kernel_rfl) (by kernel_rfl) (by kernel_rfl) (e := Extern.SlicesOverlaps.overlaps #[51, 51] #[4]) (by kernel_rfl)]
  unfold Blk at hA hB
  rw [Lib.run_overlaps_apart w 51 4 66 Tryz.underlying51 5 sizeL ⟨vb, 0, none⟩ ⟨g, o, none⟩ 1 1 lb cb hne 66 66 cA.size cB.size (by simp [World.shape?, hA]) (by simp [World.shape?, hB]) hs (by simp [World.frozen?, hA]) (by simp [World.frozen?, hA])]
  rfl
def lPut (w : World) (base : Nat) (v : Value) (l : List Re) (e : Ending) (w' : World) : Prop :=
  ∃ v', e = .returned v' ∧ Own w' base eL 66 v' l ∧ w.grownBy w' v.ownBlock
set_option maxHeartbeats 1000000 in
theorem linsert_end {w : World} {base vb : Nat} {v : Value} {l : List Re} {x : Re} (ho : Own w base eL 66 v l) (hbase : base ≤ w.heap.size) (hn : l.length ≤ 100000) (hb : Blk w vb 66 #[x.1.val, x.2.1.val, .int .i64 x.2.2.1, .string x.2.2.2.1, .string x.2.2.2.2]) :
    Calls Tryz.prog 48 #[v, .int .i64 (l.length : Int), .slice (some ⟨vb, 0, none⟩) 1 1] w (lPut w base v (linsP l l.length x)) := by
  have hx : Lst w (fun _ => True) eL (some ⟨vb, 0, none⟩) [x] := fun _ => ⟨vb, 0, rfl, trivial, hb.lt, fun j u hu => by rw [hb.cell, Nat.zero_add]; simpa [cellsE, eL] using hu⟩
  obtain ⟨v', W', hap, ho', hg', _⟩ := append_own tyL ho hx rfl 1 (by show l.length + 1 ≤ 1000000; omega) hbase
  have e : linsP l l.length x = l ++ [x] := by unfold linsP; rw [List.take_length, List.drop_length]
  rw [e]
  obtain ⟨A, c, rfl, _, hlc, hcm, hnil⟩ := own_lst ho
  have HO := Lib.hid ho'
  have HG := Lib.hid hg'
  clear ho ho' hg' hx hb e
  generalize l.length = n at *
  go_enter Tryz.func48, Tryz.ntmps48
  rcases A with _ | ⟨ab, ao, asp⟩
  · obtain rfl : c = 0 := hnil rfl
    obtain rfl : n = 0 := by omega
    go_wp2_with (at_builtin; refine wpList_append_run rfl (.tmp 23) (.tmp 24) 51 51 rfl _ _ rfl rfl hap ?_)
    go_ret
    exact ⟨_, rfl, HO.out, HG.out⟩
  · go_wp2_with (at_builtin; refine wpList_append_run rfl (.tmp 23) (.tmp 24) 51 51 rfl _ _ rfl rfl hap ?_)
    all_goals (go_ret; exact ⟨_, rfl, HO.out, HG.out⟩)
set_option maxHeartbeats 4000000 in
theorem linsert_shift {w : World} {base g vb c i : Nat} {l : List Re} {x : Re} (ho : Own w base eL 66 (.slice (some ⟨g, 0, none⟩) l.length c) l) (hn : l.length ≤ 100000) (hi : i < l.length) (hroom : l.length + 1 ≤ c) (hb : Blk w vb 66 #[x.1.val, x.2.1.val, .int .i64 x.2.2.1, .string x.2.2.2.1, .string x.2.2.2.2]) (hne : vb ≠ g) :
    Calls Tryz.prog 48 #[.slice (some ⟨g, 0, none⟩) l.length c, .int .i64 (i : Int), .slice (some ⟨vb, 0, none⟩) 1 1] w (lPut w base (.slice (some ⟨g, 0, none⟩) l.length c) (linsP l i x)) := by
  rcases ho.2 with ⟨e, _⟩ | ⟨g', cap, cur, hv2, hbg, hh, hnc, hcm2, hcs, htk⟩
  · cases e
  injection hv2 with e1 _ e3
  injection e1 with e1
  injection e1 with e1 _ _
  subst e1 e3
  have hcs2 : cur.size = c * 5 := hcs
  have hB : Blk w g 66 cur := hh
  have hBd : Blk w.drew g 66 cur := hh
  have hcl : ∀ (z : Nat) (u : Value), (cellsE eL l)[z]? = some u → cur[z]? = some u := cells_of_take htk
  have hdl : (cellsE eL (l.drop i)).length = (l.length - i) * 5 := by rw [cellsE_length, List.length_drop]; rfl
  have hov := fun lb cb => loverlaps_ w ((i + 1) * 5) lb cb hb hB hne (by omega)
  have hcp1 : ∀ ty dc sc, (Builtin.copy_ #[51, 51] ty #[.slice (some ⟨g, (i + 1) * 5, none⟩) (l.length + 1 - (i + 1)) dc, .slice (some ⟨g, i * 5, none⟩) (l.length + 1 - i) sc]).run Tryz.prog w.drew = .ok (goInt ((l.length - i : Nat) : Int)) (w.drew.setCells g ((i + 1) * 5) (cellsE eL (l.drop i))) := fun ty dc sc =>
    lcopy_claims w.drew ty g ((i + 1) * 5) (l.length + 1 - (i + 1)) dc ⟨g, i * 5, none⟩ (l.length + 1 - i) sc (l.length - i) _ (by show min _ _ = _; omega) hdl
      (fun j v hj => by rw [Addr.add_lit]; exact (hBd.cell _).trans (hcl _ _ (by rw [cellsE_drop, List.getElem?_drop] at hj; exact hj)))
      (fun j hj => by rw [hBd.cell, Array.getElem?_eq_getElem (by omega)]; rfl) (fun j _ => hBd.frozen _) (cellsE_one eL _)
  obtain ⟨cu1, hB1, hs1, hi1, ho1⟩ := blk_put (cellsE eL (l.drop i)) ((i + 1) * 5) hBd (by omega)
  obtain ⟨W1, hW1⟩ : ∃ W1, W1 = w.drew.setCells g ((i + 1) * 5) (cellsE eL (l.drop i)) := ⟨_, rfl⟩
  rw [← hW1] at hcp1 hB1
  have hvb1 : Blk W1 vb 66 #[x.1.val, x.2.1.val, .int .i64 x.2.2.1, .string x.2.2.2.1, .string x.2.2.2.2] := by rw [hW1]; exact Blk.fars (w := w.drew) hb hne _ _
  have hcp2 : ∀ ty dc, (Builtin.copy_ #[51, 51] ty #[.slice (some ⟨g, i * 5, none⟩) (l.length + 1 - i) dc, .slice (some ⟨vb, 0, none⟩) 1 1]).run Tryz.prog W1 = .ok (goInt 1) (W1.setCells g (i * 5) (eL.enc x)) := fun ty dc =>
    lcopy_claims W1 ty g (i * 5) (l.length + 1 - i) dc ⟨vb, 0, none⟩ 1 1 1 _ (by show min _ _ = _; omega) rfl
      (fun j v hj => by rw [Addr.add_lit, Nat.zero_add]; exact (hvb1.cell _).trans (by simpa [eL] using hj))
      (fun j hj => by have hj : j < 5 := hj; rw [hB1.cell, Array.getElem?_eq_getElem (by omega)]; rfl) (fun j _ => hB1.frozen _) (eL.one x)
  obtain ⟨cu2, hB2, hs2, hi2, ho2⟩ := blk_put (eL.enc x) (i * 5) hB1 (by rw [eL.len]; show i * 5 + 5 ≤ _; omega)
  have hlx : (eL.enc x).length = 5 := rfl
  have hfin : Own (W1.setCells g (i * 5) (eL.enc x)) base eL 66 (.slice (some ⟨g, 0, none⟩) (l.length + 1) c) (linsP l i x) := by
    refine lown_ins (by omega) hB2 hbg hroom hcm2 (by omega) (fun z u hz hu => ?_) hi2 (fun j u hu => ?_)
    · rw [ho2 z (.inl hz), ho1 z (.inl (by omega))]; exact hcl z u hu
    · rw [ho2 _ (.inr (by rw [hlx]; omega)), show i * 5 + 5 + j = (i + 1) * 5 + j by omega]; exact hi1 j u hu
  have hgf : w.grownBy (W1.setCells g (i * 5) (eL.enc x)) (some g) := by
    refine grown_cells _ _ ?_
    rw [hW1]
    exact grown_cells _ _ (show w.grownBy w.drew (some g) from ⟨rfl, rfl, rfl, Nat.le_refl _, fun _ _ _ => rfl⟩)
  have HFI := Lib.hid hfin
  have HGF := Lib.hid hgf
  have hz2 : ¬ ((i : Int) = (l.length : Int)) := by omega
  clear ho hb hcs hcs2 hB hBd hcl hdl hB1 hs1 hi1 ho1 hvb1 hB2 hs2 hi2 ho2 hfin hgf hh htk hlx hW1
  generalize hnn : l.length = n at *
  have hc63 : c ≤ 9223372036854775807 := by unfold maxLen at hcm2; omega
  have hw1 : IntKind.i64.wrap ((i : Int) + 1) = (i : Int) + 1 := by rw [IntKind.wrap_i64]; omega
  have hw2 : IntKind.i64.wrap ((n : Int) + 1) = (n : Int) + 1 := by rw [IntKind.wrap_i64]; omega
  have hb1 : (0 : Int) ≤ (i : Int) + 1 := by omega
  have hin : i ≤ n := by omega
  have htn : ((i : Int) + 1).toNat = i + 1 := by omega
  have htn2 : ((n : Int) + 1).toNat = n + 1 := by omega
  have hb2 : ¬ (c = i + 1) := by omega
  have hb3 : (i : Int) ≤ (n : Int) + 1 := by omega
  have hb4 : ¬ (c = i) := by omega
  generalize eL.enc x = vx at *
  generalize cellsE eL (l.drop i) = vd at *
  go_enter Tryz.func48, Tryz.ntmps48
  have mixed : Tryz.prog.follows .mixedOrders = true := by kernel_rfl
  go_wp2_with (simp only [hov])
  go_region_law_o (refine step_copy_at rfl (.tmp 73) (.tmp 76) 51 51 rfl (.slice (some ⟨g, (i + 1) * 5, none⟩) (n + 1 - (i + 1)) (c - (i + 1))) (.slice (some ⟨g, i * 5, none⟩) (n + 1 - i) (c - i)) (by simp [Act.eval, Act.put]) (by simp [Act.eval, Act.put]) (hcp1 3 (c - (i + 1)) (c - i)) ?_)
  all_goals
    go_wp2_with (at_builtin; refine wpList_copy_at rfl (.tmp 80) (.tmp 81) 51 51 rfl _ _ rfl rfl (hcp2 _ _) ?_)
    go_ret
    exact ⟨_, rfl, HFI.out, HGF.out⟩
set_option maxHeartbeats 4000000 in
theorem linsert_grow {w : World} {base g vb c i : Nat} {l : List Re} {x : Re} (ho : Own w base eL 66 (.slice (some ⟨g, 0, none⟩) l.length c) l) (hbase : base ≤ w.heap.size) (hn : l.length ≤ 100000) (hi : i < l.length) (hroom : c < l.length + 1) (hb : Blk w vb 66 #[x.1.val, x.2.1.val, .int .i64 x.2.2.1, .string x.2.2.2.1, .string x.2.2.2.2]) :
    Calls Tryz.prog 48 #[.slice (some ⟨g, 0, none⟩) l.length c, .int .i64 (i : Int), .slice (some ⟨vb, 0, none⟩) 1 1] w (lPut w base (.slice (some ⟨g, 0, none⟩) l.length c) (linsP l i x)) := by
  rcases ho.2 with ⟨e, _⟩ | ⟨g', cap, cur, hv2, hbg, hh, hnc, hcm2, hcs, htk⟩
  · cases e
  injection hv2 with e1 _ e3
  injection e1 with e1
  injection e1 with e1 _ _
  subst e1 e3
  have hcs2 : cur.size = c * 5 := hcs
  have hB : Blk w g 66 cur := hh
  have hcl : ∀ (z : Nat) (u : Value), (cellsE eL l)[z]? = some u → cur[z]? = some u := cells_of_take htk
  have hdl : (cellsE eL (l.drop i)).length = (l.length - i) * 5 := by rw [cellsE_length, List.length_drop]; rfl
  have htl : (cellsE eL (l.take i)).length = i * 5 := by rw [cellsE_length, List.length_take, Nat.min_eq_left (by omega)]; rfl
  obtain ⟨z, bb, hi0, hzc, hbb⟩ := tyL.info
  obtain ⟨i0, hi1, hz0, hz1, hz2⟩ := info_parts hi0
  have hz1' : i0.size = 5 := hz1
  have hzc' : z.cells.size = 5 := hzc
  have hik : i + (l.length + 1 - i) = l.length + 1 := by omega
  have hold : (Builtin.firstCells i0.size i (.slice (some ⟨g, 0, none⟩) i c)).run Tryz.prog w.drew = .ok (cellsE eL (l.take i)).toArray w.drew := by
    rw [hz1']
    exact run_firstCells_some w.drew 5 i ⟨g, 0, none⟩ i c (cellsE eL (l.take i)) htl (fun j v hj => by
      rw [add_none, Nat.zero_add]
      rw [cellsE_take, List.getElem?_take] at hj
      split at hj
      · exact (Blk.cell hB j).trans (hcl j v hj)
      · cases hj)
  have hrz := fun ty => Lib.run_append_grow_zeros w 51 3 ty 66 i0 z .i64 .i64 Tryz.underlying51 Tryz.underlying3 hi1 hz0 (some ⟨g, 0, none⟩) i c (cellsE eL (l.take i)) hold (l.length + 1 - i) (by omega) (by omega) (by omega) (by omega) (by rw [hz2]; exact Nat.le_trans (Nat.mul_le_mul (show l.length + 1 - i ≤ 200000 by omega) hbb) (by omega)) (by rw [hz2, hik]; exact growslice_fits hroom (Nat.le_trans (Nat.mul_le_mul (show l.length + 1 ≤ 200000 by omega) hbb) (by omega)))
  rw [hik] at hrz
  obtain ⟨G, hG⟩ : ∃ G, G = grownCap w (l.length + 1) c 66 := ⟨_, rfl⟩
  have hGn : l.length + 1 ≤ G := by rw [hG]; exact grownCap_ge w _ _ _
  have hGm : G ≤ maxLen := by rw [hG]; exact grownCap_le_maxLen w _ _ _ (by unfold maxLen; omega)
  obtain ⟨ROW, hROW⟩ : ∃ ROW : Array Value, ROW = (cellsE eL (l.take i)).toArray ++ Builtin.zeroCells z.cells (l.length + 1 - i) ++ Builtin.zeroCells z.cells (G - (l.length + 1)) := ⟨_, rfl⟩
  rw [← hG, ← hROW] at hrz
  have hRs : ROW.size = G * 5 := by
    rw [hROW]
    simp only [Array.size_append, List.size_toArray, size_zeroCells, hzc', htl]
    omega
  have hR1 : ∀ (z : Nat) (u : Value), z < i * 5 → (cellsE eL l)[z]? = some u → ROW[z]? = some u := fun z u hz hu => by
    rw [hROW, Array.append_assoc, Array.getElem?_append_left (by simp [htl]; omega)]
    simp only [List.getElem?_toArray]
    rw [cellsE_take, List.getElem?_take_of_lt (by show z < i * 5; exact hz)]
    exact hu
  obtain ⟨N, hN⟩ : ∃ N, N = w.heap.size := ⟨_, rfl⟩
  obtain ⟨W1, hW1⟩ : ∃ W1, W1 = w.drew.alloc (.cells ROW 66) := ⟨_, rfl⟩
  rw [← hW1, ← hN] at hrz
  have hB1 : Blk W1 N 66 ROW := by rw [hW1, hN]; exact Blk.new w.drew _ _
  have hvb1 : Blk W1 vb 66 #[x.1.val, x.2.1.val, .int .i64 x.2.2.1, .string x.2.2.2.1, .string x.2.2.2.2] := by rw [hW1]; exact Blk.alloc (w := w.drew) hb _
  have hg1 : Blk W1 g 66 cur := by rw [hW1]; exact Blk.alloc (w := w.drew) hB _
  have hNg : g ≠ N := by rw [hN]; exact Nat.ne_of_lt hB.lt
  have hlx : (eL.enc x).length = 5 := rfl
  have hcp1 : ∀ ty dc, (Builtin.copy_ #[51, 51] ty #[.slice (some ⟨N, i * 5, none⟩) (l.length + 1 - i) dc, .slice (some ⟨vb, 0, none⟩) 1 1]).run Tryz.prog W1 = .ok (goInt 1) (W1.setCells N (i * 5) (eL.enc x)) := fun ty dc =>
    lcopy_claims W1 ty N (i * 5) (l.length + 1 - i) dc ⟨vb, 0, none⟩ 1 1 1 _ (by show min _ _ = _; omega) rfl
      (fun j v hj => by rw [Addr.add_lit, Nat.zero_add]; exact (hvb1.cell _).trans (by simpa [eL] using hj))
      (fun j hj => by have hj : j < 5 := hj; rw [hB1.cell, Array.getElem?_eq_getElem (by omega)]; rfl) (fun j _ => hB1.frozen _) (eL.one x)
  obtain ⟨cu1, hB2, hs1, hi1', ho1⟩ := blk_put (eL.enc x) (i * 5) hB1 (by rw [hlx]; omega)
  obtain ⟨W2, hW2⟩ : ∃ W2, W2 = W1.setCells N (i * 5) (eL.enc x) := ⟨_, rfl⟩
  have hg2 : Blk W2 g 66 cur := by rw [hW2]; exact Blk.fars hg1 hNg _ _
  rw [← hW2] at hcp1 hB2
  have hB2d : Blk W2.drew N 66 cu1 := hB2
  have hg2d : Blk W2.drew g 66 cur := hg2
  have hcp2 : ∀ ty dc sc, (Builtin.copy_ #[51, 51] ty #[.slice (some ⟨N, (i + 1) * 5, none⟩) (l.length + 1 - (i + 1)) dc, .slice (some ⟨g, i * 5, none⟩) (l.length - i) sc]).run Tryz.prog W2.drew = .ok (goInt ((l.length - i : Nat) : Int)) (W2.drew.setCells N ((i + 1) * 5) (cellsE eL (l.drop i))) := fun ty dc sc =>
    lcopy_claims W2.drew ty N ((i + 1) * 5) (l.length + 1 - (i + 1)) dc ⟨g, i * 5, none⟩ (l.length - i) sc (l.length - i) _ (by show min _ _ = _; omega) hdl
      (fun j v hj => by rw [Addr.add_lit]; exact (hg2d.cell _).trans (hcl _ _ (by rw [cellsE_drop, List.getElem?_drop] at hj; exact hj)))
      (fun j hj => by rw [hB2d.cell, Array.getElem?_eq_getElem (by omega)]; rfl) (fun j _ => hB2d.frozen _) (cellsE_one eL _)
  obtain ⟨cu2, hB3, hs2, hi2, ho2⟩ := blk_put (cellsE eL (l.drop i)) ((i + 1) * 5) hB2d (by omega)
  have hfin : Own (W2.drew.setCells N ((i + 1) * 5) (cellsE eL (l.drop i))) base eL 66 (.slice (some ⟨N, 0, none⟩) (l.length + 1) G) (linsP l i x) := by
    refine lown_ins (by omega) hB3 (by omega) hGn hGm (by omega) (fun z u hz hu => ?_) (fun j u hu => ?_) (fun j u hu => ?_)
    · rw [ho2 z (.inl (by omega)), ho1 z (.inl hz)]; exact hR1 z u hz hu
    · have hj := (List.getElem?_eq_some_iff.1 hu).1
      rw [hlx] at hj
      rw [ho2 _ (.inl (by omega))]; exact hi1' j u hu
    · rw [show i * 5 + 5 + j = (i + 1) * 5 + j by omega]; exact hi2 j u hu
  have hfar : ∀ (vs : List Value) (o : Nat) (W : World) (k : Nat), k < w.heap.size → (W.setCells N o vs).heap[k]? = W.heap[k]? := fun vs o W k hk => heap_setCells_far N vs o W k (by omega)
  have hgf : w.grownBy (W2.drew.setCells N ((i + 1) * 5) (cellsE eL (l.drop i))) (some g) := by
    obtain ⟨a1, a2, a3, a4⟩ := setCells_plain N (cellsE eL (l.drop i)) ((i + 1) * 5) W2.drew
    obtain ⟨b1, b2, b3, b4⟩ := setCells_plain N (eL.enc x) (i * 5) W1
    rw [← hW2] at b1 b2 b3 b4
    refine ⟨a1.trans (b1.trans (by rw [hW1]; rfl)), a2.trans (b2.trans (by rw [hW1]; rfl)), a3.trans (b3.trans (by rw [hW1]; rfl)), ?_, fun k hk _ => ?_⟩
    · rw [a4]
      show w.heap.size ≤ W2.heap.size
      rw [b4, hW1]
      simp
    · rw [hfar _ _ _ _ hk]
      show W2.heap[k]? = _
      rw [hW2, hfar _ _ _ _ hk, hW1]
      exact Below.heap_alloc w.drew _ k hk
  have HFI := Lib.hid hfin
  have HGF := Lib.hid hgf
  have hz3 : ¬ ((i : Int) = (l.length : Int)) := by omega
  have hkk : ((l.length + 1 - i : Nat) : Int) = (l.length : Int) + 1 - (i : Int) := by omega
  rw [hkk] at hrz
  clear ho hb hcs hcs2 hB hcl hdl htl hold hi0 hi1 hz0 hz1 hz2 hz1' hzc hzc' hbb hG hROW hRs hR1 hB1 hvb1 hg1 hlx hB2 hs1 hi1' ho1 hg2 hB2d hg2d hB3 hs2 hi2 ho2 hfin hfar hgf hh htk hW1 hW2 hkk hik hN
  generalize hnn : l.length = n at *
  have hc63 : c ≤ 9223372036854775807 := by unfold maxLen at hcm2; omega
  have hG63 : G ≤ 9223372036854775807 := by unfold maxLen at hGm; omega
  have hw1 : IntKind.i64.wrap ((i : Int) + 1) = (i : Int) + 1 := by rw [IntKind.wrap_i64]; omega
  have hw2 : IntKind.i64.wrap ((n : Int) + 1) = (n : Int) + 1 := by rw [IntKind.wrap_i64]; omega
  have hb1 : (0 : Int) ≤ (i : Int) + 1 := by omega
  have hin : i ≤ n := by omega
  have htn : ((i : Int) + 1).toNat = i + 1 := by omega
  have hz4 : (c : Int) < (n : Int) + 1 := by omega
  have hGi : ¬ (G = i) := by omega
  have hGim : ¬ (G = i + 1) := by omega
  have hci : ¬ (c = i) := by omega
  have hb3 : (i : Int) ≤ (n : Int) := by omega
  have mixed : Tryz.prog.follows .mixedOrders = true := by kernel_rfl
  generalize eL.enc x = vx at *
  generalize cellsE eL (l.drop i) = vd at *
  generalize cellsE eL (l.take i) = vt at *
  go_enter Tryz.func48, Tryz.ntmps48
  go_wp2_with (first
    | (at_builtin; refine Lib.wpList_append_run _ rfl (.tmp 34) (.tmp 39) 51 3 rfl _ _ rfl rfl _ _ (hrz _) ?_)
    | (at_builtin; refine wpList_copy_at rfl (.tmp 43) (.tmp 44) 51 51 rfl _ _ rfl rfl (hcp1 _ _) ?_))
  go_region_law_o (refine step_copy_at rfl (.tmp 50) (.tmp 53) 51 51 rfl (.slice (some ⟨N, (i + 1) * 5, none⟩) (n + 1 - (i + 1)) (G - (i + 1))) (.slice (some ⟨g, i * 5, none⟩) (n - i) (c - i)) (by simp [Act.eval, Act.put]) (by simp [Act.eval, Act.put]) (hcp2 3 (G - (i + 1)) (c - i)) ?_)
  all_goals
    go_wp2_with fail
    go_ret
    exact ⟨_, rfl, HFI.out, HGF.out⟩
/-- a claim put into a list, at any place -/
theorem linsert_ {w : World} {base vb : Nat} {v : Value} {l : List Re} {x : Re} {i : Nat} (ho : Own w base eL 66 v l) (hbase : base ≤ w.heap.size) (hn : l.length ≤ 100000) (hi : i ≤ l.length) (hb : Blk w vb 66 #[x.1.val, x.2.1.val, .int .i64 x.2.2.1, .string x.2.2.2.1, .string x.2.2.2.2]) (hne : v.ownBlock ≠ some vb) :
    Calls Tryz.prog 48 #[v, .int .i64 (i : Int), .slice (some ⟨vb, 0, none⟩) 1 1] w (lPut w base v (linsP l i x)) := by
  rcases Nat.lt_or_ge i l.length with h | h
  · obtain ⟨A, c, hv, _, _, _, _⟩ := own_lst ho
    have ho2 := ho
    rcases ho.2 with ⟨_, h0⟩ | ⟨g, cap, cur, hv2, _⟩
    · omega
    · subst hv2
      have hvg : vb ≠ g := fun e => hne (by rw [e]; rfl)
      rcases Nat.lt_or_ge cap (l.length + 1) with hr | hr
      · exact linsert_grow ho2 hbase hn h hr hb
      · exact linsert_shift ho2 hn h hr hb hvg
  · obtain rfl : i = l.length := by omega
    exact linsert_end ho hbase hn hb
end Go.Proofs.YtnjhhndggfjjdaaGreatDoor
