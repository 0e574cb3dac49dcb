/- . . . . . . . . . . -/
import Derived.Test.YtjfoflbaoceemaaGreatProg
import Derived.Test.YtjfoflbaoceemaaGreatJ01
import Derived.Test.YtjfoflbaoceemaaGreatJ06
import Derived.WalkKit
import Derived.ProofKit
import Derived.Lib.Hide
import Derived.WalkSpells
import Derived.Maps.AppendAt
import Derived.Deep.RegionLaw
import Derived.StillTailTactics
import Derived.Deep.LoopGhost
import GoSem.Op.String
import Derived.LoopTactic
import Derived.Deep.Slices
import Derived.ChangeArms
import Derived.Laws.Cover1
import Init
set_option maxRecDepth 4000
namespace Go.Proofs.YtjfoflbaoceemaaGreat
open Go.RowKit
structure Enc (α : Type) where
  enc : α → List Value
  k : Nat
  pos : 0 < k
  len : ∀ x, (enc x).length = k
  one : ∀ x, ∀ v ∈ enc x, v.oneCell' = true
section
variable {α : Type}
def cellsE (E : Enc α) : List α → List Value
  | [] => []
  | x :: l => E.enc x ++ cellsE E l
theorem cellsE_length (E : Enc α) (l : List α) : (cellsE E l).length = l.length * E.k := by
  induction l with
  | nil => simp [cellsE]
  | cons x r ih => rw [cellsE, List.length_append, E.len, ih, List.length_cons, Nat.add_mul]; omega
theorem cellsE_append (E : Enc α) (l m : List α) : cellsE E (l ++ m) = cellsE E l ++ cellsE E m := by
  induction l with
  | nil => rfl
  | cons x r ih => simp [cellsE, ih]
theorem cellsE_one (E : Enc α) (l : List α) : ∀ v ∈ cellsE E l, v.oneCell' = true := by
  induction l with
  | nil => intro v hv; cases hv
  | cons x r ih =>
    intro v hv
    rcases List.mem_append.1 hv with hv | hv
    · exact E.one x v hv
    · exact ih v hv
theorem cellsE_at (E : Enc α) {l : List α} {j : Nat} (h : j < l.length) {i : Nat} {v : Value} (hi : (E.enc l[j])[i]? = some v) : (cellsE E l)[j * E.k + i]? = some v := by
  have hik : i < E.k := by rw [← E.len l[j]]; exact (List.getElem?_eq_some_iff.1 hi).1
  induction l generalizing j with
  | nil => simp at h
  | cons x r ih =>
    cases j with
    | zero => rw [Nat.zero_mul, Nat.zero_add, cellsE, List.getElem?_append_left (by rw [E.len]; exact hik)]; exact hi
    | succ j =>
      rw [cellsE, List.getElem?_append_right (by rw [E.len, Nat.add_mul]; omega), E.len, Nat.add_mul, Nat.one_mul, show j * E.k + E.k + i - E.k = j * E.k + i by omega]
      exact ih (by simpa using h) (by simpa using hi)
theorem cellsE_take (E : Enc α) (l : List α) (k : Nat) : cellsE E (l.take k) = (cellsE E l).take (k * E.k) := by
  induction l generalizing k with
  | nil => simp [cellsE]
  | cons x r ih =>
    cases k with
    | zero => simp [cellsE]
    | succ k =>
      rw [List.take_succ_cons, cellsE, cellsE, ih, List.take_append, E.len, List.take_of_length_le (l := E.enc x) (by rw [E.len, Nat.add_mul]; omega), Nat.add_mul, Nat.one_mul, Nat.add_sub_cancel]
theorem cellsE_drop (E : Enc α) (l : List α) (k : Nat) : cellsE E (l.drop k) = (cellsE E l).drop (k * E.k) := by
  induction l generalizing k with
  | nil => simp [cellsE]
  | cons x r ih =>
    cases k with
    | zero => simp
    | succ k =>
      rw [List.drop_succ_cons, cellsE, ih, List.drop_append, E.len, List.drop_of_length_le (l := E.enc x) (by rw [E.len, Nat.add_mul]; omega), Nat.add_mul, Nat.one_mul, Nat.add_sub_cancel, List.nil_append]

def Lst (w : World) (K : Nat → Prop) (E : Enc α) (A : Option Addr) (l : List α) : Prop :=
  0 < l.length → ∃ b o, A = some ⟨b, o, none⟩ ∧ K b ∧ b < w.heap.size ∧ ∀ j u, (cellsE E l)[j]? = some u → w.cell? ⟨b, o + j, none⟩ = some u
variable {w w' : World} {K K' : Nat → Prop} {E : Enc α} {A : Option Addr} {l : List α}
theorem Lst.nil (w : World) (K : Nat → Prop) (E : Enc α) (A : Option Addr) : Lst w K E A ([] : List α) := fun h => absurd h (by simp)
theorem Lst.keep (h : Lst w K E A l) {Q : Nat → Obj → Prop} (k : Keep Q w w') (hq : ∀ i o, w.heap[i]? = some o → K i → Q i o) : Lst w' K E A l := fun h0 => by
  obtain ⟨b, o, e, hk, hb, hc⟩ := h h0
  have hbl : w'.heap[b]? = w.heap[b]? := by
    rw [Array.getElem?_eq_getElem hb]
    exact k.block b _ (Array.getElem?_eq_getElem hb) (hq b _ (Array.getElem?_eq_getElem hb) hk)
  exact ⟨b, o, e, hk, Nat.lt_of_lt_of_le hb k.size, fun j x hx => (cell_of_heap hbl _).trans (hc j x hx)⟩
theorem Lst.below (h : Lst w K E A l) (k : Below w.heap.size w w') : Lst w' K E A l := fun h0 => by
  obtain ⟨b, o, e, hk, hb, hc⟩ := h h0
  exact ⟨b, o, e, hk, Nat.lt_of_lt_of_le hb k.size, fun j x hx => (cell_of_heap (k.block b hb) _).trans (hc j x hx)⟩
theorem Lst.more (h : Lst w K E A l) (hk : ∀ i, i < w.heap.size → K i → K' i) : Lst w K' E A l := fun h0 => by
  obtain ⟨b, o, e, hb, hl, hc⟩ := h h0
  exact ⟨b, o, e, hk b hl hb, hl, hc⟩
theorem Lst.take (h : Lst w K E A l) (k : Nat) : Lst w K E A (l.take k) := fun h0 => by
  obtain ⟨b, o, e, hk, hb, hc⟩ := h (by rw [List.length_take] at h0; omega)
  refine ⟨b, o, e, hk, hb, fun j x hx => hc j x ?_⟩
  rw [cellsE_take, List.getElem?_take] at hx
  split at hx
  · exact hx
  · cases hx
theorem Lst.drop (h : Lst w K E A l) {k c : Nat} (hc : l.length ≤ c) : Lst w K E (if c = k then A else A.map (·.add (k * E.k))) (l.drop k) := fun h0 => by
  rw [List.length_drop] at h0
  obtain ⟨b, o, e, hk, hb, hcell⟩ := h (by omega)
  rw [if_neg (by omega), e]
  refine ⟨b, o + k * E.k, ?_, hk, hb, fun j x hx => ?_⟩
  · rw [Option.map_some, add_none]
  · rw [Nat.add_assoc]
    exact hcell _ x (by rw [← hx, cellsE_drop, List.getElem?_drop])
theorem Lst.at_ (h : Lst w K E A l) {j : Nat} (hj : j < l.length) :
    ∃ b o, A = some ⟨b, o, none⟩ ∧ b < w.heap.size ∧ ∀ i v, (E.enc l[j])[i]? = some v → w.cell? ⟨b, o + j * E.k + i, none⟩ = some v := by
  obtain ⟨b, o, e, _, hl, hc⟩ := h (by omega)
  exact ⟨b, o, e, hl, fun i v hi => by rw [Nat.add_assoc]; exact hc _ _ (cellsE_at E hj hi)⟩
theorem Lst.none_ (h : Lst w K E none l) : l = [] := by
  rcases Nat.eq_zero_or_pos l.length with h0 | h0
  · exact List.eq_nil_of_length_eq_zero h0
  · obtain ⟨_, _, h, _⟩ := h h0
    cases h
end
structure RowTy {α : Type} (E : Enc α) (T S : TypeId) : Prop where
  und : Tryz.prog.underlying S = some (.slice T)
  info : ∃ z b, (Tryz.prog.info? T).map (fun i => (i.zero, i.size, i.bytes)) = some (some z, E.k, b) ∧ z.cells.size = E.k ∧ b ≤ 4096
def Own {α : Type} (w : World) (base : Nat) (E : Enc α) (T : TypeId) (v : Value) (l : List α) : Prop := w.ownsRow base T E.k v l.length (cellsE E l)
section
variable {α : Type} {E : Enc α} {T S : TypeId}
theorem append_own (t : RowTy E T S) {W : World} {base : Nat} {v : Value} {ys : List α} (hown : Own W base E T v ys) {K : Nat → Prop} {A : Option Addr} {m : Nat} {xs : List α} (hr : Lst W K E A xs) (hm : xs.length = m) (c : Nat)
    (hb : ys.length + m ≤ 1000000) (hbase : base ≤ W.heap.size) : ∃ v' W', (Builtin.append_ #[S, S] S #[v, .slice A m c]).run Tryz.prog W = .ok v' W' ∧ Own W' base E T v' (ys ++ xs) ∧ W.grownBy W' v.ownBlock ∧
      (v'.ownBlock = v.ownBlock ∨ v'.ownBlock = some W.heap.size) := by
  obtain ⟨z, bb, hi0, hzc, hbb⟩ := t.info
  obtain ⟨i0, hi, hz0, hz1, hz2⟩ := info_parts hi0
  subst hm
  rcases A with _ | a
  · have hx : xs = [] := hr.none_
    subst hx
    refine ⟨v, W, ?_, by simpa using hown, World.grownBy.refl W _, .inl rfl⟩
    rcases hown.2 with ⟨rfl, h0⟩ | ⟨g, cap, cur, rfl, _, _, hnc, _⟩
    · simp [Builtin.append_, run_underlying t.und, sizeOf, typeInfo, hi, Builtin.lenOf, Builtin.firstCells]
    · simp [Builtin.append_, run_underlying t.und, sizeOf, typeInfo, hi, Builtin.lenOf, Builtin.firstCells, hnc, storeCells]
  · have hcells : ∀ j u, (cellsE E xs)[j]? = some u → W.cell? (a.add j) = some u := by
      intro j u hu
      have hj := (List.getElem?_eq_some_iff.1 hu).1
      rw [cellsE_length] at hj
      have hx : 0 < xs.length := by
        rcases Nat.eq_zero_or_pos xs.length with h0 | h0
        · rw [h0] at hj; omega
        · exact h0
      obtain ⟨b, o, h, _, _, hcell⟩ := hr hx
      injection h with h
      subst h
      rw [add_none]
      exact hcell j u hu
    have hbytes : (ys.length + xs.length) * bb ≤ 140737488355328 := Nat.le_trans (Nat.mul_le_mul hb hbb) (by omega)
    obtain ⟨v', w', hrun, h2, h3, _, h5⟩ := run_append_own_at (P := Tryz.prog) W base S S T i0 z E.k bb t.und hi hz0 hz1 hz2 hzc E.pos v ys.length (cellsE E ys) hown a xs.length c (cellsE E xs) (cellsE_length E xs) hcells (cellsE_one E _) (by unfold maxLen; omega) hbytes hbase
    exact ⟨v', w', hrun, by unfold Own; rw [cellsE_append, List.length_append]; exact h2, h3, h5⟩
theorem own_lst {W : World} {base : Nat} {v : Value} {ys : List α} (hown : Own W base E T v ys) : ∃ A c, v = .slice A ys.length c ∧ Lst W (fun i => base ≤ i ∧ v.ownBlock = some i) E A ys ∧ ys.length ≤ c ∧ c ≤ maxLen ∧ (A = none → c = 0) := by
  rcases hown.2 with ⟨rfl, h0⟩ | ⟨g, cap, cur, rfl, hb, hh, hnc, hcm, hcs, htk⟩
  · exact ⟨none, 0, by rw [h0], fun h => absurd h (by omega), by omega, by unfold maxLen; omega, fun _ => rfl⟩
  · refine ⟨_, cap, rfl, fun _ => ⟨g, 0, rfl, ⟨hb, rfl⟩, lt_of_some hh, fun j x hx => ?_⟩, hnc, hcm, fun h => by cases h⟩
    rw [show W.cell? ⟨g, 0 + j, none⟩ = cur[0 + j]? from cell_of_row W g _ cur T (0, 0) hh, Nat.zero_add]
    have hj := (List.getElem?_eq_some_iff.1 hx).1
    rw [cellsE_length] at hj
    rw [← htk, List.getElem?_take_of_lt (by omega)] at hx
    simpa using hx
theorem own_nil (W : World) (base : Nat) : Own W base E T (.slice none 0 0) ([] : List α) := World.ownsRow_nil W base T E.k
theorem own_empty (W : World) (base : Nat) (hb : base ≤ W.heap.size) : Own (W.alloc (.cells #[] T)) base E T (.slice (some ⟨W.heap.size, 0, none⟩) 0 0) ([] : List α) :=
  ⟨by simp [cellsE], .inr ⟨W.heap.size, 0, #[], rfl, hb, Blk.new W T #[], Nat.le_refl _, by unfold maxLen; omega, by simp, by simp [cellsE]⟩⟩
theorem own_keep {W W' : World} {base : Nat} {v : Value} {ys : List α} (h : Own W base E T v ys) (hk : ∀ g, v.ownBlock = some g → W'.heap[g]? = W.heap[g]?) : Own W' base E T v ys := by
  refine ⟨h.1, ?_⟩
  rcases h.2 with h0 | ⟨g, cap, cur, rfl, hb, hh, hr⟩
  · exact .inl h0
  · exact .inr ⟨g, cap, cur, rfl, hb, (hk g rfl).trans hh, hr⟩
theorem own_base {W : World} {base base' : Nat} {v : Value} {ys : List α} (h : Own W base E T v ys) (hb : base' ≤ base) : Own W base' E T v ys := by
  refine ⟨h.1, ?_⟩
  rcases h.2 with h0 | ⟨g, cap, cur, rfl, hb', hr⟩
  · exact .inl h0
  · exact .inr ⟨g, cap, cur, rfl, Nat.le_trans hb hb', hr⟩
theorem own_blk {W : World} {base g : Nat} {v : Value} {ys : List α} (h : Own W base E T v ys) (hg : v.ownBlock = some g) : base ≤ g ∧ g < W.heap.size ∧ ∃ cur, W.heap[g]? = some (.cells cur T (0, 0)) := by
  rcases h.2 with ⟨rfl, _⟩ | ⟨g', cap, cur, rfl, hb, hh, hr⟩
  · cases hg
  · simp only [Value.ownBlock, Option.some.injEq] at hg
    subst hg
    exact ⟨hb, lt_of_some hh, _, hh⟩
end
theorem own_belowE {α : Type} {E : Enc α} {T : TypeId} {w w' : World} {base : Nat} {v : Value} {l : List α} (h : Own w base E T v l) (k : Below w.heap.size w w') : Own w' base E T v l :=
  own_keep h fun g hg => k.block g (own_blk h hg).2.1
end Go.Proofs.YtjfoflbaoceemaaGreat
namespace Go.Proofs.YtjfoflbaoceemaaGreat
open Go

def cmpI (a b : Int) : Int := if a < b then -1 else if b < a then 1 else 0
def cmpL : List UInt8 → List UInt8 → Int
  | [], [] => 0
  | [], _ :: _ => -1
  | _ :: _, [] => 1
  | a :: x, b :: y => if a < b then -1 else if b < a then 1 else cmpL x y
def cmpS (a b : ByteArray) : Int := cmpL a.toList b.toList
def cmpM (p i q j : Int) : Int := if cmpI p q = 0 then cmpI i j else cmpI p q

theorem u8_lt_iff (a b : UInt8) : a < b ↔ a.toNat < b.toNat := UInt8.lt_iff_toNat_lt
theorem u8_eq_iff (a b : UInt8) : a = b ↔ a.toNat = b.toNat := ⟨fun h => by rw [h], fun h => UInt8.toNat_inj.1 h⟩

theorem cmpL_range (x y : List UInt8) : cmpL x y = -1 ∨ cmpL x y = 0 ∨ cmpL x y = 1 := by
  induction x generalizing y with
  | nil => cases y <;> simp [cmpL]
  | cons a x ih =>
    cases y with
    | nil => simp [cmpL]
    | cons b y =>
      have := ih y
      simp only [cmpL]
      split
      · simp
      · split <;> simp_all

theorem cmpL_less (x y : List UInt8) : Op.bytesLess x y = decide (cmpL x y = -1) := by
  induction x generalizing y with
  | nil => cases y <;> simp [cmpL, Op.bytesLess]
  | cons a x ih =>
    cases y with
    | nil => simp [cmpL, Op.bytesLess]
    | cons b y =>
      have := ih y
      simp only [cmpL, Op.bytesLess, this]
      by_cases h : a < b
      · simp [h]
      · by_cases h2 : b < a
        · have : a ≠ b := by intro e; subst e; exact h h2
          simp [h, h2, this]
        · have : a = b := by rw [u8_lt_iff] at h h2; rw [u8_eq_iff]; omega
          simp [this]

theorem cmpL_eq (x y : List UInt8) : cmpL x y = 0 ↔ x = y := by
  induction x generalizing y with
  | nil => cases y <;> simp [cmpL]
  | cons a x ih =>
    cases y with
    | nil => simp [cmpL]
    | cons b y =>
      have := ih y
      simp only [cmpL]
      by_cases h : a < b
      · have : a ≠ b := by intro e; subst e; rw [u8_lt_iff] at h; omega
        simp [h, this]
      · by_cases h2 : b < a
        · have : a ≠ b := by intro e; subst e; exact h h2
          simp [h, h2, this]
        · have : a = b := by rw [u8_lt_iff] at h h2; rw [u8_eq_iff]; omega
          simp [this, ih y]

theorem cmpL_turn (x y : List UInt8) : cmpL y x = - cmpL x y := by
  induction x generalizing y with
  | nil => cases y <;> simp [cmpL]
  | cons a x ih =>
    cases y with
    | nil => simp [cmpL]
    | cons b y =>
      have := ih y
      simp only [cmpL, this]
      by_cases h : a < b
      · have : ¬ b < a := by rw [u8_lt_iff] at *; omega
        simp [h, this]
      · by_cases h2 : b < a <;> simp [h, h2]

theorem cmpL_le_trans (x y z : List UInt8) (h1 : cmpL x y ≤ 0) (h2 : cmpL y z ≤ 0) : cmpL x z ≤ 0 := by
  induction x generalizing y z with
  | nil => cases z <;> simp [cmpL]
  | cons a x ih =>
    cases y with
    | nil => simp [cmpL] at h1
    | cons b y =>
      cases z with
      | nil => simp [cmpL] at h2
      | cons c z =>
        simp only [cmpL] at *
        have e1 : ¬ b < a := by intro h; have : ¬ a < b := by rw [u8_lt_iff] at *; omega
                                simp [h, this] at h1
        have e2 : ¬ c < b := by intro h; have : ¬ b < c := by rw [u8_lt_iff] at *; omega
                                simp [h, this] at h2
        by_cases h : a < c
        · simp [h]
        · have hc : ¬ c < a := by rw [u8_lt_iff] at *; omega
          have h3 : ¬ a < b := by rw [u8_lt_iff] at *; omega
          have h4 : ¬ b < c := by rw [u8_lt_iff] at *; omega
          simp only [e1, h3, if_false] at h1
          simp only [e2, h4, if_false] at h2
          simp only [h, hc, if_false]
          exact ih y z h1 h2

theorem cmpS_turn (a b : ByteArray) : cmpS b a = - cmpS a b := cmpL_turn _ _
theorem cmpS_eq (a b : ByteArray) : cmpS a b = 0 ↔ a.toList = b.toList := cmpL_eq _ _
theorem cmpS_trans (a b c : ByteArray) (h1 : cmpS a b ≤ 0) (h2 : cmpS b c ≤ 0) : cmpS a c ≤ 0 := cmpL_le_trans _ _ _ h1 h2
end Go.Proofs.YtjfoflbaoceemaaGreat
namespace Go.Proofs.YtjfoflbaoceemaaGreat
open Go

abbrev Rw := ByteArray × ByteArray
def findR : List Rw → ByteArray → Nat
  | [], _ => 0
  | x :: r, k => if 0 ≤ cmpS x.1 k then 0 else findR r k + 1
def foundR : List Rw → ByteArray → Bool
  | [], _ => false
  | x :: r, k => if 0 ≤ cmpS x.1 k then decide (cmpS x.1 k = 0) else foundR r k
def behR (l : List Rw) (k : ByteArray) : Nat := if foundR l k then findR l k + 1 else findR l k
def putR (l : List Rw) (r : Rw) : List Rw := l.take (findR l r.1) ++ r :: l.drop (behR l r.1)
def cutRw (l : List Rw) (k : ByteArray) : List Rw := if foundR l k then l.take (findR l k) ++ l.drop (findR l k + 1) else l
def risesR : List Rw → Bool
  | [] => true
  | [_] => true
  | x :: y :: r => decide (cmpS x.1 y.1 < 0) && risesR (y :: r)

theorem findR_le (l : List Rw) (k : ByteArray) : findR l k ≤ l.length := by
  induction l with
  | nil => simp [findR]
  | cons x r ih => rw [findR]; split <;> simp; omega
theorem foundR_lt {l : List Rw} {k : ByteArray} (h : foundR l k = true) : findR l k < l.length := by
  induction l with
  | nil => simp [foundR] at h
  | cons x r ih =>
    rw [foundR] at h
    rw [findR]
    split
    · simp
    · rename_i hn
      rw [if_neg hn] at h
      have := ih h
      simp; omega
theorem behR_le (l : List Rw) (k : ByteArray) : behR l k ≤ l.length := by
  unfold behR
  split
  · rename_i h; exact foundR_lt h
  · exact findR_le l k
theorem find_at {l : List Rw} {k : ByteArray} {j : Nat} (h : j < l.length) (hn : 0 ≤ cmpS l[j].1 k) : findR (l.drop j) k = 0 ∧ foundR (l.drop j) k = decide (cmpS l[j].1 k = 0) := by
  rw [List.drop_eq_getElem_cons h, findR, foundR, if_pos hn, if_pos hn]
  exact ⟨rfl, rfl⟩
theorem find_on {l : List Rw} {k : ByteArray} {j : Nat} (h : j < l.length) (hn : ¬ 0 ≤ cmpS l[j].1 k) : findR (l.drop j) k = findR (l.drop (j + 1)) k + 1 ∧ foundR (l.drop j) k = foundR (l.drop (j + 1)) k := by
  rw [List.drop_eq_getElem_cons h, findR, foundR, if_neg hn, if_neg hn]
  exact ⟨rfl, rfl⟩
theorem rises_at {l : List Rw} {j : Nat} (h : j + 1 < l.length) (hj : risesR l = risesR (l.drop j)) :
    (cmpS l[j].1 l[j + 1].1 < 0 → risesR l = risesR (l.drop (j + 1))) ∧ (¬ cmpS l[j].1 l[j + 1].1 < 0 → risesR l = false) := by
  rw [hj, List.drop_eq_getElem_cons (show j < l.length by omega), List.drop_eq_getElem_cons h, risesR]
  constructor
  · intro hc; rw [decide_eq_true hc]; rfl
  · intro hc; rw [decide_eq_false hc]; rfl
theorem rises_end {l : List Rw} {j : Nat} (h : ¬ j + 1 < l.length) (hj : risesR l = risesR (l.drop j)) : risesR l = true := by
  rw [hj]
  match hd : l.drop j, show (l.drop j).length ≤ 1 by rw [List.length_drop]; omega with
  | [], _ => rfl
  | [_], _ => rfl

theorem put_len (l : List Rw) (r : Rw) : (putR l r).length = if foundR l r.1 then l.length else l.length + 1 := by
  have h1 := findR_le l r.1
  have h2 := behR_le l r.1
  unfold putR
  rw [List.length_append, List.length_cons, List.length_take, List.length_drop]
  unfold behR at *
  by_cases h : foundR l r.1
  · have := foundR_lt h
    rw [if_pos h] at *
    rw [if_pos h] at *
    omega
  · rw [if_neg h] at *
    rw [if_neg h] at *
    omega
theorem cut_len (l : List Rw) (k : ByteArray) : (cutRw l k).length = if foundR l k then l.length - 1 else l.length := by
  unfold cutRw
  by_cases h : foundR l k
  · have := foundR_lt h
    rw [if_pos h, if_pos h, List.length_append, List.length_take, List.length_drop]
    omega
  · rw [if_neg h, if_neg h]
theorem cut_at {l : List Rw} {k : ByteArray} (h : foundR l k = true) : cutRw l k = l.take (findR l k) ++ l.drop (findR l k + 1) := by rw [cutRw, if_pos h]
theorem put_beh (l : List Rw) (r : Rw) : putR l r = l.take (findR l r.1) ++ [r] ++ l.drop (behR l r.1) := by rw [putR, List.append_assoc]; rfl
end Go.Proofs.YtjfoflbaoceemaaGreat
namespace Go.Proofs.YtjfoflbaoceemaaGreat
open Go.RowKit
def eR : Enc Rw := ⟨fun r => [.string r.1, .string r.2], 2, by omega, fun _ => rfl, fun _ v hv => by simp at hv; rcases hv with rfl | rfl <;> rfl⟩
theorem Lst.atR {w : World} {K : Nat → Prop} {A : Option Addr} {l : List Rw} (h : Lst w K eR A l) {j : Nat} (hj : j < l.length) :
    ∃ b o, A = some ⟨b, o, none⟩ ∧ b < w.heap.size ∧ w.cell? ⟨b, o + j * 2, none⟩ = some (.string l[j].1) ∧ w.cell? ⟨b, o + j * 2 + 1, none⟩ = some (.string l[j].2) := by
  obtain ⟨b, o, e, hl, hc⟩ := h.at_ hj
  exact ⟨b, o, e, hl, hc 0 _ rfl, hc 1 _ rfl⟩
theorem tyR : RowTy eR 143 74 := ⟨Tryz.underlying74, .agg #[.string ⟨#[]⟩, .string ⟨#[]⟩], 32, by kernel_rfl, rfl, by omega⟩
abbrev OwnR (w : World) (base : Nat) (v : Value) (l : List Rw) : Prop := Own w base eR 143 v l
end Go.Proofs.YtjfoflbaoceemaaGreat
namespace Go.Proofs.YtjfoflbaoceemaaGreat
structure Mg where
  id : Int
  pri : Int
  retry : Int
  claimed : Bool
  corr : ByteArray
  body : ByteArray
def Mg.zero : Mg := ⟨0, 0, 0, false, ⟨#[]⟩, ⟨#[]⟩⟩
def Mg.fits (m : Mg) : Prop := (-9223372036854775808 ≤ m.id ∧ m.id ≤ 9223372036854775807) ∧ (-9223372036854775808 ≤ m.pri ∧ m.pri ≤ 9223372036854775807) ∧ (-9223372036854775808 ≤ m.retry ∧ m.retry ≤ 9223372036854775807)
abbrev Mg.cells (m : Mg) : Array Value := #[.int .i64 m.id, .int .i64 m.pri, .int .i64 m.retry, .bool m.claimed, .string m.corr, .string m.body]
abbrev Mg.val (m : Mg) : Value := .agg m.cells
end Go.Proofs.YtjfoflbaoceemaaGreat
namespace Go.Proofs.YtjfoflbaoceemaaGreat
open Go.RowKit
def eM : Enc Mg := ⟨fun m => [.int .i64 m.id, .int .i64 m.pri, .int .i64 m.retry, .bool m.claimed, .string m.corr, .string m.body], 6, by omega, fun _ => rfl, fun _ v hv => by simp at hv; rcases hv with rfl | rfl | rfl | rfl | rfl | rfl <;> rfl⟩
theorem Lst.atM {w : World} {K : Nat → Prop} {A : Option Addr} {l : List Mg} (h : Lst w K eM A l) {j : Nat} (hj : j < l.length) :
    ∃ b o, A = some ⟨b, o, none⟩ ∧ b < w.heap.size ∧ w.cell? ⟨b, o + j * 6, none⟩ = some (.int .i64 l[j].id) ∧ w.cell? ⟨b, o + j * 6 + 1, none⟩ = some (.int .i64 l[j].pri) ∧ w.cell? ⟨b, o + j * 6 + 2, none⟩ = some (.int .i64 l[j].retry) ∧
      w.cell? ⟨b, o + j * 6 + 3, none⟩ = some (.bool l[j].claimed) ∧ w.cell? ⟨b, o + j * 6 + 4, none⟩ = some (.string l[j].corr) ∧ w.cell? ⟨b, o + j * 6 + 5, none⟩ = some (.string l[j].body) := by
  obtain ⟨b, o, e, hl, hc⟩ := h.at_ hj
  exact ⟨b, o, e, hl, hc 0 _ rfl, hc 1 _ rfl, hc 2 _ rfl, hc 3 _ rfl, hc 4 _ rfl, hc 5 _ rfl⟩
theorem Lst.atMs {w : World} {K : Nat → Prop} {b o : Nat} {l : List Mg} (h : Lst w K eM (some ⟨b, o, none⟩) l) {j : Nat} (hj : j < l.length) :
    b < w.heap.size ∧ w.cell? ⟨b, o + j * 6, none⟩ = some (.int .i64 l[j].id) ∧ w.cell? ⟨b, o + j * 6 + 1, none⟩ = some (.int .i64 l[j].pri) ∧ w.cell? ⟨b, o + j * 6 + 2, none⟩ = some (.int .i64 l[j].retry) ∧
      w.cell? ⟨b, o + j * 6 + 3, none⟩ = some (.bool l[j].claimed) ∧ w.cell? ⟨b, o + j * 6 + 4, none⟩ = some (.string l[j].corr) ∧ w.cell? ⟨b, o + j * 6 + 5, none⟩ = some (.string l[j].body) := by
  obtain ⟨b', o', e, hl, hc⟩ := h.atM hj
  injection e with e
  injection e with e1 e2
  subst e1 e2
  exact ⟨hl, hc⟩
theorem tyM : RowTy eM 44 75 := ⟨Tryz.underlying75, .agg #[.int .i64 0, .int .i64 0, .int .i64 0, .bool false, .string ⟨#[]⟩, .string ⟨#[]⟩], 64, by kernel_rfl, rfl, by omega⟩
theorem infoM : (Tryz.prog.info? 44).map (fun i => (i.zero, i.size, i.bytes)) = some (some (.agg #[.int .i64 0, .int .i64 0, .int .i64 0, .bool false, .string ⟨#[]⟩, .string ⟨#[]⟩]), 6, 64) := by kernel_rfl
abbrev OwnM (w : World) (base : Nat) (v : Value) (l : List Mg) : Prop := Own w base eM 44 v l
theorem elemM : Tryz.prog.elem 75 = 44 := by simp [Program.elem, Tryz.underlying75]
theorem sizeM (w : World) : (Go.sizeOf 44).run Tryz.prog w = .ok 6 w := by kernel_rfl
theorem head_m (A : Option Addr) (l c q : Nat) (h : q ≤ c) (W : World) : (Instr.slice 75 (.slice A l c) none (some (.int .i64 (q : Int))) none).run Tryz.prog W = .ok (.slice A q c) W := by
  rw [run_slice_h W 75 _ _ _ (by rw [elemM]; exact Tryz.underlying75) .i64 _ (by omega) (by omega), elemM, sizeM]
  simp [Result.andThen, sliced]
  cases A <;> simp [Addr.add]
theorem tail_m {w : World} {K : Nat → Prop} {A : Option Addr} {xs : List Mg} {n c : Nat} (h : Lst w K eM A xs) (hl : xs.length = n) (hc : n ≤ c) {q m : Nat} (hq : q ≤ n) (hm : n - q = m) :
    ∃ A', (∀ W, (Instr.slice 75 (.slice A n c) (some (.int .i64 (q : Int))) none none).run Tryz.prog W = .ok (.slice A' m (c - q)) W) ∧ Lst w K eM A' (xs.drop q) ∧ (A' = none → A = none) := by
  subst hl hm
  refine ⟨_, fun W => ?_, h.drop (k := q) hc, fun e => by split at e <;> simpa using e⟩
  rw [run_slice_l W 75 _ _ _ (by rw [elemM]; exact Tryz.underlying75) .i64 _ (by omega) (by omega), elemM, sizeM]
  rfl
theorem blk_six {w : World} {g : Nat} {m : Mg} (h : Blk w g 44 m.cells) : w.cell? ⟨g, 0, none⟩ = some (.int .i64 m.id) ∧ w.cell? ⟨g, 1, none⟩ = some (.int .i64 m.pri) ∧ w.cell? ⟨g, 2, none⟩ = some (.int .i64 m.retry) ∧
    w.cell? ⟨g, 3, none⟩ = some (.bool m.claimed) ∧ w.cell? ⟨g, 4, none⟩ = some (.string m.corr) ∧ w.cell? ⟨g, 5, none⟩ = some (.string m.body) :=
  ⟨h.cell 0, h.cell 1, h.cell 2, h.cell 3, h.cell 4, h.cell 5⟩
end Go.Proofs.YtjfoflbaoceemaaGreat
namespace Go.Proofs.YtjfoflbaoceemaaGreat
def idxI {α : Type} (p : α → Bool) (l : List α) : Int := if l.findIdx p < l.length then (l.findIdx p : Int) else -1
theorem findIdx_le {α : Type} (p : α → Bool) (l : List α) : l.findIdx p ≤ l.length := List.findIdx_le_length
theorem idx_hit {α : Type} {p : α → Bool} {l : List α} {k : Nat} (h : k < l.length) (hk : p l[k] = true) (hb : ∀ j (hj : j < k), p (l[j]'(by omega)) = false) : idxI p l = (k : Int) := by
  have : l.findIdx p = k := (List.findIdx_eq h).2 ⟨hk, hb⟩
  unfold idxI
  rw [this, if_pos h]
theorem idx_miss {α : Type} {p : α → Bool} {l : List α} (hb : ∀ j (hj : j < l.length), p l[j] = false) : idxI p l = -1 := by
  have : l.findIdx p = l.length := List.findIdx_eq_length.2 fun x hx => by
    obtain ⟨j, hj, rfl⟩ := List.getElem_of_mem hx
    exact hb j hj
  unfold idxI
  rw [this, if_neg (Nat.lt_irrefl _)]
theorem idx_cases {α : Type} (p : α → Bool) (l : List α) : (idxI p l = -1 ∧ l.any p = false) ∨ ∃ h : l.findIdx p < l.length, idxI p l = (l.findIdx p : Int) ∧ l.any p = true ∧ p (l[l.findIdx p]) = true := by
  by_cases h : l.findIdx p < l.length
  · right
    refine ⟨h, by unfold idxI; rw [if_pos h], ?_, List.findIdx_getElem⟩
    rw [List.any_eq_true]
    exact ⟨_, List.getElem_mem h, List.findIdx_getElem⟩
  · left
    have e : l.findIdx p = l.length := by have := findIdx_le p l; omega
    refine ⟨by unfold idxI; rw [if_neg h], ?_⟩
    rw [List.any_eq_false]
    intro x hx
    rw [List.findIdx_eq_length.1 e x hx]
    simp
theorem idx_nonneg {α : Type} (p : α → Bool) (l : List α) : decide (0 ≤ idxI p l) = l.any p := by
  rcases idx_cases p l with ⟨h1, h2⟩ | ⟨h, h1, h2, _⟩
  · rw [h1, h2]; rfl
  · rw [h1, h2]; simp
theorem idx_neg {α : Type} (p : α → Bool) (l : List α) : decide (idxI p l < 0) = !l.any p := by
  rcases idx_cases p l with ⟨h1, h2⟩ | ⟨h, h1, h2, _⟩
  · rw [h1, h2]; rfl
  · rw [h1, h2]; simp
end Go.Proofs.YtjfoflbaoceemaaGreat
namespace Go.Proofs.YtjfoflbaoceemaaGreat
def cmpG (a b : Mg) : Int := cmpM a.pri a.id b.pri b.id
def behM (m o : Mg) : Bool := decide (cmpG m o < 0)
def isM (id : Int) (m : Mg) : Bool := m.id == id
def freeM (m : Mg) : Bool := !m.claimed
def spotM (l : List Mg) (m : Mg) : Nat := l.findIdx (behM m)
def addM (l : List Mg) (m : Mg) : List Mg := l.take (spotM l m) ++ [m] ++ l.drop (spotM l m)
def hasM (l : List Mg) (id : Int) : Bool := l.any (isM id)
def cutM (l : List Mg) (id : Int) : List Mg := l.eraseIdx (l.findIdx (isM id))
def canM (l : List Mg) (id : Int) (on : Bool) : Bool := match l[l.findIdx (isM id)]? with
  | some m => !(m.claimed == on)
  | none => false
def claimM (l : List Mg) (id : Int) (on : Bool) : List Mg := l.modify (l.findIdx (isM id)) fun m => { m with claimed := on }
def upM (l : List Mg) (i : Nat) : Bool := match l[i]? with
  | some m => !decide (m.id ∈ (l.take i).map (·.id)) && (i == 0 || match l[i - 1]? with
    | some p => decide (cmpG p m < 0)
    | none => true)
  | none => true
def risesM (l : List Mg) : Bool := (List.range l.length).all (upM l)
theorem spot_le (l : List Mg) (m : Mg) : spotM l m ≤ l.length := List.findIdx_le_length
theorem add_len (l : List Mg) (m : Mg) : (addM l m).length = l.length + 1 := by
  have := spot_le l m
  simp [addM]; omega
theorem cut_none {l : List Mg} {id : Int} (h : hasM l id = false) : cutM l id = l := by
  unfold cutM
  apply List.eraseIdx_of_length_le
  have : l.findIdx (isM id) = l.length := List.findIdx_eq_length.2 fun x hx => by simpa using List.any_eq_false.1 h x hx
  omega
theorem cut_at_m {l : List Mg} {id : Int} : cutM l id = l.take (l.findIdx (isM id)) ++ l.drop (l.findIdx (isM id) + 1) := List.eraseIdx_eq_take_drop_succ _ _
end Go.Proofs.YtjfoflbaoceemaaGreat
namespace Go.Proofs.YtjfoflbaoceemaaGreat
def more1 (r : Int) : Int := if r < 1000 then r + 1 else 1000
def Mg.tried (m : Mg) : Mg := { m with claimed := false, retry := more1 m.retry }
def triedB (r limit : Int) : Bool := decide (limit ≤ more1 r)
end Go.Proofs.YtjfoflbaoceemaaGreat
namespace Go.Proofs.YtjfoflbaoceemaaGreat
structure Ob where
  name : ByteArray
  kind : Int
  limit : Int
  rows : List Rw
  msgs : List Mg
  dead : List Mg
def Ob.short (o : Ob) (n : Nat) : Prop := o.rows.length ≤ n ∧ o.msgs.length ≤ n ∧ o.dead.length ≤ n
def Ob.fits (o : Ob) : Prop := (∀ m ∈ o.msgs, m.fits) ∧ ∀ m ∈ o.dead, m.fits
def whereO (o : Ob) (id : Int) : Int := if hasM o.msgs id = true then 1 else if hasM o.dead id = true then 2 else 0
def freeOk (o : Ob) (id : Int) : Bool := match o.msgs[o.msgs.findIdx (isM id)]? with
  | some m => m.claimed
  | none => false
def freeO (o : Ob) (id : Int) (tried : Bool) : Ob := match o.msgs[o.msgs.findIdx (isM id)]? with
  | some m => if m.claimed = false then o else if tried = false then { o with msgs := o.msgs.set (o.msgs.findIdx (isM id)) { m with claimed := false } } else
    if triedB m.retry o.limit = true then { o with msgs := o.msgs.eraseIdx (o.msgs.findIdx (isM id)), dead := o.dead ++ [m.tried] } else { o with msgs := o.msgs.set (o.msgs.findIdx (isM id)) m.tried }
  | none => o
theorem find_len {l : List Mg} {id : Int} (h : l.any (isM id) = false) : l.findIdx (isM id) = l.length := List.findIdx_eq_length.2 fun x hx => by simpa using List.any_eq_false.1 h x hx
theorem free_none {o : Ob} {id : Int} (tried : Bool) (h : o.msgs.any (isM id) = false) : freeOk o id = false ∧ freeO o id tried = o := by
  unfold freeOk freeO
  rw [find_len h, List.getElem?_eq_none (Nat.le_refl _)]
  exact ⟨rfl, rfl⟩
section
variable {o : Ob} {id : Int} {q : Nat} {m : Mg}
theorem free_off (tried : Bool) (hq : o.msgs.findIdx (isM id) = q) (h : o.msgs[q]? = some m) (hc : m.claimed = false) : freeOk o id = false ∧ freeO o id tried = o := by
  unfold freeOk freeO
  rw [hq, h]
  exact ⟨hc, if_pos hc⟩
theorem free_back (hq : o.msgs.findIdx (isM id) = q) (h : o.msgs[q]? = some m) (hc : m.claimed = true) : freeOk o id = true ∧ freeO o id false = { o with msgs := o.msgs.set q { m with claimed := false } } := by
  unfold freeOk freeO
  rw [hq, h]
  simp [hc]
theorem free_stay (hq : o.msgs.findIdx (isM id) = q) (h : o.msgs[q]? = some m) (hc : m.claimed = true) (ht : triedB m.retry o.limit = false) : freeOk o id = true ∧ freeO o id true = { o with msgs := o.msgs.set q m.tried } := by
  unfold freeOk freeO
  rw [hq, h]
  simp [hc, ht]
theorem free_dead (hq : o.msgs.findIdx (isM id) = q) (h : o.msgs[q]? = some m) (hc : m.claimed = true) (ht : triedB m.retry o.limit = true) : freeOk o id = true ∧ freeO o id true = { o with msgs := o.msgs.eraseIdx q, dead := o.dead ++ [m.tried] } := by
  unfold freeOk freeO
  rw [hq, h]
  simp [hc, ht]
end
end Go.Proofs.YtjfoflbaoceemaaGreat
