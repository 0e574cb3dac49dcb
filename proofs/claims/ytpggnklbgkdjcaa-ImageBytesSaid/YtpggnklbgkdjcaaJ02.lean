/- Plain facts on rows of keys and values: where a key stands, what rows are with one put, and one cut; nothing of the program is named here. Rows of keys and values that lie somewhere, by text ..Enc. A message: plain, and as a value. Rows of messages that lie somewhere: text ..Enc's words at them; slices of them. Plain facts on the place of the first of which something holds. Plain words on messages in order: nothing of the program. Plain words: what a message is when it was tried once more. Plain words on objects: where a message is, and what an object is when one is given back. Nothing of the program. A slice that holds these rows, as a value; an object in memory: its name, its kind and limit, and its three rows. One cell of a row of the call's own stored; where such a row lies. -/
import Derived.Test.YtpggnklbgkdjcaaJ01
import Derived.WalkKit
import Derived.LoopTactic
import Derived.Deep.LoopGhost
import Derived.Deep.Slices
import Derived.ChangeArms
import Derived.Laws.Cover1
import Init
set_option maxRecDepth 4000
namespace Go.Proofs.Ytpggnklbgkdjcaa
open Go

/-- a key and its value -/
abbrev Rw := ByteArray × ByteArray
/-- the first place whose key is not ahead of k -/
def findR : List Rw → ByteArray → Nat
  | [], _ => 0
  | x :: r, k => if 0 ≤ cmpS x.1 k then 0 else findR r k + 1
/-- is its key k? -/
def foundR : List Rw → ByteArray → Bool
  | [], _ => false
  | x :: r, k => if 0 ≤ cmpS x.1 k then decide (cmpS x.1 k = 0) else foundR r k
/-- the first place behind what putR puts -/
def behR (l : List Rw) (k : ByteArray) : Nat := if foundR l k then findR l k + 1 else findR l k
def putR (l : List Rw) (r : Rw) : List Rw := l.take (findR l r.1) ++ r :: l.drop (behR l r.1)
def cutRw (l : List Rw) (k : ByteArray) : List Rw := if foundR l k then l.take (findR l k) ++ l.drop (findR l k + 1) else l
def risesR : List Rw → Bool
  | [] => true
  | [_] => true
  | x :: y :: r => decide (cmpS x.1 y.1 < 0) && risesR (y :: r)

theorem findR_le (l : List Rw) (k : ByteArray) : findR l k ≤ l.length := by
  induction l with
  | nil => simp [findR]
  | cons x r ih => rw [findR]; split <;> simp; omega
theorem foundR_lt {l : List Rw} {k : ByteArray} (h : foundR l k = true) : findR l k < l.length := by
  induction l with
  | nil => simp [foundR] at h
  | cons x r ih =>
    rw [foundR] at h
    rw [findR]
    split
    · simp
    · rename_i hn
      rw [if_neg hn] at h
      have := ih h
      simp; omega
theorem behR_le (l : List Rw) (k : ByteArray) : behR l k ≤ l.length := by
  unfold behR
  split
  · rename_i h; exact foundR_lt h
  · exact findR_le l k
/-- on from place j, all ahead of which were ahead of k -/
theorem find_at {l : List Rw} {k : ByteArray} {j : Nat} (h : j < l.length) (hn : 0 ≤ cmpS l[j].1 k) : findR (l.drop j) k = 0 ∧ foundR (l.drop j) k = decide (cmpS l[j].1 k = 0) := by
  rw [List.drop_eq_getElem_cons h, findR, foundR, if_pos hn, if_pos hn]
  exact ⟨rfl, rfl⟩
theorem find_on {l : List Rw} {k : ByteArray} {j : Nat} (h : j < l.length) (hn : ¬ 0 ≤ cmpS l[j].1 k) : findR (l.drop j) k = findR (l.drop (j + 1)) k + 1 ∧ foundR (l.drop j) k = foundR (l.drop (j + 1)) k := by
  rw [List.drop_eq_getElem_cons h, findR, foundR, if_neg hn, if_neg hn]
  exact ⟨rfl, rfl⟩
theorem rises_at {l : List Rw} {j : Nat} (h : j + 1 < l.length) (hj : risesR l = risesR (l.drop j)) :
    (cmpS l[j].1 l[j + 1].1 < 0 → risesR l = risesR (l.drop (j + 1))) ∧ (¬ cmpS l[j].1 l[j + 1].1 < 0 → risesR l = false) := by
  rw [hj, List.drop_eq_getElem_cons (show j < l.length by omega), List.drop_eq_getElem_cons h, risesR]
  constructor
  · intro hc; rw [decide_eq_true hc]; rfl
  · intro hc; rw [decide_eq_false hc]; rfl
theorem rises_end {l : List Rw} {j : Nat} (h : ¬ j + 1 < l.length) (hj : risesR l = risesR (l.drop j)) : risesR l = true := by
  rw [hj]
  match hd : l.drop j, show (l.drop j).length ≤ 1 by rw [List.length_drop]; omega with
  | [], _ => rfl
  | [_], _ => rfl

/-- what was put is found where it was put -/
theorem find_put (l : List Rw) (r : Rw) : findR (putR l r) r.1 = findR l r.1 ∧ foundR (putR l r) r.1 = true := by
  have hz : cmpS r.1 r.1 = 0 := (cmpS_eq _ _).2 rfl
  have key : ∀ (l : List Rw) (t : List Rw), findR (l.take (findR l r.1) ++ r :: t) r.1 = findR l r.1 ∧ foundR (l.take (findR l r.1) ++ r :: t) r.1 = true := by
    intro l t
    induction l with
    | nil => simp [findR, foundR, hz]
    | cons x q ih =>
      by_cases h : 0 ≤ cmpS x.1 r.1
      · simp [findR, foundR, h, hz]
      · simp only [findR, if_neg h, List.take_succ_cons, List.cons_append, foundR]
        exact ⟨by rw [ih.1], ih.2⟩
  exact key l _
theorem take_put (l : List Rw) (r : Rw) : (putR l r).take (findR l r.1) = l.take (findR l r.1) := by
  unfold putR
  rw [List.take_append_of_le_length (by rw [List.length_take]; have := findR_le l r.1; omega), List.take_of_length_le (by rw [List.length_take]; omega)]
theorem drop_put (l : List Rw) (r : Rw) : (putR l r).drop (findR l r.1 + 1) = l.drop (behR l r.1) := by
  unfold putR
  have hl : (l.take (findR l r.1)).length = findR l r.1 := by rw [List.length_take]; have := findR_le l r.1; omega
  rw [List.drop_append, List.drop_of_length_le (by omega), hl]
  simp
theorem put_twice (l : List Rw) (r : Rw) : putR (putR l r) r = putR l r := by
  obtain ⟨h1, h2⟩ := find_put l r
  have hb : behR (putR l r) r.1 = findR l r.1 + 1 := by rw [behR, h2, h1]; rfl
  rw [putR, h1, hb, take_put, drop_put]
  rfl
theorem put_len (l : List Rw) (r : Rw) : (putR l r).length = if foundR l r.1 then l.length else l.length + 1 := by
  have h1 := findR_le l r.1
  have h2 := behR_le l r.1
  unfold putR
  rw [List.length_append, List.length_cons, List.length_take, List.length_drop]
  unfold behR at *
  by_cases h : foundR l r.1
  · have := foundR_lt h
    rw [if_pos h] at *
    rw [if_pos h] at *
    omega
  · rw [if_neg h] at *
    rw [if_neg h] at *
    omega
theorem cut_put (l : List Rw) (r : Rw) : cutRw (putR l r) r.1 = l.take (findR l r.1) ++ l.drop (behR l r.1) := by
  obtain ⟨h1, h2⟩ := find_put l r
  rw [cutRw, h2, h1, take_put, drop_put]
  rfl
theorem cut_put_new {l : List Rw} {r : Rw} (h : foundR l r.1 = false) : cutRw (putR l r) r.1 = l := by
  rw [cut_put, behR, h]
  exact List.take_append_drop _ _
theorem cut_put_len {l : List Rw} {r : Rw} (h : foundR l r.1 = true) : (cutRw (putR l r) r.1).length + 1 = l.length := by
  have h1 := foundR_lt h
  rw [cut_put, behR, h, List.length_append, List.length_take, List.length_drop]
  simp only [if_true]
  omega
theorem cut_len (l : List Rw) (k : ByteArray) : (cutRw l k).length = if foundR l k then l.length - 1 else l.length := by
  unfold cutRw
  by_cases h : foundR l k
  · have := foundR_lt h
    rw [if_pos h, if_pos h, List.length_append, List.length_take, List.length_drop]
    omega
  · rw [if_neg h, if_neg h]
theorem cut_at {l : List Rw} {k : ByteArray} (h : foundR l k = true) : cutRw l k = l.take (findR l k) ++ l.drop (findR l k + 1) := by rw [cutRw, if_pos h]
theorem put_beh (l : List Rw) (r : Rw) : putR l r = l.take (findR l r.1) ++ [r] ++ l.drop (behR l r.1) := by rw [putR, List.append_assoc]; rfl
end Go.Proofs.Ytpggnklbgkdjcaa
namespace Go.Proofs.Ytpggnklbgkdjcaa
open Go.RowKit
def eR : Enc Rw := ⟨fun r => [.string r.1, .string r.2], 2, by omega, fun _ => rfl, fun _ v hv => by simp at hv; rcases hv with rfl | rfl <;> rfl⟩
theorem Lst.atR {w : World} {K : Nat → Prop} {A : Option Addr} {l : List Rw} (h : Lst w K eR A l) {j : Nat} (hj : j < l.length) :
    ∃ b o, A = some ⟨b, o, none⟩ ∧ b < w.heap.size ∧ w.cell? ⟨b, o + j * 2, none⟩ = some (.string l[j].1) ∧ w.cell? ⟨b, o + j * 2 + 1, none⟩ = some (.string l[j].2) := by
  obtain ⟨b, o, e, hl, hc⟩ := h.at_ hj
  exact ⟨b, o, e, hl, hc 0 _ rfl, hc 1 _ rfl⟩
theorem tyR : RowTy eR 52 36 := ⟨Try.underlying36, .agg #[.string ⟨#[]⟩, .string ⟨#[]⟩], 32, by kernel_rfl, rfl, by omega⟩
abbrev OwnR (w : World) (base : Nat) (v : Value) (l : List Rw) : Prop := Own w base eR 52 v l
end Go.Proofs.Ytpggnklbgkdjcaa
namespace Go.Proofs.Ytpggnklbgkdjcaa
/-- a message -/
structure Mg where
  id : Int
  pri : Int
  retry : Int
  claimed : Bool
  corr : ByteArray
  body : ByteArray
def Mg.zero : Mg := ⟨0, 0, 0, false, ⟨#[]⟩, ⟨#[]⟩⟩
/-- its numbers are an int's -/
def Mg.fits (m : Mg) : Prop := (-9223372036854775808 ≤ m.id ∧ m.id ≤ 9223372036854775807) ∧ (-9223372036854775808 ≤ m.pri ∧ m.pri ≤ 9223372036854775807) ∧ (-9223372036854775808 ≤ m.retry ∧ m.retry ≤ 9223372036854775807)
abbrev Mg.cells (m : Mg) : Array Value := #[.int .i64 m.id, .int .i64 m.pri, .int .i64 m.retry, .bool m.claimed, .string m.corr, .string m.body]
abbrev Mg.val (m : Mg) : Value := .agg m.cells
end Go.Proofs.Ytpggnklbgkdjcaa
namespace Go.Proofs.Ytpggnklbgkdjcaa
open Go.RowKit
def eM : Enc Mg := ⟨fun m => [.int .i64 m.id, .int .i64 m.pri, .int .i64 m.retry, .bool m.claimed, .string m.corr, .string m.body], 6, by omega, fun _ => rfl, fun _ v hv => by simp at hv; rcases hv with rfl | rfl | rfl | rfl | rfl | rfl <;> rfl⟩
theorem Lst.atM {w : World} {K : Nat → Prop} {A : Option Addr} {l : List Mg} (h : Lst w K eM A l) {j : Nat} (hj : j < l.length) :
    ∃ b o, A = some ⟨b, o, none⟩ ∧ b < w.heap.size ∧ w.cell? ⟨b, o + j * 6, none⟩ = some (.int .i64 l[j].id) ∧ w.cell? ⟨b, o + j * 6 + 1, none⟩ = some (.int .i64 l[j].pri) ∧ w.cell? ⟨b, o + j * 6 + 2, none⟩ = some (.int .i64 l[j].retry) ∧
      w.cell? ⟨b, o + j * 6 + 3, none⟩ = some (.bool l[j].claimed) ∧ w.cell? ⟨b, o + j * 6 + 4, none⟩ = some (.string l[j].corr) ∧ w.cell? ⟨b, o + j * 6 + 5, none⟩ = some (.string l[j].body) := by
  obtain ⟨b, o, e, hl, hc⟩ := h.at_ hj
  exact ⟨b, o, e, hl, hc 0 _ rfl, hc 1 _ rfl, hc 2 _ rfl, hc 3 _ rfl, hc 4 _ rfl, hc 5 _ rfl⟩
theorem Lst.atMs {w : World} {K : Nat → Prop} {b o : Nat} {l : List Mg} (h : Lst w K eM (some ⟨b, o, none⟩) l) {j : Nat} (hj : j < l.length) :
    b < w.heap.size ∧ w.cell? ⟨b, o + j * 6, none⟩ = some (.int .i64 l[j].id) ∧ w.cell? ⟨b, o + j * 6 + 1, none⟩ = some (.int .i64 l[j].pri) ∧ w.cell? ⟨b, o + j * 6 + 2, none⟩ = some (.int .i64 l[j].retry) ∧
      w.cell? ⟨b, o + j * 6 + 3, none⟩ = some (.bool l[j].claimed) ∧ w.cell? ⟨b, o + j * 6 + 4, none⟩ = some (.string l[j].corr) ∧ w.cell? ⟨b, o + j * 6 + 5, none⟩ = some (.string l[j].body) := by
  obtain ⟨b', o', e, hl, hc⟩ := h.atM hj
  injection e with e
  injection e with e1 e2
  subst e1 e2
  exact ⟨hl, hc⟩
theorem tyM : RowTy eM 55 37 := ⟨Try.underlying37, .agg #[.int .i64 0, .int .i64 0, .int .i64 0, .bool false, .string ⟨#[]⟩, .string ⟨#[]⟩], 64, by kernel_rfl, rfl, by omega⟩
theorem infoM : (Try.prog.info? 55).map (fun i => (i.zero, i.size, i.bytes)) = some (some (.agg #[.int .i64 0, .int .i64 0, .int .i64 0, .bool false, .string ⟨#[]⟩, .string ⟨#[]⟩]), 6, 64) := by kernel_rfl
abbrev OwnM (w : World) (base : Nat) (v : Value) (l : List Mg) : Prop := Own w base eM 55 v l
theorem elemM : Try.prog.elem 37 = 55 := by simp [Program.elem, Try.underlying37]
theorem sizeM (w : World) : (Go.sizeOf 55).run Try.prog w = .ok 6 w := by kernel_rfl
theorem head_m (A : Option Addr) (l c q : Nat) (h : q ≤ c) (W : World) : (Instr.slice 37 (.slice A l c) none (some (.int .i64 (q : Int))) none).run Try.prog W = .ok (.slice A q c) W := by
  rw [run_slice_h W 37 _ _ _ (by rw [elemM]; exact Try.underlying37) .i64 _ (by omega) (by omega), elemM, sizeM]
  simp [Result.andThen, sliced]
  cases A <;> simp [Addr.add]
/-- messages from place q on -/
theorem tail_m {w : World} {K : Nat → Prop} {A : Option Addr} {xs : List Mg} {n c : Nat} (h : Lst w K eM A xs) (hl : xs.length = n) (hc : n ≤ c) {q m : Nat} (hq : q ≤ n) (hm : n - q = m) :
    ∃ A', (∀ W, (Instr.slice 37 (.slice A n c) (some (.int .i64 (q : Int))) none none).run Try.prog W = .ok (.slice A' m (c - q)) W) ∧ Lst w K eM A' (xs.drop q) ∧ (A' = none → A = none) := by
  subst hl hm
  refine ⟨_, fun W => ?_, h.drop (k := q) hc, fun e => by split at e <;> simpa using e⟩
  rw [run_slice_l W 37 _ _ _ (by rw [elemM]; exact Try.underlying37) .i64 _ (by omega) (by omega), elemM, sizeM]
  rfl
/-- six cells of a message's block -/
theorem blk_six {w : World} {g : Nat} {m : Mg} (h : Blk w g 55 m.cells) : w.cell? ⟨g, 0, none⟩ = some (.int .i64 m.id) ∧ w.cell? ⟨g, 1, none⟩ = some (.int .i64 m.pri) ∧ w.cell? ⟨g, 2, none⟩ = some (.int .i64 m.retry) ∧
    w.cell? ⟨g, 3, none⟩ = some (.bool m.claimed) ∧ w.cell? ⟨g, 4, none⟩ = some (.string m.corr) ∧ w.cell? ⟨g, 5, none⟩ = some (.string m.body) :=
  ⟨h.cell 0, h.cell 1, h.cell 2, h.cell 3, h.cell 4, h.cell 5⟩
end Go.Proofs.Ytpggnklbgkdjcaa
namespace Go.Proofs.Ytpggnklbgkdjcaa
/-- the place of the first of which p holds; -1 -/
def idxI {α : Type} (p : α → Bool) (l : List α) : Int := if l.findIdx p < l.length then (l.findIdx p : Int) else -1
theorem findIdx_le {α : Type} (p : α → Bool) (l : List α) : l.findIdx p ≤ l.length := List.findIdx_le_length
theorem idx_hit {α : Type} {p : α → Bool} {l : List α} {k : Nat} (h : k < l.length) (hk : p l[k] = true) (hb : ∀ j (hj : j < k), p (l[j]'(by omega)) = false) : idxI p l = (k : Int) := by
  have : l.findIdx p = k := (List.findIdx_eq h).2 ⟨hk, hb⟩
  unfold idxI
  rw [this, if_pos h]
theorem idx_miss {α : Type} {p : α → Bool} {l : List α} (hb : ∀ j (hj : j < l.length), p l[j] = false) : idxI p l = -1 := by
  have : l.findIdx p = l.length := List.findIdx_eq_length.2 fun x hx => by
    obtain ⟨j, hj, rfl⟩ := List.getElem_of_mem hx
    exact hb j hj
  unfold idxI
  rw [this, if_neg (Nat.lt_irrefl _)]
theorem idx_cases {α : Type} (p : α → Bool) (l : List α) : (idxI p l = -1 ∧ l.any p = false) ∨ ∃ h : l.findIdx p < l.length, idxI p l = (l.findIdx p : Int) ∧ l.any p = true ∧ p (l[l.findIdx p]) = true := by
  by_cases h : l.findIdx p < l.length
  · right
    refine ⟨h, by unfold idxI; rw [if_pos h], ?_, List.findIdx_getElem⟩
    rw [List.any_eq_true]
    exact ⟨_, List.getElem_mem h, List.findIdx_getElem⟩
  · left
    have e : l.findIdx p = l.length := by have := findIdx_le p l; omega
    refine ⟨by unfold idxI; rw [if_neg h], ?_⟩
    rw [List.any_eq_false]
    intro x hx
    rw [List.findIdx_eq_length.1 e x hx]
    simp
theorem idx_nonneg {α : Type} (p : α → Bool) (l : List α) : decide (0 ≤ idxI p l) = l.any p := by
  rcases idx_cases p l with ⟨h1, h2⟩ | ⟨h, h1, h2, _⟩
  · rw [h1, h2]; rfl
  · rw [h1, h2]; simp
theorem idx_neg {α : Type} (p : α → Bool) (l : List α) : decide (idxI p l < 0) = !l.any p := by
  rcases idx_cases p l with ⟨h1, h2⟩ | ⟨h, h1, h2, _⟩
  · rw [h1, h2]; rfl
  · rw [h1, h2]; simp
theorem find_of_idx {α : Type} {p : α → Bool} : ∀ {l : List α} (h : l.findIdx p < l.length), l.find? p = some l[l.findIdx p]
  | x :: l, h => by
    by_cases hx : p x = true
    · simp [List.findIdx_cons, hx]
    · have hx : p x = false := by simpa using hx
      simp only [List.findIdx_cons, hx, cond_false, List.length_cons] at h
      have := find_of_idx (l := l) (p := p) (by omega)
      simp [List.findIdx_cons, hx, this]
end Go.Proofs.Ytpggnklbgkdjcaa
namespace Go.Proofs.Ytpggnklbgkdjcaa
/-- by priority, then by number -/
def cmpG (a b : Mg) : Int := cmpM a.pri a.id b.pri b.id
def behM (m o : Mg) : Bool := decide (cmpG m o < 0)
def isM (id : Int) (m : Mg) : Bool := m.id == id
def freeM (m : Mg) : Bool := !m.claimed
def freeC (c : ByteArray) (m : Mg) : Bool := !m.claimed && m.corr.toList == c.toList
/-- where a message goes -/
def spotM (l : List Mg) (m : Mg) : Nat := l.findIdx (behM m)
def addM (l : List Mg) (m : Mg) : List Mg := l.take (spotM l m) ++ [m] ++ l.drop (spotM l m)
def hasM (l : List Mg) (id : Int) : Bool := l.any (isM id)
def cutM (l : List Mg) (id : Int) : List Mg := l.eraseIdx (l.findIdx (isM id))
/-- there, and of another Claimed -/
def canM (l : List Mg) (id : Int) (on : Bool) : Bool := match l[l.findIdx (isM id)]? with
  | some m => !(m.claimed == on)
  | none => false
def claimM (l : List Mg) (id : Int) (on : Bool) : List Mg := l.modify (l.findIdx (isM id)) fun m => { m with claimed := on }
/-- the i-th message is behind the one ahead of it, and its number is new -/
def upM (l : List Mg) (i : Nat) : Bool := match l[i]? with
  | some m => !decide (m.id ∈ (l.take i).map (·.id)) && (i == 0 || match l[i - 1]? with
    | some p => decide (cmpG p m < 0)
    | none => true)
  | none => true
def risesM (l : List Mg) : Bool := (List.range l.length).all (upM l)
theorem spot_le (l : List Mg) (m : Mg) : spotM l m ≤ l.length := List.findIdx_le_length
theorem add_len (l : List Mg) (m : Mg) : (addM l m).length = l.length + 1 := by
  have := spot_le l m
  simp [addM]; omega
theorem cut_none {l : List Mg} {id : Int} (h : hasM l id = false) : cutM l id = l := by
  unfold cutM
  apply List.eraseIdx_of_length_le
  have : l.findIdx (isM id) = l.length := List.findIdx_eq_length.2 fun x hx => by simpa using List.any_eq_false.1 h x hx
  omega
theorem cut_at_m {l : List Mg} {id : Int} : cutM l id = l.take (l.findIdx (isM id)) ++ l.drop (l.findIdx (isM id) + 1) := List.eraseIdx_eq_take_drop_succ _ _
end Go.Proofs.Ytpggnklbgkdjcaa
namespace Go.Proofs.Ytpggnklbgkdjcaa
/-- how often a message was tried, once more -/
def more1 (r : Int) : Int := if r < 1000 then r + 1 else 1000
def Mg.tried (m : Mg) : Mg := { m with claimed := false, retry := more1 m.retry }
def triedB (r limit : Int) : Bool := decide (limit ≤ more1 r)
end Go.Proofs.Ytpggnklbgkdjcaa
namespace Go.Proofs.Ytpggnklbgkdjcaa
/-- an object -/
structure Ob where
  name : ByteArray
  kind : Int
  limit : Int
  rows : List Rw
  msgs : List Mg
  dead : List Mg
/-- lists of a length that a call bears -/
def Ob.short (o : Ob) (n : Nat) : Prop := o.rows.length ≤ n ∧ o.msgs.length ≤ n ∧ o.dead.length ≤ n
/-- each number of its messages is an int's -/
def Ob.fits (o : Ob) : Prop := (∀ m ∈ o.msgs, m.fits) ∧ ∀ m ∈ o.dead, m.fits
def whereO (o : Ob) (id : Int) : Int := if hasM o.msgs id = true then 1 else if hasM o.dead id = true then 2 else 0
def freeOk (o : Ob) (id : Int) : Bool := match o.msgs[o.msgs.findIdx (isM id)]? with
  | some m => m.claimed
  | none => false
def freeO (o : Ob) (id : Int) (tried : Bool) : Ob := match o.msgs[o.msgs.findIdx (isM id)]? with
  | some m => if m.claimed = false then o else if tried = false then { o with msgs := o.msgs.set (o.msgs.findIdx (isM id)) { m with claimed := false } } else
    if triedB m.retry o.limit = true then { o with msgs := o.msgs.eraseIdx (o.msgs.findIdx (isM id)), dead := o.dead ++ [m.tried] } else { o with msgs := o.msgs.set (o.msgs.findIdx (isM id)) m.tried }
  | none => o
theorem find_len {l : List Mg} {id : Int} (h : l.any (isM id) = false) : l.findIdx (isM id) = l.length := List.findIdx_eq_length.2 fun x hx => by simpa using List.any_eq_false.1 h x hx
theorem free_none {o : Ob} {id : Int} (tried : Bool) (h : o.msgs.any (isM id) = false) : freeOk o id = false ∧ freeO o id tried = o := by
  unfold freeOk freeO
  rw [find_len h, List.getElem?_eq_none (Nat.le_refl _)]
  exact ⟨rfl, rfl⟩
section
variable {o : Ob} {id : Int} {q : Nat} {m : Mg}
theorem free_off (tried : Bool) (hq : o.msgs.findIdx (isM id) = q) (h : o.msgs[q]? = some m) (hc : m.claimed = false) : freeOk o id = false ∧ freeO o id tried = o := by
  unfold freeOk freeO
  rw [hq, h]
  exact ⟨hc, if_pos hc⟩
theorem free_back (hq : o.msgs.findIdx (isM id) = q) (h : o.msgs[q]? = some m) (hc : m.claimed = true) : freeOk o id = true ∧ freeO o id false = { o with msgs := o.msgs.set q { m with claimed := false } } := by
  unfold freeOk freeO
  rw [hq, h]
  simp [hc]
theorem free_stay (hq : o.msgs.findIdx (isM id) = q) (h : o.msgs[q]? = some m) (hc : m.claimed = true) (ht : triedB m.retry o.limit = false) : freeOk o id = true ∧ freeO o id true = { o with msgs := o.msgs.set q m.tried } := by
  unfold freeOk freeO
  rw [hq, h]
  simp [hc, ht]
theorem free_dead (hq : o.msgs.findIdx (isM id) = q) (h : o.msgs[q]? = some m) (hc : m.claimed = true) (ht : triedB m.retry o.limit = true) : freeOk o id = true ∧ freeO o id true = { o with msgs := o.msgs.eraseIdx q, dead := o.dead ++ [m.tried] } := by
  unfold freeOk freeO
  rw [hq, h]
  simp [hc, ht]
end
end Go.Proofs.Ytpggnklbgkdjcaa
namespace Go.Proofs.Ytpggnklbgkdjcaa
open Go.RowKit
section
variable {α : Type} {E : Enc α} {T : TypeId}
/-- this slice holds these rows -/
def Sl (w : World) (E : Enc α) (v : Value) (l : List α) : Prop := ∃ A c, v = .slice A l.length c ∧ Lst w (fun _ => True) E A l ∧ l.length ≤ c ∧ c ≤ maxLen ∧ (A = none → c = 0)
theorem Sl.below {w w' : World} {v : Value} {l : List α} (h : Sl w E v l) (k : Below w.heap.size w w') : Sl w' E v l := by
  obtain ⟨A, c, e, h1, h2⟩ := h
  exact ⟨A, c, e, h1.below k, h2⟩
theorem Sl.nil (w : World) (E : Enc α) : Sl w E (.slice none 0 0) ([] : List α) := ⟨none, 0, rfl, Lst.nil _ _ _ _, Nat.le_refl _, by unfold maxLen; omega, fun _ => rfl⟩
theorem Own.sl {w : World} {base : Nat} {v : Value} {l : List α} (h : Own w base E T v l) : Sl w E v l := by
  obtain ⟨A, c, e, h1, h2, h3, h4⟩ := own_lst h
  exact ⟨A, c, e, h1.more fun _ _ _ => trivial, h2, h3, h4⟩
/-- a row of one's own survives whatever is stored elsewhere -/
theorem own_far {w : World} {base : Nat} {v : Value} {l : List α} (h : Own w base E T v l) {p : Addr} (hp : v.ownBlock ≠ some p.block) (u : Value) : Own (w.setCell p u) base E T v l :=
  own_keep h fun g hg => Below.heap_setCell w p u g fun e => hp (by rw [hg, e])
theorem own_out {w : World} {base b : Nat} {v : Value} {l : List α} (h : Own w base E T v l) (hb : b < base) : v.ownBlock ≠ some b := fun e => by
  have := (own_blk h e).1
  omega
end
abbrev Ob.cells (o : Ob) (r m d : Value) : Array Value := #[.string o.name, .int .i64 o.kind, .int .i64 o.limit, r, m, d]
abbrev Ob.val (o : Ob) (r m d : Value) : Value := .agg (o.cells r m d)
/-- its rows lie so -/
def ObAt (w : World) (o : Ob) (r m d : Value) : Prop := Sl w eR r o.rows ∧ Sl w eM m o.msgs ∧ Sl w eM d o.dead
theorem ObAt.below {w w' : World} {o : Ob} {r m d : Value} (h : ObAt w o r m d) (k : Below w.heap.size w w') : ObAt w' o r m d := ⟨h.1.below k, h.2.1.below k, h.2.2.below k⟩
/-- its rows are the call's own, each of them apart from the others -/
structure ObOwn (w : World) (base : Nat) (o : Ob) (r m d : Value) : Prop where
  rows : OwnR w base r o.rows
  msgs : OwnM w base m o.msgs
  dead : OwnM w base d o.dead
  a1 : ∀ g, r.ownBlock = some g → m.ownBlock ≠ some g ∧ d.ownBlock ≠ some g
  a2 : ∀ g, m.ownBlock = some g → d.ownBlock ≠ some g
theorem ObOwn.at_ {w : World} {base : Nat} {o : Ob} {r m d : Value} (h : ObOwn w base o r m d) : ObAt w o r m d := ⟨h.rows.sl, h.msgs.sl, h.dead.sl⟩
theorem ObOwn.below {w w' : World} {base : Nat} {o : Ob} {r m d : Value} (h : ObOwn w base o r m d) (k : Below w.heap.size w w') : ObOwn w' base o r m d :=
  ⟨own_belowE h.rows k, own_belowE h.msgs k, own_belowE h.dead k, h.a1, h.a2⟩
theorem ObOwn.base {w : World} {base base' : Nat} {o : Ob} {r m d : Value} (h : ObOwn w base o r m d) (hb : base' ≤ base) : ObOwn w base' o r m d :=
  ⟨own_base h.rows hb, own_base h.msgs hb, own_base h.dead hb, h.a1, h.a2⟩
end Go.Proofs.Ytpggnklbgkdjcaa
namespace Go.Proofs.Ytpggnklbgkdjcaa
open Go.RowKit
theorem own_set1 {α : Type} {E : Enc α} {T : TypeId} {W : World} {base g n c : Nat} {ys : List α} (h : Own W base E T (.slice (some ⟨g, 0, none⟩) n c) ys) {q : Nat} (hq : q < ys.length) (x : α) {i : Nat} {u : Value} (hi : i < E.k) (hx : E.enc x = (E.enc ys[q]).set i u) :
    Own (W.setCell ⟨g, q * E.k + i, none⟩ u) base E T (.slice (some ⟨g, 0, none⟩) n c) (ys.set q x) := by
  rcases h.2 with ⟨e, _⟩ | ⟨g', cap, cur, e, hb, hh, hnc, hcm, hcs, htk⟩
  · cases e
  · injection e with e1 e2 e3
    injection e1 with e1
    injection e1 with e1 _ _
    subst e1 e2 e3
    have hy : ys = ys.take q ++ ys[q] :: ys.drop (q + 1) := by rw [← List.drop_eq_getElem_cons hq, List.take_append_drop]
    have hs : ys.set q x = ys.take q ++ x :: ys.drop (q + 1) := by
      rw [List.set_eq_take_append_cons_drop, if_pos hq]
    have hcur : cur.toList = cellsE E (ys.take q) ++ E.enc ys[q] ++ (cellsE E (ys.drop (q + 1)) ++ cur.toList.drop (ys.length * E.k)) := by
      have hce : cellsE E ys = cellsE E (ys.take q) ++ (E.enc ys[q] ++ cellsE E (ys.drop (q + 1))) := by
        conv => lhs; rw [hy, cellsE_append, cellsE]
      conv => lhs; rw [← List.take_append_drop (ys.length * E.k) cur.toList, htk, hce]
      simp only [List.append_assoc]
    have hpl : (cellsE E (ys.take q)).length = q * E.k := by rw [cellsE_length, List.length_take, Nat.min_eq_left (by omega)]
    have hb0 : Blk W g T (cellsE E (ys.take q) ++ E.enc ys[q] ++ (cellsE E (ys.drop (q + 1)) ++ cur.toList.drop (ys.length * E.k))).toArray := by
      rw [← hcur]; exact hh
    have hlen : (E.enc ys[q]).length = E.k := E.len _
    have hei : E.enc ys[q] = (E.enc ys[q]).take i ++ [(E.enc ys[q])[i]'(by omega)] ++ (E.enc ys[q]).drop (i + 1) := by
      rw [List.append_assoc, List.singleton_append, ← List.drop_eq_getElem_cons (by omega), List.take_append_drop]
    have hexi : E.enc x = (E.enc ys[q]).take i ++ [u] ++ (E.enc ys[q]).drop (i + 1) := by
      rw [hx, List.set_eq_take_append_cons_drop, if_pos (by omega), List.append_assoc, List.singleton_append]
    have hb2 : Blk W g T ((cellsE E (ys.take q) ++ (E.enc ys[q]).take i) ++ [(E.enc ys[q])[i]'(by omega)] ++ ((E.enc ys[q]).drop (i + 1) ++ (cellsE E (ys.drop (q + 1)) ++ cur.toList.drop (ys.length * E.k)))).toArray := by
      have : (cellsE E (ys.take q) ++ (E.enc ys[q]).take i) ++ [(E.enc ys[q])[i]'(by omega)] ++ ((E.enc ys[q]).drop (i + 1) ++ (cellsE E (ys.drop (q + 1)) ++ cur.toList.drop (ys.length * E.k))) = cellsE E (ys.take q) ++ ((E.enc ys[q]).take i ++ [(E.enc ys[q])[i]'(by omega)] ++ (E.enc ys[q]).drop (i + 1)) ++ (cellsE E (ys.drop (q + 1)) ++ cur.toList.drop (ys.length * E.k)) := by simp only [List.append_assoc]
      rw [this, ← hei]
      exact hb0
    have hb3 := blk_setCells [u] _ [(E.enc ys[q])[i]'(by omega)] _ W (by simp) hb2
    rw [List.length_append, hpl, List.length_take, Nat.min_eq_left (by omega)] at hb3
    have hb1 : Blk (W.setCell ⟨g, q * E.k + i, none⟩ u) g T (cellsE E (ys.take q) ++ E.enc x ++ (cellsE E (ys.drop (q + 1)) ++ cur.toList.drop (ys.length * E.k))).toArray := by
      have : (cellsE E (ys.take q) ++ (E.enc ys[q]).take i) ++ [u] ++ ((E.enc ys[q]).drop (i + 1) ++ (cellsE E (ys.drop (q + 1)) ++ cur.toList.drop (ys.length * E.k))) = cellsE E (ys.take q) ++ ((E.enc ys[q]).take i ++ [u] ++ (E.enc ys[q]).drop (i + 1)) ++ (cellsE E (ys.drop (q + 1)) ++ cur.toList.drop (ys.length * E.k)) := by simp only [List.append_assoc]
      rw [this, ← hexi] at hb3
      exact hb3
    refine ⟨by rw [cellsE_length], .inr ⟨g, c, _, by rw [List.length_set], hb, hb1, by rw [List.length_set]; exact hnc, hcm, ?_, ?_⟩⟩
    · have := congrArg List.length hcur
      simp only [Array.length_toList, List.length_append, E.len] at this
      simp only [List.size_toArray, List.length_append, E.len]
      omega
    · rw [hs]
      have hl : (ys.take q ++ x :: ys.drop (q + 1)).length * E.k = (cellsE E (ys.take q) ++ E.enc x ++ cellsE E (ys.drop (q + 1))).length := by
        rw [← cellsE_length E, cellsE_append, cellsE, List.append_assoc]
      rw [hl, List.toList_toArray, ← List.append_assoc, List.take_left']
      · rw [cellsE_append, cellsE, List.append_assoc]
      · rfl
/-- a row of the call's own that holds something: where it lies -/
theorem own_slot {α : Type} {E : Enc α} {T : TypeId} {W : World} {base n c : Nat} {A : Option Addr} {ys : List α} (h : Own W base E T (.slice A n c) ys) (h0 : 0 < ys.length) :
    ∃ g cur, A = some ⟨g, 0, none⟩ ∧ base ≤ g ∧ Blk W g T cur ∧ ∀ j u, (cellsE E ys)[j]? = some u → W.cell? ⟨g, j, none⟩ = some u := by
  rcases h.2 with ⟨_, h1⟩ | ⟨g, cap, cur, e, hb, hh, hnc, hcm, hcs, htk⟩
  · omega
  · injection e with e1 e2 e3
    subst e1 e2 e3
    refine ⟨g, cur, rfl, hb, hh, fun j u hu => ?_⟩
    rw [show W.cell? ⟨g, j, none⟩ = cur[j]? from cell_of_row W g _ cur T (0, 0) hh]
    have hj := (List.getElem?_eq_some_iff.1 hu).1
    rw [cellsE_length] at hj
    rw [← htk, List.getElem?_take_of_lt (by omega)] at hu
    simpa using hu
theorem own_shape {α : Type} {E : Enc α} {T : TypeId} {W : World} {base n : Nat} {v : Value} {l : List α} (h : Own W base E T v l) (hn : l.length = n) : ∃ A c, v = .slice A n c := by
  obtain ⟨A, c, e, _⟩ := own_lst h
  exact ⟨A, c, by rw [← hn]; exact e⟩
theorem own_lst2 {α : Type} {E : Enc α} {T : TypeId} {W : World} {base n c : Nat} {A : Option Addr} {l : List α} (h : Own W base E T (.slice A n c) l) : Lst W (fun i => base ≤ i ∧ (Value.slice A n c).ownBlock = some i) E A l := by
  obtain ⟨A', c', e, hl, _⟩ := own_lst h
  injection e with e1 _ _
  subst e1
  exact hl
theorem own_cap {α : Type} {E : Enc α} {T : TypeId} {W : World} {base n c : Nat} {A : Option Addr} {l : List α} (h : Own W base E T (.slice A n c) l) : n = l.length ∧ n ≤ c ∧ c ≤ maxLen ∧ (A = none → c = 0) := by
  obtain ⟨A', c', e, _, h1, h2, h3⟩ := own_lst h
  injection e with e1 e2 e3
  subst e1 e2 e3
  exact ⟨rfl, h1, h2, h3⟩
end Go.Proofs.Ytpggnklbgkdjcaa
