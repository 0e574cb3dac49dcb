/- Plain facts on rows of keys and values: where a key stands, what rows are with one put, and one cut; nothing of the program is named here. Rows of keys and values that lie somewhere, by text ..Enc. The library's Clone at rows of keys and values. A message: plain, and as a value. Rows of messages that lie somewhere: text ..Enc's words at them; the library's Clone at them; slices of them. -/
import Derived.Test.YtdjmjckmbclhiaaJ01
import Derived.LoopTactic
import Derived.Deep.LoopGhost
import Derived.Deep.Slices
import Derived.ChangeArms
import Derived.Laws.Cover1
import Derived.WalkKit
set_option maxRecDepth 4000
namespace Go.Proofs.Ytdjmjckmbclhiaa
open Go

/-- a key and its value -/
abbrev Rw := ByteArray × ByteArray
/-- the first place whose key is not ahead of k -/
def findR : List Rw → ByteArray → Nat
  | [], _ => 0
  | x :: r, k => if 0 ≤ cmpS x.1 k then 0 else findR r k + 1
/-- is its key k? -/
def foundR : List Rw → ByteArray → Bool
  | [], _ => false
  | x :: r, k => if 0 ≤ cmpS x.1 k then decide (cmpS x.1 k = 0) else foundR r k
/-- the first place behind what putR puts -/
def behR (l : List Rw) (k : ByteArray) : Nat := if foundR l k then findR l k + 1 else findR l k
def putR (l : List Rw) (r : Rw) : List Rw := l.take (findR l r.1) ++ r :: l.drop (behR l r.1)
def cutRw (l : List Rw) (k : ByteArray) : List Rw := if foundR l k then l.take (findR l k) ++ l.drop (findR l k + 1) else l
def risesR : List Rw → Bool
  | [] => true
  | [_] => true
  | x :: y :: r => decide (cmpS x.1 y.1 < 0) && risesR (y :: r)

theorem findR_le (l : List Rw) (k : ByteArray) : findR l k ≤ l.length := by
  induction l with
  | nil => simp [findR]
  | cons x r ih => rw [findR]; split <;> simp; omega
theorem foundR_lt {l : List Rw} {k : ByteArray} (h : foundR l k = true) : findR l k < l.length := by
  induction l with
  | nil => simp [foundR] at h
  | cons x r ih =>
    rw [foundR] at h
    rw [findR]
    split
    · simp
    · rename_i hn
      rw [if_neg hn] at h
      have := ih h
      simp; omega
theorem behR_le (l : List Rw) (k : ByteArray) : behR l k ≤ l.length := by
  unfold behR
  split
  · rename_i h; exact foundR_lt h
  · exact findR_le l k
/-- on from place j, all ahead of which were ahead of k -/
theorem find_at {l : List Rw} {k : ByteArray} {j : Nat} (h : j < l.length) (hn : 0 ≤ cmpS l[j].1 k) : findR (l.drop j) k = 0 ∧ foundR (l.drop j) k = decide (cmpS l[j].1 k = 0) := by
  rw [List.drop_eq_getElem_cons h, findR, foundR, if_pos hn, if_pos hn]
  exact ⟨rfl, rfl⟩
theorem find_on {l : List Rw} {k : ByteArray} {j : Nat} (h : j < l.length) (hn : ¬ 0 ≤ cmpS l[j].1 k) : findR (l.drop j) k = findR (l.drop (j + 1)) k + 1 ∧ foundR (l.drop j) k = foundR (l.drop (j + 1)) k := by
  rw [List.drop_eq_getElem_cons h, findR, foundR, if_neg hn, if_neg hn]
  exact ⟨rfl, rfl⟩
theorem rises_at {l : List Rw} {j : Nat} (h : j + 1 < l.length) (hj : risesR l = risesR (l.drop j)) :
    (cmpS l[j].1 l[j + 1].1 < 0 → risesR l = risesR (l.drop (j + 1))) ∧ (¬ cmpS l[j].1 l[j + 1].1 < 0 → risesR l = false) := by
  rw [hj, List.drop_eq_getElem_cons (show j < l.length by omega), List.drop_eq_getElem_cons h, risesR]
  constructor
  · intro hc; rw [decide_eq_true hc]; rfl
  · intro hc; rw [decide_eq_false hc]; rfl
theorem rises_end {l : List Rw} {j : Nat} (h : ¬ j + 1 < l.length) (hj : risesR l = risesR (l.drop j)) : risesR l = true := by
  rw [hj]
  match hd : l.drop j, show (l.drop j).length ≤ 1 by rw [List.length_drop]; omega with
  | [], _ => rfl
  | [_], _ => rfl

/-- what was put is found where it was put -/
theorem find_put (l : List Rw) (r : Rw) : findR (putR l r) r.1 = findR l r.1 ∧ foundR (putR l r) r.1 = true := by
  have hz : cmpS r.1 r.1 = 0 := (cmpS_eq _ _).2 rfl
  have key : ∀ (l : List Rw) (t : List Rw), findR (l.take (findR l r.1) ++ r :: t) r.1 = findR l r.1 ∧ foundR (l.take (findR l r.1) ++ r :: t) r.1 = true := by
    intro l t
    induction l with
    | nil => simp [findR, foundR, hz]
    | cons x q ih =>
      by_cases h : 0 ≤ cmpS x.1 r.1
      · simp [findR, foundR, h, hz]
      · simp only [findR, if_neg h, List.take_succ_cons, List.cons_append, foundR]
        exact ⟨by rw [ih.1], ih.2⟩
  exact key l _
theorem take_put (l : List Rw) (r : Rw) : (putR l r).take (findR l r.1) = l.take (findR l r.1) := by
  unfold putR
  rw [List.take_append_of_le_length (by rw [List.length_take]; have := findR_le l r.1; omega), List.take_of_length_le (by rw [List.length_take]; omega)]
theorem drop_put (l : List Rw) (r : Rw) : (putR l r).drop (findR l r.1 + 1) = l.drop (behR l r.1) := by
  unfold putR
  have hl : (l.take (findR l r.1)).length = findR l r.1 := by rw [List.length_take]; have := findR_le l r.1; omega
  rw [List.drop_append, List.drop_of_length_le (by omega), hl]
  simp
theorem put_twice (l : List Rw) (r : Rw) : putR (putR l r) r = putR l r := by
  obtain ⟨h1, h2⟩ := find_put l r
  have hb : behR (putR l r) r.1 = findR l r.1 + 1 := by rw [behR, h2, h1]; rfl
  rw [putR, h1, hb, take_put, drop_put]
  rfl
theorem put_len (l : List Rw) (r : Rw) : (putR l r).length = if foundR l r.1 then l.length else l.length + 1 := by
  have h1 := findR_le l r.1
  have h2 := behR_le l r.1
  unfold putR
  rw [List.length_append, List.length_cons, List.length_take, List.length_drop]
  unfold behR at *
  by_cases h : foundR l r.1
  · have := foundR_lt h
    rw [if_pos h] at *
    rw [if_pos h] at *
    omega
  · rw [if_neg h] at *
    rw [if_neg h] at *
    omega
theorem cut_put (l : List Rw) (r : Rw) : cutRw (putR l r) r.1 = l.take (findR l r.1) ++ l.drop (behR l r.1) := by
  obtain ⟨h1, h2⟩ := find_put l r
  rw [cutRw, h2, h1, take_put, drop_put]
  rfl
theorem cut_put_new {l : List Rw} {r : Rw} (h : foundR l r.1 = false) : cutRw (putR l r) r.1 = l := by
  rw [cut_put, behR, h]
  exact List.take_append_drop _ _
theorem cut_put_len {l : List Rw} {r : Rw} (h : foundR l r.1 = true) : (cutRw (putR l r) r.1).length + 1 = l.length := by
  have h1 := foundR_lt h
  rw [cut_put, behR, h, List.length_append, List.length_take, List.length_drop]
  simp only [if_true]
  omega
theorem cut_len (l : List Rw) (k : ByteArray) : (cutRw l k).length = if foundR l k then l.length - 1 else l.length := by
  unfold cutRw
  by_cases h : foundR l k
  · have := foundR_lt h
    rw [if_pos h, if_pos h, List.length_append, List.length_take, List.length_drop]
    omega
  · rw [if_neg h, if_neg h]
theorem cut_at {l : List Rw} {k : ByteArray} (h : foundR l k = true) : cutRw l k = l.take (findR l k) ++ l.drop (findR l k + 1) := by rw [cutRw, if_pos h]
theorem put_beh (l : List Rw) (r : Rw) : putR l r = l.take (findR l r.1) ++ [r] ++ l.drop (behR l r.1) := by rw [putR, List.append_assoc]; rfl
end Go.Proofs.Ytdjmjckmbclhiaa
namespace Go.Proofs.Ytdjmjckmbclhiaa
open Go.RowKit
def eR : Enc Rw := ⟨fun r => [.string r.1, .string r.2], 2, by omega, fun _ => rfl, fun _ v hv => by simp at hv; rcases hv with rfl | rfl <;> rfl⟩
theorem Lst.atR {w : World} {K : Nat → Prop} {A : Option Addr} {l : List Rw} (h : Lst w K eR A l) {j : Nat} (hj : j < l.length) :
    ∃ b o, A = some ⟨b, o, none⟩ ∧ b < w.heap.size ∧ w.cell? ⟨b, o + j * 2, none⟩ = some (.string l[j].1) ∧ w.cell? ⟨b, o + j * 2 + 1, none⟩ = some (.string l[j].2) := by
  obtain ⟨b, o, e, hl, hc⟩ := h.at_ hj
  exact ⟨b, o, e, hl, hc 0 _ rfl, hc 1 _ rfl⟩
theorem tyR : RowTy eR 43 33 := ⟨Try.underlying33, .agg #[.string ⟨#[]⟩, .string ⟨#[]⟩], 32, by kernel_rfl, rfl, by omega⟩
abbrev OwnR (w : World) (base : Nat) (v : Value) (l : List Rw) : Prop := Own w base eR 43 v l
end Go.Proofs.Ytdjmjckmbclhiaa
namespace Go.Proofs.Ytdjmjckmbclhiaa
open Go.RowKit
set_option maxHeartbeats 400000 in
theorem clone_r {w : World} {K : Nat → Prop} {A : Option Addr} {n c : Nat} {l : List Rw} (h : Lst w K eR A l) (hl : l.length = n) (hn : n ≤ 100000) (hA : A = none → c = 0) :
    Calls Try.prog 36 #[.slice A n c] w fun e w' => ∃ v, e = .returned v ∧ OwnR w' w.heap.size v l ∧ Below w.heap.size w w' := by
  rcases A with _ | a
  · have hc := hA rfl
    have hx : l = [] := h.none_
    subst hx
    simp only [List.length_nil] at hl
    subst hc hl
    clear h hA
    have hnil := fun (W : World) => Lib.run_eql_slice_nil (P := Try.prog) W 33 43 none 0 0 0 0 Try.underlying33
    simp only [Option.isNone_none] at hnil
    go_enter Try.func36, Try.ntmps36
    go_wp2
    go_ret
    exact ⟨_, rfl, own_nil _ _, Below.refl _ _⟩
  · have hnil := fun (W : World) => Lib.run_eql_slice_nil (P := Try.prog) W 33 43 (some a) n c 0 0 Try.underlying33
    simp only [Option.isNone_some] at hnil
    obtain ⟨v', W', hap, ho, hg, hat⟩ := append_own tyR (own_empty w w.heap.size (Nat.le_refl _)) (h.below (alloc_below w (.cells #[] 43))) hl c (by show 0 + n ≤ _; omega) (by simp)
    rw [List.nil_append] at ho
    have hbel : Below w.heap.size w W' := ((Below.refl _ _).alloc (Nat.le_refl _) _).grown hg (by simp) (by intro k hk; simp [Value.ownBlock] at hk; omega)
    have HBE := Lib.hid hbel
    have HO := Lib.hid ho
    clear ho hg hat hbel h hA hl
    go_enter Try.func36, Try.ntmps36
    go_wp2_with (at_builtin; refine wpList_append_run rfl (.tmp 5) (.tmp 6) 33 33 rfl _ _ rfl rfl hap ?_)
    go_ret
    exact ⟨_, rfl, HO.out, HBE.out⟩
end Go.Proofs.Ytdjmjckmbclhiaa
namespace Go.Proofs.Ytdjmjckmbclhiaa
/-- a message -/
structure Mg where
  id : Int
  pri : Int
  retry : Int
  claimed : Bool
  corr : ByteArray
  body : ByteArray
def Mg.zero : Mg := ⟨0, 0, 0, false, ⟨#[]⟩, ⟨#[]⟩⟩
/-- its numbers are an int's -/
def Mg.fits (m : Mg) : Prop := (-9223372036854775808 ≤ m.id ∧ m.id ≤ 9223372036854775807) ∧ (-9223372036854775808 ≤ m.pri ∧ m.pri ≤ 9223372036854775807) ∧ (-9223372036854775808 ≤ m.retry ∧ m.retry ≤ 9223372036854775807)
abbrev Mg.cells (m : Mg) : Array Value := #[.int .i64 m.id, .int .i64 m.pri, .int .i64 m.retry, .bool m.claimed, .string m.corr, .string m.body]
abbrev Mg.val (m : Mg) : Value := .agg m.cells
end Go.Proofs.Ytdjmjckmbclhiaa
namespace Go.Proofs.Ytdjmjckmbclhiaa
open Go.RowKit
def eM : Enc Mg := ⟨fun m => [.int .i64 m.id, .int .i64 m.pri, .int .i64 m.retry, .bool m.claimed, .string m.corr, .string m.body], 6, by omega, fun _ => rfl, fun _ v hv => by simp at hv; rcases hv with rfl | rfl | rfl | rfl | rfl | rfl <;> rfl⟩
theorem Lst.atM {w : World} {K : Nat → Prop} {A : Option Addr} {l : List Mg} (h : Lst w K eM A l) {j : Nat} (hj : j < l.length) :
    ∃ b o, A = some ⟨b, o, none⟩ ∧ b < w.heap.size ∧ w.cell? ⟨b, o + j * 6, none⟩ = some (.int .i64 l[j].id) ∧ w.cell? ⟨b, o + j * 6 + 1, none⟩ = some (.int .i64 l[j].pri) ∧ w.cell? ⟨b, o + j * 6 + 2, none⟩ = some (.int .i64 l[j].retry) ∧
      w.cell? ⟨b, o + j * 6 + 3, none⟩ = some (.bool l[j].claimed) ∧ w.cell? ⟨b, o + j * 6 + 4, none⟩ = some (.string l[j].corr) ∧ w.cell? ⟨b, o + j * 6 + 5, none⟩ = some (.string l[j].body) := by
  obtain ⟨b, o, e, hl, hc⟩ := h.at_ hj
  exact ⟨b, o, e, hl, hc 0 _ rfl, hc 1 _ rfl, hc 2 _ rfl, hc 3 _ rfl, hc 4 _ rfl, hc 5 _ rfl⟩
theorem Lst.atMs {w : World} {K : Nat → Prop} {b o : Nat} {l : List Mg} (h : Lst w K eM (some ⟨b, o, none⟩) l) {j : Nat} (hj : j < l.length) :
    b < w.heap.size ∧ w.cell? ⟨b, o + j * 6, none⟩ = some (.int .i64 l[j].id) ∧ w.cell? ⟨b, o + j * 6 + 1, none⟩ = some (.int .i64 l[j].pri) ∧ w.cell? ⟨b, o + j * 6 + 2, none⟩ = some (.int .i64 l[j].retry) ∧
      w.cell? ⟨b, o + j * 6 + 3, none⟩ = some (.bool l[j].claimed) ∧ w.cell? ⟨b, o + j * 6 + 4, none⟩ = some (.string l[j].corr) ∧ w.cell? ⟨b, o + j * 6 + 5, none⟩ = some (.string l[j].body) := by
  obtain ⟨b', o', e, hl, hc⟩ := h.atM hj
  injection e with e
  injection e with e1 e2
  subst e1 e2
  exact ⟨hl, hc⟩
theorem tyM : RowTy eM 38 34 := ⟨Try.underlying34, .agg #[.int .i64 0, .int .i64 0, .int .i64 0, .bool false, .string ⟨#[]⟩, .string ⟨#[]⟩], 64, by kernel_rfl, rfl, by omega⟩
theorem infoM : (Try.prog.info? 38).map (fun i => (i.zero, i.size, i.bytes)) = some (some (.agg #[.int .i64 0, .int .i64 0, .int .i64 0, .bool false, .string ⟨#[]⟩, .string ⟨#[]⟩]), 6, 64) := by kernel_rfl
abbrev OwnM (w : World) (base : Nat) (v : Value) (l : List Mg) : Prop := Own w base eM 38 v l
set_option maxHeartbeats 400000 in
theorem clone_m {w : World} {K : Nat → Prop} {A : Option Addr} {n c : Nat} {l : List Mg} (h : Lst w K eM A l) (hl : l.length = n) (hn : n ≤ 100000) (hA : A = none → c = 0) :
    Calls Try.prog 37 #[.slice A n c] w fun e w' => ∃ v, e = .returned v ∧ OwnM w' w.heap.size v l ∧ Below w.heap.size w w' := by
  rcases A with _ | a
  · have hc := hA rfl
    have hx : l = [] := h.none_
    subst hx
    simp only [List.length_nil] at hl
    subst hc hl
    clear h hA
    have hnil := fun (W : World) => Lib.run_eql_slice_nil (P := Try.prog) W 34 38 none 0 0 0 0 Try.underlying34
    simp only [Option.isNone_none] at hnil
    go_enter Try.func37, Try.ntmps37
    go_wp2
    go_ret
    exact ⟨_, rfl, own_nil _ _, Below.refl _ _⟩
  · have hnil := fun (W : World) => Lib.run_eql_slice_nil (P := Try.prog) W 34 38 (some a) n c 0 0 Try.underlying34
    simp only [Option.isNone_some] at hnil
    obtain ⟨v', W', hap, ho, hg, hat⟩ := append_own tyM (own_empty w w.heap.size (Nat.le_refl _)) (h.below (alloc_below w (.cells #[] 38))) hl c (by show 0 + n ≤ _; omega) (by simp)
    rw [List.nil_append] at ho
    have hbel : Below w.heap.size w W' := ((Below.refl _ _).alloc (Nat.le_refl _) _).grown hg (by simp) (by intro k hk; simp [Value.ownBlock] at hk; omega)
    have HBE := Lib.hid hbel
    have HO := Lib.hid ho
    clear ho hg hat hbel h hA hl
    go_enter Try.func37, Try.ntmps37
    go_wp2_with (at_builtin; refine wpList_append_run rfl (.tmp 5) (.tmp 6) 34 34 rfl _ _ rfl rfl hap ?_)
    go_ret
    exact ⟨_, rfl, HO.out, HBE.out⟩
theorem elemM : Try.prog.elem 34 = 38 := by simp [Program.elem, Try.underlying34]
theorem sizeM (w : World) : (Go.sizeOf 38).run Try.prog w = .ok 6 w := by kernel_rfl
theorem head_m (A : Option Addr) (l c q : Nat) (h : q ≤ c) (W : World) : (Instr.slice 34 (.slice A l c) none (some (.int .i64 (q : Int))) none).run Try.prog W = .ok (.slice A q c) W := by
  rw [run_slice_h W 34 _ _ _ (by rw [elemM]; exact Try.underlying34) .i64 _ (by omega) (by omega), elemM, sizeM]
  simp [Result.andThen, sliced]
  cases A <;> simp [Addr.add]
/-- messages from place q on -/
theorem tail_m {w : World} {K : Nat → Prop} {A : Option Addr} {xs : List Mg} {n c : Nat} (h : Lst w K eM A xs) (hl : xs.length = n) (hc : n ≤ c) {q m : Nat} (hq : q ≤ n) (hm : n - q = m) :
    ∃ A', (∀ W, (Instr.slice 34 (.slice A n c) (some (.int .i64 (q : Int))) none none).run Try.prog W = .ok (.slice A' m (c - q)) W) ∧ Lst w K eM A' (xs.drop q) ∧ (A' = none → A = none) := by
  subst hl hm
  refine ⟨_, fun W => ?_, h.drop (k := q) hc, fun e => by split at e <;> simpa using e⟩
  rw [run_slice_l W 34 _ _ _ (by rw [elemM]; exact Try.underlying34) .i64 _ (by omega) (by omega), elemM, sizeM]
  rfl
end Go.Proofs.Ytdjmjckmbclhiaa
