/- What the calls of package rows answer: Get, Range, Right; package order's In. -/
import Derived.Test.YtahfjdilfnjppaaRwB
import Derived.Test.YtahfjdilfnjppaaCat
import Derived.Test.YtahfjdilfnjppaaNodeF
import Derived.RegionTactic
import Derived.Deep.QuietTactic
import Derived.BigQuiet
import Derived.Lib.Strings
set_option maxRecDepth 4000
namespace Go.Proofs.Ytahfjdilfnjppaa
open Go.RowKit
theorem retBr {a b : Bool} (h : a = b) : Ending.returned (.bool a) = .returned (.bool b) := by rw [h]
theorem in_ (k f t : ByteArray) (w : World) : Calls Try.prog 11 #[.string k, .string f, .string t] w fun e w' => e = .returned (.bool (inS k f t)) ∧ w = w' := by
  go_enter Try.func11, Try.ntmps11
  go_wp2_with (go_at_call 13; refine (keys_ _ _ _).mono ?_; rintro e w' ⟨rfl, rfl⟩)
  · rename_i h
    go_ret
    exact ⟨retBr (by rw [inS, decide_eq_false (by omega)]; rfl), rfl⟩
  · rename_i h1 h2
    go_ret
    exact ⟨retBr (by rw [inS, decide_eq_true h1, h2]; rfl), rfl⟩
  · rename_i h1 _
    go_ret
    exact ⟨retBr (by simp [inS, h1]), rfl⟩
/-- all rows that are in -/
def rangeR (l : List Rw) (f t : ByteArray) : List Rw := l.filter fun r => inS r.1 f t
theorem range_take {l : List Rw} {f t : ByteArray} {j : Nat} (h : j < l.length) : rangeR (l.take (j + 1)) f t = if inS l[j].1 f t then rangeR (l.take j) f t ++ [l[j]] else rangeR (l.take j) f t := by
  rw [List.take_succ_eq_append_getElem h, rangeR, List.filter_append]
  by_cases hc : inS l[j].1 f t
  · rw [if_pos hc]; simp [rangeR, hc]
  · rw [if_neg hc]; simp [rangeR, hc]
theorem range_le (l : List Rw) (f t : ByteArray) : (rangeR l f t).length ≤ l.length := List.length_filter_le _ _
/-- one row more behind a row of one's own: its copy lies in a block of its own, and so does what is appended -/
theorem append_copied {W : World} {base : Nat} {u : Value} {l : List Rw} (ho : OwnR W base u l) (hl : l.length ≤ 100000) (hb : base ≤ W.heap.size) (k v : ByteArray) :
    ∃ u' W', (Builtin.append_ #[22, 22] 22 #[u, .slice (some ⟨W.heap.size + 1, 0, none⟩) 1 1]).run Try.prog ((W.alloc (.cells #[.string k, .string v] 31)).alloc (.cells #[.string k, .string v] 31)) = .ok u' W' ∧ OwnR W' base u' (l ++ [(k, v)]) ∧ Below base W W' := by
  have hz : (W.alloc (.cells #[.string k, .string v] 31)).heap.size = W.heap.size + 1 := by simp
  have ha := alloc_below W (.cells #[.string k, .string v] 31)
  have ha2 := alloc_below (W.alloc (.cells #[.string k, .string v] 31)) (.cells #[.string k, .string v] 31)
  have hone := one_lst eR (W.alloc (.cells #[.string k, .string v] 31)) 31 (k, v) (cs := #[.string k, .string v]) rfl
  have ho2 := own_belowE (own_belowE ho ha) ha2
  have hbl : Below base W ((W.alloc (.cells #[.string k, .string v] 31)).alloc (.cells #[.string k, .string v] 31)) := (ha.trans (ha2.mono ha.size)).mono hb
  rw [hz] at hone
  generalize (W.alloc (.cells #[.string k, .string v] 31)).alloc (.cells #[.string k, .string v] 31) = W2 at *
  obtain ⟨v', W', hap, ho', hg, _⟩ := append_own tyR ho2 hone rfl 1 (by show l.length + 1 ≤ _; omega) (Nat.le_trans hb hbl.size)
  exact ⟨v', W', hap, ho', hbl.grown hg (Nat.le_trans hb hbl.size) fun g hg => (own_blk ho2 hg).1⟩
def RangeRel (w : World) (xs : List Rw) (f t : ByteArray) (k : Nat) (v i : Value) (wr : World) : Prop :=
  ∃ j, j + k = xs.length ∧ i = .int .i64 (j : Int) ∧ OwnR wr w.heap.size v (rangeR (xs.take j) f t) ∧ Below w.heap.size w wr
set_option maxHeartbeats 400000 in
theorem range_ {w : World} {K : Nat → Prop} {A : Option Addr} {n c : Nat} {xs : List Rw} (h : Lst w K eR A xs) (hl : xs.length = n) (hn : n ≤ 100000) (f t : ByteArray) :
    Calls Try.prog 6 #[.slice A n c, .string f, .string t] w fun e w' => ∃ v, e = .returned v ∧ OwnR w' w.heap.size v (rangeR xs f t) ∧ Below w.heap.size w w' := by
  have H := Lib.hid h
  have HL := Lib.hid hl
  clear h hl
  go_enter Try.func6, Try.ntmps6
  go_wp2
  go_loopg [7, 12] n (fun k v i wr => RangeRel w xs f t k v i wr)
  case atStart => exact ⟨0, by rw [HL.out]; omega, rfl, own_nil _ _, Below.refl _ _⟩
  case round =>
    obtain ⟨j, hj, rfl, ho, hb⟩ := hrel
    have HJ := Lib.hid hj
    have HO := Lib.hid ho
    have HB := Lib.hid hb
    clear hj ho hb
    by_cases hlt : j < n
    · have hx : j < xs.length := by rw [HL.out]; exact hlt
      obtain ⟨b, o, rfl, hbs, hc, hd⟩ := (H.out.below HB.out).atR hx
      have hst := range_take (f := f) (t := t) hx
      generalize xs[j] = x at *
      obtain ⟨k, v⟩ := x
      simp only at hc hd hst
      by_cases hp : inS k f t = true
      · rw [if_pos hp] at hst
        have hle := range_le (xs.take j) f t
        rw [List.length_take] at hle
        obtain ⟨u', W', hap, ho', hb'⟩ := append_copied HO.out (by omega) HB.out.size k v
        have HO' := Lib.hid (show OwnR W' w.heap.size u' (rangeR (xs.take (j + 1)) f t) by rw [hst]; exact ho')
        have HB' := Lib.hid (HB.out.trans hb')
        clear hst hle ho' hb' HO
        go_wp2_with (first | (go_at_call 11; refine (in_ _ _ _ _).mono ?_; rintro e w' ⟨rfl, rfl⟩; rw [hp]) | (at_builtin; refine wpList_append_run rfl (.tmp 21) (.tmp 23) 22 22 rfl _ _ rfl rfl hap ?_))
        go_roundg (n - (j + 1))
        case measure => have := HJ.out; have := HL.out; omega
        case rel => exact ⟨j + 1, by have := HL.out; omega, by go_num, HO'.out, HB'.out⟩
      · rw [if_neg hp] at hst
        have HS := Lib.hid hst
        clear hst
        simp only [Bool.not_eq_true] at hp
        go_wp2_with (go_at_call 11; refine (in_ _ _ _ _).mono ?_; rintro e w' ⟨rfl, rfl⟩; rw [hp])
        go_roundg (n - (j + 1))
        case measure => have := HJ.out; have := HL.out; omega
        case rel => exact ⟨j + 1, by have := HL.out; omega, by go_num, by rw [HS.out]; exact own_belowE HO.out (alloc_below _ _), HB.out.alloc HB.out.size _⟩
    · have he : j = xs.length := by have := HJ.out; have := HL.out; omega
      have HE := Lib.hid he
      clear he
      go_wp2
      go_ret
      exact ⟨_, rfl, by have := HO.out; rwa [HE.out, List.take_length] at this, HB.out⟩
/-- the value of a key's row -/
def getR (l : List Rw) (k : ByteArray) : ByteArray := if h : foundR l k = true then (l[findR l k]'(foundR_lt h)).2 else ⟨#[]⟩
theorem get_row {w : World} {K : Nat → Prop} {A : Option Addr} {n c : Nat} {xs : List Rw} (h : Lst w K eR A xs) (hl : xs.length = n) (hn : n ≤ 1000000) (k : ByteArray) :
    Calls Try.prog 8 #[.slice A n c, .string k] w fun e w' => e = .returned (.tuple #[.string (getR xs k), .bool (foundR xs k)]) ∧ w = w' := by
  by_cases hf : foundR xs k = true
  · have hq := foundR_lt hf
    have hg : getR xs k = (xs[findR xs k]'hq).2 := dif_pos hf
    obtain ⟨b, o, rfl, _, _, hd⟩ := h.atR hq
    have hfind := find_row (c := c) h.rws hl hn k
    rw [hf, hg] at *
    rw [hl] at hq
    generalize (xs[findR xs k]).2 = v at *
    generalize findR xs k = q at *
    have HF := Lib.hid hfind
    clear hfind h hl hg
    go_enter Try.func8, Try.ntmps8
    go_wp2_with (go_at_call 12; refine HF.out.mono ?_; rintro e w' ⟨rfl, rfl⟩)
    go_ret2
    exact ⟨rfl, rfl⟩
  · have hg : getR xs k = ⟨#[]⟩ := dif_neg hf
    simp only [Bool.not_eq_true] at hf
    have hfind := find_row (c := c) h.rws hl hn k
    rw [hf, hg] at *
    have HF := Lib.hid hfind
    clear hfind h hl hg hf
    go_enter Try.func8, Try.ntmps8
    go_wp2_with (go_at_call 12; refine HF.out.mono ?_; rintro e w' ⟨rfl, rfl⟩)
    go_ret2
    exact ⟨rfl, rfl⟩
theorem size_toList (a : ByteArray) : a.size = a.toList.length := by rw [Lib.toList_data]; simp
/-- may it be a table's row? -/
def rightR (r : Rw) : Bool := decide (1 ≤ r.1.size) && decide (r.1.size ≤ 40) && decide (r.2.size ≤ 100)
theorem right_row (r : Rw) (w : World) : Calls Try.prog 9 #[.agg #[.string r.1, .string r.2]] w fun e w' => e = .returned (.bool (rightR r)) ∧ Below w.heap.size w w' := by
  obtain ⟨k, v⟩ := r
  go_enter Try.func9, Try.ntmps9
  go_wp2
  · rename_i h
    go_ret
    exact ⟨retBr (by simp [rightR, size_toList, h]), alloc_below _ _⟩
  · rename_i h1 h2
    go_ret
    refine ⟨retBr ?_, alloc_below _ _⟩
    have h3 : 1 ≤ k.size := by rcases Nat.eq_zero_or_pos k.size with h0 | h0; exact absurd (List.eq_nil_of_length_eq_zero (by rw [← size_toList]; exact h0)) h1; exact h0
    have h4 : k.toList.isEmpty = false := by simpa using h1
    have h5 : k.size ≤ 40 := by omega
    have h6 : decide ((v.size : Int) ≤ 100) = decide (v.size ≤ 100) := decide_eq_decide.2 (by omega)
    rw [rightR, decide_eq_true h3, decide_eq_true h5, h4, h6]; rfl
  · rename_i h1 h2
    go_ret
    have h5 : ¬ k.size ≤ 40 := by omega
    exact ⟨retBr (by simp [rightR, h5]), alloc_below _ _⟩
end Go.Proofs.Ytahfjdilfnjppaa
