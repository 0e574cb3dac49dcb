/- Words for memory: rows of keys and values that lie somewhere; append of rows behind a row of the call's own. What the library's comparing of texts answers. What the calls of package order that compare keys answer. Do rows rise: package node's Rises. The two sets of words for rows of keys and values are one. Package queue: Find. -/
import Derived.Test.YtdjmjckmbclhiaaProg
import Derived.Test.YtdjmjckmbclhiaaJ01
import Derived.Test.YtdjmjckmbclhiaaJ02
import Derived.WalkKit
import Derived.ProofKit
import Derived.Lib.Hide
import Derived.WalkSpells
import Derived.Maps.AppendAt
import Derived.Laws.Cover1
import Derived.BigQuiet
import Derived.Deep.QuietTactic
import Derived.RegionTactic
import Derived.Deep.LoopGhost
import Derived.Test.YtdjmjckmbclhiaaJ05
set_option maxRecDepth 4000
namespace Go.Proofs.Ytdjmjckmbclhiaa
open Go.RowKit

def cellR (r : Rw) : List Value := [.string r.1, .string r.2]
def cellsR : List Rw → List Value
  | [] => []
  | r :: l => .string r.1 :: .string r.2 :: cellsR l
theorem cellsR_length (l : List Rw) : (cellsR l).length = l.length * 2 := by
  induction l with
  | nil => rfl
  | cons x r ih => simp [cellsR, ih]; omega
theorem cellsR_append (l m : List Rw) : cellsR (l ++ m) = cellsR l ++ cellsR m := by
  induction l with
  | nil => rfl
  | cons x r ih => simp [cellsR, ih]
theorem cellsR_one (l : List Rw) : ∀ v ∈ cellsR l, v.oneCell' = true := by
  induction l with
  | nil => intro v hv; cases hv
  | cons x r ih =>
    intro v hv
    rcases List.mem_cons.1 hv with rfl | hv
    · rfl
    · rcases List.mem_cons.1 hv with rfl | hv
      · rfl
      · exact ih v hv
theorem cellsR_key {l : List Rw} {j : Nat} (h : j < l.length) : (cellsR l)[j * 2]? = some (.string l[j].1) ∧ (cellsR l)[j * 2 + 1]? = some (.string l[j].2) := by
  induction l generalizing j with
  | nil => simp at h
  | cons x r ih =>
    cases j with
    | zero => simp [cellsR]
    | succ j =>
      have := ih (j := j) (by simpa using h)
      rw [show (j + 1) * 2 = j * 2 + 1 + 1 by omega, cellsR]
      simpa using this
theorem cellsR_take (l : List Rw) (k : Nat) : cellsR (l.take k) = (cellsR l).take (k * 2) := by
  induction l generalizing k with
  | nil => simp [cellsR]
  | cons x r ih =>
    cases k with
    | zero => simp [cellsR]
    | succ k =>
      rw [List.take_succ_cons, cellsR, cellsR, ih, show (k + 1) * 2 = k * 2 + 1 + 1 by omega]
      simp
theorem cellsR_drop (l : List Rw) (k : Nat) : cellsR (l.drop k) = (cellsR l).drop (k * 2) := by
  induction l generalizing k with
  | nil => simp [cellsR]
  | cons x r ih =>
    cases k with
    | zero => simp
    | succ k =>
      rw [List.drop_succ_cons, cellsR, ih, show (k + 1) * 2 = k * 2 + 1 + 1 by omega]
      simp

/-- the slice of address A holds these rows, in a block of which K says so -/
def Rws (w : World) (K : Nat → Prop) (A : Option Addr) (l : List Rw) : Prop :=
  0 < l.length → ∃ b o, A = some ⟨b, o, none⟩ ∧ K b ∧ b < w.heap.size ∧ ∀ j u, (cellsR l)[j]? = some u → w.cell? ⟨b, o + j, none⟩ = some u
section
variable {w w' : World} {K K' : Nat → Prop} {A : Option Addr} {l : List Rw}
theorem Rws.nil (w : World) (K : Nat → Prop) (A : Option Addr) : Rws w K A [] := fun h => absurd h (by simp)
theorem Rws.keep (h : Rws w K A l) (k : Keep (fun i _ => K i) w w') : Rws w' K A l := fun h0 => by
  obtain ⟨b, o, e, hk, hb, hc⟩ := h h0
  have hbl : w'.heap[b]? = w.heap[b]? := by
    rw [Array.getElem?_eq_getElem hb]
    exact k.block b _ (Array.getElem?_eq_getElem hb) hk
  exact ⟨b, o, e, hk, Nat.lt_of_lt_of_le hb k.size, fun j x hx => (cell_of_heap hbl _).trans (hc j x hx)⟩
theorem Rws.below (h : Rws w K A l) (k : Below w.heap.size w w') : Rws w' K A l := fun h0 => by
  obtain ⟨b, o, e, hk, hb, hc⟩ := h h0
  exact ⟨b, o, e, hk, Nat.lt_of_lt_of_le hb k.size, fun j x hx => (cell_of_heap (k.block b hb) _).trans (hc j x hx)⟩
theorem Rws.more (h : Rws w K A l) (hk : ∀ i, i < w.heap.size → K i → K' i) : Rws w K' A l := fun h0 => by
  obtain ⟨b, o, e, hb, hl, hc⟩ := h h0
  exact ⟨b, o, e, hk b hl hb, hl, hc⟩
theorem Rws.drew (h : Rws w K A l) : Rws w.drew K A l := h
theorem Rws.take (h : Rws w K A l) (k : Nat) : Rws w K A (l.take k) := fun h0 => by
  obtain ⟨b, o, e, hk, hb, hc⟩ := h (by rw [List.length_take] at h0; omega)
  refine ⟨b, o, e, hk, hb, fun j x hx => hc j x ?_⟩
  rw [cellsR_take, List.getElem?_take] at hx
  split at hx
  · exact hx
  · cases hx
theorem Rws.drop (h : Rws w K A l) {k c : Nat} (hc : l.length ≤ c) : Rws w K (if c = k then A else A.map (·.add (k * 2))) (l.drop k) := fun h0 => by
  rw [List.length_drop] at h0
  obtain ⟨b, o, e, hk, hb, hcell⟩ := h (by omega)
  rw [if_neg (by omega), e]
  refine ⟨b, o + k * 2, ?_, hk, hb, fun j x hx => ?_⟩
  · rw [Option.map_some, add_none]
  · rw [Nat.add_assoc]
    exact hcell _ x (by rw [← hx, cellsR_drop, List.getElem?_drop])
/-- the cells of the j-th row -/
theorem Rws.at_ (h : Rws w K A l) {j : Nat} (hj : j < l.length) :
    ∃ b o, A = some ⟨b, o, none⟩ ∧ w.cell? ⟨b, o + j * 2, none⟩ = some (.string l[j].1) ∧ w.cell? ⟨b, o + j * 2 + 1, none⟩ = some (.string l[j].2) := by
  obtain ⟨b, o, e, _, hb, hc⟩ := h (by omega)
  obtain ⟨h1, h2⟩ := cellsR_key hj
  exact ⟨b, o, e, hc _ _ h1, by rw [Nat.add_assoc]; exact hc _ _ h2⟩
end
theorem rws_one (w : World) (r : Rw) : Rws (w.alloc (.cells #[.string r.1, .string r.2] 43)) (fun i => w.heap.size ≤ i) (some ⟨w.heap.size, 0, none⟩) [r] := fun _ =>
  ⟨_, 0, rfl, Nat.le_refl _, by simp, fun j u hu => by rw [(Blk.new w 43 _).cell, Nat.zero_add]; simpa [cellsR] using hu⟩

theorem infoRow : (Try.prog.info? 43).map (fun i => (i.zero, i.size, i.bytes)) = some (some (.agg #[.string ⟨#[]⟩, .string ⟨#[]⟩]), 2, 32) := by kernel_rfl
theorem infoRows : (Try.prog.info? 33).map (fun i => (i.zero, i.size, i.bytes)) = some (some (.slice none 0 0), 1, 24) := by kernel_rfl
/-- rows behind rows of the call's own -/
theorem append_rws {W : World} {base : Nat} {v : Value} {n : Nat} {ys : List Rw} (hown : W.ownsRow base 43 2 v n (cellsR ys)) {K : Nat → Prop} {A : Option Addr} {m : Nat} {xs : List Rw} (hr : Rws W K A xs) (hm : xs.length = m) (c : Nat)
    (hb : n + m ≤ 1000000) (hbase : base ≤ W.heap.size) : ∃ v' W', (Builtin.append_ #[33, 33] 33 #[v, .slice A m c]).run Try.prog W = .ok v' W' ∧ W'.ownsRow base 43 2 v' (n + m) (cellsR (ys ++ xs)) ∧ W.grownBy W' v.ownBlock ∧
      (v'.ownBlock = v.ownBlock ∨ v'.ownBlock = some W.heap.size) := by
  obtain ⟨i0, hi, hz0, hz1, hz2⟩ := info_parts infoRow
  subst hm
  rcases A with _ | a
  · have hx : xs = [] := by
      rcases Nat.eq_zero_or_pos xs.length with h0 | h0
      · exact List.eq_nil_of_length_eq_zero h0
      · obtain ⟨_, _, h, _⟩ := hr h0
        cases h
    subst hx
    refine ⟨v, W, ?_, by simpa using hown, World.grownBy.refl W _, .inl rfl⟩
    rcases hown.2 with ⟨rfl, rfl⟩ | ⟨g, cap, cur, rfl, _, _, hnc, _⟩
    · simp [Builtin.append_, run_underlying Try.underlying33, sizeOf, typeInfo, hi, Builtin.lenOf, Builtin.firstCells]
    · simp [Builtin.append_, run_underlying Try.underlying33, sizeOf, typeInfo, hi, Builtin.lenOf, Builtin.firstCells, hnc, storeCells]
  · have hcells : ∀ j u, (cellsR xs)[j]? = some u → W.cell? (a.add j) = some u := by
      intro j u hu
      have hj := (List.getElem?_eq_some_iff.1 hu).1
      rw [cellsR_length] at hj
      obtain ⟨b, o, h, _, _, hcell⟩ := hr (by omega)
      injection h with h
      subst h
      rw [add_none]
      exact hcell j u hu
    obtain ⟨v', w', hrun, h2, h3, _, h5⟩ := run_append_own_at (P := Try.prog) W base 33 33 43 i0 _ 2 32 Try.underlying33 hi hz0 hz1 hz2 rfl (by omega) v n (cellsR ys) hown a xs.length c (cellsR xs) (cellsR_length xs) hcells (cellsR_one _) (by unfold maxLen; omega) (by omega) hbase
    exact ⟨v', w', hrun, by rw [cellsR_append]; exact h2, h3, h5⟩
theorem own_rws {W : World} {base : Nat} {v : Value} {n : Nat} {ys : List Rw} (hown : W.ownsRow base 43 2 v n (cellsR ys)) : ∃ A c, v = .slice A n c ∧ Rws W (fun i => base ≤ i) A ys ∧ ys.length = n ∧ n ≤ c ∧ c ≤ maxLen ∧ (A = none → c = 0) := by
  have hl : ys.length = n := by have := hown.1; rw [cellsR_length] at this; omega
  rcases hown.2 with ⟨rfl, rfl⟩ | ⟨g, cap, cur, rfl, hb, hh, hnc, hcm, hcs, htk⟩
  · exact ⟨none, 0, rfl, fun h => absurd h (by omega), hl, Nat.le_refl _, by unfold maxLen; omega, fun _ => rfl⟩
  · refine ⟨_, cap, rfl, fun _ => ⟨g, 0, rfl, hb, lt_of_some hh, fun j x hx => ?_⟩, hl, hnc, hcm, fun h => by cases h⟩
    rw [show W.cell? ⟨g, 0 + j, none⟩ = cur[0 + j]? from cell_of_row W g _ cur 43 (0, 0) hh, Nat.zero_add]
    have hj := (List.getElem?_eq_some_iff.1 hx).1
    rw [cellsR_length] at hj
    rw [← htk, List.getElem?_take_of_lt (by omega)] at hx
    simpa using hx
theorem empty_rws (W : World) (base : Nat) (hb : base ≤ W.heap.size) : (W.alloc (.cells #[] 43)).ownsRow base 43 2 (.slice (some ⟨W.heap.size, 0, none⟩) 0 0) 0 (cellsR []) :=
  ⟨rfl, .inr ⟨W.heap.size, 0, #[], rfl, hb, Blk.new W 43 #[], Nat.le_refl _, by unfold maxLen; omega, rfl, rfl⟩⟩
end Go.Proofs.Ytdjmjckmbclhiaa
namespace Go.Proofs.Ytdjmjckmbclhiaa
open Go.RowKit

theorem retIk {a b : Int} (h : a = b) : Ending.returned (.int .i64 a) = .returned (.int .i64 b) := by rw [h]
theorem retBk {a b : Bool} (h : a = b) : Ending.returned (.bool a) = .returned (.bool b) := by rw [h]

theorem cmpS_lt {a b : ByteArray} (h : Op.bytesLess a.toList b.toList = true) : cmpS a b = -1 := by
  rw [cmpL_less] at h; exact of_decide_eq_true h
theorem cmpS_zero {a b : ByteArray} (h : (!a.toList == b.toList) = false) : cmpS a b = 0 := by
  simp at h; rw [cmpS, cmpL_eq]; exact h
theorem cmpS_gt {a b : ByteArray} (h : Op.bytesLess a.toList b.toList = false) (h2 : (!a.toList == b.toList) = true) : cmpS a b = 1 := by
  rw [cmpL_less] at h
  have h1 := of_decide_eq_false h
  have h3 : ¬ cmpL a.toList b.toList = 0 := by rw [cmpL_eq]; simpa using h2
  have := cmpL_range a.toList b.toList
  unfold cmpS; omega

theorem nanS (a : ByteArray) (w : World) : Calls Try.prog 60 #[.string a] w fun e w' => e = .returned (.bool false) ∧ w = w' := by
  go_enter Try.func60, Try.ntmps60
  go_wp2
  go_ret
  exact ⟨by simp, rfl⟩
theorem compareS (a b : ByteArray) (w : World) : Calls Try.prog 43 #[.string a, .string b] w fun e w' => e = .returned (.int .i64 (cmpS a b)) ∧ w = w' := by
  go_enter Try.func43, Try.ntmps43
  go_wp2_with (go_at_call 60; refine (nanS _ _).mono ?_; rintro e w' ⟨rfl, rfl⟩)
  all_goals go_ret
  all_goals refine ⟨?_, rfl⟩
  · exact retIk (cmpS_lt (by assumption)).symm
  · exact retIk (cmpS_gt (by assumption) (by assumption)).symm
  · exact retIk (cmpS_zero (by assumption)).symm
end Go.Proofs.Ytdjmjckmbclhiaa
namespace Go.Proofs.Ytdjmjckmbclhiaa
open Go.RowKit
theorem keys_ (a b : ByteArray) (w : World) : Calls Try.prog 32 #[.string a, .string b] w fun e w' => e = .returned (.int .i64 (cmpS a b)) ∧ w = w' := by
  go_enter Try.func32, Try.ntmps32
  go_wp2_with (go_at_call 43; refine (compareS _ _ _).mono ?_; rintro e w' ⟨rfl, rfl⟩)
  go_ret
  exact ⟨rfl, rfl⟩
end Go.Proofs.Ytdjmjckmbclhiaa
namespace Go.Proofs.Ytdjmjckmbclhiaa
open Go.RowKit
def RiseRn (w : World) (xs : List Rw) (k : Nat) (i : Value) (wr : World) : Prop := ∃ j, j + k = xs.length ∧ i = .int .i64 ((j : Int) + 1) ∧ risesR xs = risesR (xs.drop j) ∧ Below w.heap.size w wr
set_option maxHeartbeats 400000 in
theorem rises_n {w : World} {K : Nat → Prop} {A : Option Addr} {n c : Nat} {xs : List Rw} (h : Rws w K A xs) (hn : xs.length = n) (hm : n ≤ 1000000) :
    Calls Try.prog 44 #[.slice A n c] w fun e w' => e = .returned (.bool (risesR xs)) ∧ Below w.heap.size w w' := by
  have H := Lib.hid h
  have HN := Lib.hid hn
  clear h hn
  go_enter Try.func44, Try.ntmps44
  go_wp2
  go_loopg [3] n (fun k i wr => RiseRn w xs k i wr)
  case atStart => exact ⟨0, by rw [HN.out]; omega, rfl, rfl, Below.refl _ _⟩
  case round =>
    obtain ⟨j, hj, rfl, ht, hb⟩ := hrel
    have HT := Lib.hid ht
    have HB := Lib.hid hb
    have HJ := Lib.hid hj
    clear ht hb hj
    by_cases hlt : j + 1 < n
    · have hx : j < xs.length := by rw [HN.out]; omega
      have hy : j + 1 < xs.length := by rw [HN.out]; exact hlt
      obtain ⟨b, o, rfl, hc, hd⟩ := (H.out.below HB.out).at_ hx
      obtain ⟨b2, o2, he, hc2, hd2⟩ := (H.out.below HB.out).at_ hy
      cases he
      clear hd hd2
      obtain ⟨h1, h2⟩ := rises_at hy HT.out
      generalize xs[j].1 = k1 at *
      generalize xs[j + 1].1 = k2 at *
      by_cases hp : cmpS k1 k2 < 0
      · have hp2 : ¬ 0 ≤ cmpS k1 k2 := by omega
        have H1 := Lib.hid (h1 hp)
        clear h1 h2
        go_wp2
        go_quiet ((go_at_call 32; exact Calls.quiet_of_same ((keys_ _ _ _).mono fun _ _ h => ⟨h.1, h.2.symm⟩)))
        go_wp2
        go_roundg (n - (j + 1))
        case measure => have := HJ.out; have := HN.out; omega
        case rel => exact ⟨j + 1, by have := HN.out; omega, by go_num, H1.out, below_drewN HB.out _⟩
      · have hp2 : 0 ≤ cmpS k1 k2 := by omega
        have H1 := Lib.hid (h2 hp)
        clear h1 h2
        go_wp2
        go_quiet ((go_at_call 32; exact Calls.quiet_of_same ((keys_ _ _ _).mono fun _ _ h => ⟨h.1, h.2.symm⟩)))
        go_wp2
        go_ret
        exact ⟨by rw [H1.out]; rfl, below_drewN HB.out _⟩
    · have e := rises_end (by rw [HN.out]; exact hlt) HT.out
      have E := Lib.hid e
      clear e
      go_wp2
      go_ret
      exact ⟨by rw [E.out]; rfl, HB.out⟩
end Go.Proofs.Ytdjmjckmbclhiaa
namespace Go.Proofs.Ytdjmjckmbclhiaa
open Go.RowKit
theorem cellsR_E (l : List Rw) : cellsR l = cellsE eR l := by
  induction l with
  | nil => rfl
  | cons x r ih => rw [cellsR, cellsE, ih]; rfl
section
variable {w : World} {K : Nat → Prop} {A : Option Addr} {l : List Rw}
theorem Rws.lst (h : Rws w K A l) : Lst w K eR A l := fun h0 => by
  obtain ⟨b, o, e, hk, hl, hc⟩ := h h0
  exact ⟨b, o, e, hk, hl, fun j u hu => hc j u (by rw [cellsR_E]; exact hu)⟩
theorem Lst.rws (h : Lst w K eR A l) : Rws w K A l := fun h0 => by
  obtain ⟨b, o, e, hk, hl, hc⟩ := h h0
  exact ⟨b, o, e, hk, hl, fun j u hu => hc j u (by rw [← cellsR_E]; exact hu)⟩
end
end Go.Proofs.Ytdjmjckmbclhiaa
namespace Go.Proofs.Ytdjmjckmbclhiaa
open Go.RowKit
theorem pred_find (id : Int) (B : Nat) (w : World) (hB : B < w.heap.size) (hc : w.cell? ⟨B, 0, none⟩ = some (.int .i64 id)) (l : List Mg) : PredM 91 #[.pointer (some ⟨B, 0, none⟩)] (isM id) l w := fun W x _ hb => by
  have hc' : W.cell? ⟨B, 0, none⟩ = some (.int .i64 id) := (hb.cell (p := ⟨B, 0, none⟩) hB).trans hc
  have hBW : B < W.heap.size := Nat.lt_of_lt_of_le hB hb.size
  have hne : B ≠ W.heap.size := by omega
  obtain ⟨x0, x1, x2, x3, x4, x5⟩ := x
  have hnew := hb.alloc hb.size (.cells #[.int .i64 x0, .int .i64 x1, .int .i64 x2, .bool x3, .string x4, .string x5] 38)
  have HN := Lib.hid hnew
  clear hc hb hnew
  show Calls Try.prog 91 #[.agg #[.int .i64 x0, .int .i64 x1, .int .i64 x2, .bool x3, .string x4, .string x5], .pointer (some ⟨B, 0, none⟩)] W _
  go_enter Try.func91, Try.ntmps91
  go_wp2
  all_goals (go_ret; exact ⟨rfl, HN.out⟩)
theorem enters_find : ∀ args w, (callFunc 91 args).run Try.prog w = .ok (.enter 91 args) w := enters_of Try.func91 (by kernel_rfl) rfl
theorem find_m {w : World} {K : Nat → Prop} {A : Option Addr} {n c : Nat} {l : List Mg} (h : Lst w K eM A l) (hl : l.length = n) (hn : n ≤ 1000000) (id : Int) :
    Calls Try.prog 76 #[.slice A n c, .int .i64 id] w fun e w' => e = .returned (.int .i64 (idxI (isM id) l)) ∧ Below w.heap.size w w' := by
  have hi := index_m (c := c) (h.below (alloc_below w (.cells #[.int .i64 id] 3))) hl hn enters_find (pred_find id w.heap.size _ (by simp) (by simp) l)
  generalize idxI (isM id) l = z at *
  have HI := Lib.hid hi
  clear hi h hl
  go_enter Try.func76, Try.ntmps76
  go_wp2_with (go_at_call 81; refine HI.out.mono ?_; rintro e w' ⟨rfl, hb'⟩)
  go_ret
  exact ⟨rfl, (alloc_below w _).trans (hb'.mono (by simp))⟩
end Go.Proofs.Ytdjmjckmbclhiaa
