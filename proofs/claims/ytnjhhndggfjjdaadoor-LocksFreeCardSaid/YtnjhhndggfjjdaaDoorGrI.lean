/- Where somebody is in a list, and in which mode; who is in the way: package grant's small calls, and the library's IndexFunc and ContainsFunc under them. -/
import Derived.Test.YtnjhhndggfjjdaaDoorModM
import Derived.Test.YtnjhhndggfjjdaaDoorGrR
import Derived.LoopTactic
import Derived.Shelf.Abstract
import Derived.Deep.LoopGhost
set_option maxRecDepth 4000
namespace Go.Proofs.YtnjhhndggfjjdaaDoor
open Go.RowKit
def valC (c : Cl) : Value := .agg #[.int .i64 c.1, .int .i64 (c.2 : Int)]
/-- a function value that answers p of each of these, and turns nothing that was there -/
def Pred (g : Nat) (lb : Array Value) (p : Cl → Bool) (l : List Cl) (w : World) : Prop :=
  ∀ (W : World) (x : Cl), x ∈ l → Below w.heap.size w W → Calls Tryd.prog g (#[valC x] ++ lb) W fun e w' => e = .returned (.bool (p x)) ∧ Below w.heap.size w w'
def Sees (w : World) (p : Cl → Bool) (l : List Cl) (k : Nat) (i : Value) (wr : World) : Prop := ∃ j, j + k = l.length ∧ i = .int .i64 (j : Int) ∧ (∀ q (hq : q < j) (hl : q < l.length), p l[q] = false) ∧ Below w.heap.size w wr
set_option maxHeartbeats 1000000 in
theorem index_ {w : World} {K : Nat → Prop} {A : Option Addr} {n c : Nat} {l : List Cl} (h : Lst w K eC A l) (hl : l.length = n) (hn : n ≤ 1000000) {p : Cl → Bool} {g : Nat} {lb : Array Value}
    (eg : ∀ args w, (callFunc g args).run Tryd.prog w = .ok (.enter g args) w) (hp : Pred g lb p l w) :
    Calls Tryd.prog 63 #[.slice A n c, .func (.func g) #[] lb] w fun e w' => e = .returned (.int .i64 (idxI p l)) ∧ Below w.heap.size w w' := by
  have H := Lib.hid h
  have HL := Lib.hid hl
  have HP := Lib.hid hp
  clear h hl hp
  go_enter Tryd.func63, Tryd.ntmps63
  go_wp2
  go_loopg [5, 8] n (fun m _ i wr => Sees w p l m i wr)
  case atStart => exact ⟨0, by rw [HL.out]; omega, rfl, fun q hq => absurd hq (Nat.not_lt_zero q), Below.refl _ _⟩
  case round =>
    obtain ⟨j, hj, rfl, h1, hb⟩ := hrel
    have HJ := Lib.hid hj
    have H1 := Lib.hid h1
    have HB := Lib.hid hb
    clear hj h1 hb
    by_cases hlt : j < n
    · have hx : j < l.length := by rw [HL.out]; exact hlt
      obtain ⟨b, o, rfl, hb, c1, c2⟩ := (H.out.below HB.out).atC hx
      have hcall := HP.out wr l[j] (List.getElem_mem hx) HB.out
      have e1 : idxI p l = (j : Int) ∨ p l[j] = false := by
        cases hpj : p l[j]
        · exact .inr rfl
        · exact .inl (idx_hit hx hpj fun q hq => H1.out q hq (by omega))
      have e2 : p l[j] = false → ∀ q (hq : q < j + 1) (hl : q < l.length), p l[q] = false := fun h q hq hl => by
        rcases Nat.lt_or_ge q j with h5 | h5
        · exact H1.out q h5 hl
        · obtain rfl : q = j := by omega
          exact h
      have E2 := Lib.hid e2
      have E1 := Lib.hid e1
      clear e1 e2
      obtain ⟨x1, x2, hxx⟩ : ∃ x1 x2, l[j] = (x1, x2) := ⟨_, _, rfl⟩
      have hv : valC l[j] = .agg #[.int .i64 x1, .int .i64 (x2 : Int)] := by rw [hxx]; rfl
      rw [hv] at hcall
      have hx1 : l[j].1 = x1 := by rw [hxx]
      have hx2 : l[j].2 = x2 := by rw [hxx]
      rw [hx1] at c1
      rw [hx2] at c2
      clear hv hx1 hx2 hxx hb
      generalize hpb : p l[j] = pb at *
      cases pb
      · go_wp2_with (go_at_fn g; refine hcall.mono ?_; rintro e w' ⟨rfl, hb'⟩)
        go_roundg (n - (j + 1))
        case measure => have := HJ.out; have := HL.out; omega
        case rel => exact ⟨j + 1, by have := HL.out; omega, by go_num, E2.out (by simp), hb'⟩
      · go_wp2_with (go_at_fn g; refine hcall.mono ?_; rintro e w' ⟨rfl, hb'⟩)
        go_ret
        refine ⟨?_, hb'⟩
        rcases E1.out with h | h
        · rw [h]; rfl
        · cases h
    · have he : j = l.length := by have := HJ.out; have := HL.out; omega
      have e1 : idxI p l = -1 := idx_miss fun q hq => H1.out q (by omega) hq
      have E1 := Lib.hid e1
      clear e1 he
      go_wp2
      go_ret
      exact ⟨by rw [E1.out]; rfl, HB.out⟩
theorem contains_ {w : World} {K : Nat → Prop} {A : Option Addr} {n c : Nat} {l : List Cl} (h : Lst w K eC A l) (hl : l.length = n) (hn : n ≤ 1000000) {p : Cl → Bool} {g : Nat} {lb : Array Value}
    (eg : ∀ args w, (callFunc g args).run Tryd.prog w = .ok (.enter g args) w) (hp : Pred g lb p l w) :
    Calls Tryd.prog 57 #[.slice A n c, .func (.func g) #[] lb] w fun e w' => e = .returned (.bool (l.any p)) ∧ Below w.heap.size w w' := by
  have hi := index_ (c := c) h hl hn eg hp
  rw [← idx_nonneg]
  generalize idxI p l = z at *
  have HI := Lib.hid hi
  clear hi h hl hp
  go_enter Tryd.func57, Tryd.ntmps57
  go_wp2_with (go_at_call 63; refine HI.out.mono ?_; rintro e w' ⟨rfl, hb'⟩)
  go_ret
  exact ⟨rfl, hb'⟩
/-- the function values of package grant -/
theorem pred_place (who : Int) (B : Nat) (w : World) (hB : B < w.heap.size) (hc : w.cell? ⟨B, 0, none⟩ = some (.int .i64 who)) (l : List Cl) :
    Pred 64 #[.pointer (some ⟨B, 0, none⟩)] (isW who) l w := fun W x _ hb => by
  have hc' : W.cell? ⟨B, 0, none⟩ = some (.int .i64 who) := (hb.cell (p := ⟨B, 0, none⟩) hB).trans hc
  have hBW : B < W.heap.size := Nat.lt_of_lt_of_le hB hb.size
  have hne : B ≠ W.heap.size := by omega
  obtain ⟨x1, x2⟩ := x
  have hnew := hb.alloc hb.size (.cells #[.int .i64 x1, .int .i64 (x2 : Int)] 78)
  show Calls Tryd.prog 64 #[.agg #[.int .i64 x1, .int .i64 (x2 : Int)], .pointer (some ⟨B, 0, none⟩)] W _
  have HN := Lib.hid hnew
  clear hc hb hnew
  go_enter Tryd.func64, Tryd.ntmps64
  go_wp2
  all_goals (go_ret; exact ⟨rfl, HN.out⟩)
theorem pred_without (who : Int) (B : Nat) (w : World) (hB : B < w.heap.size) (hc : w.cell? ⟨B, 0, none⟩ = some (.int .i64 who)) (l : List Cl) :
    Pred 62 #[.pointer (some ⟨B, 0, none⟩)] (isW who) l w := fun W x _ hb => by
  have hc' : W.cell? ⟨B, 0, none⟩ = some (.int .i64 who) := (hb.cell (p := ⟨B, 0, none⟩) hB).trans hc
  have hBW : B < W.heap.size := Nat.lt_of_lt_of_le hB hb.size
  have hne : B ≠ W.heap.size := by omega
  obtain ⟨x1, x2⟩ := x
  have hnew := hb.alloc hb.size (.cells #[.int .i64 x1, .int .i64 (x2 : Int)] 78)
  show Calls Tryd.prog 62 #[.agg #[.int .i64 x1, .int .i64 (x2 : Int)], .pointer (some ⟨B, 0, none⟩)] W _
  have HN := Lib.hid hnew
  clear hc hb hnew
  go_enter Tryd.func62, Tryd.ntmps62
  go_wp2
  all_goals (go_ret; exact ⟨rfl, HN.out⟩)
theorem enters_place : ∀ args w, (callFunc 64 args).run Tryd.prog w = .ok (.enter 64 args) w := enters_of Tryd.func64 (by kernel_rfl) rfl
theorem enters_without : ∀ args w, (callFunc 62 args).run Tryd.prog w = .ok (.enter 62 args) w := enters_of Tryd.func62 (by kernel_rfl) rfl
theorem place_ {w : World} {K : Nat → Prop} {A : Option Addr} {n c : Nat} {l : List Cl} (h : Lst w K eC A l) (hl : l.length = n) (hn : n ≤ 1000000) (who : Int) :
    Calls Tryd.prog 43 #[.slice A n c, .int .i64 who] w fun e w' => e = .returned (.int .i64 (idxI (isW who) l)) ∧ Below w.heap.size w w' := by
  have hi := index_ (c := c) (h.below (alloc_below w (.cells #[.int .i64 who] 3))) hl hn enters_place (pred_place who w.heap.size _ (by simp) (by simp) l)
  generalize idxI (isW who) l = z at *
  have HI := Lib.hid hi
  clear hi h hl
  go_enter Tryd.func43, Tryd.ntmps43
  go_wp2_with (go_at_call 63; refine HI.out.mono ?_; rintro e w' ⟨rfl, hb'⟩)
  go_ret
  exact ⟨rfl, (alloc_below w _).trans (hb'.mono (by simp))⟩
theorem mode_of {w : World} {K : Nat → Prop} {A : Option Addr} {n c : Nat} {l : List Cl} (h : Lst w K eC A l) (hl : l.length = n) (hn : n ≤ 1000000) (who : Int) :
    Calls Tryd.prog 36 #[.slice A n c, .int .i64 who] w fun e w' => e = .returned (.int .i64 (modeP l who : Int)) ∧ Below w.heap.size w w' := by
  have hp := place_ (c := c) h hl hn who
  rcases idx_cases (isW who) l with ⟨e1, e2⟩ | ⟨hlt, e1, _, _⟩
  · have e3 := mode_of_miss e2
    rw [e1] at hp
    rw [e3]
    have HP := Lib.hid hp
    clear hp h hl e1 e2 e3
    go_enter Tryd.func36, Tryd.ntmps36
    go_wp2_with (go_at_call 43; refine HP.out.mono ?_; rintro e w' ⟨rfl, hb'⟩)
    go_ret
    exact ⟨rfl, hb'⟩
  · have e3 := mode_of_idx hlt
    rw [e1] at hp
    rw [e3]
    have hln : l.findIdx (isW who) < n := by rw [← hl]; exact hlt
    have hh := fun W (hb : Below w.heap.size w W) => (h.below hb).atC hlt
    have HH := Lib.hid hh
    have HP := Lib.hid hp
    clear hp h e1 e3 hh
    generalize l[l.findIdx (isW who)].2 = z at *
    generalize l[l.findIdx (isW who)].1 = y at *
    generalize l.findIdx (isW who) = q at *
    clear hl
    go_enter Tryd.func36, Tryd.ntmps36
    go_wp2_with fail
    refine HP.out.mono ?_
    rintro e w' ⟨rfl, hb'⟩
    obtain ⟨b, o, rfl, hbl, c1, c2⟩ := HH.out w' hb'
    go_wp2
    go_ret
    exact ⟨rfl, hb'⟩
end Go.Proofs.YtnjhhndggfjjdaaDoor
