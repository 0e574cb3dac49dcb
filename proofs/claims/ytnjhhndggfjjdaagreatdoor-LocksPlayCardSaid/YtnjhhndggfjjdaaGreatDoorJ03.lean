/- Plain facts on one lock: two lists of who and mode; nothing of the program is named here. Rows of claims and of holds that lie somewhere: text ..Enc's words at the two. Where somebody is in a list, and in which mode; who is in the way: package grant's small calls, and the library's IndexFunc and ContainsFunc under them. -/
import Derived.Test.YtnjhhndggfjjdaaGreatDoorJ01
import Derived.Test.YtnjhhndggfjjdaaGreatDoorJ02
import Derived.LoopTactic
import Derived.Shelf.Abstract
import Derived.Deep.LoopGhost
set_option maxRecDepth 4000
namespace Go.Proofs.YtnjhhndggfjjdaaGreatDoor
open Go
abbrev Cl := Int × Nat
/-- holders, and the line -/
abbrev Lk := List Cl × List Cl
/-- the place of the first of which p holds; -1 -/
def idxI {α : Type} (p : α → Bool) (l : List α) : Int := if l.findIdx p < l.length then (l.findIdx p : Int) else -1
def isW (who : Int) (c : Cl) : Bool := c.1 == who
def hasP (l : List Cl) (who : Int) : Bool := l.any (isW who)
def modeP (l : List Cl) (who : Int) : Nat := ((l.find? (isW who)).map (·.2)).getD 0
def inwayP (c x : Cl) : Bool := c.1 != x.1 && !fitB c.2 x.2
def fitsP (H : List Cl) (x : Cl) : Bool := !(H.any fun c => inwayP c x)
def grantP (H : List Cl) (x : Cl) : List Cl := if hasP H x.1 then H.set (H.findIdx (isW x.1)) x else H ++ [x]
def frontP (H L : List Cl) : Nat := L.findIdx fun c => !hasP H c.1
def spotP (H L : List Cl) (who : Int) : Nat := if hasP H who then frontP H L else L.length
def waitP (H L : List Cl) (x : Cl) : List Cl := L.take (spotP H L x.1) ++ x :: L.drop (spotP H L x.1)
def askP (s : Lk) (who : Int) (m : Nat) : Bool × Lk :=
  if m = 0 then (true, s) else
  if modeP s.2 who ≠ 0 then (false, s) else
  if covB (modeP s.1 who) m then (true, s) else
  if (modeP s.1 who ≠ 0 ∨ s.2 = []) ∧ fitsP s.1 (who, joinN (modeP s.1 who) m) = true then (true, (grantP s.1 (who, joinN (modeP s.1 who) m), s.2))
  else (false, (s.1, waitP s.1 s.2 (who, joinN (modeP s.1 who) m)))
def withoutP (l : List Cl) (who : Int) : List Cl := l.filter fun c => !isW who c
def drainP (H : List Cl) : List Cl → List Int × Lk
  | [] => ([], (H, []))
  | x :: L => if fitsP H x then (x.1 :: (drainP (grantP H x) L).1, (drainP (grantP H x) L).2) else ([], (H, x :: L))
def dropP (s : Lk) (who : Int) : List Int × Lk := drainP (withoutP s.1 who) (withoutP s.2 who)
/-- who, mode, wants -/
abbrev Ho := Int × Nat × Nat
def holdsA (L : List Cl) (c : Cl) : Ho := (c.1, c.2, modeP L c.1)
def holdsB (c : Cl) : Ho := (c.1, 0, c.2)
def holdsP (s : Lk) : List Ho := s.1.map (holdsA s.2) ++ (s.2.filter fun c => modeP s.1 c.1 == 0).map holdsB
def rawP (s : Lk) (x : Cl) (k : Nat) : List Int := (s.1.filter fun c => inwayP c x).map (·.1) ++ (s.2.take k).map (·.1)

-- the place
theorem findIdx_le {α : Type} (p : α → Bool) (l : List α) : l.findIdx p ≤ l.length := List.findIdx_le_length
theorem idx_hit {α : Type} {p : α → Bool} {l : List α} {k : Nat} (h : k < l.length) (hk : p l[k] = true) (hb : ∀ j (hj : j < k), p (l[j]'(by omega)) = false) : idxI p l = (k : Int) := by
  have : l.findIdx p = k := (List.findIdx_eq h).2 ⟨hk, hb⟩
  unfold idxI
  rw [this, if_pos h]
theorem idx_miss {α : Type} {p : α → Bool} {l : List α} (hb : ∀ j (hj : j < l.length), p l[j] = false) : idxI p l = -1 := by
  have : l.findIdx p = l.length := List.findIdx_eq_length.2 fun x hx => by
    obtain ⟨j, hj, rfl⟩ := List.getElem_of_mem hx
    exact hb j hj
  unfold idxI
  rw [this, if_neg (Nat.lt_irrefl _)]
theorem idx_cases {α : Type} (p : α → Bool) (l : List α) : (idxI p l = -1 ∧ l.any p = false) ∨ ∃ h : l.findIdx p < l.length, idxI p l = (l.findIdx p : Int) ∧ l.any p = true ∧ p (l[l.findIdx p]) = true := by
  by_cases h : l.findIdx p < l.length
  · right
    refine ⟨h, by unfold idxI; rw [if_pos h], ?_, List.findIdx_getElem⟩
    rw [List.any_eq_true]
    exact ⟨_, List.getElem_mem h, List.findIdx_getElem⟩
  · left
    have e : l.findIdx p = l.length := by have := findIdx_le p l; omega
    refine ⟨by unfold idxI; rw [if_neg h], ?_⟩
    rw [List.any_eq_false]
    intro x hx
    rw [List.findIdx_eq_length.1 e x hx]
    simp
theorem idx_nonneg {α : Type} (p : α → Bool) (l : List α) : decide (0 ≤ idxI p l) = l.any p := by
  rcases idx_cases p l with ⟨h1, h2⟩ | ⟨h, h1, h2, _⟩
  · rw [h1, h2]; rfl
  · rw [h1, h2]; simp
theorem idx_neg {α : Type} (p : α → Bool) (l : List α) : decide (idxI p l < 0) = !l.any p := by
  rcases idx_cases p l with ⟨h1, h2⟩ | ⟨h, h1, h2, _⟩
  · rw [h1, h2]; rfl
  · rw [h1, h2]; simp
theorem find_of_idx {α : Type} {p : α → Bool} : ∀ {l : List α} (h : l.findIdx p < l.length), l.find? p = some l[l.findIdx p]
  | x :: l, h => by
    by_cases hx : p x = true
    · simp [List.findIdx_cons, hx]
    · have hx : p x = false := by simpa using hx
      simp only [List.findIdx_cons, hx, cond_false, List.length_cons] at h
      have := find_of_idx (l := l) (p := p) (by omega)
      simp [List.findIdx_cons, hx, this]
theorem mode_of_idx {l : List Cl} {who : Int} (h : l.findIdx (isW who) < l.length) : modeP l who = (l[l.findIdx (isW who)]).2 := by
  unfold modeP
  rw [find_of_idx h]
  rfl
theorem mode_of_miss {l : List Cl} {who : Int} (h : l.any (isW who) = false) : modeP l who = 0 := by
  unfold modeP
  rw [List.find?_eq_none.2 (fun x hx => by simpa using List.any_eq_false.1 h x hx)]
  rfl
/-- what a lock is at any time: nobody twice in either list, every mode a mode and not none -/
structure Ok (s : Lk) : Prop where
  ndH : (s.1.map (·.1)).Nodup
  ndL : (s.2.map (·.1)).Nodup
  mH : ∀ c ∈ s.1, 0 < c.2 ∧ c.2 < 6
  mL : ∀ c ∈ s.2, 0 < c.2 ∧ c.2 < 6
theorem mode_lt {l : List Cl} (h : ∀ c ∈ l, 0 < c.2 ∧ c.2 < 6) (who : Int) : modeP l who < 6 := by
  rcases idx_cases (isW who) l with ⟨_, h2⟩ | ⟨h0, _, _, _⟩
  · rw [mode_of_miss h2]; omega
  · rw [mode_of_idx h0]; exact (h _ (List.getElem_mem h0)).2
theorem mode_ne {l : List Cl} (h : ∀ c ∈ l, 0 < c.2 ∧ c.2 < 6) (who : Int) : (modeP l who != 0) = hasP l who := by
  unfold hasP
  rcases idx_cases (isW who) l with ⟨_, h2⟩ | ⟨h0, _, h2, _⟩
  · rw [mode_of_miss h2, h2]; rfl
  · rw [mode_of_idx h0, h2]
    have := (h _ (List.getElem_mem h0)).1
    simp
    omega
theorem mode_zero {l : List Cl} (h : ∀ c ∈ l, 0 < c.2 ∧ c.2 < 6) (who : Int) : (modeP l who == 0) = !hasP l who := by
  rw [← mode_ne h who]
  cases h : modeP l who == 0 <;> simp_all
end Go.Proofs.YtnjhhndggfjjdaaGreatDoor
namespace Go.Proofs.YtnjhhndggfjjdaaGreatDoor
open Go.RowKit
def eC : Enc Cl := ⟨fun c => [.int .i64 c.1, .int .i64 (c.2 : Int)], 2, by omega, fun _ => rfl, fun _ v hv => by simp at hv; rcases hv with rfl | rfl <;> rfl⟩
def eH : Enc Ho := ⟨fun c => [.int .i64 c.1, .int .i64 (c.2.1 : Int), .int .i64 (c.2.2 : Int)], 3, by omega, fun _ => rfl, fun _ v hv => by simp at hv; rcases hv with rfl | rfl | rfl <;> rfl⟩
theorem Lst.atC {w : World} {K : Nat → Prop} {A : Option Addr} {l : List Cl} (h : Lst w K eC A l) {j : Nat} (hj : j < l.length) :
    ∃ b o, A = some ⟨b, o, none⟩ ∧ b < w.heap.size ∧ w.cell? ⟨b, o + j * 2, none⟩ = some (.int .i64 l[j].1) ∧ w.cell? ⟨b, o + j * 2 + 1, none⟩ = some (.int .i64 (l[j].2 : Int)) := by
  obtain ⟨b, o, e, hl, hc⟩ := h.at_ hj
  exact ⟨b, o, e, hl, hc 0 _ rfl, hc 1 _ rfl⟩
theorem Lst.atH {w : World} {K : Nat → Prop} {A : Option Addr} {l : List Ho} (h : Lst w K eH A l) {j : Nat} (hj : j < l.length) :
    ∃ b o, A = some ⟨b, o, none⟩ ∧ b < w.heap.size ∧ w.cell? ⟨b, o + j * 3, none⟩ = some (.int .i64 l[j].1) ∧ w.cell? ⟨b, o + j * 3 + 1, none⟩ = some (.int .i64 (l[j].2.1 : Int)) ∧ w.cell? ⟨b, o + j * 3 + 2, none⟩ = some (.int .i64 (l[j].2.2 : Int)) := by
  obtain ⟨b, o, e, hl, hc⟩ := h.at_ hj
  exact ⟨b, o, e, hl, hc 0 _ rfl, hc 1 _ rfl, hc 2 _ rfl⟩
theorem tyC : RowTy eC 94 62 := ⟨Tryz.underlying62, .agg #[.int .i64 0, .int .i64 0], 16, by kernel_rfl, rfl, by omega⟩
theorem tyH : RowTy eH 56 71 := ⟨Tryz.underlying71, .agg #[.int .i64 0, .int .i64 0, .int .i64 0], 24, by kernel_rfl, rfl, by omega⟩
end Go.Proofs.YtnjhhndggfjjdaaGreatDoor
namespace Go.Proofs.YtnjhhndggfjjdaaGreatDoor
open Go.RowKit
def valC (c : Cl) : Value := .agg #[.int .i64 c.1, .int .i64 (c.2 : Int)]
/-- a function value that answers p of each of these, and turns nothing that was there -/
def Pred (g : Nat) (lb : Array Value) (p : Cl → Bool) (l : List Cl) (w : World) : Prop :=
  ∀ (W : World) (x : Cl), x ∈ l → Below w.heap.size w W → Calls Tryz.prog g (#[valC x] ++ lb) W fun e w' => e = .returned (.bool (p x)) ∧ Below w.heap.size w w'
def Sees (w : World) (p : Cl → Bool) (l : List Cl) (k : Nat) (i : Value) (wr : World) : Prop := ∃ j, j + k = l.length ∧ i = .int .i64 (j : Int) ∧ (∀ q (hq : q < j) (hl : q < l.length), p l[q] = false) ∧ Below w.heap.size w wr
set_option maxHeartbeats 1000000 in
theorem index_ {w : World} {K : Nat → Prop} {A : Option Addr} {n c : Nat} {l : List Cl} (h : Lst w K eC A l) (hl : l.length = n) (hn : n ≤ 1000000) {p : Cl → Bool} {g : Nat} {lb : Array Value}
    (eg : ∀ args w, (callFunc g args).run Tryz.prog w = .ok (.enter g args) w) (hp : Pred g lb p l w) :
    Calls Tryz.prog 83 #[.slice A n c, .func (.func g) #[] lb] w fun e w' => e = .returned (.int .i64 (idxI p l)) ∧ Below w.heap.size w w' := by
  have H := Lib.hid h
  have HL := Lib.hid hl
  have HP := Lib.hid hp
  clear h hl hp
  go_enter Tryz.func83, Tryz.ntmps83
  go_wp2
  go_loopg [5, 8] n (fun m _ i wr => Sees w p l m i wr)
  case atStart => exact ⟨0, by rw [HL.out]; omega, rfl, fun q hq => absurd hq (Nat.not_lt_zero q), Below.refl _ _⟩
  case round =>
    obtain ⟨j, hj, rfl, h1, hb⟩ := hrel
    have HJ := Lib.hid hj
    have H1 := Lib.hid h1
    have HB := Lib.hid hb
    clear hj h1 hb
    by_cases hlt : j < n
    · have hx : j < l.length := by rw [HL.out]; exact hlt
      obtain ⟨b, o, rfl, hb, c1, c2⟩ := (H.out.below HB.out).atC hx
      have hcall := HP.out wr l[j] (List.getElem_mem hx) HB.out
      have e1 : idxI p l = (j : Int) ∨ p l[j] = false := by
        cases hpj : p l[j]
        · exact .inr rfl
        · exact .inl (idx_hit hx hpj fun q hq => H1.out q hq (by omega))
      have e2 : p l[j] = false → ∀ q (hq : q < j + 1) (hl : q < l.length), p l[q] = false := fun h q hq hl => by
        rcases Nat.lt_or_ge q j with h5 | h5
        · exact H1.out q h5 hl
        · obtain rfl : q = j := by omega
          exact h
      have E2 := Lib.hid e2
      have E1 := Lib.hid e1
      clear e1 e2
      obtain ⟨x1, x2, hxx⟩ : ∃ x1 x2, l[j] = (x1, x2) := ⟨_, _, rfl⟩
      have hv : valC l[j] = .agg #[.int .i64 x1, .int .i64 (x2 : Int)] := by rw [hxx]; rfl
      rw [hv] at hcall
      have hx1 : l[j].1 = x1 := by rw [hxx]
      have hx2 : l[j].2 = x2 := by rw [hxx]
      rw [hx1] at c1
      rw [hx2] at c2
      clear hv hx1 hx2 hxx hb
      generalize hpb : p l[j] = pb at *
      cases pb
      · go_wp2_with (go_at_fn g; refine hcall.mono ?_; rintro e w' ⟨rfl, hb'⟩)
        go_roundg (n - (j + 1))
        case measure => have := HJ.out; have := HL.out; omega
        case rel => exact ⟨j + 1, by have := HL.out; omega, by go_num, E2.out (by simp), hb'⟩
      · go_wp2_with (go_at_fn g; refine hcall.mono ?_; rintro e w' ⟨rfl, hb'⟩)
        go_ret
        refine ⟨?_, hb'⟩
        rcases E1.out with h | h
        · rw [h]; rfl
        · cases h
    · have he : j = l.length := by have := HJ.out; have := HL.out; omega
      have e1 : idxI p l = -1 := idx_miss fun q hq => H1.out q (by omega) hq
      have E1 := Lib.hid e1
      clear e1 he
      go_wp2
      go_ret
      exact ⟨by rw [E1.out]; rfl, HB.out⟩
theorem contains_ {w : World} {K : Nat → Prop} {A : Option Addr} {n c : Nat} {l : List Cl} (h : Lst w K eC A l) (hl : l.length = n) (hn : n ≤ 1000000) {p : Cl → Bool} {g : Nat} {lb : Array Value}
    (eg : ∀ args w, (callFunc g args).run Tryz.prog w = .ok (.enter g args) w) (hp : Pred g lb p l w) :
    Calls Tryz.prog 77 #[.slice A n c, .func (.func g) #[] lb] w fun e w' => e = .returned (.bool (l.any p)) ∧ Below w.heap.size w w' := by
  have hi := index_ (c := c) h hl hn eg hp
  rw [← idx_nonneg]
  generalize idxI p l = z at *
  have HI := Lib.hid hi
  clear hi h hl hp
  go_enter Tryz.func77, Tryz.ntmps77
  go_wp2_with (go_at_call 83; refine HI.out.mono ?_; rintro e w' ⟨rfl, hb'⟩)
  go_ret
  exact ⟨rfl, hb'⟩
/-- the function values of package grant -/
theorem pred_place (who : Int) (B : Nat) (w : World) (hB : B < w.heap.size) (hc : w.cell? ⟨B, 0, none⟩ = some (.int .i64 who)) (l : List Cl) :
    Pred 84 #[.pointer (some ⟨B, 0, none⟩)] (isW who) l w := fun W x _ hb => by
  have hc' : W.cell? ⟨B, 0, none⟩ = some (.int .i64 who) := (hb.cell (p := ⟨B, 0, none⟩) hB).trans hc
  have hBW : B < W.heap.size := Nat.lt_of_lt_of_le hB hb.size
  have hne : B ≠ W.heap.size := by omega
  obtain ⟨x1, x2⟩ := x
  have hnew := hb.alloc hb.size (.cells #[.int .i64 x1, .int .i64 (x2 : Int)] 94)
  show Calls Tryz.prog 84 #[.agg #[.int .i64 x1, .int .i64 (x2 : Int)], .pointer (some ⟨B, 0, none⟩)] W _
  have HN := Lib.hid hnew
  clear hc hb hnew
  go_enter Tryz.func84, Tryz.ntmps84
  go_wp2
  all_goals (go_ret; exact ⟨rfl, HN.out⟩)
theorem pred_without (who : Int) (B : Nat) (w : World) (hB : B < w.heap.size) (hc : w.cell? ⟨B, 0, none⟩ = some (.int .i64 who)) (l : List Cl) :
    Pred 82 #[.pointer (some ⟨B, 0, none⟩)] (isW who) l w := fun W x _ hb => by
  have hc' : W.cell? ⟨B, 0, none⟩ = some (.int .i64 who) := (hb.cell (p := ⟨B, 0, none⟩) hB).trans hc
  have hBW : B < W.heap.size := Nat.lt_of_lt_of_le hB hb.size
  have hne : B ≠ W.heap.size := by omega
  obtain ⟨x1, x2⟩ := x
  have hnew := hb.alloc hb.size (.cells #[.int .i64 x1, .int .i64 (x2 : Int)] 94)
  show Calls Tryz.prog 82 #[.agg #[.int .i64 x1, .int .i64 (x2 : Int)], .pointer (some ⟨B, 0, none⟩)] W _
  have HN := Lib.hid hnew
  clear hc hb hnew
  go_enter Tryz.func82, Tryz.ntmps82
  go_wp2
  all_goals (go_ret; exact ⟨rfl, HN.out⟩)
theorem enters_place : ∀ args w, (callFunc 84 args).run Tryz.prog w = .ok (.enter 84 args) w := enters_of Tryz.func84 (by kernel_rfl) rfl
theorem enters_without : ∀ args w, (callFunc 82 args).run Tryz.prog w = .ok (.enter 82 args) w := enters_of Tryz.func82 (by kernel_rfl) rfl
theorem place_ {w : World} {K : Nat → Prop} {A : Option Addr} {n c : Nat} {l : List Cl} (h : Lst w K eC A l) (hl : l.length = n) (hn : n ≤ 1000000) (who : Int) :
    Calls Tryz.prog 62 #[.slice A n c, .int .i64 who] w fun e w' => e = .returned (.int .i64 (idxI (isW who) l)) ∧ Below w.heap.size w w' := by
  have hi := index_ (c := c) (h.below (alloc_below w (.cells #[.int .i64 who] 3))) hl hn enters_place (pred_place who w.heap.size _ (by simp) (by simp) l)
  generalize idxI (isW who) l = z at *
  have HI := Lib.hid hi
  clear hi h hl
  go_enter Tryz.func62, Tryz.ntmps62
  go_wp2_with (go_at_call 83; refine HI.out.mono ?_; rintro e w' ⟨rfl, hb'⟩)
  go_ret
  exact ⟨rfl, (alloc_below w _).trans (hb'.mono (by simp))⟩
theorem mode_of {w : World} {K : Nat → Prop} {A : Option Addr} {n c : Nat} {l : List Cl} (h : Lst w K eC A l) (hl : l.length = n) (hn : n ≤ 1000000) (who : Int) :
    Calls Tryz.prog 50 #[.slice A n c, .int .i64 who] w fun e w' => e = .returned (.int .i64 (modeP l who : Int)) ∧ Below w.heap.size w w' := by
  have hp := place_ (c := c) h hl hn who
  rcases idx_cases (isW who) l with ⟨e1, e2⟩ | ⟨hlt, e1, _, _⟩
  · have e3 := mode_of_miss e2
    rw [e1] at hp
    rw [e3]
    have HP := Lib.hid hp
    clear hp h hl e1 e2 e3
    go_enter Tryz.func50, Tryz.ntmps50
    go_wp2_with (go_at_call 62; refine HP.out.mono ?_; rintro e w' ⟨rfl, hb'⟩)
    go_ret
    exact ⟨rfl, hb'⟩
  · have e3 := mode_of_idx hlt
    rw [e1] at hp
    rw [e3]
    have hln : l.findIdx (isW who) < n := by rw [← hl]; exact hlt
    have hh := fun W (hb : Below w.heap.size w W) => (h.below hb).atC hlt
    have HH := Lib.hid hh
    have HP := Lib.hid hp
    clear hp h e1 e3 hh
    generalize l[l.findIdx (isW who)].2 = z at *
    generalize l[l.findIdx (isW who)].1 = y at *
    generalize l.findIdx (isW who) = q at *
    clear hl
    go_enter Tryz.func50, Tryz.ntmps50
    go_wp2_with fail
    refine HP.out.mono ?_
    rintro e w' ⟨rfl, hb'⟩
    obtain ⟨b, o, rfl, hbl, c1, c2⟩ := HH.out w' hb'
    go_wp2
    go_ret
    exact ⟨rfl, hb'⟩
end Go.Proofs.YtnjhhndggfjjdaaGreatDoor
