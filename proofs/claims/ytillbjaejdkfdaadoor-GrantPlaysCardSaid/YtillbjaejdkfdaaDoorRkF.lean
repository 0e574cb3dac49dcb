/- The document's lock: its rows, and where somebody is in one. -/
import Derived.Test.YtillbjaejdkfdaaDoorGrB
import Derived.Laws.StructEq
import Derived.BigQuiet
import Derived.Deep.QuietTactic
set_option maxRecDepth 4000
namespace Go.Proofs.YtillbjaejdkfdaaDoor
open Go.RowKit
/-- a holder, and one that waits, as the document's lock keeps them -/
def hdA (c : Cl) : Ho := (c.1, c.2, 0)
def lnA (c : Cl) : Ho := (c.1, 0, c.2)
def isHo (who : Int) (x : Ho) : Bool := x.1 == who
theorem isHo_hd (who : Int) : isHo who ∘ hdA = isW who := rfl
theorem isHo_ln (who : Int) : isHo who ∘ lnA = isW who := rfl
theorem idx_map {α β : Type} (f : α → β) (p : β → Bool) (l : List α) : idxI p (l.map f) = idxI (p ∘ f) l := by
  unfold idxI
  rw [List.findIdx_map, List.length_map]
theorem idx_hd (who : Int) (l : List Cl) : idxI (isHo who) (l.map hdA) = idxI (isW who) l := idx_map _ _ _
theorem idx_ln (who : Int) (l : List Cl) : idxI (isHo who) (l.map lnA) = idxI (isW who) l := idx_map _ _ _
def FindR (w : World) (l : List Ho) (who : Int) (k : Nat) (i : Value) (wr : World) : Prop := ∃ j, j + k = l.length ∧ i = .int .i64 (j : Int) ∧ (∀ q (hq : q < j) (hl : q < l.length), isHo who l[q] = false) ∧ Below w.heap.size w wr
set_option maxHeartbeats 1000000 in
theorem rfind_ {w : World} {K : Nat → Prop} {A : Option Addr} {n c : Nat} {l : List Ho} (h : Lst w K eH A l) (hl : l.length = n) (hn : n ≤ 1000000) (who : Int) :
    Calls Tryd.prog 29 #[.slice A n c, .int .i64 who] w fun e w' => e = .returned (.int .i64 (idxI (isHo who) l)) ∧ Below w.heap.size w w' := by
  have HH := Lib.hid h
  have HL := Lib.hid hl
  clear h hl
  go_enter Tryd.func29, Tryd.ntmps29
  go_wp2_with fail
  go_loopg [5] n (fun k i wr => FindR w l who k i wr)
  case atStart => exact ⟨0, by rw [HL.out]; omega, rfl, fun q hq => absurd hq (Nat.not_lt_zero q), Below.refl _ _⟩
  case round =>
    obtain ⟨j, hj, rfl, h1, hb⟩ := hrel
    have HJ := Lib.hid hj
    have HB := Lib.hid hb
    have H1 := Lib.hid h1
    clear hj hb h1
    by_cases hlt : j < n
    · have hx : j < l.length := by rw [HL.out]; exact hlt
      obtain ⟨g, o, rfl, _, d0, _, _⟩ := (HH.out.below HB.out).atH hx
      cases hp : isHo who l[j] with
      | true =>
        have he : idxI (isHo who) l = (j : Int) := idx_hit hx hp fun q hq => H1.out q hq (by omega)
        have hw : l[j].1 = who := by simpa [isHo] using hp
        rw [hw] at d0
        have HE := Lib.hid he
        clear hw hp he
        go_wp2_with fail
        go_ret
        exact ⟨by rw [HE.out]; rfl, HB.out⟩
      | false =>
        have hnx : ∀ q (hq : q < j + 1) (hl : q < l.length), isHo who l[q] = false := fun q hq hql => by
          rcases Nat.lt_or_ge q j with h5 | h5
          · exact H1.out q h5 hql
          · obtain rfl : q = j := by omega
            exact hp
        have hw : (l[j].1 == who) = false := hp
        have HN := Lib.hid hnx
        clear hnx hp
        generalize l[j].1 = x at *
        go_wp2_with fail
        go_roundg (n - (j + 1))
        case measure => have := HJ.out; have := HL.out; omega
        case rel => exact ⟨j + 1, by rw [HL.out]; omega, by go_num, HN.out, HB.out⟩
    · have he : idxI (isHo who) l = -1 := idx_miss fun q hq => H1.out q (by have := HJ.out; have := HL.out; omega) hq
      have hjn : j = n := by have := HJ.out; have := HL.out; omega
      subst hjn
      have HE := Lib.hid he
      clear he
      go_wp2_with fail
      go_ret
      exact ⟨by rw [HE.out]; rfl, HB.out⟩
/-- the document's lock at block b: its two lists, each in a row of its own -/
def withoutH (l : List Ho) (who : Int) : List Ho := l.filter fun c => !isHo who c
def WoR (w : World) (l : List Ho) (who : Int) (k : Nat) (v i : Value) (wr : World) : Prop :=
  ∃ j, j + k = l.length ∧ i = .int .i64 (j : Int) ∧ Own wr w.heap.size eH 42 v (withoutH (l.take j) who) ∧ Below w.heap.size w wr
theorem withoutH_len (l : List Ho) (who : Int) : (withoutH l who).length ≤ l.length := List.length_filter_le _ _
theorem withoutH_hit {l : List Ho} {k : Nat} {who : Int} (h : k < l.length) (hk : isHo who l[k] = true) : withoutH (l.take (k + 1)) who = withoutH (l.take k) who := by
  unfold withoutH
  rw [List.take_succ_eq_append_getElem h, List.filter_append]
  simp [hk]
theorem withoutH_pass {l : List Ho} {k : Nat} {who : Int} (h : k < l.length) (hk : isHo who l[k] = false) : withoutH (l.take (k + 1)) who = withoutH (l.take k) who ++ [l[k]] := by
  unfold withoutH
  rw [List.take_succ_eq_append_getElem h, List.filter_append]
  simp [hk]
theorem withoutH_hd (l : List Cl) (who : Int) : withoutH (l.map hdA) who = (withoutP l who).map hdA := by
  unfold withoutH withoutP
  rw [List.filter_map]
  rfl
theorem withoutH_ln (l : List Cl) (who : Int) : withoutH (l.map lnA) who = (withoutP l who).map lnA := by
  unfold withoutH withoutP
  rw [List.filter_map]
  rfl
set_option maxHeartbeats 1000000 in
theorem rwithout_ {w : World} {K : Nat → Prop} {A : Option Addr} {n c : Nat} {l : List Ho} (h : Lst w K eH A l) (hl : l.length = n) (hn : n ≤ 100000) (who : Int) :
    Calls Tryd.prog 33 #[.slice A n c, .int .i64 who] w fun e w' => ∃ v, e = .returned v ∧ Own w' w.heap.size eH 42 v (withoutH l who) ∧ Below w.heap.size w w' := by
  have HH := Lib.hid h
  have HL := Lib.hid hl
  clear h hl
  go_enter Tryd.func33, Tryd.ntmps33
  go_wp2_with fail
  go_loopg [5, 6] n (fun k v i wr => WoR w l who k v i wr)
  case atStart => exact ⟨0, by rw [HL.out]; omega, rfl, own_nil _ _, Below.refl _ _⟩
  case round =>
    obtain ⟨j, hj, rfl, ho, hb⟩ := hrel
    have HJ := Lib.hid hj
    have HB := Lib.hid hb
    have HO := Lib.hid ho
    clear hj hb ho
    by_cases hlt : j < n
    · have hx : j < l.length := by rw [HL.out]; exact hlt
      obtain ⟨g, o, rfl, hg, d0, d1, d2⟩ := (HH.out.below HB.out).atH hx
      cases hp : isHo who l[j] with
      | true =>
        have hw : l[j].1 = who := by simpa [isHo] using hp
        have e := withoutH_hit hx hp
        have HE := Lib.hid e
        rw [hw] at d0
        clear hw hp e d1 d2
        go_wp2_with fail
        go_roundg (n - (j + 1))
        case measure => have := HJ.out; have := HL.out; omega
        case rel => exact ⟨j + 1, by rw [HL.out]; omega, by go_num, by rw [HE.out]; exact HO.out, HB.out⟩
      | false =>
        have hw : (l[j].1 == who) = false := hp
        have e := withoutH_pass hx hp
        have HE := Lib.hid e
        have hlen : (withoutH (l.take j) who).length ≤ 100000 := by have := withoutH_len (l.take j) who; rw [List.length_take] at this; omega
        obtain ⟨v3, w3, hap, ho3, hb3, _⟩ := append_hold HO.out HB.out.size hlen HB.out l[j]
        rw [← e] at ho3
        have HO3 := Lib.hid ho3
        have HB3 := Lib.hid hb3
        have HAP := Lib.hid hap
        clear hp e hlen hap ho3 hb3
        generalize l[j].1 = x1 at *
        generalize l[j].2.1 = x2 at *
        generalize l[j].2.2 = x3 at *
        go_wp2_with (at_builtin; refine wpList_append_run rfl (.tmp 20) (.tmp 25) 29 29 rfl _ _ rfl rfl HAP.out ?_)
        go_roundg (n - (j + 1))
        case measure => have := HJ.out; have := HL.out; omega
        case rel => exact ⟨j + 1, by rw [HL.out]; omega, by go_num, HO3.out, HB3.out⟩
    · have hjn : j = n := by have := HJ.out; have := HL.out; omega
      subst hjn
      have ho := HO.out
      rw [List.take_of_length_le (by rw [HL.out]; exact Nat.le_refl _)] at ho
      have HO4 := Lib.hid ho
      clear ho HO
      go_wp2_with fail
      go_ret
      exact ⟨_, rfl, HO4.out, HB.out⟩
end Go.Proofs.YtillbjaejdkfdaaDoor
