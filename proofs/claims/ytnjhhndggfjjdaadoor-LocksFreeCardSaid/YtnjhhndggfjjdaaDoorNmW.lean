/- Names of what is locked: the library's comparing of numbers, and its Or; package locks' known and compare. -/
import Derived.Test.YtnjhhndggfjjdaaDoorCmpB
import Derived.Test.YtnjhhndggfjjdaaDoorNmP
import Derived.Test.YtnjhhndggfjjdaaDoorStepC
import Derived.LoopTactic
import Derived.Deep.LoopGhost
import Derived.Deep.RegionHeld3
set_option maxRecDepth 4000
namespace Go.Proofs.YtnjhhndggfjjdaaDoor
open Go.RowKit
theorem nanI (a : Int) (w : World) : Calls Tryd.prog 49 #[.int .i64 a] w fun e w' => e = .returned (.bool false) ∧ w = w' := by
  go_enter Tryd.func49, Tryd.ntmps49
  go_wp2
  go_ret
  exact ⟨by simp, rfl⟩
theorem compareI (a b : Int) (w : World) : Calls Tryd.prog 31 #[.int .i64 a, .int .i64 b] w fun e w' => e = .returned (.int .i64 (cmpI a b)) ∧ w = w' := by
  have h : (a < b ∧ cmpI a b = -1) ∨ (¬ a < b ∧ b < a ∧ cmpI a b = 1) ∨ (¬ a < b ∧ ¬ b < a ∧ cmpI a b = 0) := by
    unfold cmpI
    by_cases h1 : a < b
    · simp [h1]
    · by_cases h2 : b < a <;> simp [h1, h2]
  rcases h with ⟨h1, h3⟩ | ⟨h1, h2, h3⟩ | ⟨h1, h2, h3⟩
  all_goals
    rw [h3]
    clear h3
    go_enter Tryd.func31, Tryd.ntmps31
    go_wp2_with (go_at_call 49; refine (nanI _ _).mono ?_; rintro e w' ⟨rfl, rfl⟩)
    go_ret
    exact ⟨rfl, rfl⟩
/-- the first that is not 0; 0 -/
def orI : List Int → Int
  | [] => 0
  | x :: r => if x ≠ 0 then x else orI r
def OrR (w : World) (l : List Int) (k : Nat) (i : Value) (wr : World) : Prop := ∃ j, j + k = l.length ∧ i = .int .i64 (j : Int) ∧ orI l = orI (l.drop j) ∧ wr = w
set_option maxHeartbeats 1000000 in
theorem or_ {w : World} {K : Nat → Prop} {A : Option Addr} {n c : Nat} {l : List Int} (h : Lst w K eI A l) (hl : l.length = n) (hn : n ≤ 1000000) :
    Calls Tryd.prog 30 #[.slice A n c] w fun e w' => e = .returned (.int .i64 (orI l)) ∧ w = w' := by
  have H := Lib.hid h
  have HL := Lib.hid hl
  clear h hl
  go_enter Tryd.func30, Tryd.ntmps30
  go_wp2_with fail
  go_loopg [8] n (fun k i wr => OrR w l k i wr)
  case atStart => exact ⟨0, by rw [HL.out]; omega, rfl, rfl, rfl⟩
  case round =>
    obtain ⟨j, hj, rfl, h1, rfl⟩ := hrel
    have HJ := Lib.hid hj
    have H1 := Lib.hid h1
    clear hj h1
    by_cases hlt : j < n
    · have hx : j < l.length := by rw [HL.out]; exact hlt
      obtain ⟨g, o, rfl, _, d0⟩ := H.out.atI hx
      have hd : orI l = if l[j] ≠ 0 then l[j] else orI (l.drop (j + 1)) := by rw [H1.out, List.drop_eq_getElem_cons hx, orI]
      have HD := Lib.hid hd
      clear hd
      generalize l[j] = x at *
      by_cases hx0 : x = 0
      · subst hx0
        have e1 : orI l = orI (l.drop (j + 1)) := by rw [HD.out, if_neg (by simp)]
        have E1 := Lib.hid e1
        clear e1
        have e0 : ((0 : Int) != 0) = false := rfl
        go_wp2_with fail
        go_roundg (n - (j + 1))
        case measure => have := HJ.out; have := HL.out; omega
        case rel => exact ⟨j + 1, by have := HL.out; omega, by go_num, E1.out, rfl⟩
      · have e1 : orI l = x := by rw [HD.out, if_pos hx0]
        have E1 := Lib.hid e1
        have e0 : (x != 0) = true := by simpa using hx0
        clear e1
        go_wp2_with fail
        go_ret
        exact ⟨by rw [E1.out]; rfl, rfl⟩
    · have he : orI l = 0 := by rw [H1.out, List.drop_eq_nil_of_le (by have := HJ.out; have := HL.out; omega)]; rfl
      have HE := Lib.hid he
      clear he
      go_wp2_with fail
      go_ret
      exact ⟨by rw [HE.out]; rfl, rfl⟩
/-- a name as a value -/
def valN (n : Nm) : Value := .agg #[.int .i64 n.1, .string n.2.1, .string n.2.2]
theorem orI_name (a b : Nm) : orI [cmpI a.1 b.1, cmpS a.2.1 b.2.1, cmpS a.2.2 b.2.2] = cmpN a b := by
  unfold cmpN
  simp only [orI]
  split
  · rfl
  · split
    · rfl
    · split
      · rfl
      · rename_i h
        simp only [ne_eq, Classical.not_not] at h
        exact h.symm
set_option maxHeartbeats 1000000 in
theorem nknown_ (n : Nm) (w : World) : Calls Tryd.prog 17 #[valN n] w fun e w' => e = .returned (.tuple #[valN ((knownP n).getD (0, noB, noB)), .bool (knownP n).isSome]) ∧ Below w.heap.size w w' := by
  obtain ⟨d, o, r⟩ := n
  have hal := fun cs => (alloc_below w (.cells #[.int .i64 d, .string o, .string r] 28)).trans ((alloc_below (w.alloc (.cells #[.int .i64 d, .string o, .string r] 28)) (.cells cs 28)).mono (by simp))
  have HAL := Lib.hid hal
  clear hal
  have hk : (d = 0 ∧ knownP (d, o, r) = some (0, noB, noB)) ∨ (d ≠ 0 ∧ d = 1 ∧ knownP (d, o, r) = some (1, o, noB)) ∨ (d ≠ 0 ∧ d ≠ 1 ∧ d = 2 ∧ knownP (d, o, r) = some (2, o, r)) ∨ (d ≠ 0 ∧ d ≠ 1 ∧ d ≠ 2 ∧ knownP (d, o, r) = none) := by
    unfold knownP
    by_cases h0 : d = 0
    · simp [h0]
    · by_cases h1 : d = 1
      · simp [h1]
      · by_cases h2 : d = 2
        · simp [h2]
        · simp [h0, h1, h2]
  rcases hk with ⟨rfl, h⟩ | ⟨h0, rfl, h⟩ | ⟨h0, h1, rfl, h⟩ | ⟨h0, h1, h2, h⟩
  all_goals
    rw [h]
    clear h
    unfold valN
    simp only [Option.getD_some, Option.getD_none, Option.isSome_some, Option.isSome_none]
    go_enter Tryd.func17, Tryd.ntmps17
    go_wp2_with fail
    first
      | refine bodyPost_ret (v := .tuple #[.agg #[.int .i64 0, .string ⟨#[]⟩, .string ⟨#[]⟩], .bool true]) (by simp [results, Tryd.results17, go_sem]) rfl ?_; exact ⟨rfl, HAL.out _⟩
      | refine bodyPost_ret (v := .tuple #[.agg #[.int .i64 1, .string o, .string ⟨#[]⟩], .bool true]) (by simp [results, Tryd.results17, go_sem]) rfl ?_; exact ⟨rfl, HAL.out _⟩
      | refine bodyPost_ret (v := .tuple #[.agg #[.int .i64 2, .string o, .string r], .bool true]) (by simp [results, Tryd.results17, go_sem]) rfl ?_; exact ⟨rfl, HAL.out _⟩
      | refine bodyPost_ret (v := .tuple #[.agg #[.int .i64 0, .string ⟨#[]⟩, .string ⟨#[]⟩], .bool false]) (by simp [results, Tryd.results17, go_sem]) rfl ?_; exact ⟨rfl, HAL.out _⟩
set_option maxHeartbeats 4000000 in
theorem ncompare_ (a b : Nm) (w : World) : Calls Tryd.prog 52 #[valN a, valN b] w fun e w' => e = .returned (.int .i64 (cmpN a b)) ∧ Below w.heap.size w w' := by
  rw [← orI_name]
  obtain ⟨a1, a2, a3⟩ := a
  obtain ⟨b1, b2, b3⟩ := b
  unfold valN
  simp only
  go_enter Tryd.func52, Tryd.ntmps52
  go_wp2_with fail
  have B0 := Blk.new w 28 #[.int .i64 a1, .string a2, .string a3]
  have B1 := Blk.new (w.alloc (.cells #[.int .i64 a1, .string a2, .string a3] 28)) 28 #[.int .i64 b1, .string b2, .string b3]
  have B0' := B0.alloc (.cells #[.int .i64 b1, .string b2, .string b3] 28)
  have hbel := (alloc_below w (.cells #[.int .i64 a1, .string a2, .string a3] 28)).trans ((alloc_below (w.alloc (.cells #[.int .i64 a1, .string a2, .string a3] 28)) (.cells #[.int .i64 b1, .string b2, .string b3] 28)).mono (by simp))
  have hsz : (w.alloc (.cells #[.int .i64 a1, .string a2, .string a3] 28)).heap.size = w.heap.size + 1 := by simp
  rw [hsz] at B1
  have c0 := B0'.cell 0
  have c1 := B0'.cell 1
  have c2 := B0'.cell 2
  have d0 := B1.cell 0
  have d1 := B1.cell 1
  have d2 := B1.cell 2
  have HBEL := Lib.hid hbel
  clear B0 B1 B0' hbel hsz
  generalize (w.alloc (.cells #[.int .i64 a1, .string a2, .string a3] 28)).alloc (.cells #[.int .i64 b1, .string b2, .string b3] 28) = wA at *
  have hbl := alloc_below wA.drew (.cells #[.int .i64 (cmpI a1 b1), .int .i64 (cmpS a2 b2), .int .i64 (cmpS a3 b3)] 3)
  have hor := or_ (w := wA.drew.alloc (.cells #[.int .i64 (cmpI a1 b1), .int .i64 (cmpS a2 b2), .int .i64 (cmpS a3 b3)] 3)) (K := fun _ => True) (A := some ⟨wA.heap.size, 0, none⟩) (n := 3) (c := 3) (l := [cmpI a1 b1, cmpS a2 b2, cmpS a3 b3]) (fun _ => ⟨_, 0, rfl, trivial, by simp, fun j u hu => by
    have := (Blk.new wA.drew 3 #[.int .i64 (cmpI a1 b1), .int .i64 (cmpS a2 b2), .int .i64 (cmpS a3 b3)]).cell (0 + j)
    refine this.trans ?_
    rw [Nat.zero_add]
    simpa [cellsE, eI] using hu⟩) rfl (by omega)
  have hfin : Below w.heap.size w (wA.drew.alloc (.cells #[.int .i64 (cmpI a1 b1), .int .i64 (cmpS a2 b2), .int .i64 (cmpS a3 b3)] 3)) := HBEL.out.drew.trans (hbl.mono HBEL.out.size)
  have hS0 : (fun W : World => W.cell? ⟨w.heap.size, 0, none⟩ = some (.int .i64 a1) ∧ W.cell? ⟨w.heap.size, 1, none⟩ = some (.string a2) ∧ W.cell? ⟨w.heap.size, 2, none⟩ = some (.string a3) ∧ W.cell? ⟨w.heap.size + 1, 0, none⟩ = some (.int .i64 b1) ∧ W.cell? ⟨w.heap.size + 1, 1, none⟩ = some (.string b2) ∧ W.cell? ⟨w.heap.size + 1, 2, none⟩ = some (.string b3)) wA.drew := ⟨c0, c1, c2, d0, d1, d2⟩
  have hS1 : (fun W : World => W.cell? ⟨w.heap.size, 0, none⟩ = some (.int .i64 a1) ∧ W.cell? ⟨w.heap.size, 1, none⟩ = some (.string a2) ∧ W.cell? ⟨w.heap.size, 2, none⟩ = some (.string a3) ∧ W.cell? ⟨w.heap.size + 1, 0, none⟩ = some (.int .i64 b1) ∧ W.cell? ⟨w.heap.size + 1, 1, none⟩ = some (.string b2) ∧ W.cell? ⟨w.heap.size + 1, 2, none⟩ = some (.string b3)) (wA.drew.alloc (.cells #[.int .i64 (cmpI a1 b1), .int .i64 (cmpS a2 b2), .int .i64 (cmpS a3 b3)] 3)) :=
    ⟨(cell_of_heap (hbl.block _ (block_of_cell c0)) _).trans c0, (cell_of_heap (hbl.block _ (block_of_cell c1)) _).trans c1, (cell_of_heap (hbl.block _ (block_of_cell c2)) _).trans c2, (cell_of_heap (hbl.block _ (block_of_cell d0)) _).trans d0, (cell_of_heap (hbl.block _ (block_of_cell d1)) _).trans d1, (cell_of_heap (hbl.block _ (block_of_cell d2)) _).trans d2⟩
  have HOR := Lib.hid hor
  have HFIN := Lib.hid hfin
  clear hor hfin hbl
  generalize hz : orI [cmpI a1 b1, cmpS a2 b2, cmpS a3 b3] = z at *
  have HZ := Lib.hid hz
  clear hz
  go_region_held3 (fun W : World => W.cell? ⟨w.heap.size, 0, none⟩ = some (.int .i64 a1) ∧ W.cell? ⟨w.heap.size, 1, none⟩ = some (.string a2) ∧ W.cell? ⟨w.heap.size, 2, none⟩ = some (.string a3) ∧ W.cell? ⟨w.heap.size + 1, 0, none⟩ = some (.int .i64 b1) ∧ W.cell? ⟨w.heap.size + 1, 1, none⟩ = some (.string b2) ∧ W.cell? ⟨w.heap.size + 1, 2, none⟩ = some (.string b3))
    (first | exact hS0 | exact hS1)
    (first
      | (go_at_call 30; refine HOR.out.mono ?_; rintro e w1 ⟨rfl, rfl⟩)
      | (go_at_call 31; refine (compareI _ _ _).mono ?_; rintro e w1 ⟨rfl, rfl⟩)
      | (go_at_call 77; refine (compareS _ _ _).mono ?_; rintro e w1 ⟨rfl, rfl⟩))
  all_goals
    go_wp2_with fail
    go_ret
    exact ⟨by rw [HZ.out]; rfl, HFIN.out⟩
end Go.Proofs.YtnjhhndggfjjdaaDoor
