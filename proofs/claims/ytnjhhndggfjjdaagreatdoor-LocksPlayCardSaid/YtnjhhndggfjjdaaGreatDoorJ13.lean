/- Plain facts on all locks, by the names of what is locked; nothing of the program is named here. What the library's comparing of texts answers. Names of what is locked: the library's comparing of numbers, and its Or; package locks' known and compare. What the document's own comparing of keys comes to. -/
import Derived.Test.YtnjhhndggfjjdaaGreatDoorJ09
import Derived.Test.YtnjhhndggfjjdaaGreatDoorJ02
import Derived.Test.YtnjhhndggfjjdaaGreatDoorProg
import Derived.WalkKit
import Derived.ProofKit
import Derived.Laws.Cover1
import Derived.Lib.Hide
import Derived.Test.YtnjhhndggfjjdaaGreatDoorJ07
import Derived.LoopTactic
import Derived.Deep.LoopGhost
import Derived.Deep.RegionHeld3
import Derived.Below
import Derived.RegionTactic
import Derived.Deep.QuietTactic
import Derived.BigQuiet
import Derived.Lib.Strings
set_option maxRecDepth 4000
namespace Go.Proofs.YtnjhhndggfjjdaaGreatDoor
open Go
/-- a lock and its name; all of them, by their names -/
abbrev Ent := Nm × Lk
abbrev TS := List Ent
/-- where the lock of a name stands, or would -/
def spotN (s : TS) (n : Nm) : Nat := s.findIdx fun e => !decide (cmpN e.1 n < 0)
def atN (s : TS) (n : Nm) : Bool := match s[spotN s n]? with
  | some e => cmpN e.1 n == 0
  | none => false
/-- the lock of a name: nobody's, if there is none -/
def lockN (s : TS) (n : Nm) : Lk := match s[spotN s n]? with
  | some e => if cmpN e.1 n = 0 then e.2 else ([], [])
  | none => ([], [])
def putN (s : TS) (n : Nm) (l : Lk) : TS := if atN s n then s.set (spotN s n) (n, l) else s.take (spotN s n) ++ (n, l) :: s.drop (spotN s n)
/-- who has to do with a lock -/
def hereP (s : Lk) (who : Int) : Bool := (holdsP s).any fun h => h.1 == who
def countP (s : TS) : Nat := (s.map fun e => (holdsP e.2).length).sum
def waitN (s : TS) (who : Int) : Option Nm := (s.find? fun e => hasP e.2.2 who).map (·.1)
def modeN (s : TS) (who : Int) (n : Nm) : Nat := match knownP n with
  | none => 0
  | some m => modeP (lockN s m).1 who
def askN (s : TS) (who : Int) (n : Nm) (mode : Int) : Nat × TS := match knownP n with
  | none => (1, s)
  | some m =>
    if (waitN s who).isSome then (2, s) else
    if mode = 0 then (0, s) else
    if hereP (lockN s m) who = false ∧ 200 ≤ countP s then (10, s) else
    (if (askP (lockN s m) who (mdN mode)).1 then 0 else 13, putN s m (askP (lockN s m) who (mdN mode)).2)
def freeN : TS → Int → List Int × TS
  | [], _ => ([], [])
  | e :: s, who =>
    if hereP e.2 who then ((dropP e.2 who).1 ++ (freeN s who).1, if (holdsP (dropP e.2 who).2).length = 0 then (freeN s who).2 else (e.1, (dropP e.2 who).2) :: (freeN s who).2)
    else ((freeN s who).1, e :: (freeN s who).2)
/-- for whom each one waits, as the locks tell it -/
def rawE (s : TS) : List (Int × Int) := s.flatMap fun e => (holdsP e.2).flatMap fun h => (waitsP e.2 h.1).map fun o => (h.1, o)
/-- what all locks are at any time -/
structure TOk (s : TS) : Prop where
  rise : s.Pairwise fun a b => cmpN a.1 b.1 < 0
  norm : ∀ e ∈ s, knownP e.1 = some e.1
  ok : ∀ e ∈ s, Ok e.2
  fit : ∀ e ∈ s, Fit e.2
  some : ∀ e ∈ s, holdsP e.2 ≠ []
  one : s.Pairwise fun a b => ∀ who, hasP a.2.2 who = true → hasP b.2.2 who = false
end Go.Proofs.YtnjhhndggfjjdaaGreatDoor
namespace Go.Proofs.YtnjhhndggfjjdaaGreatDoor
open Go.RowKit

theorem retIk {a b : Int} (h : a = b) : Ending.returned (.int .i64 a) = .returned (.int .i64 b) := by rw [h]
theorem retBk {a b : Bool} (h : a = b) : Ending.returned (.bool a) = .returned (.bool b) := by rw [h]

theorem cmpS_lt {a b : ByteArray} (h : Op.bytesLess a.toList b.toList = true) : cmpS a b = -1 := by
  rw [cmpL_less] at h; exact of_decide_eq_true h
theorem cmpS_zero {a b : ByteArray} (h : (!a.toList == b.toList) = false) : cmpS a b = 0 := by
  simp at h; rw [cmpS, cmpL_eq]; exact h
theorem cmpS_gt {a b : ByteArray} (h : Op.bytesLess a.toList b.toList = false) (h2 : (!a.toList == b.toList) = true) : cmpS a b = 1 := by
  rw [cmpL_less] at h
  have h1 := of_decide_eq_false h
  have h3 : ¬ cmpL a.toList b.toList = 0 := by rw [cmpL_eq]; simpa using h2
  have := cmpL_range a.toList b.toList
  unfold cmpS; omega

theorem nanS (a : ByteArray) (w : World) : Calls Tryz.prog 115 #[.string a] w fun e w' => e = .returned (.bool false) ∧ w = w' := by
  go_enter Tryz.func115, Tryz.ntmps115
  go_wp2
  go_ret
  exact ⟨by simp, rfl⟩
theorem compareS (a b : ByteArray) (w : World) : Calls Tryz.prog 97 #[.string a, .string b] w fun e w' => e = .returned (.int .i64 (cmpS a b)) ∧ w = w' := by
  go_enter Tryz.func97, Tryz.ntmps97
  go_wp2_with (go_at_call 115; refine (nanS _ _).mono ?_; rintro e w' ⟨rfl, rfl⟩)
  all_goals go_ret
  all_goals refine ⟨?_, rfl⟩
  · exact retIk (cmpS_lt (by assumption)).symm
  · exact retIk (cmpS_gt (by assumption) (by assumption)).symm
  · exact retIk (cmpS_zero (by assumption)).symm
end Go.Proofs.YtnjhhndggfjjdaaGreatDoor
namespace Go.Proofs.YtnjhhndggfjjdaaGreatDoor
open Go.RowKit
theorem nanI (a : Int) (w : World) : Calls Tryz.prog 68 #[.int .i64 a] w fun e w' => e = .returned (.bool false) ∧ w = w' := by
  go_enter Tryz.func68, Tryz.ntmps68
  go_wp2
  go_ret
  exact ⟨by simp, rfl⟩
theorem compareI (a b : Int) (w : World) : Calls Tryz.prog 43 #[.int .i64 a, .int .i64 b] w fun e w' => e = .returned (.int .i64 (cmpI a b)) ∧ w = w' := by
  have h : (a < b ∧ cmpI a b = -1) ∨ (¬ a < b ∧ b < a ∧ cmpI a b = 1) ∨ (¬ a < b ∧ ¬ b < a ∧ cmpI a b = 0) := by
    unfold cmpI
    by_cases h1 : a < b
    · simp [h1]
    · by_cases h2 : b < a <;> simp [h1, h2]
  rcases h with ⟨h1, h3⟩ | ⟨h1, h2, h3⟩ | ⟨h1, h2, h3⟩
  all_goals
    rw [h3]
    clear h3
    go_enter Tryz.func43, Tryz.ntmps43
    go_wp2_with (go_at_call 68; refine (nanI _ _).mono ?_; rintro e w' ⟨rfl, rfl⟩)
    go_ret
    exact ⟨rfl, rfl⟩
/-- the first that is not 0; 0 -/
def orI : List Int → Int
  | [] => 0
  | x :: r => if x ≠ 0 then x else orI r
def OrR (w : World) (l : List Int) (k : Nat) (i : Value) (wr : World) : Prop := ∃ j, j + k = l.length ∧ i = .int .i64 (j : Int) ∧ orI l = orI (l.drop j) ∧ wr = w
set_option maxHeartbeats 1000000 in
theorem or_ {w : World} {K : Nat → Prop} {A : Option Addr} {n c : Nat} {l : List Int} (h : Lst w K eI A l) (hl : l.length = n) (hn : n ≤ 1000000) :
    Calls Tryz.prog 42 #[.slice A n c] w fun e w' => e = .returned (.int .i64 (orI l)) ∧ w = w' := by
  have H := Lib.hid h
  have HL := Lib.hid hl
  clear h hl
  go_enter Tryz.func42, Tryz.ntmps42
  go_wp2_with fail
  go_loopg [8] n (fun k i wr => OrR w l k i wr)
  case atStart => exact ⟨0, by rw [HL.out]; omega, rfl, rfl, rfl⟩
  case round =>
    obtain ⟨j, hj, rfl, h1, rfl⟩ := hrel
    have HJ := Lib.hid hj
    have H1 := Lib.hid h1
    clear hj h1
    by_cases hlt : j < n
    · have hx : j < l.length := by rw [HL.out]; exact hlt
      obtain ⟨g, o, rfl, _, d0⟩ := H.out.atI hx
      have hd : orI l = if l[j] ≠ 0 then l[j] else orI (l.drop (j + 1)) := by rw [H1.out, List.drop_eq_getElem_cons hx, orI]
      have HD := Lib.hid hd
      clear hd
      generalize l[j] = x at *
      by_cases hx0 : x = 0
      · subst hx0
        have e1 : orI l = orI (l.drop (j + 1)) := by rw [HD.out, if_neg (by simp)]
        have E1 := Lib.hid e1
        clear e1
        have e0 : ((0 : Int) != 0) = false := rfl
        go_wp2_with fail
        go_roundg (n - (j + 1))
        case measure => have := HJ.out; have := HL.out; omega
        case rel => exact ⟨j + 1, by have := HL.out; omega, by go_num, E1.out, rfl⟩
      · have e1 : orI l = x := by rw [HD.out, if_pos hx0]
        have E1 := Lib.hid e1
        have e0 : (x != 0) = true := by simpa using hx0
        clear e1
        go_wp2_with fail
        go_ret
        exact ⟨by rw [E1.out]; rfl, rfl⟩
    · have he : orI l = 0 := by rw [H1.out, List.drop_eq_nil_of_le (by have := HJ.out; have := HL.out; omega)]; rfl
      have HE := Lib.hid he
      clear he
      go_wp2_with fail
      go_ret
      exact ⟨by rw [HE.out]; rfl, rfl⟩
/-- a name as a value -/
def valN (n : Nm) : Value := .agg #[.int .i64 n.1, .string n.2.1, .string n.2.2]
theorem orI_name (a b : Nm) : orI [cmpI a.1 b.1, cmpS a.2.1 b.2.1, cmpS a.2.2 b.2.2] = cmpN a b := by
  unfold cmpN
  simp only [orI]
  split
  · rfl
  · split
    · rfl
    · split
      · rfl
      · rename_i h
        simp only [ne_eq, Classical.not_not] at h
        exact h.symm
set_option maxHeartbeats 1000000 in
theorem nknown_ (n : Nm) (w : World) : Calls Tryz.prog 21 #[valN n] w fun e w' => e = .returned (.tuple #[valN ((knownP n).getD (0, noB, noB)), .bool (knownP n).isSome]) ∧ Below w.heap.size w w' := by
  obtain ⟨d, o, r⟩ := n
  have hal := fun cs => (alloc_below w (.cells #[.int .i64 d, .string o, .string r] 31)).trans ((alloc_below (w.alloc (.cells #[.int .i64 d, .string o, .string r] 31)) (.cells cs 31)).mono (by simp))
  have HAL := Lib.hid hal
  clear hal
  have hk : (d = 0 ∧ knownP (d, o, r) = some (0, noB, noB)) ∨ (d ≠ 0 ∧ d = 1 ∧ knownP (d, o, r) = some (1, o, noB)) ∨ (d ≠ 0 ∧ d ≠ 1 ∧ d = 2 ∧ knownP (d, o, r) = some (2, o, r)) ∨ (d ≠ 0 ∧ d ≠ 1 ∧ d ≠ 2 ∧ knownP (d, o, r) = none) := by
    unfold knownP
    by_cases h0 : d = 0
    · simp [h0]
    · by_cases h1 : d = 1
      · simp [h1]
      · by_cases h2 : d = 2
        · simp [h2]
        · simp [h0, h1, h2]
  rcases hk with ⟨rfl, h⟩ | ⟨h0, rfl, h⟩ | ⟨h0, h1, rfl, h⟩ | ⟨h0, h1, h2, h⟩
  all_goals
    rw [h]
    clear h
    unfold valN
    simp only [Option.getD_some, Option.getD_none, Option.isSome_some, Option.isSome_none]
    go_enter Tryz.func21, Tryz.ntmps21
    go_wp2_with fail
    first
      | refine bodyPost_ret (v := .tuple #[.agg #[.int .i64 0, .string ⟨#[]⟩, .string ⟨#[]⟩], .bool true]) (by simp [results, Tryz.results21, go_sem]) rfl ?_; exact ⟨rfl, HAL.out _⟩
      | refine bodyPost_ret (v := .tuple #[.agg #[.int .i64 1, .string o, .string ⟨#[]⟩], .bool true]) (by simp [results, Tryz.results21, go_sem]) rfl ?_; exact ⟨rfl, HAL.out _⟩
      | refine bodyPost_ret (v := .tuple #[.agg #[.int .i64 2, .string o, .string r], .bool true]) (by simp [results, Tryz.results21, go_sem]) rfl ?_; exact ⟨rfl, HAL.out _⟩
      | refine bodyPost_ret (v := .tuple #[.agg #[.int .i64 0, .string ⟨#[]⟩, .string ⟨#[]⟩], .bool false]) (by simp [results, Tryz.results21, go_sem]) rfl ?_; exact ⟨rfl, HAL.out _⟩
set_option maxHeartbeats 4000000 in
theorem ncompare_ (a b : Nm) (w : World) : Calls Tryz.prog 72 #[valN a, valN b] w fun e w' => e = .returned (.int .i64 (cmpN a b)) ∧ Below w.heap.size w w' := by
  rw [← orI_name]
  obtain ⟨a1, a2, a3⟩ := a
  obtain ⟨b1, b2, b3⟩ := b
  unfold valN
  simp only
  go_enter Tryz.func72, Tryz.ntmps72
  go_wp2_with fail
  have B0 := Blk.new w 31 #[.int .i64 a1, .string a2, .string a3]
  have B1 := Blk.new (w.alloc (.cells #[.int .i64 a1, .string a2, .string a3] 31)) 31 #[.int .i64 b1, .string b2, .string b3]
  have B0' := B0.alloc (.cells #[.int .i64 b1, .string b2, .string b3] 31)
  have hbel := (alloc_below w (.cells #[.int .i64 a1, .string a2, .string a3] 31)).trans ((alloc_below (w.alloc (.cells #[.int .i64 a1, .string a2, .string a3] 31)) (.cells #[.int .i64 b1, .string b2, .string b3] 31)).mono (by simp))
  have hsz : (w.alloc (.cells #[.int .i64 a1, .string a2, .string a3] 31)).heap.size = w.heap.size + 1 := by simp
  rw [hsz] at B1
  have c0 := B0'.cell 0
  have c1 := B0'.cell 1
  have c2 := B0'.cell 2
  have d0 := B1.cell 0
  have d1 := B1.cell 1
  have d2 := B1.cell 2
  have HBEL := Lib.hid hbel
  clear B0 B1 B0' hbel hsz
  generalize (w.alloc (.cells #[.int .i64 a1, .string a2, .string a3] 31)).alloc (.cells #[.int .i64 b1, .string b2, .string b3] 31) = wA at *
  have hbl := alloc_below wA.drew (.cells #[.int .i64 (cmpI a1 b1), .int .i64 (cmpS a2 b2), .int .i64 (cmpS a3 b3)] 3)
  have hor := or_ (w := wA.drew.alloc (.cells #[.int .i64 (cmpI a1 b1), .int .i64 (cmpS a2 b2), .int .i64 (cmpS a3 b3)] 3)) (K := fun _ => True) (A := some ⟨wA.heap.size, 0, none⟩) (n := 3) (c := 3) (l := [cmpI a1 b1, cmpS a2 b2, cmpS a3 b3]) (fun _ => ⟨_, 0, rfl, trivial, by simp, fun j u hu => by
    have := (Blk.new wA.drew 3 #[.int .i64 (cmpI a1 b1), .int .i64 (cmpS a2 b2), .int .i64 (cmpS a3 b3)]).cell (0 + j)
    refine this.trans ?_
    rw [Nat.zero_add]
    simpa [cellsE, eI] using hu⟩) rfl (by omega)
  have hfin : Below w.heap.size w (wA.drew.alloc (.cells #[.int .i64 (cmpI a1 b1), .int .i64 (cmpS a2 b2), .int .i64 (cmpS a3 b3)] 3)) := HBEL.out.drew.trans (hbl.mono HBEL.out.size)
  have hS0 : (fun W : World => W.cell? ⟨w.heap.size, 0, none⟩ = some (.int .i64 a1) ∧ W.cell? ⟨w.heap.size, 1, none⟩ = some (.string a2) ∧ W.cell? ⟨w.heap.size, 2, none⟩ = some (.string a3) ∧ W.cell? ⟨w.heap.size + 1, 0, none⟩ = some (.int .i64 b1) ∧ W.cell? ⟨w.heap.size + 1, 1, none⟩ = some (.string b2) ∧ W.cell? ⟨w.heap.size + 1, 2, none⟩ = some (.string b3)) wA.drew := ⟨c0, c1, c2, d0, d1, d2⟩
  have hS1 : (fun W : World => W.cell? ⟨w.heap.size, 0, none⟩ = some (.int .i64 a1) ∧ W.cell? ⟨w.heap.size, 1, none⟩ = some (.string a2) ∧ W.cell? ⟨w.heap.size, 2, none⟩ = some (.string a3) ∧ W.cell? ⟨w.heap.size + 1, 0, none⟩ = some (.int .i64 b1) ∧ W.cell? ⟨w.heap.size + 1, 1, none⟩ = some (.string b2) ∧ W.cell? ⟨w.heap.size + 1, 2, none⟩ = some (.string b3)) (wA.drew.alloc (.cells #[.int .i64 (cmpI a1 b1), .int .i64 (cmpS a2 b2), .int .i64 (cmpS a3 b3)] 3)) :=
    ⟨(cell_of_heap (hbl.block _ (block_of_cell c0)) _).trans c0, (cell_of_heap (hbl.block _ (block_of_cell c1)) _).trans c1, (cell_of_heap (hbl.block _ (block_of_cell c2)) _).trans c2, (cell_of_heap (hbl.block _ (block_of_cell d0)) _).trans d0, (cell_of_heap (hbl.block _ (block_of_cell d1)) _).trans d1, (cell_of_heap (hbl.block _ (block_of_cell d2)) _).trans d2⟩
  have HOR := Lib.hid hor
  have HFIN := Lib.hid hfin
  clear hor hfin hbl
  generalize hz : orI [cmpI a1 b1, cmpS a2 b2, cmpS a3 b3] = z at *
  have HZ := Lib.hid hz
  clear hz
  go_region_held3 (fun W : World => W.cell? ⟨w.heap.size, 0, none⟩ = some (.int .i64 a1) ∧ W.cell? ⟨w.heap.size, 1, none⟩ = some (.string a2) ∧ W.cell? ⟨w.heap.size, 2, none⟩ = some (.string a3) ∧ W.cell? ⟨w.heap.size + 1, 0, none⟩ = some (.int .i64 b1) ∧ W.cell? ⟨w.heap.size + 1, 1, none⟩ = some (.string b2) ∧ W.cell? ⟨w.heap.size + 1, 2, none⟩ = some (.string b3))
    (first | exact hS0 | exact hS1)
    (first
      | (go_at_call 42; refine HOR.out.mono ?_; rintro e w1 ⟨rfl, rfl⟩)
      | (go_at_call 43; refine (compareI _ _ _).mono ?_; rintro e w1 ⟨rfl, rfl⟩)
      | (go_at_call 97; refine (compareS _ _ _).mono ?_; rintro e w1 ⟨rfl, rfl⟩))
  all_goals
    go_wp2_with fail
    go_ret
    exact ⟨by rw [HZ.out]; rfl, HFIN.out⟩
end Go.Proofs.YtnjhhndggfjjdaaGreatDoor
namespace Go.Proofs.YtnjhhndggfjjdaaGreatDoor
open Go.RowKit

theorem cmpL_right {x y : List UInt8} {k : Nat} (h : k < x.length) (h2 : y.length ≤ k) : cmpL (x.drop k) (y.drop k) = 1 := by
  rw [List.drop_eq_nil_of_le h2, List.drop_eq_getElem_cons h]; rfl
theorem cmpL_left {x y : List UInt8} {k : Nat} (h : x.length ≤ k) (h2 : k < y.length) : cmpL (x.drop k) (y.drop k) = -1 := by
  rw [List.drop_eq_nil_of_le h, List.drop_eq_getElem_cons h2]; rfl
theorem cmpL_at (a b : ByteArray) (k : Nat) (h : k < a.size) (h2 : k < b.size) : cmpL (a.data.toList.drop k) (b.data.toList.drop k) =
    if a[k].toNat < b[k].toNat then -1 else if b[k].toNat < a[k].toNat then 1 else cmpL (a.data.toList.drop (k + 1)) (b.data.toList.drop (k + 1)) := by
  rw [List.drop_eq_getElem_cons (show k < a.data.toList.length by simpa using h), List.drop_eq_getElem_cons (show k < b.data.toList.length by simpa using h2), cmpL]
  simp only [u8_lt_iff]
  rfl
theorem drewNN (w : World) (a b : Nat) : (w.drewN a).drewN b = w.drewN (a + b) := World.drewN_drewN ..
theorem refKeys (a b : ByteArray) (w : World) (ha : a.size ≤ maxLen) : Calls Tryz.prog 56 #[.string a, .string b] w fun e w' => e = .returned (.int .i64 (cmpS a b)) ∧ ∃ n, w' = w.drewN n := by
  unfold maxLen at ha
  go_enter Tryz.func56, Tryz.ntmps56
  go_wp2
  go_loopw [5] (fun i wr => ∃ k n : Nat, k ≤ a.size ∧ k ≤ b.size ∧ i = .int .i64 k ∧ wr = w.drewN n ∧ cmpL a.data.toList b.data.toList = cmpL (a.data.toList.drop k) (b.data.toList.drop k)) (fun i _ => a.size - (intOf i).toNat)
  case atStart => exact ⟨0, 0, Nat.zero_le _, Nat.zero_le _, rfl, rfl, rfl⟩
  case round =>
    obtain ⟨k, n, hk1, hk2, rfl, rfl, hinv⟩ := hrel
    have I := Lib.hid hinv
    clear hinv
    by_cases h1 : k < a.size
    · by_cases h2 : k < b.size
      · have A := cmpL_at a b k h1 h2
        rcases Nat.lt_trichotomy a[k].toNat b[k].toNat with h3 | h3 | h3
        · have e : cmpS a b = -1 := by
            rw [cmpS, Lib.toList_data, Lib.toList_data, I.out, A, if_pos h3]
          have E := Lib.hid e
          clear e A
          go_wp2
          go_quiet (fail)
          go_wp2
          go_ret
          exact ⟨retIk E.out.symm, _, by rw [drewNN]⟩
        · have e : cmpL a.data.toList b.data.toList = cmpL (a.data.toList.drop (k + 1)) (b.data.toList.drop (k + 1)) := by
            rw [I.out, A, if_neg (by omega), if_neg (by omega)]
          have E := Lib.hid e
          clear e A
          have h4 : ¬ a[k].toNat < b[k].toNat := by omega
          have h5 : ¬ b[k].toNat < a[k].toNat := by omega
          have H3 := Lib.hid h3
          clear h3
          go_wp2
          go_quiet (fail)
          go_wp2
          go_quiet (fail)
          go_wp2
          go_roundw
          case rel => exact ⟨k + 1, _, by omega, by omega, by go_num, rfl, E.out⟩
          case measure => simp [intOf]; omega
        · have e : cmpS a b = 1 := by
            rw [cmpS, Lib.toList_data, Lib.toList_data, I.out, A, if_neg (by omega), if_pos h3]
          have E := Lib.hid e
          clear e A
          have h4 : ¬ a[k].toNat < b[k].toNat := by omega
          go_wp2
          go_quiet (fail)
          go_wp2
          go_quiet (fail)
          go_wp2
          go_ret
          exact ⟨retIk E.out.symm, _, by rw [drewNN, drewNN]⟩
      · have h3 : k = b.size := by omega
        subst h3
        have e : cmpS a b = 1 := by
          rw [cmpS, Lib.toList_data, Lib.toList_data, I.out]; exact cmpL_right (by simpa using h1) (by simp)
        have E := Lib.hid e
        clear e
        have h4 : ¬ a.size < b.size := by omega
        go_wp2
        go_ret
        exact ⟨retIk E.out.symm, n, rfl⟩
    · have h3 : k = a.size := by omega
      subst h3
      by_cases h4 : a.size < b.size
      · have e : cmpS a b = -1 := by
          rw [cmpS, Lib.toList_data, Lib.toList_data, I.out]; exact cmpL_left (by simp) (by simpa using h4)
        have E := Lib.hid e
        clear e
        go_wp2
        go_ret
        exact ⟨retIk E.out.symm, n, rfl⟩
      · have h5 : ¬ b.size < a.size := by omega
        have e : cmpS a b = 0 := by
          rw [cmpS, Lib.toList_data, Lib.toList_data, I.out, List.drop_eq_nil_of_le (by simp), List.drop_eq_nil_of_le (by simp; omega)]; rfl
        have E := Lib.hid e
        clear e
        go_wp2
        go_ret
        exact ⟨retIk E.out.symm, n, rfl⟩
end Go.Proofs.YtnjhhndggfjjdaaGreatDoor
