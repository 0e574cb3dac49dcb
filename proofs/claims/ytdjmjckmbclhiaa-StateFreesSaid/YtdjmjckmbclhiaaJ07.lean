/- The comparing of two numbers: the library's. The order of messages: the document's. The order of messages: package order's. Package queue's function value in Add. What is handed to the library's Concat: rows of whatever structs that lie somewhere, side by side. Rows of messages that lie somewhere: the library's Grow of nothing and Concat at them. Package queue: Add. -/
import Derived.Test.YtdjmjckmbclhiaaJ01
import Derived.Test.YtdjmjckmbclhiaaProg
import Derived.WalkKit
import Derived.ProofKit
import Derived.Lib.Hide
import Derived.Test.YtdjmjckmbclhiaaJ03
import Derived.Test.YtdjmjckmbclhiaaJ06
import Derived.Shelf.Abstract
import Derived.Test.YtdjmjckmbclhiaaJ02
import Derived.Lib.AppendZeros
import Derived.Deep.RegionWith
set_option maxRecDepth 4000
namespace Go.Proofs.Ytdjmjckmbclhiaa
open Go.RowKit
theorem nanI (a : Int) (w : World) : Calls Try.prog 95 #[.int .i64 a] w fun e w' => e = .returned (.bool false) ∧ w = w' := by
  go_enter Try.func95, Try.ntmps95
  go_wp2
  go_ret
  exact ⟨by simp, rfl⟩
theorem compareI (a b : Int) (w : World) : Calls Try.prog 80 #[.int .i64 a, .int .i64 b] w fun e w' => e = .returned (.int .i64 (cmpI a b)) ∧ w = w' := by
  have h : (a < b ∧ cmpI a b = -1) ∨ (¬ a < b ∧ b < a ∧ cmpI a b = 1) ∨ (¬ a < b ∧ ¬ b < a ∧ cmpI a b = 0) := by
    unfold cmpI
    by_cases h1 : a < b
    · simp [h1]
    · by_cases h2 : b < a <;> simp [h1, h2]
  rcases h with ⟨h1, h3⟩ | ⟨h1, h2, h3⟩ | ⟨h1, h2, h3⟩
  all_goals
    rw [h3]
    clear h3
    go_enter Try.func80, Try.ntmps80
    go_wp2_with (go_at_call 95; refine (nanI _ _).mono ?_; rintro e w' ⟨rfl, rfl⟩)
    go_ret
    exact ⟨rfl, rfl⟩
end Go.Proofs.Ytdjmjckmbclhiaa
namespace Go.Proofs.Ytdjmjckmbclhiaa
open Go.RowKit
theorem retO {a b : Int} (h : a = b) : Ending.returned (.int .i64 a) = .returned (.int .i64 b) := by rw [h]
theorem rmsgs_ (a b : Mg) (w : World) : Calls Try.prog 30 #[a.val, b.val] w fun e w' => e = .returned (.int .i64 (cmpG a b)) ∧ (w.alloc (.cells a.cells 38)).alloc (.cells b.cells 38) = w' := by
  obtain ⟨i, p, x2, x3, x4, x5⟩ := a
  obtain ⟨j, q, y2, y3, y4, y5⟩ := b
  have e0 : cmpG ⟨i, p, x2, x3, x4, x5⟩ ⟨j, q, y2, y3, y4, y5⟩ = cmpM p i q j := rfl
  rw [e0]
  show Calls Try.prog 30 #[.agg #[.int .i64 i, .int .i64 p, .int .i64 x2, .bool x3, .string x4, .string x5], .agg #[.int .i64 j, .int .i64 q, .int .i64 y2, .bool y3, .string y4, .string y5]] w _
  clear e0
  rcases Int.lt_trichotomy p q with h | h | h
  · go_enter Try.func30, Try.ntmps30
    go_wp2
    go_ret
    exact ⟨retO (by have : cmpI p q = -1 := if_pos h
                    rw [cmpM, this]; rfl), rfl⟩
  · subst h
    have e : cmpM p i p j = cmpI i j := by rw [cmpM, if_pos ((cmpI_eq p p).2 rfl)]
    have E := Lib.hid e
    clear e
    rcases Int.lt_trichotomy i j with h | h | h
    · go_enter Try.func30, Try.ntmps30
      go_wp2
      go_ret
      exact ⟨retO (by rw [E.out, cmpI, if_pos h]), rfl⟩
    · subst h
      go_enter Try.func30, Try.ntmps30
      go_wp2
      go_ret
      exact ⟨retO (by rw [E.out, cmpI, if_neg (by omega), if_neg (by omega)]), rfl⟩
    · have h1 : ¬ i < j := by omega
      go_enter Try.func30, Try.ntmps30
      go_wp2
      go_ret
      exact ⟨retO (by rw [E.out, cmpI, if_neg (by omega), if_pos h]), rfl⟩
  · have h1 : ¬ p < q := by omega
    have h2 : (p == q) = false := by simp; omega
    go_enter Try.func30, Try.ntmps30
    go_wp2
    go_ret
    exact ⟨retO (by have : cmpI p q = 1 := by rw [cmpI, if_neg (by omega), if_pos h]
                    rw [cmpM, this]; rfl), rfl⟩
end Go.Proofs.Ytdjmjckmbclhiaa
namespace Go.Proofs.Ytdjmjckmbclhiaa
open Go.RowKit
theorem msgs_ (a b : Mg) (w : World) : Calls Try.prog 63 #[a.val, b.val] w fun e w' => e = .returned (.int .i64 (cmpG a b)) ∧ (w.alloc (.cells a.cells 38)).alloc (.cells b.cells 38) = w' := by
  obtain ⟨i, p, x2, x3, x4, x5⟩ := a
  obtain ⟨j, q, y2, y3, y4, y5⟩ := b
  have e0 : cmpG ⟨i, p, x2, x3, x4, x5⟩ ⟨j, q, y2, y3, y4, y5⟩ = cmpM p i q j := rfl
  rw [e0]
  show Calls Try.prog 63 #[.agg #[.int .i64 i, .int .i64 p, .int .i64 x2, .bool x3, .string x4, .string x5], .agg #[.int .i64 j, .int .i64 q, .int .i64 y2, .bool y3, .string y4, .string y5]] w _
  clear e0
  go_enter Try.func63, Try.ntmps63
  go_wp2_with (go_at_call 80; refine (compareI _ _ _).mono ?_; rintro e w' ⟨rfl, rfl⟩)
  all_goals go_ret
  · rename_i h; exact ⟨retO (by rw [cmpM, if_neg (by simpa using h)]), rfl⟩
  · rename_i h; exact ⟨retO (by rw [cmpM, if_pos (by simpa using h)]), rfl⟩
end Go.Proofs.Ytdjmjckmbclhiaa
namespace Go.Proofs.Ytdjmjckmbclhiaa
open Go.RowKit
set_option maxHeartbeats 1000000 in
theorem pred_add (m : Mg) (B : Nat) (w : World) (hB : Blk w B 38 m.cells) (l : List Mg) : PredM 89 #[.pointer (some ⟨B, 0, none⟩)] (behM m) l w := fun W x _ hb => by
  have hB' := hB.below hb hB.lt
  have hne : B ≠ W.heap.size := by have := hB'.lt; omega
  have hlt := hB'.lt
  obtain ⟨m0, m1, m2, m3, m4, m5⟩ := m
  obtain ⟨x0, x1, x2, x3, x4, x5⟩ := x
  have d0 := hB'.cell 0
  have d1 := hB'.cell 1
  have d2 := hB'.cell 2
  have d3 := hB'.cell 3
  have d4 := hB'.cell 4
  have d5 := hB'.cell 5
  simp only [Mg.cells, List.getElem?_toArray, List.getElem?_cons_zero, List.getElem?_cons_succ] at d0 d1 d2 d3 d4 d5
  have hnew := hb.alloc hb.size (.cells #[.int .i64 x0, .int .i64 x1, .int .i64 x2, .bool x3, .string x4, .string x5] 38)
  have hnew2 := (hnew.alloc hnew.size (.cells #[.int .i64 m0, .int .i64 m1, .int .i64 m2, .bool m3, .string m4, .string m5] 38))
  have hnew3 := hnew2.alloc hnew2.size (.cells #[.int .i64 x0, .int .i64 x1, .int .i64 x2, .bool x3, .string x4, .string x5] 38)
  have hcall := fun W => msgs_ ⟨m0, m1, m2, m3, m4, m5⟩ ⟨x0, x1, x2, x3, x4, x5⟩ W
  unfold behM
  generalize cmpG ⟨m0, m1, m2, m3, m4, m5⟩ ⟨x0, x1, x2, x3, x4, x5⟩ = z at *
  simp only [Mg.val, Mg.cells] at hcall ⊢
  have HN := Lib.hid hnew3
  have HC := Lib.hid hcall
  clear hB hb hnew hnew2 hnew3 hB' hcall
  show Calls Try.prog 89 #[.agg #[.int .i64 x0, .int .i64 x1, .int .i64 x2, .bool x3, .string x4, .string x5], .pointer (some ⟨B, 0, none⟩)] W _
  go_enter Try.func89, Try.ntmps89
  go_wp2_with (go_at_call 63; refine (HC.out _).mono ?_; rintro e w' ⟨rfl, rfl⟩)
  go_ret
  exact ⟨rfl, HN.out⟩
theorem enters_add : ∀ args w, (callFunc 89 args).run Try.prog w = .ok (.enter 89 args) w := enters_of Try.func89 (by kernel_rfl) rfl
end Go.Proofs.Ytdjmjckmbclhiaa
namespace Go.Proofs.Ytdjmjckmbclhiaa
open Go.RowKit
section
variable {α : Type} {E : Enc α} {T : TypeId}
/-- a part of what Concat is handed -/
def PartE (E : Enc α) (w : World) (p : Value × List α) : Prop := ∃ A c K, p.1 = .slice A p.2.length c ∧ Lst w K E A p.2
theorem PartE.below {w w' : World} {p : Value × List α} (h : PartE E w p) (k : Below w.heap.size w w') : PartE E w' p := by
  obtain ⟨A, c, K, e, hr⟩ := h
  exact ⟨A, c, K, e, hr.below k⟩
def flatE : List (Value × List α) → List α
  | [] => []
  | p :: r => p.2 ++ flatE r
theorem flatE_append (l m : List (Value × List α)) : flatE (l ++ m) = flatE l ++ flatE m := by
  induction l with
  | nil => rfl
  | cons x r ih => simp [flatE, ih]
theorem flatE_succ {l : List (Value × List α)} {j : Nat} (h : j < l.length) : flatE (l.take (j + 1)) = flatE (l.take j) ++ l[j].2 := by
  rw [List.take_succ_eq_append_getElem h, flatE_append]
  simp [flatE]
theorem flatE_le (l : List (Value × List α)) (j : Nat) : (flatE (l.take j)).length ≤ (flatE l).length := by
  conv => rhs; rw [← List.take_append_drop j l, flatE_append, List.length_append]
  omega
def SumE (ps : List (Value × List α)) (k : Nat) (sz i : Value) : Prop := ∃ j, j + k = ps.length ∧ sz = .int .i64 ((flatE (ps.take j)).length : Int) ∧ i = .int .i64 (j : Int)
def CatE (E : Enc α) (T : TypeId) (w : World) (ps : List (Value × List α)) (k : Nat) (v i : Value) (wr : World) : Prop :=
  ∃ j, j + k = ps.length ∧ i = .int .i64 (j : Int) ∧ Own wr w.heap.size E T v (flatE (ps.take j)) ∧ Below w.heap.size w wr
/-- these values lie from o on in block b -/
def ValE (w : World) (b o : Nat) (ps : List (Value × List α)) : Prop := b < w.heap.size ∧ ∀ j (h : j < ps.length), w.cell? ⟨b, o + j, none⟩ = some ps[j].1
theorem ValE.below {w w' : World} {b o : Nat} {ps : List (Value × List α)} (h : ValE w b o ps) (k : Below w.heap.size w w') : ValE w' b o ps :=
  ⟨Nat.lt_of_lt_of_le h.1 k.size, fun j hj => (cell_of_heap (k.block b h.1) _).trans (h.2 j hj)⟩
theorem blk_cellsE {w : World} {g : Nat} {t : TypeId} {cs : Array Value} (h : Blk w g t cs) {ps : List (Value × List α)} (hp : cs.toList = ps.map (·.1)) : ValE w g 0 ps :=
  ⟨h.lt, fun j hj => by
    rw [h.cell, Nat.zero_add, ← Array.getElem?_toList, hp, List.getElem?_map, List.getElem?_eq_getElem hj]; rfl⟩
/-- one struct in a block of its own -/
theorem one_lst (E : Enc α) (w : World) (T : TypeId) (x : α) {cs : Array Value} (h : cs.toList = E.enc x) : Lst (w.alloc (.cells cs T)) (fun i => w.heap.size ≤ i) E (some ⟨w.heap.size, 0, none⟩) [x] := fun _ =>
  ⟨_, 0, rfl, Nat.le_refl _, by simp, fun j u hu => by
    rw [(Blk.new w T _).cell, Nat.zero_add, ← Array.getElem?_toList, h]
    simpa [cellsE] using hu⟩
end
end Go.Proofs.Ytdjmjckmbclhiaa
namespace Go.Proofs.Ytdjmjckmbclhiaa
open Go.RowKit
set_option maxHeartbeats 400000 in
theorem grow_m (n : Nat) (hn : n ≤ 1000000) (w : World) : Calls Try.prog 98 #[.slice none 0 0, .int .i64 (n : Int)] w
    fun e w' => ∃ v, e = .returned v ∧ OwnM w' w.heap.size v [] ∧ Below w.heap.size w w' := by
  rcases Nat.eq_zero_or_pos n with h0 | h0
  · subst h0
    go_enter Try.func98, Try.ntmps98
    go_wp2
    go_ret
    exact ⟨_, rfl, own_nil _ _, Below.refl _ _⟩
  · obtain ⟨i0, hi, hz0, hz1, hz2⟩ := info_parts infoM
    have hr := Lib.run_append_nil_zeros (P := Try.prog) w 34 3 34 38 i0 _ .i64 .i64 Try.underlying34 Try.underlying3 hi hz0 n h0 (by rw [hz1]; omega) (by omega) (by rw [hz2]; omega)
    have hge := grownCap_ge w n 0 38
    have hcm := grownCap_le_maxLen w n 0 38 (by unfold maxLen; omega)
    have hown : OwnM (w.drew.alloc (.cells (Builtin.zeroCells (Value.agg #[.int .i64 0, .int .i64 0, .int .i64 0, .bool false, .string ⟨#[]⟩, .string ⟨#[]⟩]).cells n ++ Builtin.zeroCells (Value.agg #[.int .i64 0, .int .i64 0, .int .i64 0, .bool false, .string ⟨#[]⟩, .string ⟨#[]⟩]).cells (grownCap w n 0 38 - n)) 38)) w.heap.size (.slice (some ⟨w.heap.size, 0, none⟩) 0 (grownCap w n 0 38)) [] := by
      refine ⟨rfl, .inr ⟨w.heap.size, _, _, rfl, Nat.le_refl _, heap_alloc_new w.drew _, Nat.zero_le _, hcm, ?_, rfl⟩⟩
      simp only [Array.size_append, size_zeroCells]
      rw [← Nat.add_mul]
      have : (Value.agg #[.int .i64 0, .int .i64 0, .int .i64 0, .bool false, .string ⟨#[]⟩, .string ⟨#[]⟩]).cells.size = 6 := rfl
      rw [this]
      show _ = _ * 6
      congr 1
      omega
    have hbel : Below w.heap.size w (w.drew.alloc (.cells (Builtin.zeroCells (Value.agg #[.int .i64 0, .int .i64 0, .int .i64 0, .bool false, .string ⟨#[]⟩, .string ⟨#[]⟩]).cells n ++ Builtin.zeroCells (Value.agg #[.int .i64 0, .int .i64 0, .int .i64 0, .bool false, .string ⟨#[]⟩, .string ⟨#[]⟩]).cells (grownCap w n 0 38 - n)) 38)) := (Below.refl _ _).drew.alloc (Nat.le_refl _) _
    generalize (w.drew.alloc (.cells (Builtin.zeroCells (Value.agg #[.int .i64 0, .int .i64 0, .int .i64 0, .bool false, .string ⟨#[]⟩, .string ⟨#[]⟩]).cells n ++ Builtin.zeroCells (Value.agg #[.int .i64 0, .int .i64 0, .int .i64 0, .bool false, .string ⟨#[]⟩, .string ⟨#[]⟩]).cells (grownCap w n 0 38 - n)) 38)) = W' at *
    generalize grownCap w n 0 38 = cap at *
    have HO := Lib.hid hown
    have HB := Lib.hid hbel
    clear hown hbel
    go_enter Try.func98, Try.ntmps98
    go_wp2_with (at_builtin; refine wpList_append_run rfl (.tmp 20) (.tmp 21) 34 3 rfl _ _ rfl rfl hr ?_)
    go_ret
    exact ⟨_, rfl, HO.out, HB.out⟩
set_option maxHeartbeats 1000000 in
theorem concat_m {w : World} {b o k c : Nat} {ps : List (Value × List Mg)} (hv : ValE w b o ps) (hp : ∀ p ∈ ps, PartE eM w p) (hk : ps.length = k) (hk2 : k ≤ 1000) (hs : (flatE ps).length ≤ 1000000) :
    Calls Try.prog 90 #[.slice (some ⟨b, o, none⟩) k c] w fun e w' => ∃ v, e = .returned v ∧ OwnM w' w.heap.size v (flatE ps) ∧ Below w.heap.size w w' := by
  have HV := Lib.hid hv
  have HP := Lib.hid hp
  have HK := Lib.hid hk
  have HS := Lib.hid hs
  clear hv hp hk hs
  go_enter Try.func90, Try.ntmps90
  go_wp2
  go_loopg [3, 11] k (fun m sz i wr => SumE ps m sz i ∧ w = wr)
  case atStart => exact ⟨⟨0, by rw [HK.out]; omega, rfl, rfl⟩, rfl⟩
  case round =>
    obtain ⟨⟨j, hj, rfl, rfl⟩, rfl⟩ := hrel
    have HJ := Lib.hid hj
    clear hj
    by_cases hlt : j < k
    · have hx : j < ps.length := by rw [HK.out]; exact hlt
      have hc := HV.out.2 j hx
      obtain ⟨A1, c1, K1, e1, _⟩ := HP.out _ (List.getElem_mem hx)
      have hsum : (flatE (ps.take (j + 1))).length = (flatE (ps.take j)).length + (ps[j].2).length := by rw [flatE_succ hx, List.length_append]
      have hle := flatE_le ps (j + 1)
      rw [e1] at hc
      have hsm : (flatE (ps.take j)).length + (ps[j].2).length ≤ 1000000 := by have := HS.out; omega
      have HSUM := Lib.hid hsum
      clear hsum hle e1
      generalize (ps[j].2).length = m1 at *
      generalize (flatE (ps.take j)).length = m0 at *
      go_wp2
      go_roundg (k - (j + 1))
      case measure => have := HJ.out; have := HK.out; omega
      case rel => exact ⟨⟨j + 1, by have := HK.out; omega, by have := HSUM.out; go_num, by go_num⟩, rfl⟩
    · have he : j = k := by have := HJ.out; have := HK.out; omega
      subst he
      have hall : ps.take j = ps := List.take_of_length_le (by rw [HK.out]; exact Nat.le_refl _)
      rw [hall]
      have hS := HS.out
      generalize hm : (flatE ps).length = m at *
      have HM := Lib.hid hm
      clear hm
      go_wp2_with (go_at_call 98; refine (grow_m m hS w).mono ?_; rintro e w1 ⟨v1, rfl, ho1, hb1⟩)
      have HO1 := Lib.hid ho1
      have HB1 := Lib.hid hb1
      clear ho1 hb1
      go_loopg [6, 27] j (fun m v i wr => CatE eM 38 w ps m v i wr)
      case atStart => exact ⟨0, by have := HK.out; omega, rfl, by simpa [flatE] using HO1.out, HB1.out⟩
      case round =>
        obtain ⟨i, hi, rfl, ho, hb⟩ := hrel
        have HI := Lib.hid hi
        have HO := Lib.hid ho
        have HB := Lib.hid hb
        clear hi ho hb
        by_cases hlt : i < j
        · have hx : i < ps.length := by rw [HK.out]; exact hlt
          have hc := (HV.out.below HB.out).2 i hx
          obtain ⟨A1, c1, K1, e1, hr1⟩ := (HP.out _ (List.getElem_mem hx)).below HB.out
          rw [e1] at hc
          have hsum : (flatE (ps.take (i + 1))).length = (flatE (ps.take i)).length + (ps[i].2).length := by rw [flatE_succ hx, List.length_append]
          have hle := flatE_le ps (i + 1)
          have hsm : (flatE (ps.take i)).length + (ps[i].2).length ≤ 1000000 := by have := HM.out; omega
          obtain ⟨v2, W2, hap, ho2, hg2, _⟩ := append_own tyM HO.out hr1 rfl c1 hsm HB.out.size
          rw [← flatE_succ hx] at ho2
          have HO2 := Lib.hid ho2
          have hb2 : Below w.heap.size w W2 := HB.out.grown hg2 HB.out.size (fun q hq => (own_blk HO.out hq).1)
          have HB2 := Lib.hid hb2
          clear ho2 hg2 hb2 hsum hle e1 hr1 hsm
          generalize (ps[i].2).length = m1 at *
          go_wp2_with (at_builtin; refine wpList_append_run rfl (.tmp 31) (.tmp 32) 34 34 rfl _ _ rfl rfl hap ?_)
          go_roundg (j - (i + 1))
          case measure => have := HI.out; have := HK.out; omega
          case rel => exact ⟨i + 1, by have := HK.out; omega, by go_num, HO2.out, HB2.out⟩
        · have he : i = j := by have := HI.out; have := HK.out; omega
          subst he
          have ho := HO.out
          rw [hall] at ho
          have HO3 := Lib.hid ho
          clear ho
          go_wp2
          go_ret
          exact ⟨_, rfl, HO3.out, HB.out⟩
/-- some messages, one more, and others, side by side -/
theorem concat3_m {w : World} {K : Nat → Prop} {A1 A2 : Option Addr} {xs1 xs2 : List Mg} {q m c1 c2 : Nat} (h1 : Lst w K eM A1 xs1) (l1 : xs1.length = q) (h2 : Lst w K eM A2 xs2) (l2 : xs2.length = m) (r : Mg) (hs : q + m ≤ 999999) {b a : Nat} (hb : b = w.heap.size + 1) (ha : a = w.heap.size) :
    Calls Try.prog 90 #[.slice (some ⟨b, 0, none⟩) 3 3] (((w.alloc (.cells r.cells 38)).alloc (.cells #[.slice A1 q c1, .slice (some ⟨a, 0, none⟩) 1 1, .slice A2 m c2] 34)).drew)
      fun e w' => ∃ v, e = .returned v ∧ OwnM w' w.heap.size v (xs1 ++ [r] ++ xs2) ∧ Below w.heap.size w w' := by
  subst hb ha l1 l2
  have k1 := alloc_below w (.cells r.cells 38)
  have k2 := k1.alloc k1.size (.cells #[.slice A1 xs1.length c1, .slice (some ⟨w.heap.size, 0, none⟩) 1 1, .slice A2 xs2.length c2] 34)
  have hB := Blk.new (w.alloc (.cells r.cells 38)) 34 #[.slice A1 xs1.length c1, .slice (some ⟨w.heap.size, 0, none⟩) 1 1, .slice A2 xs2.length c2]
  have hr := (one_lst eM w 38 r (cs := r.cells) rfl).below (alloc_below (w.alloc (.cells r.cells 38)) (.cells #[.slice A1 xs1.length c1, .slice (some ⟨w.heap.size, 0, none⟩) 1 1, .slice A2 xs2.length c2] 34))
  have hz : (w.alloc (.cells r.cells 38)).heap.size = w.heap.size + 1 := by simp
  rw [hz] at hB
  have hV := blk_cellsE hB.drew (ps := [(.slice A1 xs1.length c1, xs1), (.slice (some ⟨w.heap.size, 0, none⟩) 1 1, [r]), (.slice A2 xs2.length c2, xs2)]) rfl
  refine (concat_m hV ?_ rfl (by simp) (by simp [flatE]; omega)).mono ?_
  · intro p hp
    rcases List.mem_cons.1 hp with rfl | hp
    · exact ⟨A1, c1, K, rfl, (h1.below k2).below (Below.refl _ _).drew⟩
    · rcases List.mem_cons.1 hp with rfl | hp
      · exact ⟨_, 1, _, rfl, hr.below (Below.refl _ _).drew⟩
      · rcases List.mem_cons.1 hp with rfl | hp
        · exact ⟨A2, c2, K, rfl, (h2.below k2).below (Below.refl _ _).drew⟩
        · cases hp
  · rintro e w' ⟨v, rfl, ho, hbb⟩
    have e1 : flatE [(Value.slice A1 xs1.length c1, xs1), (.slice (some ⟨w.heap.size, 0, none⟩) 1 1, [r]), (.slice A2 xs2.length c2, xs2)] = xs1 ++ [r] ++ xs2 := by simp [flatE]
    rw [e1] at ho
    have hk := k2.drew
    exact ⟨v, rfl, own_base ho hk.size, hk.trans (hbb.mono hk.size)⟩
/-- some messages and others, side by side -/
theorem concat2_m {w : World} {K : Nat → Prop} {A1 A2 : Option Addr} {xs1 xs2 : List Mg} {q m c1 c2 : Nat} (h1 : Lst w K eM A1 xs1) (l1 : xs1.length = q) (h2 : Lst w K eM A2 xs2) (l2 : xs2.length = m) (hs : q + m ≤ 999999) {b : Nat} (hb : b = w.heap.size) :
    Calls Try.prog 90 #[.slice (some ⟨b, 0, none⟩) 2 2] ((w.alloc (.cells #[.slice A1 q c1, .slice A2 m c2] 34)).drew)
      fun e w' => ∃ v, e = .returned v ∧ OwnM w' w.heap.size v (xs1 ++ xs2) ∧ Below w.heap.size w w' := by
  subst hb l1 l2
  have k2 := alloc_below w (.cells #[.slice A1 xs1.length c1, .slice A2 xs2.length c2] 34)
  have hB := Blk.new w 34 #[.slice A1 xs1.length c1, .slice A2 xs2.length c2]
  have hV := blk_cellsE hB.drew (ps := [(.slice A1 xs1.length c1, xs1), (.slice A2 xs2.length c2, xs2)]) rfl
  refine (concat_m hV ?_ rfl (by simp) (by simp [flatE]; omega)).mono ?_
  · intro p hp
    rcases List.mem_cons.1 hp with rfl | hp
    · exact ⟨A1, c1, K, rfl, (h1.below k2).below (Below.refl _ _).drew⟩
    · rcases List.mem_cons.1 hp with rfl | hp
      · exact ⟨A2, c2, K, rfl, (h2.below k2).below (Below.refl _ _).drew⟩
      · cases hp
  · rintro e w' ⟨v, rfl, ho, hbb⟩
    have e1 : flatE [(Value.slice A1 xs1.length c1, xs1), (.slice A2 xs2.length c2, xs2)] = xs1 ++ xs2 := by simp [flatE]
    rw [e1] at ho
    have hk := k2.drew
    exact ⟨v, rfl, own_base ho hk.size, hk.trans (hbb.mono hk.size)⟩
end Go.Proofs.Ytdjmjckmbclhiaa
namespace Go.Proofs.Ytdjmjckmbclhiaa
open Go.RowKit
/-- six cells of a message's block -/
theorem blk_six {w : World} {g : Nat} {m : Mg} (h : Blk w g 38 m.cells) : w.cell? ⟨g, 0, none⟩ = some (.int .i64 m.id) ∧ w.cell? ⟨g, 1, none⟩ = some (.int .i64 m.pri) ∧ w.cell? ⟨g, 2, none⟩ = some (.int .i64 m.retry) ∧
    w.cell? ⟨g, 3, none⟩ = some (.bool m.claimed) ∧ w.cell? ⟨g, 4, none⟩ = some (.string m.corr) ∧ w.cell? ⟨g, 5, none⟩ = some (.string m.body) :=
  ⟨h.cell 0, h.cell 1, h.cell 2, h.cell 3, h.cell 4, h.cell 5⟩
set_option maxHeartbeats 1000000 in
theorem add_m {w : World} {K : Nat → Prop} {A : Option Addr} {n c : Nat} {l : List Mg} (h : Lst w K eM A l) (hl : l.length = n) (hn : n ≤ 100000) (hc : n ≤ c) (m : Mg) :
    Calls Try.prog 74 #[.slice A n c, m.val] w fun e w' => ∃ v, e = .returned v ∧ OwnM w' w.heap.size v (addM l m) ∧ Below w.heap.size w w' := by
  have hb0 := alloc_below w (.cells m.cells 38)
  have hX0 := Blk.new w 38 m.cells
  have hi := index_m (c := c) (h.below hb0) hl (by omega) enters_add (pred_add m w.heap.size _ hX0 l)
  have hle := spot_le l m
  have hz : idxI (behM m) l = -1 ∧ spotM l m = n ∨ idxI (behM m) l = (spotM l m : Int) := by
    unfold idxI spotM
    split
    · exact .inr rfl
    · exact .inl ⟨rfl, by have : l.findIdx (behM m) ≤ l.length := List.findIdx_le_length
                          omega⟩
  unfold addM
  generalize spotM l m = q at *
  rw [hl] at hle
  obtain ⟨A2, hd2, hr2, _⟩ := tail_m h hl hc hle rfl
  obtain ⟨m2, hm2⟩ : ∃ m, n - q = m := ⟨_, rfl⟩
  rw [hm2] at hd2
  have hd1 := fun W => head_m A n c q (by omega) W
  have h3 := fun W (hb : Below w.heap.size w W) => concat3_m (w := W) (q := q) (m := m2) (c1 := c) (c2 := c - q) ((h.below hb).take q) (by rw [List.length_take, hl]; omega) (hr2.below hb) (by rw [List.length_drop, hl]; exact hm2) m (by omega) (b := W.heap.size + 1) (a := W.heap.size) rfl rfl
  have hs0 : (w.alloc (.cells m.cells 38)).heap.size = w.heap.size + 1 := by simp
  have H3 := Lib.hid h3
  have HX0 := Lib.hid hX0
  have HI := Lib.hid hi
  have HB0 := Lib.hid hb0
  have HS0 := Lib.hid hs0
  clear h3 hX0 hi hb0 hs0 hr2 h hm2
  obtain ⟨m0, m1, m2', m3, m4, m5⟩ := m
  simp only [Mg.val, Mg.cells] at HX0 HI H3 HB0 HS0 ⊢
  rcases hz with ⟨e1, rfl⟩ | e1
  · rw [e1] at HI
    clear hl hle e1
    go_enter Try.func74, Try.ntmps74
    go_wp2_with fail
    refine HI.out.mono ?_
    rintro e w1 ⟨rfl, hb1⟩
    have hB1 := HB0.out.trans (hb1.mono HB0.out.size)
    have hx1 := HX0.out.below hb1 HX0.out.lt
    obtain ⟨d0, d1, d2, d3, d4, d5⟩ := blk_six (m := ⟨m0, m1, m2', m3, m4, m5⟩) hx1
    have h3 := H3.out w1 hB1
    have HH3 := Lib.hid h3
    have HB1 := Lib.hid hB1
    clear h3 hx1 hB1 hb1 HX0 HI H3 HB0 HS0
    go_wp2_with fail
    go_region_with (go_at_call 90; refine HH3.out.mono ?_; rintro e w2 ⟨v1, rfl, hn1, hb2⟩; have HN1 := Lib.hid hn1; have HB2 := Lib.hid hb2; clear hn1 hb2)
    all_goals
      go_wp2
      go_ret
      exact ⟨v1, rfl, own_base HN1.out HB1.out.size, HB1.out.trans (HB2.out.mono HB1.out.size)⟩
  · rw [e1] at HI
    clear hl e1
    go_enter Try.func74, Try.ntmps74
    go_wp2_with fail
    refine HI.out.mono ?_
    rintro e w1 ⟨rfl, hb1⟩
    have hB1 := HB0.out.trans (hb1.mono HB0.out.size)
    have hx1 := HX0.out.below hb1 HX0.out.lt
    obtain ⟨d0, d1, d2, d3, d4, d5⟩ := blk_six (m := ⟨m0, m1, m2', m3, m4, m5⟩) hx1
    have h3 := H3.out w1 hB1
    have HH3 := Lib.hid h3
    have HB1 := Lib.hid hB1
    clear h3 hx1 hB1 hb1 HX0 HI H3 HB0 HS0
    go_wp2_with fail
    go_region_with (go_at_call 90; refine HH3.out.mono ?_; rintro e w2 ⟨v1, rfl, hn1, hb2⟩; have HN1 := Lib.hid hn1; have HB2 := Lib.hid hb2; clear hn1 hb2)
    all_goals
      go_wp2
      go_ret
      exact ⟨v1, rfl, own_base HN1.out HB1.out.size, HB1.out.trans (HB2.out.mono HB1.out.size)⟩
end Go.Proofs.Ytdjmjckmbclhiaa
