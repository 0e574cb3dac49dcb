/- What a part hands over, from a key on: a leaf's rows go to a round each. -/
import Derived.Test.YtocaaebmelhhnaaTreeT
import Derived.Test.YtocaaebmelhhnaaFromP
import Derived.RangeFuncNested
import Derived.RangeFuncBound
import Derived.RangeFuncCalls
import Derived.RangeFuncLeaves
import Derived.Shelf.Abstract
import Derived.Shelf.RegionOpen
import Derived.OwnWalkIn
import Derived.TacticsInMore
import Derived.LoopIn
import Derived.Deep.LoopGhost
set_option maxRecDepth 4000
namespace Go.Proofs.Ytocaaebmelhhnaa
open Go.RowKit
theorem wide_fn (f : Nat) : Fence.wide.fn f = True := rfl
theorem wide_depth : Fence.wide.depth = none := rfl
attribute [local go_sem] Oper.semAt_some wide_fn wide_depth
theorem room_wide_of (k : Nat) : (Fence.wide.depth.isSome = true → 1 ≤ k) := fun h => by cases h
theorem RoundIn.anyDepth {m m' : Nat} {P : Program} {l : Nat} {f : FuncId} {tmps : Array Value} {assign body : Code} {w : World} {R : Ending → World → Prop}
    (h : RoundIn Fence.wide m P l f tmps assign body w R) : RoundIn Fence.wide m' P l f tmps assign body w R := ⟨h.1, fun c cs _ => h.2 c cs (room_wide _)⟩
theorem YieldAt.anyDepth {m : Nat} (m' : Nat) {P : Program} {l : Nat} {args : Array Value} {W : World} {R : Ending → World → Prop} (h : YieldAt Fence.wide m P l args W R) : YieldAt Fence.wide m' P l args W R := by
  obtain ⟨fn, tmps, assign, body, hy, hR⟩ := h
  exact ⟨fn, tmps, assign, body, hy, RoundIn.anyDepth hR⟩
/-- a row as a value -/
def valRw (x : Rw) : Value := .agg #[.string x.1, .string x.2]
/-- what rounds do: each takes a row; what lies below n₀ stays as it is while they go on -/
structure Rounds (l n₀ : Nat) (N : List Rw) (J Jx : List Rw → World → Prop) : Prop where
  abide : ∀ pre A B, J pre A → A.grownBy B none → J pre B
  yield : ∀ m pre x W, J pre W → pre ++ [x] <+: N → YieldAt Fence.wide m Try.prog l #[.agg #[.string x.1, .string x.2]] W fun e W' =>
    (e = .returned (.bool true) ∧ J (pre ++ [x]) W' ∧ Below n₀ W W') ∨ (e = .returned (.bool false) ∧ Jx (pre ++ [x]) W')
/-- all rows were taken, or a round has said that there are enough -/
def FromE (n₀ : Nat) (J Jx : List Rw → World → Prop) (pre ys : List Rw) (w : World) (e : Ending) (w' : World) : Prop :=
  (e = .returned (.bool true) ∧ J (pre ++ ys) w' ∧ Below n₀ w w') ∨ (e = .returned (.bool false) ∧ ∃ q, q <+: ys ∧ Jx (pre ++ q) w')
theorem keep_of_base {base : Nat} {w w' : World} (hk : Below base w w') : Keep (fun i _ => i < base) w w' := ⟨hk.os, hk.tape, hk.output, hk.size, fun i _ ho h => (hk.block i h).trans ho⟩
def LeafRel (n₀ m : Nat) (J : List Rw → World → Prop) (pre ys : List Rw) (w : World) (i : Value) (wr : World) : Prop :=
  ∃ j : Nat, j ≤ m ∧ i = .int .i64 (j : Int) ∧ J (pre ++ ys.take j) wr ∧ Below n₀ w wr
set_option maxHeartbeats 1000000 in
theorem leaf_from {l n₀ : Nat} {N : List Rw} {J Jx : List Rw → World → Prop} (R : Rounds l n₀ N J Jx) {w : World} {bt n c : Nat} {A : Option Addr} {xs : List Rw} (hc4 : w.cell? ⟨bt, 4, none⟩ = some (.slice A n c)) (hr : Rws w (fun i => i < n₀) A xs) (hl : xs.length = n) (hn : n ≤ 1000) (hnc : n ≤ c)
    (h0 : n₀ ≤ w.heap.size) (k : ByteArray) {pre : List Rw} (hJ : J pre w) (hN : pre ++ fromR xs k <+: N) :
    Calls Try.prog 53 #[.pointer (some ⟨bt, 0, none⟩), .string k, .func (.yield l) #[] #[]] w (FromE n₀ J Jx pre (fromR xs k) w) := by
  have hf := find_row (c := c) hr hl (by omega) k
  have hle := findR_le xs k
  obtain ⟨A2, hd2, hr2, _⟩ := tail_rows hr hl hnc (show findR xs k ≤ n by omega) rfl
  have hl2 : (xs.drop (findR xs k)).length = n - findR xs k := by rw [List.length_drop, hl]
  unfold fromR at hN ⊢
  generalize xs.drop (findR xs k) = ys at *
  generalize findR xs k = q at *
  obtain ⟨m, hm⟩ : ∃ m, n - q = m := ⟨_, rfl⟩
  rw [hm] at hd2 hl2
  have HR := Lib.hid R
  have HR2 := Lib.hid hr2
  have HL2 := Lib.hid hl2
  have HN := Lib.hid hN
  have HJ := Lib.hid hJ
  have HF := Lib.hid hf
  clear R hr hr2 hl2 hN hJ hf hle
  refine callsIn_wide (n := 0).1 ?_
  refine callsIn_of_wp Try.func53 rfl trivial ?_ rfl
  simp only [Try.ntmps53, List.size_toArray, List.length_cons, List.length_nil, Nat.reduceAdd, Nat.reduceSub, Array.replicate_succ, Array.replicate_zero, List.push_toArray, List.append_toArray, List.nil_append, List.cons_append]
  gi_wp2_with (gi_at_call 62; refine (callsIn_wide.2 HF.out).mono ?_; rintro e w' ⟨rfl, rfl⟩)
  gi_loopw [27] (fun i wr => LeafRel n₀ m J pre ys w i wr) (fun i _ => m - (intOf i).toNat)
  case atStart => exact ⟨0, Nat.zero_le _, rfl, by simpa using HJ.out, Below.refl _ _⟩
  case round =>
    obtain ⟨j, hj, rfl, hJ1, hk1⟩ := hrel
    have HJ1 := Lib.hid hJ1
    have HK1 := Lib.hid hk1
    clear hJ1 hk1
    by_cases hlt : j < m
    · have hx : j < ys.length := by rw [HL2.out]; exact hlt
      obtain ⟨b, o, rfl, c1, c2⟩ := (HR2.out.keep (keep_of_base HK1.out)).at_ hx
      have hJ2 := HR.out.abide _ _ _ HJ1.out (World.grownBy_alloc wr (.cells #[.string ys[j].1, .string ys[j].2] 29) none)
      have hp2 : pre ++ ys.take j ++ [ys[j]] = pre ++ ys.take (j + 1) := by rw [List.append_assoc, List.take_succ_eq_append_getElem hx]
      have hy := HR.out.yield 0 _ ys[j] _ hJ2 (by rw [hp2]; exact List.IsPrefix.trans (List.prefix_append_right_inj .. |>.2 (List.take_prefix _ _)) HN.out)
      rw [hp2] at hy
      obtain ⟨fn, tmps, assign, body, hy, hR⟩ := hy
      generalize ys[j].1 = y1 at *
      generalize ys[j].2 = y2 at *
      clear hJ2 hp2
      have hb2 : Below n₀ w (wr.alloc (.cells #[.string y1, .string y2] 29)) := HK1.out.alloc (Nat.le_trans h0 HK1.out.size) _
      have HB2 := Lib.hid hb2
      clear hb2
      gi_wp2
      refine hR.mono ?_
      clear hR
      rintro e W3 (⟨rfl, hJ3, hk3⟩ | ⟨rfl, hJx3⟩)
      · have HJ3 := Lib.hid hJ3
        have HK3 := Lib.hid (HB2.out.trans hk3)
        clear hJ3 hk3
        gi_wp2
        go_roundw
        case rel => exact ⟨j + 1, by omega, by go_num, HJ3.out, HK3.out⟩
        case measure => simp [intOf]; omega
      · have HJ3 := Lib.hid hJx3
        clear hJx3
        gi_wp2
        go_ret
        exact .inr ⟨rfl, _, List.take_prefix _ _, HJ3.out⟩
    · obtain rfl : j = m := by omega
      have hall : ys.take j = ys := List.take_of_length_le (by rw [HL2.out]; exact Nat.le_refl _)
      rw [hall] at HJ1
      clear hall
      gi_wp2
      go_ret
      exact .inl ⟨rfl, HJ1.out, HK1.out⟩
end Go.Proofs.Ytocaaebmelhhnaa
