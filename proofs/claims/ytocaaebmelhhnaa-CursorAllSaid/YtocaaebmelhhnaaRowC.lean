/- What the library's calls on rows make: Clone, Grow of nothing, Concat. -/
import Derived.Test.YtocaaebmelhhnaaRowM
import Derived.Test.YtocaaebmelhhnaaStep
import Derived.LoopTactic
import Derived.Lib.AppendZeros
import Derived.Deep.LoopGhost
import Derived.Deep.Slices
import Derived.ChangeArms
import Derived.Laws.Cover1
set_option maxRecDepth 4000
namespace Go.Proofs.Ytocaaebmelhhnaa
open Go.RowKit
/-- rows of a call's own: n of them at v -/
def NewR (w : World) (n : Nat) (xs : List Rw) (v : Value) (w' : World) : Prop :=
  ∃ A' c', v = .slice A' n c' ∧ Rws w' (fun i => w.heap.size ≤ i) A' xs ∧ n ≤ c' ∧ c' ≤ maxLen ∧ (A' = none → c' = 0) ∧ Below w.heap.size w w'
set_option maxHeartbeats 400000 in
theorem clone_rows {w : World} {K : Nat → Prop} {A : Option Addr} {n c : Nat} {xs : List Rw} (h : Rws w K A xs) (hl : xs.length = n) (hn : n ≤ 1000000) (hA : A = none → c = 0) :
    Calls Try.prog 65 #[.slice A n c] w fun e w' => ∃ v, e = .returned v ∧ NewR w n xs v w' := by
  rcases A with _ | a
  · have hc := hA rfl
    have h0 : n = 0 := by
      rcases Nat.eq_zero_or_pos n with h0 | h0
      · exact h0
      · obtain ⟨_, _, h, _⟩ := h (by omega)
        cases h
    subst hc h0
    have hx : xs = [] := List.eq_nil_of_length_eq_zero hl
    have HX := Lib.hid hx
    clear h hA hx hl
    have hnil := fun (W : World) => Lib.run_eql_slice_nil (P := Try.prog) W 22 29 none 0 0 0 0 Try.underlying22
    simp only [Option.isNone_none] at hnil
    go_enter Try.func65, Try.ntmps65
    go_wp2
    go_ret
    exact ⟨_, rfl, none, 0, rfl, by rw [HX.out]; exact Rws.nil _ _ _, Nat.le_refl _, by unfold maxLen; omega, fun _ => rfl, Below.refl _ _⟩
  · have hnil := fun (W : World) => Lib.run_eql_slice_nil (P := Try.prog) W 22 29 (some a) n c 0 0 Try.underlying22
    simp only [Option.isNone_some] at hnil
    obtain ⟨v', W', hap, ho, hg, hat⟩ := append_rws (empty_rws w w.heap.size (Nat.le_refl _)) (h.below (alloc_below w (.cells #[] 29))) hl c (by omega) (by simp)
    rw [List.nil_append, Nat.zero_add] at ho
    obtain ⟨A', c', rfl, hh, _, h1, h2, h3⟩ := own_rws ho
    have hbel : Below w.heap.size w W' := ((Below.refl _ _).alloc (Nat.le_refl _) _).grown hg (by simp) (by intro k hk; simp [Value.ownBlock] at hk; omega)
    have HBE := Lib.hid hbel
    have HR := Lib.hid hh
    have H3 := Lib.hid h3
    clear ho hg hat hbel h hA hh hl h3
    go_enter Try.func65, Try.ntmps65
    go_wp2_with (at_builtin; refine wpList_append_run rfl (.tmp 5) (.tmp 6) 22 22 rfl _ _ rfl rfl hap ?_)
    go_ret
    exact ⟨_, rfl, A', c', rfl, HR.out, h1, h2, H3.out, HBE.out⟩
/-- a part of what Concat is handed: rows that lie somewhere -/
def PartAt (w : World) (p : Value × List Rw) : Prop := ∃ A c K, p.1 = .slice A p.2.length c ∧ Rws w K A p.2
theorem PartAt.below {w w' : World} {p : Value × List Rw} (h : PartAt w p) (k : Below w.heap.size w w') : PartAt w' p := by
  obtain ⟨A, c, K, e, hr⟩ := h
  exact ⟨A, c, K, e, hr.below k⟩
def flatR : List (Value × List Rw) → List Rw
  | [] => []
  | p :: r => p.2 ++ flatR r
theorem flatR_append (l m : List (Value × List Rw)) : flatR (l ++ m) = flatR l ++ flatR m := by
  induction l with
  | nil => rfl
  | cons x r ih => simp [flatR, ih]
theorem flatR_succ {l : List (Value × List Rw)} {j : Nat} (h : j < l.length) : flatR (l.take (j + 1)) = flatR (l.take j) ++ l[j].2 := by
  rw [List.take_succ_eq_append_getElem h, flatR_append]
  simp [flatR]
theorem flatR_le (l : List (Value × List Rw)) (j : Nat) : (flatR (l.take j)).length ≤ (flatR l).length := by
  conv => rhs; rw [← List.take_append_drop j l, flatR_append, List.length_append]
  omega
set_option maxHeartbeats 400000 in
theorem grow_nil (n : Nat) (hn : n ≤ 1000000) (w : World) : Calls Try.prog 69 #[.slice none 0 0, .int .i64 (n : Int)] w
    fun e w' => ∃ v, e = .returned v ∧ w'.ownsRow w.heap.size 29 2 v 0 (cellsR []) ∧ Below w.heap.size w w' := by
  rcases Nat.eq_zero_or_pos n with h0 | h0
  · subst h0
    go_enter Try.func69, Try.ntmps69
    go_wp2
    go_ret
    exact ⟨_, rfl, World.ownsRow_nil _ _ _ _, Below.refl _ _⟩
  · obtain ⟨i0, hi, hz0, hz1, hz2⟩ := info_parts infoRow
    have hr := Lib.run_append_nil_zeros (P := Try.prog) w 22 3 22 29 i0 _ .i64 .i64 Try.underlying22 Try.underlying3 hi hz0 n h0 (by rw [hz1]; omega) (by omega) (by rw [hz2]; omega)
    have hge := grownCap_ge w n 0 29
    have hcm := grownCap_le_maxLen w n 0 29 (by unfold maxLen; omega)
    have hown : (w.drew.alloc (.cells (Builtin.zeroCells (Value.agg #[.string ⟨#[]⟩, .string ⟨#[]⟩]).cells n ++ Builtin.zeroCells (Value.agg #[.string ⟨#[]⟩, .string ⟨#[]⟩]).cells (grownCap w n 0 29 - n)) 29)).ownsRow w.heap.size 29 2 (.slice (some ⟨w.heap.size, 0, none⟩) 0 (grownCap w n 0 29)) 0 (cellsR []) := by
      refine ⟨rfl, .inr ⟨w.heap.size, _, _, rfl, Nat.le_refl _, heap_alloc_new w.drew _, Nat.zero_le _, hcm, ?_, rfl⟩⟩
      simp only [Array.size_append, size_zeroCells]
      rw [← Nat.add_mul]
      have : (Value.agg #[.string ⟨#[]⟩, .string ⟨#[]⟩]).cells.size = 2 := rfl
      rw [this]
      congr 1
      omega
    have hbel : Below w.heap.size w (w.drew.alloc (.cells (Builtin.zeroCells (Value.agg #[.string ⟨#[]⟩, .string ⟨#[]⟩]).cells n ++ Builtin.zeroCells (Value.agg #[.string ⟨#[]⟩, .string ⟨#[]⟩]).cells (grownCap w n 0 29 - n)) 29)) := (Below.refl _ _).drew.alloc (Nat.le_refl _) _
    generalize (w.drew.alloc (.cells (Builtin.zeroCells (Value.agg #[.string ⟨#[]⟩, .string ⟨#[]⟩]).cells n ++ Builtin.zeroCells (Value.agg #[.string ⟨#[]⟩, .string ⟨#[]⟩]).cells (grownCap w n 0 29 - n)) 29)) = W' at *
    generalize grownCap w n 0 29 = cap at *
    have HO := Lib.hid hown
    have HB := Lib.hid hbel
    clear hown hbel
    go_enter Try.func69, Try.ntmps69
    go_wp2_with (at_builtin; refine wpList_append_run rfl (.tmp 20) (.tmp 21) 22 3 rfl _ _ rfl rfl hr ?_)
    go_ret
    exact ⟨_, rfl, HO.out, HB.out⟩
def Sums (ps : List (Value × List Rw)) (k : Nat) (sz i : Value) : Prop := ∃ j, j + k = ps.length ∧ sz = .int .i64 ((flatR (ps.take j)).length : Int) ∧ i = .int .i64 (j : Int)
def Cats (w : World) (ps : List (Value × List Rw)) (k : Nat) (v i : Value) (wr : World) : Prop :=
  ∃ j, j + k = ps.length ∧ i = .int .i64 (j : Int) ∧ wr.ownsRow w.heap.size 29 2 v (flatR (ps.take j)).length (cellsR (flatR (ps.take j))) ∧ Below w.heap.size w wr
/-- these values lie from o on in block b -/
def Vals (w : World) (b o : Nat) (ps : List (Value × List Rw)) : Prop := b < w.heap.size ∧ ∀ j (h : j < ps.length), w.cell? ⟨b, o + j, none⟩ = some ps[j].1
theorem Vals.below {w w' : World} {b o : Nat} {ps : List (Value × List Rw)} (h : Vals w b o ps) (k : Below w.heap.size w w') : Vals w' b o ps :=
  ⟨Nat.lt_of_lt_of_le h.1 k.size, fun j hj => (cell_of_heap (k.block b h.1) _).trans (h.2 j hj)⟩
set_option maxHeartbeats 1000000 in
theorem concat_ {w : World} {b o k c : Nat} {ps : List (Value × List Rw)} (hv : Vals w b o ps) (hp : ∀ p ∈ ps, PartAt w p) (hk : ps.length = k) (hk2 : k ≤ 1000) (hs : (flatR ps).length ≤ 1000000) :
    Calls Try.prog 66 #[.slice (some ⟨b, o, none⟩) k c] w fun e w' => ∃ v, e = .returned v ∧ NewR w (flatR ps).length (flatR ps) v w' := by
  have HV := Lib.hid hv
  have HP := Lib.hid hp
  have HK := Lib.hid hk
  have HS := Lib.hid hs
  clear hv hp hk hs
  go_enter Try.func66, Try.ntmps66
  go_wp2
  go_loopg [3, 11] k (fun m sz i wr => Sums ps m sz i ∧ w = wr)
  case atStart => exact ⟨⟨0, by rw [HK.out]; omega, rfl, rfl⟩, rfl⟩
  case round =>
    obtain ⟨⟨j, hj, rfl, rfl⟩, rfl⟩ := hrel
    have HJ := Lib.hid hj
    clear hj
    by_cases hlt : j < k
    · have hx : j < ps.length := by rw [HK.out]; exact hlt
      have hc := HV.out.2 j hx
      obtain ⟨A1, c1, K1, e1, _⟩ := HP.out _ (List.getElem_mem hx)
      have hsum : (flatR (ps.take (j + 1))).length = (flatR (ps.take j)).length + (ps[j].2).length := by rw [flatR_succ hx, List.length_append]
      have hle := flatR_le ps (j + 1)
      rw [e1] at hc
      have hsm : (flatR (ps.take j)).length + (ps[j].2).length ≤ 1000000 := by have := HS.out; omega
      have HSUM := Lib.hid hsum
      clear hsum hle e1
      generalize (ps[j].2).length = m1 at *
      generalize (flatR (ps.take j)).length = m0 at *
      go_wp2
      go_roundg (k - (j + 1))
      case measure => have := HJ.out; have := HK.out; omega
      case rel => exact ⟨⟨j + 1, by have := HK.out; omega, by have := HSUM.out; go_num, by go_num⟩, rfl⟩
    · have he : j = k := by have := HJ.out; have := HK.out; omega
      subst he
      have hall : ps.take j = ps := List.take_of_length_le (by rw [HK.out]; exact Nat.le_refl _)
      rw [hall]
      have hS := HS.out
      have HF : Hid (∃ x, x = flatR ps) := ⟨_, rfl⟩
      generalize hm : (flatR ps).length = m at *
      have HM := Lib.hid hm
      clear hm
      go_wp2_with (go_at_call 69; refine (grow_nil m hS w).mono ?_; rintro e w1 ⟨v1, rfl, ho1, hb1⟩)
      have HO1 := Lib.hid ho1
      have HB1 := Lib.hid hb1
      clear ho1 hb1
      go_loopg [6, 27] j (fun m v i wr => Cats w ps m v i wr)
      case atStart => exact ⟨0, by have := HK.out; omega, rfl, by simpa [flatR] using HO1.out, HB1.out⟩
      case round =>
        obtain ⟨i, hi, rfl, ho, hb⟩ := hrel
        have HI := Lib.hid hi
        have HO := Lib.hid ho
        have HB := Lib.hid hb
        clear hi ho hb
        by_cases hlt : i < j
        · have hx : i < ps.length := by rw [HK.out]; exact hlt
          have hc := (HV.out.below HB.out).2 i hx
          obtain ⟨A1, c1, K1, e1, hr1⟩ := (HP.out _ (List.getElem_mem hx)).below HB.out
          rw [e1] at hc
          have hsum : (flatR (ps.take (i + 1))).length = (flatR (ps.take i)).length + (ps[i].2).length := by rw [flatR_succ hx, List.length_append]
          have hle := flatR_le ps (i + 1)
          have hsm : (flatR (ps.take i)).length + (ps[i].2).length ≤ 1000000 := by have := HM.out; omega
          obtain ⟨v2, W2, hap, ho2, hg2, _⟩ := append_rws HO.out hr1 rfl c1 hsm HB.out.size
          rw [← flatR_succ hx, ← hsum] at ho2
          have HO2 := Lib.hid ho2
          have hb2 : Below w.heap.size w W2 := HB.out.grown hg2 HB.out.size (by
            intro q hq
            rcases HO.out.2 with ⟨h, _⟩ | ⟨q', cap, cur, h, hq', _⟩
            · rw [h] at hq; cases hq
            · rw [h] at hq; simp [Value.ownBlock] at hq; omega)
          have HB2 := Lib.hid hb2
          clear ho2 hg2 hb2 hsum hle e1 hr1 hsm
          generalize (ps[i].2).length = m1 at *
          go_wp2_with (at_builtin; refine wpList_append_run rfl (.tmp 31) (.tmp 32) 22 22 rfl _ _ rfl rfl hap ?_)
          go_roundg (j - (i + 1))
          case measure => have := HI.out; have := HK.out; omega
          case rel => exact ⟨i + 1, by have := HK.out; omega, by go_num, HO2.out, HB2.out⟩
        · have he : i = j := by have := HI.out; have := HK.out; omega
          subst he
          obtain ⟨A', c', rfl, hr, _, h2, h3, h4⟩ := own_rws HO.out
          have HR := Lib.hid hr
          have H4 := Lib.hid h4
          clear hr h4
          go_wp2
          go_ret
          exact ⟨_, rfl, A', c', rfl, by rw [← hall]; exact HR.out, by rw [← hall]; exact h2, h3, H4.out, HB.out⟩
end Go.Proofs.Ytocaaebmelhhnaa
