/- What the library's calls on parts make: Clone, Grow of nothing, Concat. -/
import Derived.Test.YtocaaebmelhhnaaVlsM
import Derived.Test.YtocaaebmelhhnaaStep
import Derived.Test.YtocaaebmelhhnaaRowC
import Derived.LoopTactic
import Derived.Lib.AppendZeros
import Derived.Deep.LoopGhost
import Derived.Deep.Slices
import Derived.ChangeArms
import Derived.Laws.Cover1
set_option maxRecDepth 4000
namespace Go.Proofs.Ytocaaebmelhhnaa
open Go.RowKit
/-- rows of a call's own: n of them at v -/
def NewV (w : World) (n : Nat) (xs : List Value) (v : Value) (w' : World) : Prop :=
  ∃ A' c', v = .slice A' n c' ∧ Vls w' (fun i => w.heap.size ≤ i) A' xs ∧ n ≤ c' ∧ c' ≤ maxLen ∧ (A' = none → c' = 0) ∧ Below w.heap.size w w'
set_option maxHeartbeats 400000 in
theorem clone_vls {w : World} {K : Nat → Prop} {A : Option Addr} {n c : Nat} {xs : List Value} (h : Vls w K A xs) (hl : xs.length = n) (hn : n ≤ 1000000) (hA : A = none → c = 0) (h1v : ∀ v ∈ xs, v.oneCell' = true) :
    Calls Try.prog 81 #[.slice A n c] w fun e w' => ∃ v, e = .returned v ∧ NewV w n xs v w' := by
  rcases A with _ | a
  · have hc := hA rfl
    have h0 : n = 0 := by
      rcases Nat.eq_zero_or_pos n with h0 | h0
      · exact h0
      · obtain ⟨_, _, h, _⟩ := h (by omega)
        cases h
    subst hc h0
    have hx : xs = [] := List.eq_nil_of_length_eq_zero hl
    have HX := Lib.hid hx
    clear h hA hx hl h1v
    have hnil := fun (W : World) => Lib.run_eql_slice_nil (P := Try.prog) W 69 59 none 0 0 0 0 Try.underlying69
    simp only [Option.isNone_none] at hnil
    go_enter Try.func81, Try.ntmps81
    go_wp2
    go_ret
    exact ⟨_, rfl, none, 0, rfl, by rw [HX.out]; exact Vls.nil _ _ _, Nat.le_refl _, by unfold maxLen; omega, fun _ => rfl, Below.refl _ _⟩
  · have hnil := fun (W : World) => Lib.run_eql_slice_nil (P := Try.prog) W 69 59 (some a) n c 0 0 Try.underlying69
    simp only [Option.isNone_some] at hnil
    obtain ⟨v', W', hap, ho, hg, hat⟩ := append_vls (empty_vls w w.heap.size (Nat.le_refl _)) (h.below (alloc_below w (.cells #[] 59))) hl c h1v (by omega) (by simp)
    rw [List.nil_append, Nat.zero_add] at ho
    obtain ⟨A', c', rfl, hh, _, h1, h2, h3⟩ := own_vls ho
    have hbel : Below w.heap.size w W' := ((Below.refl _ _).alloc (Nat.le_refl _) _).grown hg (by simp) (by intro k hk; simp [Value.ownBlock] at hk; omega)
    have HBE := Lib.hid hbel
    have HR := Lib.hid hh
    have H3 := Lib.hid h3
    clear ho hg hat hbel h hA hh hl h3 h1v
    go_enter Try.func81, Try.ntmps81
    go_wp2_with (at_builtin; refine wpList_append_run rfl (.tmp 5) (.tmp 6) 69 69 rfl _ _ rfl rfl hap ?_)
    go_ret
    exact ⟨_, rfl, A', c', rfl, HR.out, h1, h2, H3.out, HBE.out⟩
/-- a part of what Concat is handed: rows that lie somewhere -/
def PVAt (w : World) (p : Value × List Value) : Prop := ∃ A c K, p.1 = .slice A p.2.length c ∧ Vls w K A p.2 ∧ ∀ v ∈ p.2, v.oneCell' = true
theorem PVAt.below {w w' : World} {p : Value × List Value} (h : PVAt w p) (k : Below w.heap.size w w') : PVAt w' p := by
  obtain ⟨A, c, K, e, hr, h1⟩ := h
  exact ⟨A, c, K, e, hr.below k, h1⟩
def flatV : List (Value × List Value) → List Value
  | [] => []
  | p :: r => p.2 ++ flatV r
theorem flatV_append (l m : List (Value × List Value)) : flatV (l ++ m) = flatV l ++ flatV m := by
  induction l with
  | nil => rfl
  | cons x r ih => simp [flatV, ih]
theorem flatV_succ {l : List (Value × List Value)} {j : Nat} (h : j < l.length) : flatV (l.take (j + 1)) = flatV (l.take j) ++ l[j].2 := by
  rw [List.take_succ_eq_append_getElem h, flatV_append]
  simp [flatV]
theorem flatV_le (l : List (Value × List Value)) (j : Nat) : (flatV (l.take j)).length ≤ (flatV l).length := by
  conv => rhs; rw [← List.take_append_drop j l, flatV_append, List.length_append]
  omega
set_option maxHeartbeats 400000 in
theorem grow_vnil (n : Nat) (hn : n ≤ 1000000) (w : World) : Calls Try.prog 82 #[.slice none 0 0, .int .i64 (n : Int)] w
    fun e w' => ∃ v, e = .returned v ∧ w'.ownsRow w.heap.size 59 1 v 0 [] ∧ Below w.heap.size w w' := by
  rcases Nat.eq_zero_or_pos n with h0 | h0
  · subst h0
    go_enter Try.func82, Try.ntmps82
    go_wp2
    go_ret
    exact ⟨_, rfl, World.ownsRow_nil _ _ _ _, Below.refl _ _⟩
  · obtain ⟨i0, hi, hz0, hz1, hz2⟩ := info_parts infoPart
    have hr := Lib.run_append_nil_zeros (P := Try.prog) w 69 3 69 59 i0 _ .i64 .i64 Try.underlying69 Try.underlying3 hi hz0 n h0 (by rw [hz1]; omega) (by omega) (by rw [hz2]; omega)
    have hge := grownCap_ge w n 0 59
    have hcm := grownCap_le_maxLen w n 0 59 (by unfold maxLen; omega)
    have hown : (w.drew.alloc (.cells (Builtin.zeroCells Value.nilIface.cells n ++ Builtin.zeroCells Value.nilIface.cells (grownCap w n 0 59 - n)) 59)).ownsRow w.heap.size 59 1 (.slice (some ⟨w.heap.size, 0, none⟩) 0 (grownCap w n 0 59)) 0 [] := by
      refine ⟨rfl, .inr ⟨w.heap.size, _, _, rfl, Nat.le_refl _, heap_alloc_new w.drew _, Nat.zero_le _, hcm, ?_, rfl⟩⟩
      simp only [Array.size_append, size_zeroCells]
      rw [← Nat.add_mul]
      have : Value.nilIface.cells.size = 1 := rfl
      rw [this]
      congr 1
      omega
    have hbel : Below w.heap.size w (w.drew.alloc (.cells (Builtin.zeroCells Value.nilIface.cells n ++ Builtin.zeroCells Value.nilIface.cells (grownCap w n 0 59 - n)) 59)) := (Below.refl _ _).drew.alloc (Nat.le_refl _) _
    generalize (w.drew.alloc (.cells (Builtin.zeroCells Value.nilIface.cells n ++ Builtin.zeroCells Value.nilIface.cells (grownCap w n 0 59 - n)) 59)) = W' at *
    generalize grownCap w n 0 59 = cap at *
    have HO := Lib.hid hown
    have HB := Lib.hid hbel
    clear hown hbel
    go_enter Try.func82, Try.ntmps82
    go_wp2_with (at_builtin; refine wpList_append_run rfl (.tmp 20) (.tmp 21) 69 3 rfl _ _ rfl rfl hr ?_)
    go_ret
    exact ⟨_, rfl, HO.out, HB.out⟩
def SumsV (ps : List (Value × List Value)) (k : Nat) (sz i : Value) : Prop := ∃ j, j + k = ps.length ∧ sz = .int .i64 ((flatV (ps.take j)).length : Int) ∧ i = .int .i64 (j : Int)
def CatsV (w : World) (ps : List (Value × List Value)) (k : Nat) (v i : Value) (wr : World) : Prop :=
  ∃ j, j + k = ps.length ∧ i = .int .i64 (j : Int) ∧ wr.ownsRow w.heap.size 59 1 v (flatV (ps.take j)).length (flatV (ps.take j)) ∧ Below w.heap.size w wr
/-- these values lie from o on in block b -/
def ValsV (w : World) (b o : Nat) (ps : List (Value × List Value)) : Prop := b < w.heap.size ∧ ∀ j (h : j < ps.length), w.cell? ⟨b, o + j, none⟩ = some ps[j].1
theorem ValsV.below {w w' : World} {b o : Nat} {ps : List (Value × List Value)} (h : ValsV w b o ps) (k : Below w.heap.size w w') : ValsV w' b o ps :=
  ⟨Nat.lt_of_lt_of_le h.1 k.size, fun j hj => (cell_of_heap (k.block b h.1) _).trans (h.2 j hj)⟩
set_option maxHeartbeats 1000000 in
theorem concatv_ {w : World} {b o k c : Nat} {ps : List (Value × List Value)} (hv : ValsV w b o ps) (hp : ∀ p ∈ ps, PVAt w p) (hk : ps.length = k) (hk2 : k ≤ 1000) (hs : (flatV ps).length ≤ 1000000) :
    Calls Try.prog 80 #[.slice (some ⟨b, o, none⟩) k c] w fun e w' => ∃ v, e = .returned v ∧ NewV w (flatV ps).length (flatV ps) v w' := by
  have HV := Lib.hid hv
  have HP := Lib.hid hp
  have HK := Lib.hid hk
  have HS := Lib.hid hs
  clear hv hp hk hs
  go_enter Try.func80, Try.ntmps80
  go_wp2
  go_loopg [3, 11] k (fun m sz i wr => SumsV ps m sz i ∧ w = wr)
  case atStart => exact ⟨⟨0, by rw [HK.out]; omega, rfl, rfl⟩, rfl⟩
  case round =>
    obtain ⟨⟨j, hj, rfl, rfl⟩, rfl⟩ := hrel
    have HJ := Lib.hid hj
    clear hj
    by_cases hlt : j < k
    · have hx : j < ps.length := by rw [HK.out]; exact hlt
      have hc := HV.out.2 j hx
      obtain ⟨A1, c1, K1, e1, _⟩ := HP.out _ (List.getElem_mem hx)
      have hsum : (flatV (ps.take (j + 1))).length = (flatV (ps.take j)).length + (ps[j].2).length := by rw [flatV_succ hx, List.length_append]
      have hle := flatV_le ps (j + 1)
      rw [e1] at hc
      have hsm : (flatV (ps.take j)).length + (ps[j].2).length ≤ 1000000 := by have := HS.out; omega
      have HSUM := Lib.hid hsum
      clear hsum hle e1
      generalize (ps[j].2).length = m1 at *
      generalize (flatV (ps.take j)).length = m0 at *
      go_wp2
      go_roundg (k - (j + 1))
      case measure => have := HJ.out; have := HK.out; omega
      case rel => exact ⟨⟨j + 1, by have := HK.out; omega, by have := HSUM.out; go_num, by go_num⟩, rfl⟩
    · have he : j = k := by have := HJ.out; have := HK.out; omega
      subst he
      have hall : ps.take j = ps := List.take_of_length_le (by rw [HK.out]; exact Nat.le_refl _)
      rw [hall]
      have hS := HS.out
      have HF : Hid (∃ x, x = flatV ps) := ⟨_, rfl⟩
      generalize hm : (flatV ps).length = m at *
      have HM := Lib.hid hm
      clear hm
      go_wp2_with (go_at_call 82; refine (grow_vnil m hS w).mono ?_; rintro e w1 ⟨v1, rfl, ho1, hb1⟩)
      have HO1 := Lib.hid ho1
      have HB1 := Lib.hid hb1
      clear ho1 hb1
      go_loopg [6, 27] j (fun m v i wr => CatsV w ps m v i wr)
      case atStart => exact ⟨0, by have := HK.out; omega, rfl, by simpa [flatV] using HO1.out, HB1.out⟩
      case round =>
        obtain ⟨i, hi, rfl, ho, hb⟩ := hrel
        have HI := Lib.hid hi
        have HO := Lib.hid ho
        have HB := Lib.hid hb
        clear hi ho hb
        by_cases hlt : i < j
        · have hx : i < ps.length := by rw [HK.out]; exact hlt
          have hc := (HV.out.below HB.out).2 i hx
          obtain ⟨A1, c1, K1, e1, hr1, h1v⟩ := (HP.out _ (List.getElem_mem hx)).below HB.out
          rw [e1] at hc
          have hsum : (flatV (ps.take (i + 1))).length = (flatV (ps.take i)).length + (ps[i].2).length := by rw [flatV_succ hx, List.length_append]
          have hle := flatV_le ps (i + 1)
          have hsm : (flatV (ps.take i)).length + (ps[i].2).length ≤ 1000000 := by have := HM.out; omega
          obtain ⟨v2, W2, hap, ho2, hg2, _⟩ := append_vls HO.out hr1 rfl c1 h1v hsm HB.out.size
          rw [← flatV_succ hx, ← hsum] at ho2
          have HO2 := Lib.hid ho2
          have hb2 : Below w.heap.size w W2 := HB.out.grown hg2 HB.out.size (by
            intro q hq
            rcases HO.out.2 with ⟨h, _⟩ | ⟨q', cap, cur, h, hq', _⟩
            · rw [h] at hq; cases hq
            · rw [h] at hq; simp [Value.ownBlock] at hq; omega)
          have HB2 := Lib.hid hb2
          clear ho2 hg2 hb2 hsum hle e1 hr1 hsm h1v
          generalize (ps[i].2).length = m1 at *
          go_wp2_with (at_builtin; refine wpList_append_run rfl (.tmp 31) (.tmp 32) 69 69 rfl _ _ rfl rfl hap ?_)
          go_roundg (j - (i + 1))
          case measure => have := HI.out; have := HK.out; omega
          case rel => exact ⟨i + 1, by have := HK.out; omega, by go_num, HO2.out, HB2.out⟩
        · have he : i = j := by have := HI.out; have := HK.out; omega
          subst he
          obtain ⟨A', c', rfl, hr, _, h2, h3, h4⟩ := own_vls HO.out
          have HR := Lib.hid hr
          have H4 := Lib.hid h4
          clear hr h4
          go_wp2
          go_ret
          exact ⟨_, rfl, A', c', rfl, by rw [← hall]; exact HR.out, by rw [← hall]; exact h2, h3, H4.out, HB.out⟩
end Go.Proofs.Ytocaaebmelhhnaa
