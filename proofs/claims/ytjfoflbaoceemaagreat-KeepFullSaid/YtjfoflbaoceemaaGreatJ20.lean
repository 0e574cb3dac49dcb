/- . -/
import Derived.Test.YtjfoflbaoceemaaGreatJ17
import Derived.Test.YtjfoflbaoceemaaGreatJ15
set_option maxRecDepth 4000
namespace Go.Proofs.YtjfoflbaoceemaaGreat
open Go.RowKit Go.Maps Go.MapKept Go.ChangeShapes
open Go.WideElems (Fit)
open Go.RowKit
section
variable {w : World} {b : Nat} {ms : List Int} {x : Int}
theorem Met.putI (h : Met w b ms) (hx : Wf x) (hl : ms.length ≤ 100000) : ∃ w', (Instr.mapUpdate 197 (.map (some b)) (.int .i64 x) (.agg #[])).run Tryz.prog w = .ok () w' ∧ Met w' b (ms ++ [x]) ∧ w.grownBy w' (some b) := by
  obtain ⟨w', h1, h2, h3⟩ := World.ownsMap.update h lawI Tryz.underlying197 (by unfold maxLen; omega) (keyI hx) (val := .agg #[]) (unitElem_mk (H := Unit))
  refine ⟨w', h1, ?_, h3⟩
  unfold Met
  rw [List.map_append, List.length_append]
  show w'.ownsMap _ _ _ _ _ (setOf _ (_ ++ [Lit.int .i64 x]))
  rw [setOf_snoc]
  exact h2
theorem Met.lookI (h : Met w b ms) (hx : Wf x) : (Instr.lookup 197 (.map (some b)) (.int .i64 x) true).run Tryz.prog w = .ok (.tuple #[.agg #[], .bool (decide (x ∈ ms))]) w := by
  obtain ⟨v, ps, h1, h2⟩ := World.ownsMap.look_ok h lawI Tryz.underlying197 (zeroU w) (zd := .agg []) (zp := []) unitElem_mk (keyI hx)
  obtain ⟨rfl, _⟩ := unitElem_inv h2
  rw [h1, met_has]
end
theorem fresh_all {ms : List Int} {l : List Mg} {nx : Int} {j : Nat} (h : ∀ i, i < j → freshAt ms l nx i = true) (hj : l.length ≤ j) : freshB ms l nx = true := by
  unfold freshB
  rw [List.all_eq_true]
  exact fun i hi => h i (by have := List.mem_range.1 hi; omega)
theorem fresh_not {ms : List Int} {l : List Mg} {nx : Int} {j : Nat} (h : freshAt ms l nx j = false) (hj : j < l.length) : freshB ms l nx = false := by
  unfold freshB
  rw [List.all_eq_false]
  exact ⟨j, List.mem_range.2 hj, by simp [h]⟩
def FreshR (w : World) (b : Nat) (ms : List Int) (l : List Mg) (nx : Int) (k : Nat) (i : Value) (wr : World) : Prop :=
  ∃ j, j + k = l.length ∧ i = .int .i64 (j : Int) ∧ (∀ q, q < j → freshAt ms l nx q = true) ∧ Met wr b (ms ++ idsL (l.take j)) ∧ Keep (fun i _ => i ≠ b) w wr
theorem idsL_succ {l : List Mg} {j : Nat} (h : j < l.length) : idsL (l.take (j + 1)) = idsL (l.take j) ++ [l[j].id] := ids_succ h
theorem idsL_len (l : List Mg) (j : Nat) : (idsL (l.take j)).length ≤ l.length := ids_len j
def Fresh (w : World) (b : Nat) (ms : List Int) (l : List Mg) (nx : Int) (e : Ending) (w' : World) : Prop :=
  e = .returned (.bool (freshB ms l nx)) ∧ (freshB ms l nx = true → Met w' b (ms ++ idsL l)) ∧ Keep (fun i _ => i ≠ b) w w'
structure ShutQ5 (p : Prop) : Prop where out : p
set_option maxHeartbeats 2000000 in
theorem fresh_ {w : World} {K : Nat → Prop} {A : Option Addr} {n c b : Nat} {l : List Mg} {ms : List Int} (hm : Met w b ms) (h : Lst w (fun i => K i ∧ i ≠ b) eM A l) (hl : l.length = n) (hn : n ≤ 20000) (hms : ms.length ≤ 20000) (hw : ∀ m ∈ l, Wf m.id) (nx : Int) :
    Calls Tryz.prog 142 #[.map (some b), .slice A n c, .int .i64 nx] w (Fresh w b ms l nx) := by
  have H := Lib.hid h
  have HL := Lib.hid hl
  have HW := Lib.hid hw
  have HM0 := Lib.hid hm
  clear h hl hw hm
  go_enter Tryz.func142, Tryz.ntmps142
  go_wp2_with fail
  go_loopg [13] n (fun k i wr => FreshR w b ms l nx k i wr)
  case atStart => exact ⟨0, by rw [HL.out]; omega, rfl, fun q hq => absurd hq (Nat.not_lt_zero q), by simpa [idsL] using HM0.out, Keep.refl w⟩
  case round =>
    obtain ⟨j, hj, rfl, hu, hm, hb⟩ := hrel
    have HJ := Lib.hid hj
    have HU := Lib.hid hu
    have HM := Lib.hid hm
    have HB := Lib.hid hb
    have hblt := hm.lt
    clear hj hu hm hb
    by_cases hlt : j < n
    · have hx : j < l.length := by rw [HL.out]; exact hlt
      obtain ⟨b', o, rfl, hb, c0, c1, c2, c3, c4, c5⟩ := (H.out.keep HB.out fun i _ _ hi => hi.2).atM hx
      have hwx := HW.out _ (List.getElem_mem hx)
      have hup : freshAt ms l nx j = (!decide (l[j].id ∈ ms ++ idsL (l.take j)) && decide (l[j].id < nx)) := by
        unfold freshAt; rw [List.getElem?_eq_getElem hx]
      have hids := idsL_succ hx
      obtain ⟨x, hxx⟩ : ∃ x, l[j] = x := ⟨_, rfl⟩
      rw [hxx] at c0 c1 c2 c3 c4 c5 hwx hup hids
      obtain ⟨x0, x1, x2, x3, x4, x5⟩ := x
      simp only at c0 c1 c2 c3 c4 c5 hwx hup hids
      have HUP := Lib.hid hup
      have HIDS := Lib.hid hids
      have k1 := alloc_below wr (.cells #[.int .i64 x0, .int .i64 x1, .int .i64 x2, .bool x3, .string x4, .string x5] 44)
      have hlk := (HM.out.below k1).lookI hwx
      clear hup hids hxx
      have k2 := k1.alloc k1.size (.cells #[] 240)
      have K2 := Lib.hid k2
      by_cases hin : x0 ∈ ms ++ idsL (l.take j)
      · rw [decide_eq_true hin] at hlk
        have hr := fresh_not (by rw [HUP.out, decide_eq_true hin]; rfl) hx
        have HR := ShutQ5.mk hr
        have HBW := Lib.hid (HB.out.trans (Keep.of_below k2))
        clear HUP HIDS hin hr k1 k2 HM HU HJ H HL HW K2
        go_wp2_with fail
        go_ret
        exact ⟨by rw [HR.out]; rfl, (fun h => by rw [HR.out] at h; cases h), HBW.out⟩
      · rw [decide_eq_false hin] at hlk
        have hup2 : freshAt ms l nx j = decide (x0 < nx) := by rw [HUP.out, decide_eq_false hin]; rfl
        have HUP2 := Lib.hid hup2
        by_cases hge : nx ≤ x0
        · have hr := fresh_not (by rw [HUP2.out, decide_eq_false (by omega)]) hx
          have HR := ShutQ5.mk hr
          have HBW := Lib.hid (HB.out.trans (Keep.of_below k2))
          have hg : decide (nx ≤ x0) = true := decide_eq_true hge
          clear HUP HIDS hin hr k1 k2 HM HU HJ H HL HW K2 HUP2 hup2
          go_wp2_with fail
          go_ret
          exact ⟨by rw [HR.out]; rfl, (fun h => by rw [HR.out] at h; cases h), HBW.out⟩
        · have hput : ∀ W, Below wr.heap.size wr W → ∃ w', (Instr.mapUpdate 197 (.map (some b)) (.int .i64 x0) (.agg #[])).run Tryz.prog W = .ok () w' ∧ Met w' b (ms ++ idsL (l.take (j + 1))) ∧ Keep (fun i _ => i ≠ b) w w' := fun W hW => by
            obtain ⟨w', h1, h2, h3⟩ := (HM.out.below hW).putI hwx (by have := idsL_len l j; have := HL.out; rw [List.length_append]; omega)
            refine ⟨w', h1, by rw [HIDS.out, ← List.append_assoc]; exact h2, (HB.out.trans (Keep.of_below hW)).grown h3 fun g o hg _ hne => ?_⟩
            injection hg with hg
            omega
          have hnext : ∀ q, q < j + 1 → freshAt ms l nx q = true := fun q hq => by
            rcases Nat.lt_or_ge q j with h5 | h5
            · exact HU.out q h5
            · obtain rfl : q = j := by omega
              rw [HUP2.out]; exact decide_eq_true (by omega)
          have HN := Lib.hid hnext
          obtain ⟨W3, hup3, hm3, hb3⟩ := hput _ k2
          have HM3 := Lib.hid hm3
          have HB3 := Lib.hid hb3
          have hg : decide (nx ≤ x0) = false := decide_eq_false hge
          clear HUP HIDS hin k1 k2 HM HU HW K2 HUP2 hup2 hput hnext hm3 hb3 H
          go_wp2_with fail
          go_roundg (n - (j + 1))
          case measure => have := HJ.out; have := HL.out; omega
          case rel => exact ⟨j + 1, by have := HL.out; omega, by go_num, HN.out, HM3.out, HB3.out⟩
    · have he : l.length ≤ j := by have := HL.out; omega
      have e1 := fresh_all HU.out he
      have e2 : l.take j = l := List.take_of_length_le he
      have hm2 := HM.out
      rw [e2] at hm2
      have E1 := ShutQ5.mk e1
      have HM2 := Lib.hid hm2
      clear e1 he e2 hm2
      go_wp2_with fail
      go_ret
      exact ⟨by rw [E1.out]; rfl, fun _ => HM2.out, HB.out⟩
end Go.Proofs.YtjfoflbaoceemaaGreat
