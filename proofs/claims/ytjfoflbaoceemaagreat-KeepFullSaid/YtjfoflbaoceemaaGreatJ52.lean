/- . . -/
import Derived.Test.YtjfoflbaoceemaaGreatJ51
import Derived.Test.YtjfoflbaoceemaaGreatJ01
import Derived.Test.YtjfoflbaoceemaaGreatJ04
import Derived.Test.YtjfoflbaoceemaaGreatJ08
import Derived.Deep.RegionWith
import Derived.Deep.RegionHeld3
import Derived.Deep.DeepCutAuto
import Derived.Test.YtjfoflbaoceemaaGreatRows
import Derived.WalkKit
import Derived.ProofKit
import Derived.OpenShut
import Derived.ShutString
import Derived.ChangeOld
import Derived.Below
import Derived.Carry
import Derived.Lib.SmallJoins
set_option maxRecDepth 4000
namespace Go.Proofs.YtjfoflbaoceemaaGreat
open Go.RowKit
theorem ah_at (a : Nat) (h : a < 8) (W : World) : (Instr.slice 9 (.string ⟨#[97, 98, 99, 100, 101, 102, 103, 104]⟩) (some (.int .i64 (a : Int))) (some (.int .i64 ((a : Int) + 1))) none).run Tryz.prog W = .ok (.string ⟨#[(97 + a).toUInt8]⟩) W := by
  have hc : a = 0 ∨ a = 1 ∨ a = 2 ∨ a = 3 ∨ a = 4 ∨ a = 5 ∨ a = 6 ∨ a = 7 := by omega
  rcases hc with rfl | rfl | rfl | rfl | rfl | rfl | rfl | rfl <;> (show _ = _; kernel_rfl)
theorem aj_at (a : Nat) (h : a < 10) (W : World) : (Instr.slice 9 (.string ⟨#[97, 98, 99, 100, 101, 102, 103, 104, 105, 106]⟩) (some (.int .i64 (a : Int))) (some (.int .i64 ((a : Int) + 1))) none).run Tryz.prog W = .ok (.string ⟨#[(97 + a).toUInt8]⟩) W := by
  have hc : a = 0 ∨ a = 1 ∨ a = 2 ∨ a = 3 ∨ a = 4 ∨ a = 5 ∨ a = 6 ∨ a = 7 ∨ a = 8 ∨ a = 9 := by omega
  rcases hc with rfl | rfl | rfl | rfl | rfl | rfl | rfl | rfl | rfl | rfl <;> (show _ = _; kernel_rfl)
theorem key_cat (j : Nat) : (⟨#[(97 + j / 10).toUInt8]⟩ : ByteArray) ++ ⟨#[(97 + j % 10).toUInt8]⟩ = keyF j := by rfl
theorem fl_apply {m z j : Nat} {d : Dk} {K : Ks} (h : Rest m d K) (he : K.st = tabR 1 (rowsF z j)) (hj : j < 80) (hz : z ≤ 100) : (putE (keyF j) (zerB z)).right = true ∧ applyS K.st [putE (keyF j) (zerB z)] = (0, tabR 1 (rowsF z (j + 1))) := by
  have hr : (putE (keyF j) (zerB z)).right = true := putE_right (show 1 ≤ 2 ∧ 2 ≤ 40 by omega) (zerB_body hz)
  refine ⟨hr, ?_⟩
  rw [apply_run h.st.right, he, run_put hr, rowsF_put hj]
theorem fl_done {m z j : Nat} {d d1 : Dk} {K K1 : Ks} {c : Int} (h : Rest m d K) (hm : m + 300 ≤ 900000) (hw : d.ends = false) (he : K.st = tabR 1 (rowsF z j)) (hj : j < 80) (hz : z ≤ 100) (hd : doK (putK imK) d K [putE (keyF j) (zerB z)] = (d1, K1, c)) :
    (6000 < 67 + (j + 1) * (22 + z) ∧ c = 9 ∧ K1 = K) ∨ (67 + (j + 1) * (22 + z) ≤ 6000 ∧ c = 0 ∧ K1.st = tabR 1 (rowsF z (j + 1))) := by
  obtain ⟨hr, ha⟩ := fl_apply h he hj hz
  by_cases hf : 6000 < 67 + (j + 1) * (22 + z)
  · rw [doK_full h.dead ha (.inl (by rw [rowsF_size]; exact hf))] at hd
    obtain ⟨_, h2⟩ := Prod.mk.inj hd
    obtain ⟨h2, h3⟩ := Prod.mk.inj h2
    exact .inl ⟨hf, h3.symm, h2.symm⟩
  · obtain ⟨t, K2, e1, e2, _⟩ := h.done (l := [putE (keyF j) (zerB z)]) hm (show 1 ≤ 10000 by decide) (by simp) hw ha (by rw [rowsF_size]; omega) (bytes_one hr)
    rw [e1] at hd
    obtain ⟨_, h2⟩ := Prod.mk.inj hd
    obtain ⟨h2, h3⟩ := Prod.mk.inj h2
    subst h2
    exact .inr ⟨by omega, h3.symm, e2⟩
def FlR (w : World) (b gd n z : Nat) (k : Nat) (i : Value) (W : World) : Prop :=
  ∃ (j : Nat) (d : Dk) (K : Ks), j ≤ n ∧ k = n - j ∧ i = .int .i64 (j : Int) ∧ Hs W b gd (fun i => i < w.heap.size) (400 + 300 * j) d K ∧ K.st = tabR 1 (rowsF z j) ∧ 67 + j * (22 + z) ≤ 6000 ∧ Below w.heap.size w W
set_option maxHeartbeats 4000000 in
theorem keepFull (rows size : Int) (w : World) : Calls Tryz.prog 8 #[.int .i64 rows, .int .i64 size] w fun e w' => e = .returned (.bool true) ∧ Below w.heap.size w w' := by
  by_cases hout : rows < 1 ∨ 80 < rows ∨ size < 0 ∨ 100 < size
  · go_enter Tryz.func8, Tryz.ntmps8
    go_wp2_with fail
    refine (alive_k _).mono ?_
    rintro e w1 ⟨rfl, hb1⟩
    have HB1 := ShutK.mk hb1
    clear hb1
    by_cases c1 : rows < 1
    · go_wp2_with fail
      go_ret
      exact ⟨rfl, HB1.out⟩
    by_cases c2 : 80 < rows
    · go_wp2_with fail
      go_ret
      exact ⟨rfl, HB1.out⟩
    by_cases c3 : size < 0
    · go_wp2_with fail
      go_ret
      exact ⟨rfl, HB1.out⟩
    have c4 : 100 < size := by omega
    go_wp2_with fail
    go_ret
    exact ⟨rfl, HB1.out⟩
  obtain ⟨n, rfl⟩ : ∃ n : Nat, rows = (n : Int) := ⟨rows.toNat, by omega⟩
  obtain ⟨z, rfl⟩ : ∃ z : Nat, size = (z : Int) := ⟨size.toNat, by omega⟩
  have hn1 : 1 ≤ n := by omega
  have hn2 : n ≤ 80 := by omega
  have hz2 : z ≤ 100 := by omega
  have a1 : ¬ (n : Int) < 1 := by omega
  have a2 : ¬ (80 : Int) < (n : Int) := by omega
  have a3 : ¬ (z : Int) < 0 := by omega
  have a4 : ¬ (100 : Int) < (z : Int) := by omega
  clear hout
  go_enter Tryz.func8, Tryz.ntmps8
  go_wp2_with fail
  refine (alive_k _).mono ?_
  rintro e w1 ⟨rfl, hb1⟩
  have HB1 := ShutK.mk hb1
  clear hb1
  go_wp2_with fail
  refine (kneed_ _).mono ?_
  rintro e w2 ⟨rfl, rfl⟩
  go_wp2_with fail
  refine (new_disk _).mono ?_
  rintro e w2 ⟨rfl, hd2, hb2⟩
  obtain ⟨O2, p2, p3, p4⟩ := hd2
  have hd2 : DiskR w2 (w1.heap.size + 1) (fun i => i < w.heap.size) (Dk.new 354) := ⟨O2, p2, p3, fun i hi => p4 i (Nat.lt_of_lt_of_le hi HB1.out.size)⟩
  have HD2 := ShutK.mk hd2
  have HB2 := ShutK.mk (HB1.out.trans (hb2.mono HB1.out.size))
  clear p2 p3 p4 hd2 hb2 HB1
  generalize w1.heap.size + 1 = gd at *
  go_wp2_with fail
  refine (kopen_new HD2.out (by omega) (by omega)).mono ?_
  rintro e w3 ⟨b, d3, rfl, hs3, hn3, hk3⟩
  have HS3 := ShutK.mk hs3
  have HK3 := ShutK.mk (HB2.out.trans (below_of_keep hk3 HB2.out.size))
  clear hs3 hn3 hk3 HD2 HB2
  go_wp2_with fail
  refine (knum_ _ _).mono ?_
  rintro e w4 ⟨rfl, rfl⟩
  have k3 := alloc_below w3 (.cells mkE.cells 46)
  have hone := one_lst eEf w3 46 mkE (cs := mkE.cells) rfl
  have hdo := (HS3.out.below k3).do_ (by omega) hone rfl (by show 1 ≤ 150; omega) (cap := 1)
  have HDO := ShutK.mk hdo
  have HS4 := ShutK.mk (HS3.out.below k3)
  have HK4 := ShutK.mk (HK3.out.trans (k3.mono HK3.out.size))
  simp only [mkE, Ef.cells, Mg.zero, tN] at HDO HK4 HS4
  clear k3 hone hdo
  go_wp2_with fail
  refine HDO.out.mono ?_
  intro e w4 hdn
  obtain ⟨d4, K4, rfl, hs4, e4, _, _, _, hk4⟩ := made_of hdn HS4.out
  have HS5 := ShutK.mk hs4
  have HK5 := ShutK.mk (HK4.out.trans (below_of_keep hk4 HK4.out.size))
  have HE5 := ShutK.mk e4
  clear hdn hs4 hk4 e4 HDO HS3 HS4 HK3 HK4
  go_wp2_with fail
  go_loopg [8] n (fun k i wr => FlR w b gd n z k i wr)
  case atStart => exact ⟨0, d4, K4, by omega, rfl, rfl, HS5.out, HE5.out, by omega, HK5.out⟩
  case round =>
    obtain ⟨j, d, K, hj, rfl, rfl, hs, he, hsz, hb⟩ := hrel
    have HS := ShutK.mk hs
    have HE := ShutK.mk he
    have HB := ShutK.mk hb
    have HJ := ShutK.mk hj
    have HSZ := ShutK.mk hsz
    clear hs he hb hj hsz
    by_cases hlt : j < n
    · have hjn : (j : Int) < (n : Int) := by omega
      go_wp2_with fail
      refine HS.out.state.mono ?_
      rintro e w5 ⟨⟨A5, n5, c5⟩, ys, rfl, ho5, he5, hb5⟩
      have HO5 := ShutK.mk ho5
      have HE5 := ShutK.mk he5
      have HB5 := ShutK.mk hb5
      clear ho5 he5 hb5
      go_wp2_with fail
      have HP6 := ShutK.mk (Blk.new w5 54 #[Value.int IntKind.i64 K.st.next, Value.slice A5 n5 c5])
      have hb6 : Below wr.heap.size wr (w5.alloc (.cells #[Value.int IntKind.i64 K.st.next, Value.slice A5 n5 c5] 54)) := HB5.out.alloc HB5.out.size _
      have HB6 := ShutK.mk hb6
      have HS6 := ShutK.mk (HS.out.grow hb6)
      have HO6 := ShutK.mk (HO5.out.below (alloc_below w5 (.cells #[Value.int IntKind.i64 K.st.next, Value.slice A5 n5 c5] 54)))
      have hsz6 : (w5.alloc (.cells #[Value.int IntKind.i64 K.st.next, Value.slice A5 n5 c5] 54)).heap.size = w5.heap.size + 1 := by simp
      have HZ6 := ShutK.mk (show wr.heap.size ≤ w5.heap.size ∧ w5.heap.size < (w5.alloc (.cells #[Value.int IntKind.i64 K.st.next, Value.slice A5 n5 c5] 54)).heap.size from ⟨HB5.out.size, by omega⟩)
      clear hb6 hsz6 HB5 HO5
      generalize w5.alloc (.cells #[Value.int IntKind.i64 K.st.next, Value.slice A5 n5 c5] 54) = w6 at *
      generalize w5.heap.size = P at *
      obtain ⟨hright, happ⟩ := fl_apply HS.out.rest HE.out (by omega) hz2
      have HR := ShutK.mk hright
      have HA := ShutK.mk happ
      clear hright happ
      have hkc := key_cat j
      have hq : (j : Int).tdiv 10 = ((j / 10 : Nat) : Int) := by rw [Int.tdiv_eq_ediv_of_nonneg (by omega)]; omega
      have hr : (j : Int).tmod 10 = ((j % 10 : Nat) : Int) := by rw [Int.tmod_eq_emod_of_nonneg (by omega)]; omega
      have hs1 := ah_at (j / 10) (by omega)
      have hs2 := aj_at (j % 10) (by omega)
      have hb1 : j / 10 < 8 := by omega
      have hb2 : j % 10 < 10 := by omega
      generalize j / 10 = q1 at *
      generalize j % 10 = q2 at *
      have hl1 : (⟨#[(97 + q1).toUInt8]⟩ : ByteArray).size = 1 := rfl
      have hl2 : (⟨#[(97 + q2).toUInt8]⟩ : ByteArray).size = 1 := rfl
      generalize (⟨#[(97 + q1).toUInt8]⟩ : ByteArray) = L1 at *
      generalize (⟨#[(97 + q2).toUInt8]⟩ : ByteArray) = L2 at *
      have hw1 : IntKind.i64.wrap ((q1 : Int) + 1) = (q1 : Int) + 1 := by rw [IntKind.wrap_i64]; omega
      have hw2 : IntKind.i64.wrap ((q2 : Int) + 1) = (q2 : Int) + 1 := by rw [IntKind.wrap_i64]; omega
      have hw3 : IntKind.i64.wrap (q1 : Int) = (q1 : Int) := by rw [IntKind.wrap_i64]; omega
      have hmk := made5 z (by omega)
      have hcv : (convert 42 9 (.slice (some ⟨w6.heap.size, 0, none⟩) z z)).run Tryz.prog (w6.alloc (.cells (cellsB (List.replicate z 0)).toArray 5)).drew = .ok (.string (zerB z)) (w6.alloc (.cells (cellsB (List.replicate z 0)).toArray 5)).drew := convert_blk ((Blk.new w6 5 (cellsB (List.replicate z 0)).toArray).drew) (by simp) z
      have KB := ShutK.mk (alloc_below w6 (.cells (cellsB (List.replicate z 0)).toArray 5))
      have hone := one_lst eEf (w6.alloc (.cells (cellsB (List.replicate z 0)).toArray 5)) 46 (putE (keyF j) (zerB z)) (cs := (putE (keyF j) (zerB z)).cells) rfl
      rw [show (w6.alloc (.cells (cellsB (List.replicate z 0)).toArray 5)).heap.size = w6.heap.size + 1 by simp] at hone
      have kb3 := (KB.out.alloc KB.out.size (.cells (putE (keyF j) (zerB z)).cells 46)).drew
      have hdo := (HS6.out.below kb3).do_ (by have := HJ.out; omega) (hone.below ((Below.refl _ _).drew)) (n := 1) rfl (by omega) (cap := 1)
      have HDO := ShutK.mk hdo
      have HK3 := ShutK.mk kb3
      have HS7 := ShutK.mk (HS6.out.below kb3)
      simp only [putE, Ef.cells, Mg.zero, tName] at HDO HK3 HS7
      rw [← hkc] at HDO HK3 HS7
      have HKC := ShutK.mk hkc
      clear hdo hone kb3 KB hkc
      go_region_with
        (first | (go_at_call 19; refine (HDO.out).mono ?_; rintro x w9 ⟨d9, K9, c9, rfl, hdk, hs9, hn9, hor, hk9⟩; have HDK := ShutK.mk hdk; have HS9 := ShutK.mk hs9; have HK9 := ShutK.mk hk9; clear hdk hs9 hn9 hor hk9))
      have hdk2 : doK (putK imK) d K [putE (keyF j) (zerB z)] = (d9, K9, c9) := by rw [← HKC.out]; exact HDK.out
      have hfd := fl_done HS6.out.rest (by have := HJ.out; omega) HS6.out.whole HE.out (by omega) hz2 hdk2
      have ho6 : ObsAt w6 (fun i => wr.heap.size ≤ i ∧ i < w6.heap.size) ⟨A5, n5, c5⟩ ys := HO6.out.more fun i h1 h2 => ⟨h2, h1⟩
      have HO9 := ShutK.mk ((ho6.below HK3.out).keep HK9.out (fun i o _ h => .inr h))
      have hp9 := (HP6.out.below HK3.out HZ6.out.2).keep HK9.out (.inr HZ6.out)
      have HP9 := ShutK.mk hp9
      have hb8 := (HB.out.trans (HB6.out.mono HB.out.size)).trans (HK3.out.mono (Nat.le_trans HB.out.size HB6.out.size))
      have hb9 := hb8.trans (below_of_keep (HK9.out.mono fun i _ _ hi => .inl hi) hb8.size)
      have HB9 := ShutK.mk hb9
      clear hdk2 ho6 hb8 hb9 HK3 HK9 HP6 HO6 HDO HS7 HB6 hl1 hl2 hs1 hs2 hmk hcv hw1 hw2 hw3 HKC HDK
      obtain ⟨q, hqq⟩ : ∃ q : Nat, (j + 1) * (22 + z) = q := ⟨_, rfl⟩
      have hmul : ((j : Int) + 1) * (22 + (z : Int)) = (q : Int) := by rw [← hqq]; push_cast; rfl
      have hqb : q ≤ 9760 := by rw [← hqq]; exact Nat.le_trans (Nat.mul_le_mul (show j + 1 ≤ 80 by omega) (show 22 + z ≤ 122 by omega)) (by decide)
      have hv1 : IntKind.i64.wrap ((j : Int) + 1) = (j : Int) + 1 := by rw [IntKind.wrap_i64]; omega
      have hv2 : IntKind.i64.wrap (22 + (z : Int)) = 22 + (z : Int) := by rw [IntKind.wrap_i64]; omega
      have hv3 : IntKind.i64.wrap (q : Int) = (q : Int) := by rw [IntKind.wrap_i64]; omega
      have hv4 : IntKind.i64.wrap (67 + (q : Int)) = 67 + (q : Int) := by rw [IntKind.wrap_i64]; omega
      rw [hqq] at hfd
      rcases hfd with ⟨hf, rfl, rfl⟩ | ⟨hf, rfl, hst⟩
      · have hfl : (6000 : Int) < 67 + (q : Int) := by omega
        go_wp2_with fail
        refine (knum_ _ _).mono ?_
        rintro e w10 ⟨rfl, rfl⟩
        go_wp2_with fail
        refine (knum_ _ _).mono ?_
        rintro e w10 ⟨rfl, rfl⟩
        go_wp2_with fail
        have c0 := HP9.out.cell 0
        have c1 := HP9.out.cell 1
        have hlp := HP9.out.lt
        simp only [List.getElem?_toArray, List.getElem?_cons_zero, List.getElem?_cons_succ] at c0 c1
        have HSS := ShutK.mk (fun W (hb : Below w9.heap.size w9 W) => show (fun W : World => W.cell? ⟨P, 0, none⟩ = some (.int .i64 K9.st.next) ∧ W.cell? ⟨P, 1, none⟩ = some (.slice A5 n5 c5)) W from ⟨(cell_of_heap (hb.block _ hlp) _).trans c0, (cell_of_heap (hb.block _ hlp) _).trans c1⟩)
        have hS0 : (fun W : World => W.cell? ⟨P, 0, none⟩ = some (.int .i64 K9.st.next) ∧ W.cell? ⟨P, 1, none⟩ = some (.slice A5 n5 c5)) w9.drew := HSS.out _ (Below.refl _ _).drew
        have HS10 := ShutK.mk (HS9.out.below (Below.refl _ w9).drew)
        have HBA := ShutK.mk HS9.out.rest.st
        clear hp9
        go_region_held3 (fun W : World => W.cell? ⟨P, 0, none⟩ = some (.int .i64 K9.st.next) ∧ W.cell? ⟨P, 1, none⟩ = some (.slice A5 n5 c5))
          (first | exact hS0 | exact hS1 | exact hS2)
          (first
            | (go_at_call 25; refine (state_same HBA.out HO11.out HE11.out HO12.out HE5.out).mono ?_; rintro x w12 ⟨rfl, hb12⟩; have HB12 := ShutK.mk (HB11.out.trans (hb12.mono HB11.out.size)); have hS2 := HSS.out _ HB12.out; clear hb12)
            | (go_at_call 26; refine (HS10.out.state).mono ?_; rintro x w11 ⟨⟨A11, n11, c11⟩, ys2, rfl, ho11, he11, hb11⟩; have HO11 := ShutK.mk ho11; have HE11 := ShutK.mk he11; have HB11 := ShutK.mk ((Below.refl _ w9).drew.trans hb11); have HO12 := ShutK.mk (HO9.out.below HB11.out); have hS1 := HSS.out _ HB11.out; clear ho11 he11 hb11))
        go_wp2_with fail
        go_ret
        exact ⟨rfl, HB9.out.trans (HB12.out.mono HB9.out.size)⟩
      · have hfl : ¬ (6000 : Int) < 67 + (q : Int) := by omega
        have HST := ShutK.mk hst
        have HQ := ShutK.mk hqq
        have HF := ShutK.mk hf
        clear hst hqq hf
        go_wp2_with fail
        refine (knum_ _ _).mono ?_
        rintro e w10 ⟨rfl, rfl⟩
        go_wp2_with fail
        refine (knum_ _ _).mono ?_
        rintro e w10 ⟨rfl, rfl⟩
        go_wp2_with fail
        go_roundg (n - (j + 1))
        case measure => have := HJ.out; omega
        case rel => exact ⟨j + 1, d9, K9, by omega, rfl, by go_num, by have := HS9.out.mono (R' := fun i => i < w.heap.size) (fun i hi => .inl hi); exact this, HST.out, by rw [HQ.out]; exact HF.out, HB9.out⟩
    · have hjn : ¬ (j : Int) < (n : Int) := by omega
      go_wp2_with fail
      go_ret
      exact ⟨rfl, HB.out⟩
end Go.Proofs.YtjfoflbaoceemaaGreat
namespace Go.Proofs.YtjfoflbaoceemaaGreat
open Go.ChangeShapes Go.WideShapes Go.ChangeAt Go.RowKit
open Go.ChangeMaps (open_string shut_string)

theorem own : ownKnob Tryz.prog.godebug = none := by kernel_rfl
theorem laidOut : laidOutB Tryz.prog = true := by kernel_rfl

section
variable {H : Type} {enc : TypeId × Value → H} {P : Program}

theorem trodAll_below (hl : laidOutB P = true) {W W' : World} (hb : Below W.heap.size W W') :
    ∀ {ts : List TypeId} {vs : List Value} {ds : List (DataW H)} {p : List MemPlace}, (∀ t ∈ ts, P.readableRec t = true ∧ t < P.types.size) → (∀ x ∈ p, x.block < W.heap.size) →
      DataW.TrodAll enc P W 0 (fun _ => true) true ts vs ds p → DataW.TrodAll enc P W' 0 (fun b => decide (b < W.heap.size)) true ts vs ds p
  | [], vs, ds, p, _, _, h => by
    obtain ⟨rfl, rfl, rfl⟩ := trodAll_nil h
    exact trodAll_mk0
  | t :: ts, vs, ds, p, hr, hp, h => by
    obtain ⟨v, vs1, d, ds1, p1, p2, rfl, rfl, rfl, h1, h2⟩ := trodAll_cons h
    refine trodAll_cons_mk (Below.trod hl (hr t (by simp)).1 (hr t (by simp)).2 h1 hb (fun x hx => hp x (by simp [hx]))) ?_
    exact trodAll_below hl hb (fun u hu => hr u (by simp [hu])) (fun x hx => hp x (by simp [hx])) h2

theorem post_true {f : Func} {s : ChangeSpec} {W W' : World} {args : Array Value} {ds gs : List (DataW H)} {before : List MemPlace} {tb : TypeId}
    (hl : laidOutB P = true) (hr : ∀ t ∈ f.params.toList, P.readableRec t = true ∧ t < P.types.size) (hb : P.underlying tb = some .bool) (hres : f.resultTypes = #[tb]) (hv : s.vars = [])
    (hW : DataW.Whole enc P f.params.toList s.vars false W args.toList ds gs before)
    (hfn : s.fn H (ds ++ gs) = { results := [.lit (.bool true)], args := ds }) (hbel : Below W.heap.size W W') :
    s.post enc P f false true false false W args (.bool true) W' := by
  have hW' := hW
  have hlt : ∀ p ∈ before, p.block < W.heap.size := fun p hp => hW.lt p hp
  obtain ⟨p, q, hA, hV, rfl, _, _⟩ := hW
  rw [hv] at hV
  obtain ⟨rfl, rfl⟩ := trodVars_none hV
  refine ⟨_, _, _, [], p, [], hW', ?_, ?_, ?_, hbel.frame _, fun h => by cases h⟩
  · rw [hfn, hres]; exact trodAll_mk1 (shut_bool hb _)
  · rw [hfn]; exact trodAll_below hl hbel hr (fun x hx => hlt x (by simp [hx])) hA
  · rw [hfn, hv]; rfl
end

end Go.Proofs.YtjfoflbaoceemaaGreat
