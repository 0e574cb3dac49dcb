/- QueueClaims, walked. -/
import Derived.Test.YtglcdchjddnjgaaMqL
import Derived.Test.YtglcdchjddnjgaaMqB
import Derived.Test.YtglcdchjddnjgaaMqK
import Derived.Test.YtglcdchjddnjgaaBits
import Derived.Test.YtglcdchjddnjgaaOpenB
set_option maxRecDepth 4000
namespace Go.Proofs.Ytglcdchjddnjgaa
open Go.RowKit
/-- a fact that the walk must not look through -/
structure ShutC (p : Prop) : Prop where out : p
theorem slice_abc (z : Int) (h : 0 ≤ z ∧ z < 3) (W : World) : (Instr.slice 9 (.string ⟨#[97, 98, 99]⟩) (some (.int .i64 z)) (some (.int .i64 (z + 1))) none).run Try.prog W = .ok (.string (abcI z)) W := by
  rw [run_slice_string (P := Try.prog) W 9 ⟨#[97, 98, 99]⟩ .i64 .i64 z (z + 1) Try.underlying9 (by omega) (by omega) (by show z + 1 ≤ 3; omega)]
  have hz : z = 0 ∨ z = 1 ∨ z = 2 := by omega
  rcases hz with rfl | rfl | rfl <;> rfl
/-- the first loop: messages are made -/
def Makes (w : World) (n : Nat) (k : Nat) (v i : Value) (wr : World) : Prop :=
  ∃ j, j + k = n ∧ i = .int .i64 (j : Int) ∧ OwnM wr w.heap.size v (rowQ j fun _ => false) ∧ Below w.heap.size w wr
def missP (cls : List Bool) (j : Nat) : Bool := !cls.getD j false
def matchP (cls : List Bool) (C : Int) (j : Nat) : Bool := !cls.getD j false && ((j : Int) % 3 == C)
/-- the second: some are claimed, from the last on -/
def Claims (w : World) (n : Nat) (cls : List Bool) (C : Int) (k : Nat) (v a b i : Value) (wr : World) : Prop :=
  k ≤ n ∧ (k = 0 ∧ i = .int .i64 (-1) ∨ ∃ j : Nat, k = j + 1 ∧ i = .int .i64 (j : Int)) ∧ a = .int .i64 (fromI (missP cls) n k) ∧ b = .int .i64 (fromI (matchP cls C) n k) ∧ OwnM wr w.heap.size v (rowQ n (doneQ cls k)) ∧ Below w.heap.size w wr
theorem step_down (i : Nat) : i = 0 ∧ Value.int .i64 ((i : Int) - 1) = .int .i64 (-1) ∨ ∃ j : Nat, i = j + 1 ∧ Value.int .i64 ((i : Int) - 1) = .int .i64 (j : Int) := by
  rcases Nat.eq_zero_or_pos i with h | h
  · exact .inl ⟨h, by rw [h]; rfl⟩
  · exact .inr ⟨i - 1, by omega, by congr 1; omega⟩
theorem make_one {w wr : World} {v : Value} {j : Nat} (ho : OwnM wr w.heap.size v (rowQ j fun _ => false)) (hb : Below w.heap.size w wr) (hj : j ≤ 100) :
    ∃ v' W', (Builtin.append_ #[24, 24] 24 #[v, .slice (some ⟨wr.heap.size, 0, none⟩) 1 1]).run Try.prog (wr.alloc (.cells #[.int .i64 ((j : Int) + 1), .int .i64 0, .int .i64 0, .bool false, .string (abcI ((j : Int) % 3)), .string ⟨#[]⟩] 28)) = .ok v' W' ∧
      OwnM W' w.heap.size v' (rowQ (j + 1) fun _ => false) ∧ Below w.heap.size w W' := by
  have hone := one_lst eM wr 28 (msgJ (fun _ => false) j) (cs := #[.int .i64 ((j : Int) + 1), .int .i64 0, .int .i64 0, .bool false, .string (abcI ((j : Int) % 3)), .string ⟨#[]⟩]) rfl
  have hal := alloc_below wr (.cells #[.int .i64 ((j : Int) + 1), .int .i64 0, .int .i64 0, .bool false, .string (abcI ((j : Int) % 3)), .string ⟨#[]⟩] 28)
  have ho2 := own_belowE ho hal
  obtain ⟨v', W', hap, ho3, hg, _⟩ := append_own tyM ho2 hone rfl 1 (by show (rowQ j _).length + 1 ≤ _; rw [rowQ_len]; omega) (Nat.le_trans hb.size hal.size)
  rw [← rowQ_succ] at ho3
  exact ⟨v', W', hap, ho3, (hb.trans (hal.mono hb.size)).grown hg (Nat.le_trans hb.size hal.size) fun g hg2 => (own_blk ho2 hg2).1⟩
set_option maxRecDepth 8000 in
set_option maxHeartbeats 1000000 in
theorem queueClaimsN (n : Nat) (A : Option Addr) (m c : Nat) (cls : List Bool) (x : Int) (w : World) (hc : Bools w A m cls) (hn0 : 0 < n) (hn : n ≤ 30) (hm : n ≤ m) :
    Calls Try.prog 4 #[.int .i64 (n : Int), .slice A m c, .int .i64 x] w fun e w' => e = .returned (.bool true) ∧ Below w.heap.size w w' := by
  have HC := Lib.hid hc
  clear hc
  go_enter Try.func4, Try.ntmps4
  go_wp2_with fail
  refine (alive15_ _).mono ?_
  rintro e w1 ⟨rfl, hb1⟩
  have HB1 := Lib.hid hb1
  have g0 : decide ((n : Int) < 1) = false := decide_eq_false (by omega)
  have g1 : decide ((30 : Int) < (n : Int)) = false := decide_eq_false (by omega)
  have g2 : decide (m < n) = false := decide_eq_false (by omega)
  have g3 : decide ((m : Int) < (n : Int)) = false := decide_eq_false (by omega)
  clear hb1
  go_wp2_with fail
  go_loopg [8, 9] n (fun k v i wr => Makes w n k v i wr)
  case atStart => exact ⟨0, by omega, rfl, own_nil _ _, HB1.out⟩
  case round =>
    obtain ⟨j, hj, rfl, ho, hb⟩ := hrel
    have HJ := Lib.hid hj
    have HO := Lib.hid ho
    have HB := Lib.hid hb
    clear hj ho hb
    by_cases hlt : j < n
    · obtain ⟨v', W', hap, ho2, hb2⟩ := make_one HO.out HB.out (by omega)
      have hsl := fun W => slice_abc ((j : Int) % 3) (by omega) W
      have HO2 := Lib.hid ho2
      have HB2 := Lib.hid hb2
      have HAP := ShutC.mk hap
      clear ho2 hb2 HO hap
      generalize abcI ((j : Int) % 3) = ab at *
      go_wp2_with (at_builtin; refine wpList_append_run rfl (.tmp 43) (.tmp 53) 24 24 rfl _ _ rfl rfl HAP.out ?_)
      go_roundg (n - (j + 1))
      case measure => have := HJ.out; omega
      case rel => exact ⟨j + 1, by omega, by go_num, HO2.out, HB2.out⟩
    · have hjn : j = n := by have := HJ.out; omega
      subst hjn
      obtain ⟨a, ha, hand⟩ := and1023 x
      have ho2 := HO.out
      rw [rowQ_congr (b := doneQ cls j) (fun q hq => by unfold doneQ; rw [decide_eq_false (by omega)]; rfl)] at ho2
      have HO2 := Lib.hid ho2
      have hw : IntKind.i64.wrap ((j : Int) - 1) = (j : Int) - 1 := by rw [IntKind.wrap_i64]; omega
      obtain ⟨p, hp⟩ : ∃ p, j = p + 1 := ⟨j - 1, by omega⟩
      have hjp : Value.int .i64 ((j : Int) - 1) = .int .i64 (p : Int) := by congr 1; omega
      have HJP := ShutC.mk hjp
      have HP := ShutC.mk hp
      have hC : 0 ≤ (a : Int) % 3 ∧ (a : Int) % 3 < 3 := by omega
      have HC3 := Lib.hid hC
      clear ho2 HO hlt HJ hjp hp hC
      go_wp2_with fail
      generalize (a : Int) % 3 = C at *
      go_loopg [8, 11, 12, 13] j (fun k v a b i wr => Claims w j cls C k v a b i wr)
      case atStart => exact ⟨Nat.le_refl _, .inr ⟨p, HP.out, by first | exact HJP.out | rfl⟩, by rw [from_end], by rw [from_end], HO2.out, HB.out⟩
      case round =>
        obtain ⟨hkn, hi, rfl, rfl, ho, hb⟩ := hrel
        clear HO2 HB
        have HO := Lib.hid ho
        have HB := Lib.hid hb
        have HKN := Lib.hid hkn
        clear ho hb hkn
        rcases hi with ⟨hk0, rfl⟩ | ⟨i, hk1, rfl⟩
        · have ho := HO.out
          rw [hk0] at ho ⊢
          have h0c : 0 < cls.length := by have := HC.out.1; omega
          obtain ⟨bb, oo, rfl, _, hbl, hcb⟩ := (HC.out.below HB.out).2.atB h0c
          obtain ⟨b0, hb0⟩ : ∃ b, cls[0] = b := ⟨_, rfl⟩
          have hgd : cls.getD 0 false = b0 := by rw [List.getD_eq_getElem?_getD, List.getElem?_eq_getElem h0c, hb0]; rfl
          rw [hb0, Nat.add_zero] at hcb
          have hd0 : doneQ cls 0 0 = b0 := by unfold doneQ; rw [hgd]; simp
          have hid : ∀ q, doneQ cls 0 q = cls.getD q false := fun q => by unfold doneQ; simp
          have i1 : idxI freeM (rowQ j (doneQ cls 0)) = fromI (missP cls) j 0 := idx_from fun q _ => by unfold freeM msgJ missP; rw [hid]
          have i2 : idxI (freeC (abcI C)) (rowQ j (doneQ cls 0)) = fromI (matchP cls C) j 0 := idx_from fun q _ => by
            unfold freeC msgJ matchP; rw [hid]; simp only; rw [abc_same (by omega) HC3.out]
          obtain ⟨e1, e2⟩ := rowQ_set (cl := doneQ cls 0) hn0 false
          rw [hd0] at e1
          have e3 := first_free (cl := fun q => if q = 0 then false else doneQ cls 0 q) hn0 rfl
          rw [show ((0 : Nat) : Int) + 1 = 1 from rfl] at e1 e2
          obtain ⟨A8, c8, e8, hl8, hc8, _, hn8⟩ := own_lst ho
          have hle := least_m (c := c8) hl8 (rowQ_len _ _) (by omega)
          have hma := fun W (h : Below wr.heap.size wr W) => match_m (w := W) (c := c8) (hl8.below h) (rowQ_len _ _) (by omega) (abcI C)
          have hcl := fun W (h : Below wr.heap.size wr W) => claim_m (w := W) (c := c8) (hl8.below h) (rowQ_len _ _) (by omega) hn8 1 false
          rw [rowQ_len] at e8
          rw [i1] at hle
          rw [i2] at hma
          rw [e1, e2] at hcl
          have hsl := fun W => slice_abc C HC3.out W
          have hC0 : 0 ≤ C := HC3.out.1
          have hC1 : C < 3 := HC3.out.2
          have hC2 : IntKind.i64.wrap (C + 1) = C + 1 := by rw [IntKind.wrap_i64]; omega
          have HLE := ShutC.mk hle
          have HMA := ShutC.mk hma
          have HCL := ShutC.mk hcl
          have E3 := ShutC.mk e3
          subst e8
          clear hle hma hcl e1 e2 e3 i1 i2 hd0 hid hgd hb0 hl8 hn8 ho HO h0c hbl HKN
          generalize fromI (missP cls) j 0 = x1 at *
          generalize fromI (matchP cls C) j 0 = x2 at *
          generalize abcI C = ab at *
          go_wp2_with fail
          refine HLE.out.mono ?_
          rintro e w2 ⟨rfl, hb2⟩
          have HB2 := Lib.hid hb2
          clear hb2 HLE
          go_wp2_with fail
          refine (HMA.out w2 HB2.out).mono ?_
          rintro e w3 ⟨rfl, hb3⟩
          have HB3 := Lib.hid (HB2.out.trans (hb3.mono HB2.out.size))
          clear hb3 HMA
          go_wp2_with fail
          refine (HCL.out w3 HB3.out).mono ?_
          rintro e w4 ⟨v4, rfl, ho4, hb4⟩
          have hb4' := HB3.out.trans (hb4.mono HB3.out.size)
          have hcb4 := (hb4'.cell (p := ⟨bb, oo, none⟩) (block_of_cell hcb)).trans hcb
          have HB4 := Lib.hid hb4'
          obtain ⟨A9, c9, e9, hl9, hc9, _, hn9⟩ := own_lst ho4
          have hle := least_m (c := c9) hl9 (rowQ_len _ _) (by omega)
          rw [rowQ_len] at e9
          rw [E3.out] at hle
          have HLE := ShutC.mk hle
          subst e9
          clear hle hl9 hn9 ho4 hb4 hb4' HCL E3 hcb
          cases b0
          all_goals
            go_wp2_with fail
            refine HLE.out.mono ?_
            rintro e w5 ⟨rfl, hb5⟩
            have HB5 := Lib.hid (HB.out.trans ((HB4.out.trans (hb5.mono HB4.out.size)).mono HB.out.size))
            clear hb5
            go_wp2_with fail
            go_ret
            exact ⟨rfl, HB5.out⟩
        · have hin : i < j := by have := HKN.out; omega
          have him : i < cls.length := by have := HC.out.1; omega
          obtain ⟨bb, oo, rfl, _, hbl, hcb⟩ := (HC.out.below HB.out).2.atB him
          have hgd : cls.getD i false = cls[i] := by rw [List.getD_eq_getElem?_getD, List.getElem?_eq_getElem him]; rfl
          obtain ⟨bv, hbv⟩ : ∃ bv, cls[i] = bv := ⟨_, rfl⟩
          rw [hbv] at hcb hgd
          have ho := HO.out
          have hK1 := ShutC.mk hk1
          rw [hk1] at ho
          have hse := from_step (p := missP cls) hin
          have hsm := from_step (p := matchP cls C) hin
          have hm1 : missP cls i = !bv := by unfold missP; rw [hgd]
          have hm2 : matchP cls C i = (!bv && ((i : Int) % 3 == C)) := by unfold matchP; rw [hgd]
          rw [hm1] at hse
          rw [hm2] at hsm
          have him2 : i < m := by have := HC.out.1; omega
          have HD := ShutC.mk (done_next (cls := cls) bv hgd)
          have HSE := ShutC.mk hse
          have HSM := ShutC.mk hsm
          clear hse hsm hm1 hm2 hgd hbv him HKN hbl HO
          cases bv
          · have ho1 := ho
            have heq : ∀ q, q < j → doneQ cls (i + 1) q = doneQ cls i q := fun q _ => by
              rw [HD.out q]
              by_cases e : q = i
              · subst e; rw [if_pos rfl, done_self]
              · rw [if_neg e]
            rw [rowQ_congr heq] at ho1
            have HO1 := Lib.hid ho1
            have hw2 : IntKind.i64.wrap ((i : Int) - 1) = (i : Int) - 1 := by rw [IntKind.wrap_i64]; omega
            clear ho ho1 HD heq
            by_cases hc3 : (i : Int) % 3 = C
            · have hse : fromI (missP cls) j i = (i : Int) := by rw [HSE.out]; rfl
              have hsm : fromI (matchP cls C) j i = (i : Int) := by rw [HSM.out, hc3]; simp
              have HSE1 := ShutC.mk hse
              have HSM1 := ShutC.mk hsm
              have hc4 : ((i : Int) % 3 == C) = true := by simp [hc3]
              clear HSE HSM hse hsm hc3
              go_wp2_with fail
              go_roundg i
              case measure => have := hK1.out; omega
              case rel => exact ⟨by omega, step_down i, by rw [HSE1.out], by rw [HSM1.out], HO1.out, HB.out⟩
            · have hse : fromI (missP cls) j i = (i : Int) := by rw [HSE.out]; rfl
              have hsm : fromI (matchP cls C) j i = fromI (matchP cls C) j gk := by rw [HSM.out, hK1.out]; simp [hc3]
              have HSE1 := ShutC.mk hse
              have HSM1 := ShutC.mk hsm
              have hc4 : ((i : Int) % 3 == C) = false := by simp [hc3]
              clear HSE HSM hse hsm hc3
              go_wp2_with fail
              go_roundg i
              case measure => have := hK1.out; omega
              case rel => exact ⟨by omega, step_down i, by rw [HSE1.out], by rw [HSM1.out], HO1.out, HB.out⟩
          · obtain ⟨e1, e2⟩ := rowQ_set (cl := doneQ cls (i + 1)) hin true
            rw [done_self] at e1
            rw [rowQ_congr (b := doneQ cls i) (fun q _ => (HD.out q).symm)] at e2
            obtain ⟨e3, _⟩ := rowQ_set (cl := doneQ cls i) hin true
            rw [HD.out i, if_pos rfl] at e3
            obtain ⟨A8, c8, e8, hl8, hc8, _, hn8⟩ := own_lst ho
            have hcl := claim_m (c := c8) hl8 (rowQ_len _ _) (by omega) hn8 ((i : Int) + 1) true
            rw [rowQ_len] at e8
            rw [e1, e2] at hcl
            have hw2 : IntKind.i64.wrap ((i : Int) - 1) = (i : Int) - 1 := by rw [IntKind.wrap_i64]; omega
            have hse : fromI (missP cls) j i = fromI (missP cls) j gk := by rw [HSE.out, hK1.out]; rfl
            have hsm : fromI (matchP cls C) j i = fromI (matchP cls C) j gk := by rw [HSM.out, hK1.out]; rfl
            have HSE1 := ShutC.mk hse
            have HSM1 := ShutC.mk hsm
            have HCL := ShutC.mk hcl
            have E3 := ShutC.mk e3
            subst e8
            clear HSE HSM hse hsm hcl e1 e2 e3 hl8 hn8 ho HD
            go_wp2_with fail
            refine HCL.out.mono ?_
            rintro e w2 ⟨v2, rfl, ho2, hb2⟩
            have HO2 := Lib.hid (own_base ho2 HB.out.size)
            have HB2 := Lib.hid (HB.out.trans (hb2.mono HB.out.size))
            obtain ⟨A9, c9, e9, hl9, hc9, _, hn9⟩ := own_lst ho2
            have hcl := claim_m (c := c9) hl9 (rowQ_len _ _) (by omega) hn9 ((i : Int) + 1) true
            rw [rowQ_len] at e9
            rw [E3.out] at hcl
            have HCL2 := ShutC.mk hcl
            subst e9
            clear hcl hl9 hn9 ho2 hb2 HCL E3
            go_wp2_with fail
            refine HCL2.out.mono ?_
            rintro e w3 ⟨v3, rfl, _, hb3⟩
            have HO3 := Lib.hid (own_belowE HO2.out hb3)
            have HB3 := Lib.hid (HB2.out.trans (hb3.mono HB2.out.size))
            clear hb3 HCL2 HO2 HB2
            go_wp2_with fail
            go_roundg i
            case measure => have := hK1.out; omega
            case rel => exact ⟨by omega, step_down i, by rw [HSE1.out, hK1.out], by rw [HSM1.out, hK1.out], HO3.out, HB3.out⟩
theorem queueClaims (n : Int) (A : Option Addr) (m c : Nat) (cls : List Bool) (x : Int) (w : World) (hc : Bools w A m cls) :
    Calls Try.prog 4 #[.int .i64 n, .slice A m c, .int .i64 x] w fun e w' => e = .returned (.bool true) ∧ Below w.heap.size w w' := by
  by_cases h1 : n < 1
  · clear hc
    go_enter Try.func4, Try.ntmps4
    go_wp2_with fail
    refine (alive15_ _).mono ?_
    rintro e w1 ⟨rfl, hb1⟩
    have HB1 := Lib.hid hb1
    clear hb1
    have g1 : decide (n < 1) = true := decide_eq_true h1
    go_wp2_with fail
    all_goals (go_ret; exact ⟨rfl, HB1.out⟩)
  by_cases h2 : 30 < n
  · clear hc
    go_enter Try.func4, Try.ntmps4
    go_wp2_with fail
    refine (alive15_ _).mono ?_
    rintro e w1 ⟨rfl, hb1⟩
    have HB1 := Lib.hid hb1
    clear hb1
    have g1 : decide (n < 1) = false := decide_eq_false (by omega)
    have g2 : decide (30 < n) = true := decide_eq_true h2
    go_wp2_with fail
    all_goals (go_ret; exact ⟨rfl, HB1.out⟩)
  by_cases h3 : (m : Int) < n
  · clear hc
    go_enter Try.func4, Try.ntmps4
    go_wp2_with fail
    refine (alive15_ _).mono ?_
    rintro e w1 ⟨rfl, hb1⟩
    have HB1 := Lib.hid hb1
    clear hb1
    have g1 : decide (n < 1) = false := decide_eq_false (by omega)
    have g2 : decide (30 < n) = false := decide_eq_false (by omega)
    have g3 : decide ((m : Int) < n) = true := decide_eq_true h3
    go_wp2_with fail
    all_goals (go_ret; exact ⟨rfl, HB1.out⟩)
  have h := queueClaimsN n.toNat A m c cls x w hc (by omega) (by omega) (by omega)
  rw [Int.toNat_of_nonneg (by omega)] at h
  exact h
end Go.Proofs.Ytglcdchjddnjgaa
