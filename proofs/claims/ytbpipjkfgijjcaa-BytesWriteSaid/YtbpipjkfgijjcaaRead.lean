/- The law on what any bytes are read as, walked. -/
import Derived.Test.YtbpipjkfgijjcaaRefReads
namespace Go.Proofs.Ytbpipjkfgijjcaa
open Go.RowKit
/-- an item's four fields -/
structure It where
  way : Int
  n : Int
  s : ByteArray
  ok : Bool
/-- the slice of address L and length k holds these items; they lie below block B -/
def ItemsAt (w : World) (B : Nat) (L : Option Addr) (k : Nat) (it : Nat → It) : Prop :=
  ∀ i, i < k → ∃ b o, L = some ⟨b, o, none⟩ ∧ b < B ∧ w.cell? ⟨b, o + i * 4, none⟩ = some (.int .i64 (it i).way) ∧ w.cell? ⟨b, o + i * 4 + 1, none⟩ = some (.int .i64 (it i).n) ∧
    w.cell? ⟨b, o + i * 4 + 2, none⟩ = some (.string (it i).s) ∧ w.cell? ⟨b, o + i * 4 + 3, none⟩ = some (.bool (it i).ok)
theorem own_nil {W : World} {base n c : Nat} {xs : List Value} (h : W.ownsRow base 5 1 (.slice none n c) n xs) : c = 0 := by
  rcases h.2 with ⟨h, _⟩ | ⟨_, _, _, h, _⟩
  · injection h
  · injection h with h; cases h
def RRel (N g1 g2 k : Nat) (w : World) (i : Value) (wr : World) : Prop :=
  ∃ (j : Nat) (r : Rd), j ≤ k ∧ i = .int .i64 (j : Int) ∧ ReaderAt 55 wr g1 g1 r ∧ ReaderAt 59 wr g2 N r ∧ Keep (Lo N) w wr
set_option maxRecDepth 100000 in
set_option maxHeartbeats 2000000 in
theorem bytesRead (A : Option Addr) (n c : Nat) (xs : List UInt8) (L : Option Addr) (k ck : Nat) (it : Nat → It) (w : World)
    (hb : RB w w.heap.size A n xs) (hn : n ≤ c) (hc : c ≤ maxLen) (hA : A = none → c = 0) (hl : ItemsAt w w.heap.size L k it) (_hk : k ≤ ck) (_hck : ck ≤ maxLen) :
    Calls Try.prog 4 #[.slice A n c, .slice L k ck] w fun e w' => e = .returned (.bool true) ∧ Below w.heap.size w w' := by
  unfold maxLen at hc _hck
  by_cases hout : 2000 < n ∨ 80 < k
  · have HB := Lib.hid hb
    have HI := Lib.hid hl
    have HA := Lib.hid hA
    clear hb hl hA
    by_cases h : 2000 < n
    · go_enter Try.func4, Try.ntmps4
      go_wp2_with (go_at_call 7; refine (alive _).mono ?_; rintro e w' ⟨rfl, hb⟩)
      go_ret
      exact ⟨rfl, hb⟩
    · have h' : 80 < k := by omega
      go_enter Try.func4, Try.ntmps4
      go_wp2_with (go_at_call 7; refine (alive _).mono ?_; rintro e w' ⟨rfl, hb⟩)
      go_ret
      exact ⟨rfl, hb⟩
  · have hn2 : n ≤ 2000 := by omega
    have hk2 : k ≤ 80 := by omega
    have HB := Lib.hid hb
    have HI := Lib.hid hl
    have HA := Lib.hid hA
    clear hb hl hA hout
    go_enter Try.func4, Try.ntmps4
    go_wp2_with fail
    refine (alive _).mono ?_
    rintro e w1 ⟨rfl, hb⟩
    have K1 := Lib.hid (Keep.of_below (K := Lo w.heap.size) hb)
    have HB1 := Lib.hid (HB.out.below hb)
    clear hb
    obtain ⟨v2, w2, hap, ho, hg, _⟩ := append_rb (W := w1) (base := w1.heap.size) (v := .slice none 0 0) (n := 0) (ys := []) ⟨rfl, .inl ⟨rfl, rfl⟩⟩ HB1.out c (by omega) (Nat.le_refl _)
    rw [List.nil_append, Nat.zero_add] at ho
    obtain ⟨A2, c2, rfl, hr2, h21, h22⟩ := own_rb ho
    have HA2 : Hid (A2 = none → c2 = 0) := by rintro rfl; exact own_nil ho
    have hb2 : Below w1.heap.size w1 w2 := (Below.refl _ _).grown hg (Nat.le_refl _) (by intro k hk; simp [Value.ownBlock] at hk)
    have K2 := Lib.hid (K1.out.trans (Keep.of_below hb2))
    have HR2 := Lib.hid hr2
    clear hr2 hb2 ho hg K1
    go_wp2_with (at_builtin; refine wpList_append_run rfl _ (.tmp 23) 29 29 rfl _ _ rfl rfl hap ?_)
    clear hap
    refine (newReader w2 A2 n c2 xs HR2.out (by omega) HA2.out).mono ?_
    rintro e w3 ⟨g1, rfl, hg1, hr3, hb3⟩
    have R3 := Lib.hid hr3
    have hs1 : w.heap.size ≤ g1 := by have := K2.out.size; omega
    have K3 := Lib.hid (K2.out.trans (Keep.of_below hb3))
    clear hr3 hb3 K2 HR2 HA2
    have HB3 := Lib.hid (HB.out.below K3.out.end)
    go_wp2_with fail
    refine (rNew w3 A n c w.heap.size xs HB3.out K3.out.size hn (by unfold maxLen; omega)).mono ?_
    rintro e w4 ⟨rfl, hr4, hb4⟩
    have Q4 := Lib.hid hr4
    have R4 := Lib.hid (R3.out.keep (K := fun _ _ => True) (Keep.of_below hb4) (fun _ _ _ => trivial))
    have K4 := Lib.hid (K3.out.trans (Keep.of_below hb4))
    have hg12 : g1 < w3.heap.size := by obtain ⟨_, _, _, hbk, _⟩ := R3.out; exact hbk.lt
    clear hr4 hb4 K3 R3 HB3 HB1
    generalize w3.heap.size = g2 at *
    go_wp2_with fail
    go_loopw [8] (fun i wr => RRel w.heap.size g1 g2 k w i wr) (fun i _ => k - (intOf i).toNat)
    case atStart => exact ⟨0, _, Nat.zero_le _, rfl, R4.out, Q4.out, K4.out⟩
    case round =>
      obtain ⟨j, r, hj, rfl, hR, hQ, hK⟩ := hrel
      have R := Lib.hid hR
      have Q := Lib.hid hQ
      have KK := Lib.hid hK
      clear hR hQ hK R4 Q4 K4 HB
      by_cases hlt : j < k
      · obtain ⟨b, o, rfl, hbN, d0, _⟩ := HI.out j hlt
        have e0 : ∀ W, Keep (Lo w.heap.size) w W → W.cell? ⟨b, o + j * 4, none⟩ = some (.int .i64 (it j).way) := fun W hW => (hW.end.cell (p := ⟨b, o + j * 4, none⟩) hbN).trans d0
        have E0 := Lib.hid e0
        clear e0 d0
        have d1 := E0.out wr KK.out
        generalize (it j).way = way at *
        by_cases hw0 : way = 0
        · subst hw0
          go_wp2_with fail
          refine (rdInt _ _ _ _ R.out).mono ?_
          rintro e wa ⟨rfl, hra, hka⟩
          have Ra := Lib.hid hra
          have Qa := Lib.hid (Q.out.keep hka (fun i _ h => by simp only [But]; omega))
          have Ka := Lib.hid (KK.out.trans (hka.lo hs1))
          clear hra hka R Q KK d1
          go_wp2_with fail
          refine (rInt _ _ _ _ Qa.out).mono ?_
          rintro e wb ⟨rfl, hqb, hkb⟩
          have Qb := Lib.hid hqb
          have Rb := Lib.hid (Ra.out.keep hkb (fun i _ h => by simp only [But]; omega))
          have Kb := Lib.hid (Ka.out.trans (hkb.lo (by omega)))
          clear hqb hkb Ra Qa Ka
          have d2 := E0.out wb Kb.out
          generalize r.int.1 = x at *
          generalize r.int.2 = r' at *
          go_wp2_with fail
          refine (rdDone _ _ _ _ Rb.out).mono ?_
          rintro e wc ⟨rfl, rfl⟩
          go_wp2_with fail
          refine (rDone _ _ _ _ Qb.out).mono ?_
          rintro e wd ⟨rfl, rfl⟩
          generalize r'.done = dn at *
          go_wp2
          go_roundw
          case rel => exact ⟨j + 1, r', by omega, by go_num, Rb.out, Qb.out, Kb.out⟩
          case measure => simp [intOf]; omega
        · by_cases hw1 : way = 1
          · subst hw1
            go_wp2_with fail
            refine (rdText _ _ _ _ R.out).mono ?_
            rintro e wa ⟨rfl, hra, hka⟩
            have Ra := Lib.hid hra
            have Qa := Lib.hid (Q.out.keep hka (fun i _ h => by simp only [But]; omega))
            have Ka := Lib.hid (KK.out.trans (hka.lo hs1))
            clear hra hka R Q KK d1
            go_wp2_with fail
            refine (rText _ _ _ _ Qa.out).mono ?_
            rintro e wb ⟨rfl, hqb, hkb⟩
            have Qb := Lib.hid hqb
            have Rb := Lib.hid (Ra.out.keep hkb (fun i _ h => by simp only [But]; omega))
            have Kb := Lib.hid (Ka.out.trans (hkb.lo (by omega)))
            clear hqb hkb Ra Qa Ka
            have d2 := E0.out wb Kb.out
            generalize r.text.1 = x at *
            generalize r.text.2 = r' at *
            go_wp2_with fail
            refine (rdDone _ _ _ _ Rb.out).mono ?_
            rintro e wc ⟨rfl, rfl⟩
            go_wp2_with fail
            refine (rDone _ _ _ _ Qb.out).mono ?_
            rintro e wd ⟨rfl, rfl⟩
            generalize r'.done = dn at *
            go_wp2
            go_roundw
            case rel => exact ⟨j + 1, r', by omega, by go_num, Rb.out, Qb.out, Kb.out⟩
            case measure => simp [intOf]; omega
          · by_cases hw2 : way = 2
            · subst hw2
              go_wp2_with fail
              refine (rdFlag _ _ _ _ R.out).mono ?_
              rintro e wa ⟨rfl, hra, hka⟩
              have Ra := Lib.hid hra
              have Qa := Lib.hid (Q.out.keep hka (fun i _ h => by simp only [But]; omega))
              have Ka := Lib.hid (KK.out.trans (hka.lo hs1))
              clear hra hka R Q KK d1
              go_wp2_with fail
              refine (rFlag _ _ _ _ Qa.out).mono ?_
              rintro e wb ⟨rfl, hqb, hkb⟩
              have Qb := Lib.hid hqb
              have Rb := Lib.hid (Ra.out.keep hkb (fun i _ h => by simp only [But]; omega))
              have Kb := Lib.hid (Ka.out.trans (hkb.lo (by omega)))
              clear hqb hkb Ra Qa Ka
              have d2 := E0.out wb Kb.out
              generalize r.flag.1 = x at *
              generalize r.flag.2 = r' at *
              go_wp2_with fail
              refine (rdDone _ _ _ _ Rb.out).mono ?_
              rintro e wc ⟨rfl, rfl⟩
              go_wp2_with fail
              refine (rDone _ _ _ _ Qb.out).mono ?_
              rintro e wd ⟨rfl, rfl⟩
              generalize r'.done = dn at *
              go_wp2
              go_roundw
              case rel => exact ⟨j + 1, r', by omega, by go_num, Rb.out, Qb.out, Kb.out⟩
              case measure => simp [intOf]; omega
            · have f0 : (way == 0) = false := beq_eq_false_iff_ne.2 hw0
              have f1 : (way == 1) = false := beq_eq_false_iff_ne.2 hw1
              have f2 : (way == 2) = false := beq_eq_false_iff_ne.2 hw2
              go_wp2_with fail
              refine (rdDone _ _ _ _ R.out).mono ?_
              rintro e wc ⟨rfl, rfl⟩
              go_wp2_with fail
              refine (rDone _ _ _ _ Q.out).mono ?_
              rintro e wd ⟨rfl, rfl⟩
              generalize r.done = dn at *
              go_wp2
              go_roundw
              case rel => exact ⟨j + 1, r, by omega, by go_num, R.out, Q.out, KK.out⟩
              case measure => simp [intOf]; omega
      · go_wp2
        go_ret
        exact ⟨rfl, KK.out.end⟩
end Go.Proofs.Ytbpipjkfgijjcaa
