/- The law on Break, walked. -/
import Derived.Test.YtkgafnfbnpbacaaAlive
import Derived.Test.YtkgafnfbnpbacaaBits
namespace Go.Proofs.Ytkgafnfbnpbacaa
open Go.RowKit
def BreakRel (w : World) (B g n more k : Nat) (i : Value) (wr : World) : Prop :=
  ∃ j : Nat, j + k = n + more ∧ i = .int .i64 (j : Int) ∧ B ≤ wr.heap.size ∧ Keep (fun i _ => i < B) w wr ∧
    ∃ s : St, DiskAt wr g (Hi B) s ∧ s.n = 4 ∧ s.ends = true ∧ s.left = n - min j n ∧ s.count = min j n ∧ s.l.length = min j n
set_option maxRecDepth 100000 in
set_option maxHeartbeats 1000000 in
theorem sectorsBreak (n more : Int) (w : World) : Calls Try.prog 5 #[.int .i64 n, .int .i64 more] w fun e w' => e = .returned (.bool true) ∧ Below w.heap.size w w' := by
  by_cases hin : 0 ≤ n ∧ n ≤ 30 ∧ 0 ≤ more ∧ more ≤ 30
  · obtain ⟨h1, h2, h3, h4⟩ := hin
    obtain ⟨n, rfl⟩ := Int.eq_ofNat_of_zero_le h1
    obtain ⟨more, rfl⟩ := Int.eq_ofNat_of_zero_le h3
    go_enter Try.func5, Try.ntmps5
    go_wp2_with fail
    refine (alive w).mono ?_
    rintro e w1 ⟨rfl, hb1⟩
    have HB1 := Lib.hid hb1
    clear hb1
    go_wp2_with fail
    refine (new_ w1 4).mono ?_
    rintro e w2 ⟨rfl, hd, hb, hz⟩
    have HD := Lib.hid hd
    have HB2 := Lib.hid hb
    have HZ := Lib.hid hz
    clear hd hb hz
    go_wp2_with fail
    refine (break_ HD.out rfl n).mono ?_
    rintro e w3 ⟨rfl, hd, hk⟩
    have HK := Lib.hid ((Keep.of_below (K := fun i _ => i < w1.heap.size) HB2.out).trans (keep_lo hk fun i hi => hi))
    have HD3 := Lib.hid hd
    clear hd hk HD
    go_wp2_with fail
    go_loopg [7] (n + more) (fun k i wr => BreakRel w1 w1.heap.size (w1.heap.size + 1) n more k i wr)
    case atStart =>
      have h1 := HK.out.size
      refine ⟨0, by omega, rfl, h1, HK.out, _, HD3.out, ?_, rfl, ?_, ?_, ?_⟩
      · rw [St.n_brk, St.n_new]; rfl
      · simp [St.brk]
      · simp [St.brk, St.new]
      · simp [St.brk, St.new]
    case round =>
      obtain ⟨j, hj, rfl, hBs, hkw, s, hd, hn4, he, hle, hco, hll⟩ := hrel
      have HD := Lib.hid hd
      have HKW := Lib.hid hkw
      have HN4 := Lib.hid hn4
      have HE := Lib.hid he
      have HLE := Lib.hid hle
      have HCO := Lib.hid hco
      have HLL := Lib.hid hll
      clear hd hkw hn4 he hle hco hll
      by_cases hlt : j < n + more
      · have hb3 := and3 j
        have hd64 := (HD.out.below (alloc_below wr (.cells (cellsB (filled j false)).toArray 5)))
        have HD64 := Lib.hid hd64
        clear hd64
        go_wp2_with fail
        refine (fill_ j false (by omega) wr).mono ?_
        rintro e w4 ⟨rfl, rfl⟩
        by_cases hjn : j < n
        · go_wp2_with fail
          refine (write_ HD64.out (by simp [St.broken, HE.out, HLE.out]; omega) (by rw [HLL.out]; omega) (by rw [HCO.out]; omega) (by rw [HLE.out]; omega) (j % 4) (by rw [HN4.out]; omega) _ _ (filled_length j false) (Blk.new wr 5 _)).mono ?_
          rintro e w5 ⟨rfl, hd5, hk5⟩
          have hd6 : DiskAt w5 (w1.heap.size + 1) (Hi w1.heap.size) (s.wr (j % 4) (filled j false)) := hd5.more fun i hi => by
            simp at hi
            simp only [Hi]; omega
          have hk6 := (HKW.out.alloc (.cells (cellsB (filled j false)).toArray 5)).trans (keep_lo hk5 fun i hi => hi)
          have HD6 := Lib.hid hd6
          have HK6 := Lib.hid hk6
          clear hd5 hk5 hd6 hk6
          go_wp2
          go_roundg (n + more - (j + 1))
          case measure => omega
          case rel =>
            refine ⟨j + 1, by omega, by go_num, Nat.le_trans ?_ HK6.out.size, HK6.out, _, HD6.out, HN4.out, HE.out, ?_, ?_, ?_⟩
            · have := HKW.out.size; have := HK.out.size; omega
            · simp only [St.wr, HE.out, HLE.out, if_true]; omega
            · simp only [St.wr, HCO.out]; omega
            · simp only [St.wr, List.length_append, HLL.out, List.length_singleton]; omega
        · go_wp2_with fail
          refine (write_no HD64.out _ _ _ (.inr (by simp [St.broken, HE.out, HLE.out]; omega))).mono ?_
          rintro e w5 ⟨rfl, rfl⟩
          go_wp2
          go_roundg (n + more - (j + 1))
          case measure => omega
          case rel =>
            refine ⟨j + 1, by omega, by go_num, ?_, HKW.out.alloc _, s, HD64.out, HN4.out, HE.out, ?_, ?_, ?_⟩
            · simp; omega
            · rw [HLE.out]; omega
            · rw [HCO.out]; omega
            · rw [HLL.out]; omega
      · have hbr : s.broken = true := by simp [St.broken, HE.out, HLE.out]; omega
        have HBR := Lib.hid hbr
        clear hbr
        have hbelow : Below w.heap.size w wr := HB1.out.trans ((below_of_keep HKW.out (Nat.le_refl _)).mono HB1.out.size)
        have HBEL := Lib.hid hbelow
        clear hbelow
        go_wp2_with fail
        refine (sync_no HD.out HBR.out).mono ?_
        rintro e w5 ⟨rfl, rfl⟩
        by_cases hz : more = 0 ∧ n = 0
        · obtain ⟨rfl, rfl⟩ := hz
          go_wp2
          go_ret
          exact ⟨rfl, HBEL.out⟩
        · have hco : (s.crash (stays [])).count = n := by show s.count = n; rw [HCO.out]; omega
          have HCO2 := Lib.hid hco
          have HZN := Lib.hid hz
          clear hco hz
          have hor : ((more : Int) == 0) = false ∨ (more = 0 ∧ ((n : Int) == 0) = false) := by
            by_cases h0 : more = 0
            · right; refine ⟨h0, ?_⟩; rw [beq_eq_false_iff_ne]; have := HZN.out; omega
            · left; rw [beq_eq_false_iff_ne]; omega
          rcases hor with hne | ⟨rfl, hne⟩
          all_goals
            go_wp2_with fail
            refine (crash_ HD.out (by rw [HLL.out]; omega) none 0 0 [] (Bools.nil_ _ _ _) (by omega)).mono ?_
            rintro e w6 ⟨rfl, hd6, hk6⟩
            have HD6 := Lib.hid hd6
            have HB6 := Lib.hid (HBEL.out.trans ((keep_hi hk6 (by omega)).mono HB1.out.size))
            have hsz6 : w1.heap.size ≤ w6.heap.size := Nat.le_trans (by omega) hk6.size
            have HD7 := Lib.hid (HD6.out.below (alloc_below w6 (.cells (cellsB (filled 1 false)).toArray 5)))
            clear hd6 hk6
            go_wp2_with fail
            refine (writes_ HD6.out).mono ?_
            rintro e w7 ⟨rfl, rfl⟩
            rw [HCO2.out]
            go_wp2_with fail
            refine (fill_ 1 false (by omega) w6).mono ?_
            rintro e w7 ⟨rfl, rfl⟩
            go_wp2_with fail
            refine (write_ HD7.out rfl (Nat.zero_le _) (by rw [HCO2.out]; omega) (Nat.zero_le _) 0 (by rw [St.n_crash, HN4.out]; omega) _ _ (filled_length 1 false) (Blk.new w6 5 _)).mono ?_
            rintro e w8 ⟨rfl, hd8, hk8⟩
            have hd9 : DiskAt w8 (w1.heap.size + 1) (Hi w1.heap.size) _ := hd8.more (O' := Hi w1.heap.size) fun i hi => by
              simp at hi
              simp only [Hi]; omega
            have HD9 := Lib.hid hd9
            have HB8 := Lib.hid ((HB6.out.trans (((alloc_below w6 (.cells (cellsB (filled 1 false)).toArray 5))).mono HB6.out.size)).trans ((keep_hi hk8 (by simp; omega)).mono HB1.out.size))
            have hsz8 : w1.heap.size ≤ w8.heap.size := Nat.le_trans (by simp; omega) hk8.size
            clear hd8 hk8 hd9
            go_wp2_with fail
            refine (sync_ HD9.out rfl).mono ?_
            rintro e w9 ⟨rfl, _, hk9⟩
            have HB9 := Lib.hid (HB8.out.trans ((keep_hi hk9 hsz8).mono HB1.out.size))
            clear hk9
            go_wp2
            go_ret
            exact ⟨rfl, HB9.out⟩
  · have hor : n < 0 ∨ (¬ n < 0 ∧ 30 < n) ∨ (¬ n < 0 ∧ ¬ 30 < n ∧ more < 0) ∨ (¬ n < 0 ∧ ¬ 30 < n ∧ ¬ more < 0 ∧ 30 < more) := by omega
    clear hin
    rcases hor with h1 | ⟨h1, h2⟩ | ⟨h1, h2, h3⟩ | ⟨h1, h2, h3, h4⟩
    all_goals
      go_enter Try.func5, Try.ntmps5
      go_wp2_with (go_at_call 7; refine (alive _).mono ?_; rintro e w' ⟨rfl, hb⟩)
      go_ret
      exact ⟨rfl, hb⟩
end Go.Proofs.Ytkgafnfbnpbacaa
