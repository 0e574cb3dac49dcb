/- What SpanKeeps answers. -/
import Derived.Test.YtfccghbhkgnmlaaKeepsP
import Derived.Test.YtfccghbhkgnmlaaOrderH
import Derived.Deep.LoopGhost
import Derived.IntWalk
namespace Go.Proofs.Ytfccghbhkgnmlaa
open Go.RowKit
def FillRel (W : World) (k : Nat) (i : Value) (wr : World) : Prop :=
  ∃ q, q + k = 64 ∧ i = .int .i64 (q : Int) ∧ Blk wr W.heap.size 5 (cellsB (List.replicate q (UInt8.ofNat 7) ++ List.replicate (64 - q) 0)).toArray ∧ Below W.heap.size W wr
def WrRel (W : World) (B F g N : Nat) (A : Option Addr) (xs fs : List UInt8) (k : Nat) (i : Value) (wr : World) : Prop :=
  ∃ j s, j + k = N ∧ i = .int .i64 (j : Int) ∧ DiskAt wr g (HiBut B F) s ∧ Full s N j fs ∧ KF B F A xs fs wr ∧ Keep (fun i _ => i < B ∨ i = F) W wr
set_option maxRecDepth 100000 in
set_option maxHeartbeats 1000000 in
theorem spanKeeps (n : Int) (A : Option Addr) (c : Nat) (xs : List UInt8) (w : World) (hx : Has w (fun i => i < w.heap.size) A xs) (hxc : xs.length ≤ c) :
    Calls Try.prog 4 #[.int .i64 n, .slice A xs.length c] w fun e w' => e = .returned (.bool true) ∧ Below w.heap.size w w' := by
  by_cases h : 1 ≤ n ∧ n ≤ 20 ∧ 1 ≤ xs.length ∧ xs.length ≤ 1000
  · obtain ⟨h0, h1, h2, h3⟩ := h
    obtain ⟨a, rfl⟩ := Int.eq_ofNat_of_zero_le (show 0 ≤ n by omega)
    have HX := Lib.hid hx
    obtain ⟨len, hlen⟩ : ∃ l, xs.length = l := ⟨_, rfl⟩
    have HLEN := Lib.hid hlen
    rw [hlen] at h2 h3 hxc ⊢
    have hmk := make64
    clear hx hlen
    go_enter Try.func4, Try.ntmps4
    go_wp2_with fail
    refine (alive w).mono ?_
    rintro e w1 ⟨rfl, hb1⟩
    have HB1 := Lib.hid hb1
    clear hb1
    go_wp2_with fail
    refine (rneed_of (Int.toNat_natCast len) (by omega) _).mono ?_
    rintro e w2 ⟨rfl, rfl⟩
    obtain ⟨k, hk⟩ : ∃ k, need len = k := ⟨_, rfl⟩
    have hk16 : 1 ≤ k ∧ k ≤ 16 := by rw [← hk]; unfold need; omega
    obtain ⟨hk1, hk2⟩ := hk16
    rw [hk]
    have HKN := Lib.hid hk
    clear hk
    go_wp2_with fail
    refine (new_ _ _).mono ?_
    rintro e w2 ⟨rfl, hd2, hb2, hz2⟩
    have hcut : cutN ((a : Int) + (k : Int) + 1) = a + k + 1 := by unfold cutN; omega
    rw [hcut] at hd2
    have HD2 := Lib.hid hd2
    have HB2 := Lib.hid (HB1.out.trans (hb2.mono HB1.out.size))
    have HZ2 := Lib.hid hz2
    have HG2 := Lib.hid (show w1.heap.size ≤ w2.heap.size from hb2.size)
    clear hd2 hb2 hz2 hcut
    go_wp2_with fail
    go_loopg [9] 64 (fun k i wr => FillRel w2 k i wr)
    case atStart => exact ⟨0, by omega, rfl, Blk.new _ _ _, alloc_below _ _⟩
    case round =>
      obtain ⟨q, hq, rfl, hhb, hhl⟩ := hrel
      have HQ := Lib.hid hq
      have HHB := Lib.hid hhb
      have HHL := Lib.hid hhl
      clear hq hhb hhl
      by_cases hq64 : q < 64
      · have hc2 : wr.cell? ⟨w2.heap.size, q, none⟩ = some (u8 0) := by
          rw [HHB.out.cell, List.getElem?_toArray, fill_at q 64 (UInt8.ofNat 7) hq64]
        have hf2 := HHB.out.frozen q
        have hnx : Blk (wr.setCell ⟨w2.heap.size, q, none⟩ (.int .u8 7)) w2.heap.size 5 (cellsB (List.replicate (q + 1) (UInt8.ofNat 7) ++ List.replicate (64 - (q + 1)) 0)).toArray := by
          have := HHB.out.set_ q (.int .u8 ((7 : Nat) : Int))
          rwa [List.setIfInBounds_toArray, fill_set q 64 7 (by decide) hq64] at this
        have HNX := Lib.hid hnx
        have HBE := Lib.hid (HHL.out.setCell (p := ⟨w2.heap.size, q, none⟩) (Nat.le_refl _) (.int .u8 7))
        clear hnx
        go_wp2
        go_roundg (64 - (q + 1))
        case measure => have := HQ.out; omega
        case rel => exact ⟨q + 1, by omega, by go_num, HNX.out, HBE.out⟩
      · obtain rfl : q = 64 := by have := HQ.out; omega
        obtain ⟨wf, hwf⟩ : ∃ x, x = wr := ⟨_, rfl⟩
        subst hwf
        obtain ⟨fs, hfs⟩ : ∃ l, l = List.replicate 64 (UInt8.ofNat 7) := ⟨_, rfl⟩
        have hbf := HHB.out
        rw [show 64 - 64 = 0 from rfl, List.replicate_zero, List.append_nil, ← hfs] at hbf
        have hfl : fs.length = 64 := by rw [hfs]; exact List.length_replicate ..
        have HFL := Lib.hid hfl
        have hws : w2.heap.size < wf.heap.size := hbf.lt
        have hkf : KF w.heap.size w2.heap.size A xs fs wf := ⟨(HX.out.below HB2.out).below HHL.out, hbf⟩
        have hdf : DiskAt wf (w1.heap.size + 1) (HiBut w.heap.size w2.heap.size) (St.new (a + k + 1)) := (HD2.out.cut.below HHL.out).more fun i hi => by
          have h1 : w1.heap.size ≤ i := hi.1
          have h2 := hi.2
          have := HB1.out.size
          exact ⟨by omega, by omega⟩
        have HKF := Lib.hid hkf
        have HDF := Lib.hid hdf
        have hwB : w.heap.size ≤ w2.heap.size := HB2.out.size
        clear hfs hbf hfl hkf hdf hq64
        go_wp2_with fail
        generalize hgd : w1.heap.size + 1 = gd at *
        have HGD := Lib.hid hgd
        clear hgd
        go_loopg [10] (a + k + 1) (fun k' i wr => WrRel wf w.heap.size w2.heap.size gd (a + k + 1) A xs fs k' i wr)
        case atStart => exact ⟨0, St.new (a + k + 1), by omega, rfl, HDF.out, Full.new fs (by omega), HKF.out, Keep.refl _⟩
        case round =>
          obtain ⟨j, s, hj, rfl, hd, hfull, hkf, hkp⟩ := hrel
          have HJ := Lib.hid hj
          have HD := Lib.hid hd
          have HFU := Lib.hid hfull
          have HKF2 := Lib.hid hkf
          have HKP := Lib.hid hkp
          clear hj hd hfull hkf hkp
          by_cases hlt : j < a + k + 1
          · have hlt2 : (j : Int) < (a : Int) + (k : Int) + 1 := by omega
            have hsrc : Src wr (HiBut w.heap.size w2.heap.size) w2.heap.size 0 fs := ⟨HKF2.out.f.lt, .inr ⟨_, HKF2.out.f⟩, fun q u hu => by rw [HKF2.out.f.cell, Nat.zero_add, List.getElem?_toArray]; exact hu⟩
            have HS := Lib.hid hsrc
            have hwr : w2.heap.size < wr.heap.size := HKF2.out.f.lt
            clear hsrc
            go_wp2_with fail
            refine (write_ HD.out (by simp [St.broken, HFU.out.ends]) (by rw [HFU.out.l]; omega) (by rw [HFU.out.count]; omega) (by rw [HFU.out.left]; omega) j (by rw [HFU.out.n]; exact hlt) _ 0 64 fs HFL.out HS.out).mono ?_
            rintro e w3 ⟨rfl, hd3, hk3⟩
            have hk4 : Keep (fun i _ => i < w.heap.size ∨ i = w2.heap.size) wr w3 := hk3.mono fun i _ _ hi ho => by
              rcases hi with hi | rfl
              · have := ho.1; omega
              · exact ho.2 rfl
            have HD3 := Lib.hid (hd3.more (O' := HiBut w.heap.size w2.heap.size) fun i hi => by
              rcases hi with hi | hi
              · exact hi
              · exact ⟨by omega, by omega⟩)
            have HK4 := Lib.hid hk4
            clear hd3 hk3 hk4
            go_wp2
            go_roundg (a + k + 1 - (j + 1))
            case measure => have := HJ.out; omega
            case rel => exact ⟨j + 1, s.wr j fs, by omega, by go_num, HD3.out, HFU.out.next hlt HFL.out, HKF2.out.keep HK4.out, HKP.out.trans HK4.out⟩
          · obtain rfl : j = a + k + 1 := by have := HJ.out; omega
            have hlt2 : ¬ (((a + k + 1 : Nat) : Int) < (a : Int) + (k : Int) + 1) := by omega
            clear hlt
            have hneed : need xs.length = k := by rw [HLEN.out, HKN.out]
            obtain ⟨s', hput, he', hok', hn', hl', hco', hle', hget', hnow'⟩ := put_fits HFU.out.ok HFU.out.ends (a := a) (xs := xs) (by rw [HFU.out.n, hneed]; omega) (by rw [HLEN.out]; omega)
            have hg1 : s'.get (a : Int) (len : Int) = xs := by rw [← HLEN.out]; exact hget' (by rw [HLEN.out]; omega)
            have hn1 : s'.now.getD (a - 1) [] = fs := by rw [hnow', if_neg (by omega)]; exact HFU.out.now _ (by omega)
            have hn2 : s'.now.getD (a + k) [] = fs := by rw [hnow', if_neg (by rw [hneed]; omega)]; exact HFU.out.now _ (by omega)
            rw [HFU.out.n] at hn'
            rw [HFU.out.l, hneed] at hl'
            rw [HFU.out.count, hneed] at hco'
            rw [HFU.out.left] at hle'
            have HPU := Lib.hid hput
            have HG1 := Lib.hid hg1
            have HN1 := Lib.hid hn1
            have HN2 := Lib.hid hn2
            have HNN := Lib.hid hn'
            have HL2 := Lib.hid hl'
            have HC2 := Lib.hid hco'
            have HE2 := Lib.hid hle'
            have hl0 : s.l.length ≤ 500000 := by rw [HFU.out.l]; omega
            have hc0 : s.count ≤ 500000 := by rw [HFU.out.count]; omega
            have hle0 : s.left ≤ 9223372036854775807 := by rw [HFU.out.left]; omega
            have hl1 : s'.l.length ≤ 500000 := by rw [hl']; omega
            have hc1 : s'.count ≤ 500000 := by rw [hco']; omega
            have hle1 : s'.left ≤ 9223372036854775807 := by rw [hle']; omega
            obtain ⟨m, hm⟩ : ∃ m, m = 64 * k := ⟨_, rfl⟩
            have hf1 : s'.fits ((a : Int) + 2) (need m) = false := by
              rw [St.fits_no, hn', hm]
              unfold need; omega
            have HM0 : Hid (need m ≠ 0) := by
              show need m ≠ 0
              rw [hm]; unfold need; omega
            have hmm : m ≤ 1024 := by omega
            have hmk2 := made5 m (by omega)
            have hF1 := Lib.hid hf1
            have hwB2 : w.heap.size ≤ wr.heap.size := by have := HKF2.out.f.lt; omega
            have hwF2 : w2.heap.size < wr.heap.size := HKF2.out.f.lt
            have hq1 : IntKind.i64.wrap ((a : Int) - 1) = (a : Int) - 1 := IntWalk.i64_in _ (by omega)
            have hq2 : IntKind.i64.wrap ((a : Int) + (k : Int)) = (a : Int) + (k : Int) := IntWalk.i64_in _ (by omega)
            have hq3 : IntKind.i64.wrap ((a : Int) + 2) = (a : Int) + 2 := IntWalk.i64_in _ (by omega)
            have hq4 : IntKind.i64.wrap (64 * (k : Int)) = (m : Int) := by rw [IntWalk.i64_in _ (by omega), hm]; omega
            clear hneed hput he' hok' hn' hl' hco' hle' hget' hnow' hg1 hn1 hn2 hf1 hm
            go_wp2_with fail
            refine wp_region_noPanic ?_
            refine wp_region_held_drew (S := fun W => Keep (fun i _ => i < w.heap.size ∨ i = w2.heap.size) wr W) (by kernel_rfl) ((Keep.refl wr).drew) (fun _ => ?_)
            refine wpAnyH_take (i := 0) (oi := { dst := some 61, op := Op.move (Operand.tmp 7), type := 24, pos := "law.go:58", after := #[], guard := none }) (v := ptr gd) rfl (by kernel_rfl) (by kernel_rfl) (by kernel_rfl) (fun _ _ _ h => h) (Or.inl ⟨by rfl, ?_⟩) ((Keep.refl wr).drew) ?_
            · intro W hSw; clear hSw; go_simp
            try simp only [Act.put, List.setIfInBounds_toArray, List.set_cons_zero, List.set_cons_succ]
            refine wpAnyH_take (i := 1) (oi := { dst := some 62, op := Op.move (Operand.tmp 0), type := 3, pos := "law.go:58", after := #[], guard := none }) (v := .int .i64 (a : Int)) rfl (by kernel_rfl) (by kernel_rfl) (by kernel_rfl) (fun _ _ _ h => h) (Or.inl ⟨by rfl, ?_⟩) ((Keep.refl wr).drew) ?_
            · intro W hSw; clear hSw; go_simp
            try simp only [Act.put, List.setIfInBounds_toArray, List.set_cons_zero, List.set_cons_succ]
            refine wpAnyH_take (i := 2) (oi := { dst := some 63, op := Op.move (Operand.tmp 1), type := 22, pos := "law.go:58", after := #[], guard := none }) (v := .slice A len c) rfl (by kernel_rfl) (by kernel_rfl) (by kernel_rfl) (fun _ _ _ h => h) (Or.inl ⟨by rfl, ?_⟩) ((Keep.refl wr).drew) ?_
            · intro W hSw; clear hSw; go_simp
            try simp only [Act.put, List.setIfInBounds_toArray, List.set_cons_zero, List.set_cons_succ]
            refine wpAnyH_1 (i := 3) (by kernel_rfl) (wpOp_call (o := { dst := some 64, op := Op.call { callee := Callee.value (Operand.func 13), args := #[Operand.tmp 61, Operand.tmp 62, Operand.tmp 63], argTypes := #[24, 3, 22] }, type := 4, pos := "law.go:58", after := #[{ on := 0, ground := Ground.data }, { on := 1, ground := Ground.data }, { on := 2, ground := Ground.data }], guard := none }) (f := 13) rfl (by rfl) (by go_simp) ((kput HPU.out HLEN.out (DiskAt.drew HD.out) hwF2 hwB2 HKF2.out.drew c hxc hl0 hc0 hle0 (by omega)).mono ?_))
            rintro e w5 ⟨rfl, hd5, hs5, hk5⟩
            have HD5 := Lib.hid hd5.cut
            have HS5 := Lib.hid hs5
            have HK5 := Lib.hid ((Keep.refl (K := (fun i _ => i < w.heap.size ∨ i = w2.heap.size)) wr).drew.trans hk5)
            have HZ5 := Lib.hid (Nat.le_refl w5.heap.size)
            clear hd5 hs5 hk5
            refine ⟨_, rfl, HK5.out, ?_⟩
            try simp only [Act.put, List.setIfInBounds_toArray, List.set_cons_zero, List.set_cons_succ]
            refine wpAnyH_more (S' := fun W => Keep (Out (fun i => HiBut w.heap.size w2.heap.size i ∧ i < w5.heap.size)) w5 W) (fun W h => HK5.out.trans (h.mono fun i _ _ hi ho => by have h1 := ho.1.1; have h2 := ho.1.2; omega)) _ _ _ _ ?_
            refine wpAnyH_take (i := 4) (oi := { dst := some 65, op := Op.move (Operand.tmp 64), type := 4, pos := "law.go:58", after := #[{ on := 3, ground := Ground.data }, { on := 3, ground := Ground.chain }], guard := none }) (v := .bool true) rfl (by kernel_rfl) (by kernel_rfl) (by kernel_rfl) (fun _ _ _ h => h) (Or.inl ⟨by rfl, ?_⟩) (Keep.refl _) ?_
            · intro W hSw; clear hSw; go_simp
            try simp only [Act.put, List.setIfInBounds_toArray, List.set_cons_zero, List.set_cons_succ]
            refine wpAnyH_take (i := 5) (oi := { dst := some 66, op := Op.move (Operand.tmp 7), type := 24, pos := "law.go:58", after := #[{ on := 4, ground := Ground.guard }], guard := some (4, true) }) (v := ptr gd) rfl (by kernel_rfl) (by kernel_rfl) (by kernel_rfl) (fun _ _ _ h => h) (Or.inl ⟨by rfl, ?_⟩) (Keep.refl _) ?_
            · intro W hSw; clear hSw; go_simp
            try simp only [Act.put, List.setIfInBounds_toArray, List.set_cons_zero, List.set_cons_succ]
            refine wpAnyH_take (i := 6) (oi := { dst := some 67, op := Op.move (Operand.tmp 0), type := 3, pos := "law.go:58", after := #[{ on := 4, ground := Ground.guard }], guard := some (4, true) }) (v := .int .i64 (a : Int)) rfl (by kernel_rfl) (by kernel_rfl) (by kernel_rfl) (fun _ _ _ h => h) (Or.inl ⟨by rfl, ?_⟩) (Keep.refl _) ?_
            · intro W hSw; clear hSw; go_simp
            try simp only [Act.put, List.setIfInBounds_toArray, List.set_cons_zero, List.set_cons_succ]
            refine wpAnyH_take (i := 7) (oi := { dst := some 68, op := Op.move (Operand.tmp 1), type := 22, pos := "law.go:58", after := #[{ on := 4, ground := Ground.guard }], guard := some (4, true) }) (v := .slice A len c) rfl (by kernel_rfl) (by kernel_rfl) (by kernel_rfl) (fun _ _ _ h => h) (Or.inl ⟨by rfl, ?_⟩) (Keep.refl _) ?_
            · intro W hSw; clear hSw; go_simp
            try simp only [Act.put, List.setIfInBounds_toArray, List.set_cons_zero, List.set_cons_succ]
            refine wpAnyH_take (i := 8) (oi := { dst := some 69, op := Op.call { callee := Callee.builtin Builtin.len, args := #[Operand.tmp 68], argTypes := #[22] }, type := 3, pos := "law.go:58", after := #[{ on := 7, ground := Ground.data }, { on := 4, ground := Ground.guard }], guard := some (4, true) }) (v := .int .i64 (len : Int)) rfl (by kernel_rfl) (by kernel_rfl) (by kernel_rfl) (fun _ _ _ h => h) (Or.inl ⟨by rfl, ?_⟩) (Keep.refl _) ?_
            · intro W hSw; clear hSw; go_simp
            try simp only [Act.put, List.setIfInBounds_toArray, List.set_cons_zero, List.set_cons_succ]
            refine wpAnyH_take (i := 11) (oi := { dst := some 72, op := Op.move (Operand.tmp 1), type := 22, pos := "law.go:58", after := #[{ on := 4, ground := Ground.guard }], guard := some (4, true) }) (v := .slice A len c) rfl (by kernel_rfl) (by kernel_rfl) (by kernel_rfl) (fun _ _ _ h => h) (Or.inl ⟨by rfl, ?_⟩) (Keep.refl _) ?_
            · intro W hSw; clear hSw; go_simp
            try simp only [Act.put, List.setIfInBounds_toArray, List.set_cons_zero, List.set_cons_succ]
            refine wpAnyH_take (i := 12) (oi := { dst := some 73, op := Op.convert 22 9 (Operand.tmp 72), type := 9, pos := "law.go:58", after := #[{ on := 11, ground := Ground.data }, { on := 4, ground := Ground.guard }], guard := some (4, true) }) (v := .string ⟨xs.toArray⟩) rfl (by kernel_rfl) (by kernel_rfl) (by kernel_rfl) (fun _ _ _ h => h) (Or.inl ⟨by rfl, ?_⟩) (Keep.refl _) ?_
            · intro W hSw; exact exec_value rfl ((HS5.out.keepO hSw fun i hi => hi.1).b.strn HLEN.out c)
            try simp only [Act.put, List.setIfInBounds_toArray, List.set_cons_zero, List.set_cons_succ]
            refine wpAnyH_1 (i := 9) (by kernel_rfl) (wpOp_call (o := { dst := some 70, op := Op.call { callee := Callee.value (Operand.func 18), args := #[Operand.tmp 66, Operand.tmp 67, Operand.tmp 69], argTypes := #[24, 3, 3] }, type := 22, pos := "law.go:58", after := #[{ on := 5, ground := Ground.data }, { on := 6, ground := Ground.data }, { on := 8, ground := Ground.data }, { on := 4, ground := Ground.chain }, { on := 4, ground := Ground.guard }], guard := some (4, true) }) (f := 18) rfl (by rfl) (by go_simp) ((kget (m := len) HG1.out HLEN.out HD5.out (by omega) (by omega)).mono ?_))
            rintro e w6 ⟨A6, c6, rfl, hh6, hb6⟩
            have HH6 := Lib.hid hh6
            have HB6 := Lib.hid hb6
            have HD6 := Lib.hid (HD5.out.below HB6.out)
            have HS6 := Lib.hid (HS5.out.below HB6.out)
            have HZ6 := Lib.hid (Nat.le_trans HZ5.out HB6.out.size)
            clear hh6 hb6
            refine ⟨_, rfl, (Keep.of_below HB6.out), ?_⟩
            try simp only [Act.put, List.setIfInBounds_toArray, List.set_cons_zero, List.set_cons_succ]
            refine wpAnyH_more (S' := fun W => Keep (Out (fun i => HiBut w.heap.size w2.heap.size i ∧ i < w5.heap.size)) w6 W) (fun W h => (Keep.of_below HB6.out).trans h) _ _ _ _ ?_
            refine wpAnyH_take (i := 10) (oi := { dst := some 71, op := Op.convert 22 9 (Operand.tmp 70), type := 9, pos := "law.go:58", after := #[{ on := 9, ground := Ground.data }, { on := 4, ground := Ground.guard }], guard := some (4, true) }) (v := .string ⟨xs.toArray⟩) rfl (by kernel_rfl) (by kernel_rfl) (by kernel_rfl) (fun _ _ _ h => h) (Or.inl ⟨by rfl, ?_⟩) (Keep.refl _) ?_
            · intro W hSw; exact exec_value rfl ((HH6.out.keepO hSw fun i hi => Nat.lt_of_lt_of_le hi.2 HZ5.out).strn HLEN.out c6)
            try simp only [Act.put, List.setIfInBounds_toArray, List.set_cons_zero, List.set_cons_succ]
            refine wpAnyH_take (i := 13) (oi := { dst := some 74, op := Op.binOp BinOp.eql 9 (Operand.tmp 71) (Operand.tmp 73) 9, type := 4, pos := "law.go:58", after := #[{ on := 10, ground := Ground.data }, { on := 12, ground := Ground.data }, { on := 4, ground := Ground.guard }], guard := some (4, true) }) (v := .bool true) rfl (by kernel_rfl) (by kernel_rfl) (by kernel_rfl) (fun _ _ _ h => h) (Or.inl ⟨by rfl, ?_⟩) (Keep.refl _) ?_
            · intro W hSw; clear hSw; go_simp
            try simp only [Act.put, List.setIfInBounds_toArray, List.set_cons_zero, List.set_cons_succ]
            refine wpAnyH_take (i := 14) (oi := { dst := some 75, op := Op.pick (Operand.tmp 65) (Operand.tmp 74) (Operand.const (Value.bool false)), type := 4, pos := "law.go:58", after := #[{ on := 4, ground := Ground.data }, { on := 13, ground := Ground.data }], guard := none }) (v := .bool true) rfl (by kernel_rfl) (by kernel_rfl) (by kernel_rfl) (fun _ _ _ h => h) (Or.inl ⟨by rfl, ?_⟩) (Keep.refl _) ?_
            · intro W hSw; clear hSw; go_simp
            try simp only [Act.put, List.setIfInBounds_toArray, List.set_cons_zero, List.set_cons_succ]
            refine wpAnyH_take (i := 15) (oi := { dst := some 76, op := Op.move (Operand.tmp 75), type := 4, pos := "law.go:58", after := #[{ on := 14, ground := Ground.data }, { on := 9, ground := Ground.chain }], guard := none }) (v := .bool true) rfl (by kernel_rfl) (by kernel_rfl) (by kernel_rfl) (fun _ _ _ h => h) (Or.inl ⟨by rfl, ?_⟩) (Keep.refl _) ?_
            · intro W hSw; clear hSw; go_simp
            try simp only [Act.put, List.setIfInBounds_toArray, List.set_cons_zero, List.set_cons_succ]
            refine wpAnyH_take (i := 16) (oi := { dst := some 77, op := Op.move (Operand.tmp 7), type := 24, pos := "law.go:58", after := #[{ on := 15, ground := Ground.guard }], guard := some (15, true) }) (v := ptr gd) rfl (by kernel_rfl) (by kernel_rfl) (by kernel_rfl) (fun _ _ _ h => h) (Or.inl ⟨by rfl, ?_⟩) (Keep.refl _) ?_
            · intro W hSw; clear hSw; go_simp
            try simp only [Act.put, List.setIfInBounds_toArray, List.set_cons_zero, List.set_cons_succ]
            refine wpAnyH_take (i := 17) (oi := { dst := some 78, op := Op.move (Operand.tmp 0), type := 3, pos := "law.go:58", after := #[{ on := 15, ground := Ground.guard }], guard := some (15, true) }) (v := .int .i64 (a : Int)) rfl (by kernel_rfl) (by kernel_rfl) (by kernel_rfl) (fun _ _ _ h => h) (Or.inl ⟨by rfl, ?_⟩) (Keep.refl _) ?_
            · intro W hSw; clear hSw; go_simp
            try simp only [Act.put, List.setIfInBounds_toArray, List.set_cons_zero, List.set_cons_succ]
            refine wpAnyH_take (i := 18) (oi := { dst := some 79, op := Op.binOp BinOp.sub 3 (Operand.tmp 78) (Operand.const (Value.int IntKind.i64 1)) 3, type := 3, pos := "law.go:58", after := #[{ on := 17, ground := Ground.data }, { on := 15, ground := Ground.guard }], guard := some (15, true) }) (v := .int .i64 ((a : Int) - 1)) rfl (by kernel_rfl) (by kernel_rfl) (by kernel_rfl) (fun _ _ _ h => h) (Or.inl ⟨by rfl, ?_⟩) (Keep.refl _) ?_
            · intro W hSw; clear hSw; go_simp
            try simp only [Act.put, List.setIfInBounds_toArray, List.set_cons_zero, List.set_cons_succ]
            refine wpAnyH_take (i := 21) (oi := { dst := some 82, op := Op.move (Operand.tmp 8), type := 22, pos := "law.go:58", after := #[{ on := 15, ground := Ground.guard }], guard := some (15, true) }) (v := .slice (some ⟨w2.heap.size, 0, none⟩) 64 64) rfl (by kernel_rfl) (by kernel_rfl) (by kernel_rfl) (fun _ _ _ h => h) (Or.inl ⟨by rfl, ?_⟩) (Keep.refl _) ?_
            · intro W hSw; clear hSw; go_simp
            try simp only [Act.put, List.setIfInBounds_toArray, List.set_cons_zero, List.set_cons_succ]
            refine wpAnyH_take (i := 22) (oi := { dst := some 83, op := Op.convert 22 9 (Operand.tmp 82), type := 9, pos := "law.go:58", after := #[{ on := 21, ground := Ground.data }, { on := 15, ground := Ground.guard }], guard := some (15, true) }) (v := .string ⟨fs.toArray⟩) rfl (by kernel_rfl) (by kernel_rfl) (by kernel_rfl) (fun _ _ _ h => h) (Or.inl ⟨by rfl, ?_⟩) (Keep.refl _) ?_
            · intro W hSw; exact exec_value rfl (convert_blk (HS6.out.keepO hSw fun i hi => hi.1).f HFL.out 64)
            try simp only [Act.put, List.setIfInBounds_toArray, List.set_cons_zero, List.set_cons_succ]
            refine wpAnyH_1 (i := 19) (by kernel_rfl) (wpOp_call (o := { dst := some 80, op := Op.call { callee := Callee.value (Operand.func 16), args := #[Operand.tmp 77, Operand.tmp 79], argTypes := #[24, 3] }, type := 22, pos := "law.go:58", after := #[{ on := 16, ground := Ground.data }, { on := 18, ground := Ground.data }, { on := 15, ground := Ground.chain }, { on := 15, ground := Ground.guard }], guard := some (15, true) }) (f := 16) rfl (by rfl) (by go_simp) ((kread (v := (a : Int) - 1) (i := a - 1) (by omega) HN1.out HD6.out (by rw [HNN.out]; omega)).mono ?_))
            rintro e w7 ⟨A7, c7, rfl, hl7, hh7, hb7⟩
            have HH7 := Lib.hid hh7
            have HB7 := Lib.hid hb7
            have HD7 := Lib.hid (HD6.out.below HB7.out)
            have HS7 := Lib.hid (HS6.out.below HB7.out)
            have HZ7 := Lib.hid (Nat.le_trans HZ6.out HB7.out.size)
            clear hh7 hb7 hl7
            refine ⟨_, rfl, (Keep.of_below HB7.out), ?_⟩
            try simp only [Act.put, List.setIfInBounds_toArray, List.set_cons_zero, List.set_cons_succ]
            refine wpAnyH_more (S' := fun W => Keep (Out (fun i => HiBut w.heap.size w2.heap.size i ∧ i < w5.heap.size)) w7 W) (fun W h => (Keep.of_below HB7.out).trans h) _ _ _ _ ?_
            refine wpAnyH_take (i := 20) (oi := { dst := some 81, op := Op.convert 22 9 (Operand.tmp 80), type := 9, pos := "law.go:58", after := #[{ on := 19, ground := Ground.data }, { on := 15, ground := Ground.guard }], guard := some (15, true) }) (v := .string ⟨fs.toArray⟩) rfl (by kernel_rfl) (by kernel_rfl) (by kernel_rfl) (fun _ _ _ h => h) (Or.inl ⟨by rfl, ?_⟩) (Keep.refl _) ?_
            · intro W hSw; exact exec_value rfl ((HH7.out.keepO hSw fun i hi => Nat.lt_of_lt_of_le hi.2 HZ6.out).strn HFL.out c7)
            try simp only [Act.put, List.setIfInBounds_toArray, List.set_cons_zero, List.set_cons_succ]
            refine wpAnyH_take (i := 23) (oi := { dst := some 84, op := Op.binOp BinOp.eql 9 (Operand.tmp 81) (Operand.tmp 83) 9, type := 4, pos := "law.go:58", after := #[{ on := 20, ground := Ground.data }, { on := 22, ground := Ground.data }, { on := 15, ground := Ground.guard }], guard := some (15, true) }) (v := .bool true) rfl (by kernel_rfl) (by kernel_rfl) (by kernel_rfl) (fun _ _ _ h => h) (Or.inl ⟨by rfl, ?_⟩) (Keep.refl _) ?_
            · intro W hSw; clear hSw; go_simp
            try simp only [Act.put, List.setIfInBounds_toArray, List.set_cons_zero, List.set_cons_succ]
            refine wpAnyH_take (i := 24) (oi := { dst := some 85, op := Op.pick (Operand.tmp 76) (Operand.tmp 84) (Operand.const (Value.bool false)), type := 4, pos := "law.go:58", after := #[{ on := 15, ground := Ground.data }, { on := 23, ground := Ground.data }], guard := none }) (v := .bool true) rfl (by kernel_rfl) (by kernel_rfl) (by kernel_rfl) (fun _ _ _ h => h) (Or.inl ⟨by rfl, ?_⟩) (Keep.refl _) ?_
            · intro W hSw; clear hSw; go_simp
            try simp only [Act.put, List.setIfInBounds_toArray, List.set_cons_zero, List.set_cons_succ]
            refine wpAnyH_take (i := 25) (oi := { dst := some 86, op := Op.move (Operand.tmp 85), type := 4, pos := "law.go:58", after := #[{ on := 24, ground := Ground.data }, { on := 19, ground := Ground.chain }], guard := none }) (v := .bool true) rfl (by kernel_rfl) (by kernel_rfl) (by kernel_rfl) (fun _ _ _ h => h) (Or.inl ⟨by rfl, ?_⟩) (Keep.refl _) ?_
            · intro W hSw; clear hSw; go_simp
            try simp only [Act.put, List.setIfInBounds_toArray, List.set_cons_zero, List.set_cons_succ]
            refine wpAnyH_take (i := 26) (oi := { dst := some 87, op := Op.move (Operand.tmp 7), type := 24, pos := "law.go:58", after := #[{ on := 25, ground := Ground.guard }], guard := some (25, true) }) (v := ptr gd) rfl (by kernel_rfl) (by kernel_rfl) (by kernel_rfl) (fun _ _ _ h => h) (Or.inl ⟨by rfl, ?_⟩) (Keep.refl _) ?_
            · intro W hSw; clear hSw; go_simp
            try simp only [Act.put, List.setIfInBounds_toArray, List.set_cons_zero, List.set_cons_succ]
            refine wpAnyH_take (i := 27) (oi := { dst := some 88, op := Op.move (Operand.tmp 0), type := 3, pos := "law.go:58", after := #[{ on := 25, ground := Ground.guard }], guard := some (25, true) }) (v := .int .i64 (a : Int)) rfl (by kernel_rfl) (by kernel_rfl) (by kernel_rfl) (fun _ _ _ h => h) (Or.inl ⟨by rfl, ?_⟩) (Keep.refl _) ?_
            · intro W hSw; clear hSw; go_simp
            try simp only [Act.put, List.setIfInBounds_toArray, List.set_cons_zero, List.set_cons_succ]
            refine wpAnyH_take (i := 28) (oi := { dst := some 89, op := Op.move (Operand.tmp 6), type := 3, pos := "law.go:58", after := #[{ on := 25, ground := Ground.guard }], guard := some (25, true) }) (v := .int .i64 (k : Int)) rfl (by kernel_rfl) (by kernel_rfl) (by kernel_rfl) (fun _ _ _ h => h) (Or.inl ⟨by rfl, ?_⟩) (Keep.refl _) ?_
            · intro W hSw; clear hSw; go_simp
            try simp only [Act.put, List.setIfInBounds_toArray, List.set_cons_zero, List.set_cons_succ]
            refine wpAnyH_take (i := 29) (oi := { dst := some 90, op := Op.binOp BinOp.add 3 (Operand.tmp 88) (Operand.tmp 89) 3, type := 3, pos := "law.go:58", after := #[{ on := 27, ground := Ground.data }, { on := 28, ground := Ground.data }, { on := 25, ground := Ground.guard }], guard := some (25, true) }) (v := .int .i64 ((a : Int) + (k : Int))) rfl (by kernel_rfl) (by kernel_rfl) (by kernel_rfl) (fun _ _ _ h => h) (Or.inl ⟨by rfl, ?_⟩) (Keep.refl _) ?_
            · intro W hSw; clear hSw; go_simp
            try simp only [Act.put, List.setIfInBounds_toArray, List.set_cons_zero, List.set_cons_succ]
            refine wpAnyH_take (i := 32) (oi := { dst := some 93, op := Op.move (Operand.tmp 8), type := 22, pos := "law.go:58", after := #[{ on := 25, ground := Ground.guard }], guard := some (25, true) }) (v := .slice (some ⟨w2.heap.size, 0, none⟩) 64 64) rfl (by kernel_rfl) (by kernel_rfl) (by kernel_rfl) (fun _ _ _ h => h) (Or.inl ⟨by rfl, ?_⟩) (Keep.refl _) ?_
            · intro W hSw; clear hSw; go_simp
            try simp only [Act.put, List.setIfInBounds_toArray, List.set_cons_zero, List.set_cons_succ]
            refine wpAnyH_take (i := 33) (oi := { dst := some 94, op := Op.convert 22 9 (Operand.tmp 93), type := 9, pos := "law.go:58", after := #[{ on := 32, ground := Ground.data }, { on := 25, ground := Ground.guard }], guard := some (25, true) }) (v := .string ⟨fs.toArray⟩) rfl (by kernel_rfl) (by kernel_rfl) (by kernel_rfl) (fun _ _ _ h => h) (Or.inl ⟨by rfl, ?_⟩) (Keep.refl _) ?_
            · intro W hSw; exact exec_value rfl (convert_blk (HS7.out.keepO hSw fun i hi => hi.1).f HFL.out 64)
            try simp only [Act.put, List.setIfInBounds_toArray, List.set_cons_zero, List.set_cons_succ]
            refine wpAnyH_1 (i := 30) (by kernel_rfl) (wpOp_call (o := { dst := some 91, op := Op.call { callee := Callee.value (Operand.func 16), args := #[Operand.tmp 87, Operand.tmp 90], argTypes := #[24, 3] }, type := 22, pos := "law.go:58", after := #[{ on := 26, ground := Ground.data }, { on := 29, ground := Ground.data }, { on := 25, ground := Ground.chain }, { on := 25, ground := Ground.guard }], guard := some (25, true) }) (f := 16) rfl (by rfl) (by go_simp) ((kread (v := (a : Int) + (k : Int)) (i := a + k) (by omega) HN2.out HD7.out (by rw [HNN.out]; omega)).mono ?_))
            rintro e w8 ⟨A8, c8, rfl, hl8, hh8, hb8⟩
            have HH8 := Lib.hid hh8
            have HB8 := Lib.hid hb8
            have HD8 := Lib.hid (HD7.out.below HB8.out)
            have HS8 := Lib.hid (HS7.out.below HB8.out)
            have HZ8 := Lib.hid (Nat.le_trans HZ7.out HB8.out.size)
            clear hh8 hb8 hl8
            refine ⟨_, rfl, (Keep.of_below HB8.out), ?_⟩
            try simp only [Act.put, List.setIfInBounds_toArray, List.set_cons_zero, List.set_cons_succ]
            refine wpAnyH_more (S' := fun W => Keep (Out (fun i => HiBut w.heap.size w2.heap.size i ∧ i < w5.heap.size)) w8 W) (fun W h => (Keep.of_below HB8.out).trans h) _ _ _ _ ?_
            refine wpAnyH_take (i := 31) (oi := { dst := some 92, op := Op.convert 22 9 (Operand.tmp 91), type := 9, pos := "law.go:58", after := #[{ on := 30, ground := Ground.data }, { on := 25, ground := Ground.guard }], guard := some (25, true) }) (v := .string ⟨fs.toArray⟩) rfl (by kernel_rfl) (by kernel_rfl) (by kernel_rfl) (fun _ _ _ h => h) (Or.inl ⟨by rfl, ?_⟩) (Keep.refl _) ?_
            · intro W hSw; exact exec_value rfl ((HH8.out.keepO hSw fun i hi => Nat.lt_of_lt_of_le hi.2 HZ7.out).strn HFL.out c8)
            try simp only [Act.put, List.setIfInBounds_toArray, List.set_cons_zero, List.set_cons_succ]
            refine wpAnyH_take (i := 34) (oi := { dst := some 95, op := Op.binOp BinOp.eql 9 (Operand.tmp 92) (Operand.tmp 94) 9, type := 4, pos := "law.go:58", after := #[{ on := 31, ground := Ground.data }, { on := 33, ground := Ground.data }, { on := 25, ground := Ground.guard }], guard := some (25, true) }) (v := .bool true) rfl (by kernel_rfl) (by kernel_rfl) (by kernel_rfl) (fun _ _ _ h => h) (Or.inl ⟨by rfl, ?_⟩) (Keep.refl _) ?_
            · intro W hSw; clear hSw; go_simp
            try simp only [Act.put, List.setIfInBounds_toArray, List.set_cons_zero, List.set_cons_succ]
            refine wpAnyH_take (i := 35) (oi := { dst := some 96, op := Op.pick (Operand.tmp 86) (Operand.tmp 95) (Operand.const (Value.bool false)), type := 4, pos := "law.go:58", after := #[{ on := 25, ground := Ground.data }, { on := 34, ground := Ground.data }], guard := none }) (v := .bool true) rfl (by kernel_rfl) (by kernel_rfl) (by kernel_rfl) (fun _ _ _ h => h) (Or.inl ⟨by rfl, ?_⟩) (Keep.refl _) ?_
            · intro W hSw; clear hSw; go_simp
            try simp only [Act.put, List.setIfInBounds_toArray, List.set_cons_zero, List.set_cons_succ]
            refine wpAnyH_take (i := 36) (oi := { dst := some 97, op := Op.move (Operand.tmp 96), type := 4, pos := "law.go:58", after := #[{ on := 35, ground := Ground.data }, { on := 30, ground := Ground.chain }], guard := none }) (v := .bool true) rfl (by kernel_rfl) (by kernel_rfl) (by kernel_rfl) (fun _ _ _ h => h) (Or.inl ⟨by rfl, ?_⟩) (Keep.refl _) ?_
            · intro W hSw; clear hSw; go_simp
            try simp only [Act.put, List.setIfInBounds_toArray, List.set_cons_zero, List.set_cons_succ]
            refine wpAnyH_take (i := 37) (oi := { dst := some 98, op := Op.move (Operand.tmp 7), type := 24, pos := "law.go:58", after := #[{ on := 36, ground := Ground.guard }], guard := some (36, true) }) (v := ptr gd) rfl (by kernel_rfl) (by kernel_rfl) (by kernel_rfl) (fun _ _ _ h => h) (Or.inl ⟨by rfl, ?_⟩) (Keep.refl _) ?_
            · intro W hSw; clear hSw; go_simp
            try simp only [Act.put, List.setIfInBounds_toArray, List.set_cons_zero, List.set_cons_succ]
            refine wpAnyH_take (i := 38) (oi := { dst := some 99, op := Op.move (Operand.tmp 0), type := 3, pos := "law.go:58", after := #[{ on := 36, ground := Ground.guard }], guard := some (36, true) }) (v := .int .i64 (a : Int)) rfl (by kernel_rfl) (by kernel_rfl) (by kernel_rfl) (fun _ _ _ h => h) (Or.inl ⟨by rfl, ?_⟩) (Keep.refl _) ?_
            · intro W hSw; clear hSw; go_simp
            try simp only [Act.put, List.setIfInBounds_toArray, List.set_cons_zero, List.set_cons_succ]
            refine wpAnyH_take (i := 39) (oi := { dst := some 100, op := Op.binOp BinOp.add 3 (Operand.tmp 99) (Operand.const (Value.int IntKind.i64 2)) 3, type := 3, pos := "law.go:58", after := #[{ on := 38, ground := Ground.data }, { on := 36, ground := Ground.guard }], guard := some (36, true) }) (v := .int .i64 ((a : Int) + 2)) rfl (by kernel_rfl) (by kernel_rfl) (by kernel_rfl) (fun _ _ _ h => h) (Or.inl ⟨by rfl, ?_⟩) (Keep.refl _) ?_
            · intro W hSw; clear hSw; go_simp
            try simp only [Act.put, List.setIfInBounds_toArray, List.set_cons_zero, List.set_cons_succ]
            refine wpAnyH_take (i := 40) (oi := { dst := some 101, op := Op.move (Operand.tmp 6), type := 3, pos := "law.go:58", after := #[{ on := 36, ground := Ground.guard }], guard := some (36, true) }) (v := .int .i64 (k : Int)) rfl (by kernel_rfl) (by kernel_rfl) (by kernel_rfl) (fun _ _ _ h => h) (Or.inl ⟨by rfl, ?_⟩) (Keep.refl _) ?_
            · intro W hSw; clear hSw; go_simp
            try simp only [Act.put, List.setIfInBounds_toArray, List.set_cons_zero, List.set_cons_succ]
            refine wpAnyH_take (i := 41) (oi := { dst := some 102, op := Op.binOp BinOp.mul 3 (Operand.const (Value.int IntKind.i64 64)) (Operand.tmp 101) 3, type := 3, pos := "law.go:58", after := #[{ on := 40, ground := Ground.data }, { on := 36, ground := Ground.guard }], guard := some (36, true) }) (v := .int .i64 (m : Int)) rfl (by kernel_rfl) (by kernel_rfl) (by kernel_rfl) (fun _ _ _ h => h) (Or.inl ⟨by rfl, ?_⟩) (Keep.refl _) ?_
            · intro W hSw; clear hSw; go_simp
            try simp only [Act.put, List.setIfInBounds_toArray, List.set_cons_zero, List.set_cons_succ]
            refine wpAnyH_1 (i := 42) (by kernel_rfl) (wpOp_value (o := { dst := some 103, op := Op.makeSlice 22 (Operand.tmp 102) (Operand.tmp 102), type := 22, pos := "law.go:58", after := #[{ on := 41, ground := Ground.data }, { on := 41, ground := Ground.data }, { on := 36, ground := Ground.guard }], guard := some (36, true) }) (v := .slice (some ⟨w8.heap.size, 0, none⟩) m m) (w' := w8.alloc (.cells (cellsB (List.replicate m 0)).toArray 5)) rfl (by rfl) (exec_value rfl (hmk2 w8)) ?_)
            refine ⟨((Keep.refl _).alloc _), ?_⟩
            try simp only [Act.put, List.setIfInBounds_toArray, List.set_cons_zero, List.set_cons_succ]
            refine wpAnyH_1 (i := 43) (by kernel_rfl) (wpOp_call (o := { dst := some 104, op := Op.call { callee := Callee.value (Operand.func 13), args := #[Operand.tmp 98, Operand.tmp 100, Operand.tmp 103], argTypes := #[24, 3, 22] }, type := 4, pos := "law.go:58", after := #[{ on := 37, ground := Ground.data }, { on := 39, ground := Ground.data }, { on := 42, ground := Ground.data }, { on := 36, ground := Ground.chain }, { on := 36, ground := Ground.guard }], guard := some (36, true) }) (f := 13) rfl (by rfl) (by go_simp) ((kput_no (ys := List.replicate m 0) hF1.out HM0.out (by simp) (Has.of_blk (Blk.new _ _ _) (fun ho => by have := ho.2; have := HZ8.out; omega)) (Nat.le_refl _) (HD8.out.below (alloc_below _ _)) hl1 hc1 hle1 (by omega)).mono ?_))
            rintro e w9 ⟨rfl, hk9⟩
            have HK9 := Lib.hid (((Keep.refl (K := Out (fun i => HiBut w.heap.size w2.heap.size i ∧ i < w5.heap.size)) w8).alloc (.cells (cellsB (List.replicate m 0)).toArray 5)).trans hk9)
            clear hk9
            refine ⟨_, rfl, HK9.out, ?_⟩
            try simp only [Act.put, List.setIfInBounds_toArray, List.set_cons_zero, List.set_cons_succ]
            refine wpAnyH_take (i := 44) (oi := { dst := some 105, op := Op.unOp UnOp.not 4 (Operand.tmp 104), type := 4, pos := "law.go:58", after := #[{ on := 43, ground := Ground.data }, { on := 36, ground := Ground.guard }], guard := some (36, true) }) (v := .bool true) rfl (by kernel_rfl) (by kernel_rfl) (by kernel_rfl) (fun _ _ _ h => h) (Or.inl ⟨by rfl, ?_⟩) HK9.out ?_
            · intro W hSw; clear hSw; go_simp
            try simp only [Act.put, List.setIfInBounds_toArray, List.set_cons_zero, List.set_cons_succ]
            refine wpAnyH_take (i := 45) (oi := { dst := some 106, op := Op.pick (Operand.tmp 97) (Operand.tmp 105) (Operand.const (Value.bool false)), type := 4, pos := "law.go:58", after := #[{ on := 36, ground := Ground.data }, { on := 44, ground := Ground.data }], guard := none }) (v := .bool true) rfl (by kernel_rfl) (by kernel_rfl) (by kernel_rfl) (fun _ _ _ h => h) (Or.inl ⟨by rfl, ?_⟩) HK9.out ?_
            · intro W hSw; clear hSw; go_simp
            try simp only [Act.put, List.setIfInBounds_toArray, List.set_cons_zero, List.set_cons_succ]
            refine wpAnyH_take (i := 46) (oi := { dst := some 4, op := Op.assign (Operand.tmp 106), type := 4, pos := "law.go:58", after := #[{ on := 45, ground := Ground.data }, { on := 43, ground := Ground.chain }, { on := 0, ground := Ground.phase }, { on := 1, ground := Ground.phase }, { on := 2, ground := Ground.phase }, { on := 3, ground := Ground.phase }, { on := 4, ground := Ground.phase }, { on := 5, ground := Ground.phase }, { on := 6, ground := Ground.phase }, { on := 7, ground := Ground.phase }, { on := 8, ground := Ground.phase }, { on := 9, ground := Ground.phase }, { on := 10, ground := Ground.phase }, { on := 11, ground := Ground.phase }, { on := 12, ground := Ground.phase }, { on := 13, ground := Ground.phase }, { on := 14, ground := Ground.phase }, { on := 15, ground := Ground.phase }, { on := 16, ground := Ground.phase }, { on := 17, ground := Ground.phase }, { on := 18, ground := Ground.phase }, { on := 19, ground := Ground.phase }, { on := 20, ground := Ground.phase }, { on := 21, ground := Ground.phase }, { on := 22, ground := Ground.phase }, { on := 23, ground := Ground.phase }, { on := 24, ground := Ground.phase }, { on := 25, ground := Ground.phase }, { on := 26, ground := Ground.phase }, { on := 27, ground := Ground.phase }, { on := 28, ground := Ground.phase }, { on := 29, ground := Ground.phase }, { on := 30, ground := Ground.phase }, { on := 31, ground := Ground.phase }, { on := 32, ground := Ground.phase }, { on := 33, ground := Ground.phase }, { on := 34, ground := Ground.phase }, { on := 35, ground := Ground.phase }, { on := 36, ground := Ground.phase }, { on := 37, ground := Ground.phase }, { on := 38, ground := Ground.phase }, { on := 39, ground := Ground.phase }, { on := 40, ground := Ground.phase }, { on := 41, ground := Ground.phase }, { on := 42, ground := Ground.phase }, { on := 43, ground := Ground.phase }, { on := 44, ground := Ground.phase }, { on := 45, ground := Ground.phase }], guard := none }) (v := .bool true) rfl (by kernel_rfl) (by kernel_rfl) (by kernel_rfl) (fun _ _ _ h => h) (Or.inl ⟨by rfl, ?_⟩) HK9.out ?_
            · intro W hSw; clear hSw; go_simp
            try simp only [Act.put, List.setIfInBounds_toArray, List.set_cons_zero, List.set_cons_succ]
            refine wpAnyH_done (by kernel_rfl) ?_ _
            refine NoPanic.normal ?_
            have k0 : Keep (fun i _ => i < w.heap.size ∨ i = w2.heap.size) wf w9 := ((((HKP.out.trans HK5.out).trans (Keep.of_below HB6.out)).trans (Keep.of_below HB7.out)).trans (Keep.of_below HB8.out)).trans (HK9.out.mono fun i _ _ hi ho => by
              have h1 := ho.1.1
              have h3 := ho.1.2
              omega)
            have HEND := Lib.hid (HB2.out.trans ((HHL.out.mono HB2.out.size).trans (k0.below (Nat.le_trans HB2.out.size (Nat.le_of_lt hws)) fun i _ hi => .inl hi)))
            clear k0
            go_wp2
            go_ret
            exact ⟨rfl, HEND.out⟩
  · go_enter Try.func4, Try.ntmps4
    go_wp2_with fail
    refine (alive w).mono ?_
    rintro e w1 ⟨rfl, hb⟩
    have HB := Lib.hid hb
    clear hb
    go_wp2_with fail
    all_goals first | (go_ret; exact ⟨rfl, HB.out⟩) | (exfalso; omega)
end Go.Proofs.Ytfccghbhkgnmlaa
