/- The document's table: Ask where the lock is not there (its drawn region walked by text ..OrdK; written by a program). -/
import Derived.Test.YtnjhhndggfjjdaaGreatDoorJ19
import Derived.Test.YtnjhhndggfjjdaaGreatDoorJ27
import Derived.Test.YtnjhhndggfjjdaaGreatDoorJ10
set_option maxRecDepth 4000
namespace Go.Proofs.YtnjhhndggfjjdaaGreatDoor
open Go.RowKit
set_option maxHeartbeats 8000000 in
theorem rtask_new {w : World} {base b : Nat} {s : TS} (h : TB base b s w) (hbase : base ≤ w.heap.size) (hi : TInv s) (hc : countP s ≤ 1000) (who : Int) (n : Nm) (mode : Int) (hsz : ∀ e ∈ s, e.1.2.1.size ≤ maxLen ∧ e.1.2.2.size ≤ maxLen)
    (hk1 : ¬ n.1 < 0) (hk2 : ¬ 2 < n.1) (hwt : waitN s who = none) (hm0 : mode ≠ 0) (hne : ∀ e ∈ s, e.1 ≠ plainN n) (hnf : ¬ 200 ≤ countP s) :
    Calls Tryz.prog 8 #[.pointer (some ⟨b, 0, none⟩), .int .i64 who, valN n, .int .i64 mode] w fun e w' => e = .returned (.int .i64 ((askN s who n mode).1 : Int)) ∧ TB base b (askN s who n mode).2 w' ∧ TKeep base w w' := by
  obtain ⟨v, rs, h, e⟩ := h
  have hs := small_of e hi hc
  have hwt' := wait_ent rs who
  rw [e] at hwt'
  have hal := alloc_below w (.cells #[.int .i64 n.1, .string n.2.1, .string n.2.2] 31)
  have hB := Blk.new w 31 #[.int .i64 n.1, .string n.2.1, .string n.2.2]
  have hkn : knownP n = some (plainN n) := by rw [known_plain n, if_neg (by rintro (h | h) <;> omega)]
  have n0 := hB.cell 0
  have HSZ := Lib.hid hsz
  have HNE := Lib.hid hne
  have H := Lib.hid h
  have HAL := Lib.hid hal
  have HB := Lib.hid hB
  have HS := Lib.hid hs
  have HI := Lib.hid hi
  have HWN := Lib.hid hwt
  have HE := Lib.hid e
  have HW1 := Lib.hid (rtwaiting_ (HAL.out |> h.below) HS.out.len (fun r hr => (HS.out.sm r hr).2) who)
  rw [← hwt', hwt] at HW1
  have HKN := Lib.hid hkn
  clear h hal hB hs hi e hwt' hwt hkn hne hsz
  unfold valN at *
  go_enter Tryz.func8, Tryz.ntmps8
  go_wp2_with fail
  refine HW1.out.mono ?_
  rintro e w1 ⟨rfl, hb1⟩
  have hB1 := HB.out.below hb1 HB.out.lt
  have hx1 := HAL.out.trans (hb1.mono HAL.out.size)
  have hx2 := fun o => hx1.trans ((alloc_below w1 o).mono hx1.size)
  have HX2 := Lib.hid hx2
  have HB1 := Lib.hid hB1
  clear hb1 hB1 hx1 hx2
  simp only [Option.getD_none, Option.isSome_none]
  unfold noB
  have B2 := HB1.out.alloc (.cells #[.int .i64 0, .string ⟨#[]⟩, .string ⟨#[]⟩] 31)
  have hx3 := HX2.out (.cells #[.int .i64 0, .string ⟨#[]⟩, .string ⟨#[]⟩] 31)
  have n0 := B2.cell 0
  have n1 := B2.cell 1
  have n2 := B2.cell 2
  have HB2 := Lib.hid B2
  have HX3 := Lib.hid hx3
  clear B2 hx3 HX2
  go_wp2_with fail
  generalize w1.alloc (.cells #[.int .i64 0, .string ⟨#[]⟩, .string ⟨#[]⟩] 31) = wA at *
  refine (rplain_ n _).mono ?_
  rintro e w2 ⟨rfl, hb2⟩
  have HB3 := Lib.hid (HB2.out.below hb2 HB2.out.lt)
  have hx4 := HX3.out.trans (hb2.mono HX3.out.size)
  clear hb2
  obtain ⟨m, hm⟩ : ∃ m, plainN n = m := ⟨_, rfl⟩
  rw [hm] at HKN HNE ⊢
  obtain ⟨m1, m2, m3⟩ := m
  unfold valN
  simp only
  have q0 := HB3.out.cell 0
  have q1 := HB3.out.cell 1
  have q2 := HB3.out.cell 2
  have f0 := HB3.out.frozen 0
  have f1 := HB3.out.frozen 1
  have f2 := HB3.out.frozen 2
  have hres2 := blk_store3 (u := .int .i64 m1) (v := .string m2) (x := .string m3) HB3.out
  have r0 := hres2.cell 0
  have r1 := hres2.cell 1
  have r2 := hres2.cell 2
  have hx5 : Below w.heap.size w (((w2.setCell ⟨w.heap.size, 0, none⟩ (.int .i64 m1)).setCell ⟨w.heap.size, 1, none⟩ (.string m2)).setCell ⟨w.heap.size, 2, none⟩ (.string m3)) := by
    refine Keep.below (K := fun i _ => i < w.heap.size) (((Keep.setCell (Keep.setCell (Keep.setCell (Keep.of_below hx4) ?_ _) ?_ _) ?_ _))) (Nat.le_refl _) (fun _ _ h => h)
    all_goals (intro _ _ h; exact absurd h (Nat.lt_irrefl _))
  have HX5 := Lib.hid hx5
  clear hx4 hx5 hres2
  go_wp2_with fail
  generalize (((w2.setCell ⟨w.heap.size, 0, none⟩ (.int .i64 m1)).setCell ⟨w.heap.size, 1, none⟩ (.string m2)).setCell ⟨w.heap.size, 2, none⟩ (.string m3)) = wB at *
  refine (rat_ (H.out.below HX5.out) HS.out.len (m1, m2, m3)).mono ?_
  rintro e w3 ⟨rfl, hb3⟩
  have hx6 := HX5.out.trans (hb3.mono HX5.out.size)
  have HX6 := Lib.hid hx6
  have n0 := (cell_of_heap (hb3.block _ (block_of_cell r0)) _).trans r0
  have n1 := (cell_of_heap (hb3.block _ (block_of_cell r1)) _).trans r1
  have n2 := (cell_of_heap (hb3.block _ (block_of_cell r2)) _).trans r2
  clear hb3 hx6 r0 r1 r2
  have hmn : (mdN mode : Int) ≠ 0 := by have := md_ne hm0; omega
  have HCO := Lib.hid (rtcount_ (H.out.below HX6.out) HS.out)
  rw [← cntR_ent, HE.out] at HCO
  have hl := (spot_abs HNE.out).2
  have ha := (spot_abs HNE.out).1
  rcases idx_cases (isNm (m1, m2, m3)) rs with ⟨hix, hany⟩ | ⟨hlt, hix, hany, hnm⟩
  rotate_left
  · exact absurd (of_decide_eq_true hnm) (HNE.out _ (by rw [← HE.out]; exact List.mem_map.2 ⟨_, List.getElem_mem hlt, rfl⟩))
  rw [hix]
  have hask : askN s who n mode = (if (askP ([], []) who (mdN mode)).1 then 0 else 13, putN s (m1, m2, m3) (askP ([], []) who (mdN mode)).2) := by
    have := ask_asks HKN.out (s := s) (who := who) (mode := mode) (by rw [HWN.out]; rfl) hm0 (.inr (by omega))
    rw [hl] at this
    exact this
  have hokn : Ok ([], []) := by
    have := (lock_inv HI.out (m1, m2, m3)).1
    rw [hl] at this
    exact this
  have HOKN := Lib.hid hokn
  clear hokn
  have HASK := Lib.hid hask
  have HA := Lib.hid ha
  clear hask hany hl ha
  go_wp2_with (go_at_call 29; refine (mode_ _ _).mono ?_; rintro e w' ⟨rfl, rfl⟩)
  refine HCO.out.mono ?_
  rintro e w4 ⟨rfl, hb4⟩
  have HX7 := Lib.hid (HX6.out.trans (hb4.mono HX6.out.size))
  replace n0 := (cell_of_heap (hb4.block _ (block_of_cell n0)) _).trans n0
  replace n1 := (cell_of_heap (hb4.block _ (block_of_cell n1)) _).trans n1
  replace n2 := (cell_of_heap (hb4.block _ (block_of_cell n2)) _).trans n2
  have H4 := Lib.hid (H.out.below HX7.out)
  clear hb4 HCO hix
  have h200 : ¬ (200 : Int) ≤ (countP s : Int) := by omega
  obtain ⟨A, c, rfl, hcc, hcm⟩ := H.out.see
  unfold maxLen at hcm
  obtain ⟨ln, hln⟩ : ∃ ln, rs.length = ln := ⟨_, rfl⟩
  have hlen := HS.out.len
  rw [hln] at hcc H H4 hlen
  have HLN := Lib.hid hln
  clear hln
  have p0 := H4.out.blk.cell 0
  have hbs4 := H4.out.blk.lt
  have hns4 := block_of_cell n0
  have N0 := Lib.hid n0
  have N1 := Lib.hid n1
  have N2 := Lib.hid n2
  have P0 := Lib.hid p0
  go_wp2_with fail
  go_loopg [11] ln (fun k i wr => AtR w4 rs (fun r => !decide (cmpN r.n (m1, m2, m3) < 0)) k i wr)
  case atStart => exact ⟨0, by rw [HLN.out]; omega, rfl, fun q hq => absurd hq (Nat.not_lt_zero q), Below.refl _ _⟩
  case round =>
    obtain ⟨j, hj, rfl, h1, hb⟩ := hrel
    have HJ := Lib.hid hj
    have HBR := Lib.hid hb
    have H1 := Lib.hid h1
    have p0 := (cell_of_heap (hb.block b hbs4) _).trans P0.out
    have n0 := (cell_of_heap (hb.block _ hns4) _).trans N0.out
    have n1 := (cell_of_heap (hb.block _ hns4) _).trans N1.out
    have n2 := (cell_of_heap (hb.block _ hns4) _).trans N2.out
    clear hj hb h1
    by_cases hlt : j < ln
    · have hx : j < rs.length := by rw [HLN.out]; exact hlt
      obtain ⟨g, o, rfl, d0, d1, d2, -⟩ := H4.out.row HBR.out hx
      have hsr := HSZ.out (rs[j].n, rs[j].l) (by rw [← HE.out]; exact List.mem_map.2 ⟨_, List.getElem_mem hx, rfl⟩)
      have hah := rahead_ rs[j].n (m1, m2, m3) wr.drew hsr.1 hsr.2
      have hnx : ¬ (cmpN rs[j].n (m1, m2, m3) < 0) ∨ ∀ q (_ : q < j + 1) (hl : q < rs.length), (!decide (cmpN rs[q].n (m1, m2, m3) < 0)) = false := by
        by_cases hz : cmpN rs[j].n (m1, m2, m3) < 0
        · refine .inr fun q hq hl => ?_
          rcases Nat.lt_or_ge q j with h5 | h5
          · exact H1.out q h5 hl
          · obtain rfl : q = j := by omega
            simpa using hz
        · exact .inl hz
      obtain ⟨z, hz⟩ : ∃ z, cmpN rs[j].n (m1, m2, m3) = z := ⟨_, rfl⟩
      rw [hz] at hah hnx
      have HNX := Lib.hid hnx
      have HZ := Lib.hid hz
      unfold valN at hah
      simp only at hah
      generalize rs[j].n.1 = x1 at *
      generalize rs[j].n.2.1 = x2 at *
      generalize rs[j].n.2.2 = x3 at *
      have HAH := Lib.hid hah
      have hdt : decide ((j : Int) < (ln : Int)) = true := by simpa using hlt
      have hgb := block_of_cell d0
      have hbb := block_of_cell p0
      have hbx := block_of_cell n0
      clear hsr hah hnx hz
      go_wp2_with fail
      have hS0 : (fun W : World => W.cell? ⟨b, 0, none⟩ = some (.slice (some ⟨g, o, none⟩) ln c) ∧ W.cell? ⟨g, o + j * 4, none⟩ = some (.int .i64 x1) ∧ W.cell? ⟨g, o + j * 4 + 1, none⟩ = some (.string x2) ∧ W.cell? ⟨g, o + j * 4 + 2, none⟩ = some (.string x3) ∧ W.cell? ⟨w.heap.size, 0, none⟩ = some (.int .i64 m1) ∧ W.cell? ⟨w.heap.size, 1, none⟩ = some (.string m2) ∧ W.cell? ⟨w.heap.size, 2, none⟩ = some (.string m3)) wr.drew := ⟨p0, d0, d1, d2, n0, n1, n2⟩
      go_region_held3 (fun W : World => W.cell? ⟨b, 0, none⟩ = some (.slice (some ⟨g, o, none⟩) ln c) ∧ W.cell? ⟨g, o + j * 4, none⟩ = some (.int .i64 x1) ∧ W.cell? ⟨g, o + j * 4 + 1, none⟩ = some (.string x2) ∧ W.cell? ⟨g, o + j * 4 + 2, none⟩ = some (.string x3) ∧ W.cell? ⟨w.heap.size, 0, none⟩ = some (.int .i64 m1) ∧ W.cell? ⟨w.heap.size, 1, none⟩ = some (.string m2) ∧ W.cell? ⟨w.heap.size, 2, none⟩ = some (.string m3))
        (first | exact hS0 | exact hS1)
        (first | (go_at_call 31; refine HAH.out.mono ?_; rintro e w5 ⟨rfl, hb5⟩; have HB5 := Lib.hid hb5; have hS1 : (fun W : World => W.cell? ⟨b, 0, none⟩ = some (.slice (some ⟨g, o, none⟩) ln c) ∧ W.cell? ⟨g, o + j * 4, none⟩ = some (.int .i64 x1) ∧ W.cell? ⟨g, o + j * 4 + 1, none⟩ = some (.string x2) ∧ W.cell? ⟨g, o + j * 4 + 2, none⟩ = some (.string x3) ∧ W.cell? ⟨w.heap.size, 0, none⟩ = some (.int .i64 m1) ∧ W.cell? ⟨w.heap.size, 1, none⟩ = some (.string m2) ∧ W.cell? ⟨w.heap.size, 2, none⟩ = some (.string m3)) w5 := ⟨(cell_of_heap (hb5.block b hbb) _).trans p0, (cell_of_heap (hb5.block g hgb) _).trans d0, (cell_of_heap (hb5.block g hgb) _).trans d1, (cell_of_heap (hb5.block g hgb) _).trans d2, (cell_of_heap (hb5.block _ hbx) _).trans n0, (cell_of_heap (hb5.block _ hbx) _).trans n1, (cell_of_heap (hb5.block _ hbx) _).trans n2⟩; clear hb5))
      have HBR2 := Lib.hid (HBR.out.trans ((Below.refl _ wr).drew.trans HB5.out |>.mono HBR.out.size))
      by_cases hz : z < 0
      · have e1 : decide (z < 0) = true := by simpa using hz
        rw [e1]
        have HNX2 := Lib.hid (HNX.out.resolve_left fun h => absurd hz (by omega))
        go_wp2_with fail
        go_roundg (ln - (j + 1))
        case measure => have := HJ.out; have := HLN.out; omega
        case rel => exact ⟨j + 1, by have := HLN.out; omega, by go_num, HNX2.out, HBR2.out⟩
      · have e1 : decide (z < 0) = false := by simpa using hz
        rw [e1]
        go_wp2_with fail
        have hsp : spotN s (m1, m2, m3) = j := by
          have hsd : s = rs.map Rw.ent := HE.out.symm
          rw [hsd]
          unfold spotN
          rw [List.findIdx_map]
          refine (List.findIdx_eq hx).2 ⟨?_, fun q hq => H1.out q hq (by omega)⟩
          show (!decide (cmpN rs[j].n (m1, m2, m3) < 0)) = true
          rw [HZ.out, e1]
          rfl
        have HSP := Lib.hid hsp
        have hjl : j ≤ ln := by omega
        have HBE := HBR2
        clear hsp hS0 hS1 d0 d1 d2 hgb hbb hbx HB5 HAH HNX HZ HBR HBR2 H1 p0 n0 n1 n2 hdt hlt hx e1 hz
        generalize (some (⟨g, o, none⟩ : Addr)) = A at *
        have p0 := (cell_of_heap (HBE.out.block b hbs4) _).trans P0.out
        have n0 := (cell_of_heap (HBE.out.block _ hns4) _).trans N0.out
        have n1 := (cell_of_heap (HBE.out.block _ hns4) _).trans N1.out
        have n2 := (cell_of_heap (HBE.out.block _ hns4) _).trans N2.out
        have HZ1 := Lib.hid (H4.out.below HBE.out)
        have hbz := HZ1.out.blk.lt
        have hxz := block_of_cell n0
        obtain ⟨A', c', eA, lE, _⟩ := own_lst HZ1.out.own
        injection eA with eA e2 e3
        clear e2 e3
        subst eA
        have hML : (rs.map Rw.at_).length = ln := by rw [List.length_map]; exact HLN.out
        have hlj : ((rs.map Rw.at_).take j).length = j := by rw [List.length_take, hML]; omega
        obtain ⟨m2', hm2⟩ : ∃ m2', ln - j = m2' := ⟨_, rfl⟩
        obtain ⟨A2, hd2, hr2, _⟩ := tail_ents lE hML hcc hjl hm2
        have hd1 := fun W => head_ents A ln c j (by omega) W
        have hlm : ((rs.map Rw.at_).drop j).length = m2' := by rw [List.length_drop, hML]; exact hm2
        have hjc : j ≤ c := Nat.le_trans hjl hcc
        have HLJ := Lib.hid hlj
        have HLM := Lib.hid hlm
        have HQ := Lib.hid (lE.take j)
        have HTL := Lib.hid hr2
        have HSB : Hid (∀ W, Below w5.heap.size w5 W → W.cell? ⟨b, 0, none⟩ = some (.slice A ln c) ∧ W.cell? ⟨w.heap.size, 0, none⟩ = some (.int .i64 m1) ∧ W.cell? ⟨w.heap.size, 1, none⟩ = some (.string m2) ∧ W.cell? ⟨w.heap.size, 2, none⟩ = some (.string m3)) := Lib.hid fun W k => ⟨(cell_of_heap (k.block _ hbz) _).trans p0, (cell_of_heap (k.block _ hxz) _).trans n0, (cell_of_heap (k.block _ hxz) _).trans n1, (cell_of_heap (k.block _ hxz) _).trans n2⟩
        clear hlj hlm lE hr2 hML n0 n1 n2 p0
        refine wp_region_noPanic ?_
        refine wp_region_K (k := 23) (S := (fun W : World => W.cell? ⟨b, 0, none⟩ = some (.slice A ln c) ∧ W.cell? ⟨w.heap.size, 0, none⟩ = some (.int .i64 m1) ∧ W.cell? ⟨w.heap.size, 1, none⟩ = some (.string m2) ∧ W.cell? ⟨w.heap.size, 2, none⟩ = some (.string m3))) (by kernel_rfl) ?_
        refine wpAnyK_takeW (i := 0) (oi := { dst := some 81, op := Op.move (Operand.tmp 0), type := 26, pos := "locks.go:352", after := #[], guard := none }) (v := (.pointer (some ⟨b, 0, none⟩))) rfl (by kernel_rfl) (by kernel_rfl) (by kernel_rfl) (fun _ _ _ h => h) (by decide) (HSB.out _ (Below.refl w5.heap.size w5).drew) (by rfl) ?_ ?_
        · intro W; go_simp
        try simp only [Act.put, List.setIfInBounds_toArray, List.set_cons_zero, List.set_cons_succ]
        refine wpAnyK_takeW (i := 1) (oi := { dst := some 82, op := Op.move (Operand.tmp 0), type := 26, pos := "locks.go:352", after := #[], guard := none }) (v := (.pointer (some ⟨b, 0, none⟩))) rfl (by kernel_rfl) (by kernel_rfl) (by kernel_rfl) (fun _ _ _ h => h) (by decide) (HSB.out _ (Below.refl w5.heap.size w5).drew) (by rfl) ?_ ?_
        · intro W; go_simp
        try simp only [Act.put, List.setIfInBounds_toArray, List.set_cons_zero, List.set_cons_succ]
        refine wpAnyK_takeW (i := 2) (oi := { dst := some 83, op := Op.nilCheck (Operand.tmp 82), type := 0, pos := "locks.go:352", after := #[{ on := 1, ground := Ground.data }], guard := none }) (v := (.pointer (some ⟨b, 0, none⟩))) rfl (by kernel_rfl) (by kernel_rfl) (by kernel_rfl) (fun _ _ _ h => h) (by decide) (HSB.out _ (Below.refl w5.heap.size w5).drew) (by rfl) ?_ ?_
        · intro W; go_simp
        try simp only [Act.put, List.setIfInBounds_toArray, List.set_cons_zero, List.set_cons_succ]
        refine wpAnyK_takeW (i := 3) (oi := { dst := some 84, op := Op.fieldAddr 29 (Operand.tmp 83) 0, type := 0, pos := "locks.go:352", after := #[{ on := 2, ground := Ground.data }], guard := none }) (v := (.pointer (some ⟨b, 0, none⟩))) rfl (by kernel_rfl) (by kernel_rfl) (by kernel_rfl) (fun _ _ _ h => h) (by decide) (HSB.out _ (Below.refl w5.heap.size w5).drew) (by rfl) ?_ ?_
        · intro W; go_simp
        try simp only [Act.put, List.setIfInBounds_toArray, List.set_cons_zero, List.set_cons_succ]
        refine wpAnyK_take (i := 4) (oi := { dst := some 85, op := Op.load 27 (Operand.tmp 84), type := 27, pos := "locks.go:352", after := #[{ on := 3, ground := Ground.data }], guard := none }) (v := (.slice A ln c)) rfl (by kernel_rfl) (by kernel_rfl) (by kernel_rfl) (by kernel_rfl) (by kernel_rfl) (fun _ _ _ h => h) (by decide) (HSB.out _ (Below.refl w5.heap.size w5).drew) (by rfl) ?_ ?_
        · intro W hSw; obtain ⟨s0, s1, s2, s3⟩ := hSw; go_simp
        try simp only [Act.put, List.setIfInBounds_toArray, List.set_cons_zero, List.set_cons_succ]
        refine wpAnyK_takeW (i := 5) (oi := { dst := some 86, op := Op.move (Operand.tmp 11), type := 3, pos := "locks.go:352", after := #[], guard := none }) (v := (.int .i64 (j : Int))) rfl (by kernel_rfl) (by kernel_rfl) (by kernel_rfl) (fun _ _ _ h => h) (by decide) (HSB.out _ (Below.refl w5.heap.size w5).drew) (by rfl) ?_ ?_
        · intro W; go_simp
        try simp only [Act.put, List.setIfInBounds_toArray, List.set_cons_zero, List.set_cons_succ]
        refine wpAnyK_takeW (i := 6) (oi := { dst := some 87, op := Op.slice 27 (Operand.tmp 85) none (some (Operand.tmp 86)) none, type := 27, pos := "locks.go:352", after := #[{ on := 4, ground := Ground.data }, { on := 5, ground := Ground.data }], guard := none }) (v := (.slice A j c)) rfl (by kernel_rfl) (by kernel_rfl) (by kernel_rfl) (fun _ _ _ h => h) (by decide) (HSB.out _ (Below.refl w5.heap.size w5).drew) (by rfl) ?_ ?_
        · intro W; go_simp
        try simp only [Act.put, List.setIfInBounds_toArray, List.set_cons_zero, List.set_cons_succ]
        refine wpAnyK_take (i := 8) (oi := { dst := some 89, op := Op.load 31 (Operand.tmp 6), type := 31, pos := "locks.go:352", after := #[], guard := none }) (v := (.agg #[.int .i64 m1, .string m2, .string m3])) rfl (by kernel_rfl) (by kernel_rfl) (by kernel_rfl) (by kernel_rfl) (by kernel_rfl) (fun _ _ _ h => h) (by decide) (HSB.out _ (Below.refl w5.heap.size w5).drew) (by rfl) ?_ ?_
        · intro W hSw; obtain ⟨s0, s1, s2, s3⟩ := hSw; go_simp
        try simp only [Act.put, List.setIfInBounds_toArray, List.set_cons_zero, List.set_cons_succ]
        refine wpAnyK_takeW (i := 9) (oi := { dst := some 90, op := Op.build 73 #[], type := 73, pos := "locks.go:352", after := #[], guard := none }) (v := (.agg #[.slice none 0 0, .slice none 0 0])) rfl (by kernel_rfl) (by kernel_rfl) (by kernel_rfl) (fun _ _ _ h => h) (by decide) (HSB.out _ (Below.refl w5.heap.size w5).drew) (by rfl) ?_ ?_
        · intro W; go_simp
        try simp only [Act.put, List.setIfInBounds_toArray, List.set_cons_zero, List.set_cons_succ]
        refine wpAnyK_takeW (i := 14) (oi := { dst := some 95, op := Op.move (Operand.tmp 0), type := 26, pos := "locks.go:352", after := #[], guard := none }) (v := (.pointer (some ⟨b, 0, none⟩))) rfl (by kernel_rfl) (by kernel_rfl) (by kernel_rfl) (fun _ _ _ h => h) (by decide) (HSB.out _ (Below.refl w5.heap.size w5).drew) (by rfl) ?_ ?_
        · intro W; go_simp
        try simp only [Act.put, List.setIfInBounds_toArray, List.set_cons_zero, List.set_cons_succ]
        refine wpAnyK_takeW (i := 15) (oi := { dst := some 96, op := Op.nilCheck (Operand.tmp 95), type := 0, pos := "locks.go:352", after := #[{ on := 14, ground := Ground.data }], guard := none }) (v := (.pointer (some ⟨b, 0, none⟩))) rfl (by kernel_rfl) (by kernel_rfl) (by kernel_rfl) (fun _ _ _ h => h) (by decide) (HSB.out _ (Below.refl w5.heap.size w5).drew) (by rfl) ?_ ?_
        · intro W; go_simp
        try simp only [Act.put, List.setIfInBounds_toArray, List.set_cons_zero, List.set_cons_succ]
        refine wpAnyK_takeW (i := 16) (oi := { dst := some 97, op := Op.fieldAddr 29 (Operand.tmp 96) 0, type := 0, pos := "locks.go:352", after := #[{ on := 15, ground := Ground.data }], guard := none }) (v := (.pointer (some ⟨b, 0, none⟩))) rfl (by kernel_rfl) (by kernel_rfl) (by kernel_rfl) (fun _ _ _ h => h) (by decide) (HSB.out _ (Below.refl w5.heap.size w5).drew) (by rfl) ?_ ?_
        · intro W; go_simp
        try simp only [Act.put, List.setIfInBounds_toArray, List.set_cons_zero, List.set_cons_succ]
        refine wpAnyK_take (i := 17) (oi := { dst := some 98, op := Op.load 27 (Operand.tmp 97), type := 27, pos := "locks.go:352", after := #[{ on := 16, ground := Ground.data }], guard := none }) (v := (.slice A ln c)) rfl (by kernel_rfl) (by kernel_rfl) (by kernel_rfl) (by kernel_rfl) (by kernel_rfl) (fun _ _ _ h => h) (by decide) (HSB.out _ (Below.refl w5.heap.size w5).drew) (by rfl) ?_ ?_
        · intro W hSw; obtain ⟨s0, s1, s2, s3⟩ := hSw; go_simp
        try simp only [Act.put, List.setIfInBounds_toArray, List.set_cons_zero, List.set_cons_succ]
        refine wpAnyK_takeW (i := 18) (oi := { dst := some 99, op := Op.move (Operand.tmp 11), type := 3, pos := "locks.go:352", after := #[], guard := none }) (v := (.int .i64 (j : Int))) rfl (by kernel_rfl) (by kernel_rfl) (by kernel_rfl) (fun _ _ _ h => h) (by decide) (HSB.out _ (Below.refl w5.heap.size w5).drew) (by rfl) ?_ ?_
        · intro W; go_simp
        try simp only [Act.put, List.setIfInBounds_toArray, List.set_cons_zero, List.set_cons_succ]
        refine wpAnyK_takeW (i := 19) (oi := { dst := some 100, op := Op.slice 27 (Operand.tmp 98) (some (Operand.tmp 99)) none none, type := 27, pos := "locks.go:352", after := #[{ on := 17, ground := Ground.data }, { on := 18, ground := Ground.data }], guard := none }) (v := (.slice A2 m2' (c - j))) rfl (by kernel_rfl) (by kernel_rfl) (by kernel_rfl) (fun _ _ _ h => h) (by decide) (HSB.out _ (Below.refl w5.heap.size w5).drew) (by rfl) ?_ ?_
        · intro W; go_simp
        try simp only [Act.put, List.setIfInBounds_toArray, List.set_cons_zero, List.set_cons_succ]
        refine wpAnyK_two (i := 7) (j := 10) (oi := { dst := some 88, op := Op.call { callee := Callee.builtin Builtin.append, args := #[Operand.const (Value.slice none 0 0), Operand.tmp 87], argTypes := #[27, 27] }, type := 27, pos := "locks.go:352", after := #[{ on := 6, ground := Ground.data }], guard := none }) (oj := { dst := some 91, op := Op.box 73 (Operand.tmp 90), type := 74, pos := "locks.go:352", after := #[{ on := 9, ground := Ground.data }], guard := none }) (E := True) (F := True) (by kernel_rfl) rfl (by rfl) rfl (by rfl) ?_ ?_
        · refine step_append_own (v := .slice none 0 0) (ys := []) tyN rfl (.const (.slice none 0 0)) (.tmp 87) rfl rfl (own_nil w5.drew w5.heap.size) rfl (HQ.out.below (Below.refl w5.heap.size w5).drew) HLJ.out (by show 0 + j ≤ 1000000; omega) (Below.refl w5.heap.size w5).size ?_
          intro v5 W5 ho5 hg5
          rw [List.nil_append] at ho5
          have HO5 := Lib.hid ho5
          have HB5 : Hid (Below w5.heap.size w5 W5) := (Below.refl w5.heap.size w5).drew.trans ((Below.refl _ _).grown hg5 (Below.refl w5.heap.size w5).size (fun q hq => by simp [Value.ownBlock] at hq))
          have HG5 : Hid (Below w5.heap.size w5 W5) := (Below.refl _ _).drew.trans ((Below.refl _ _).grown hg5 (Nat.le_refl _) (fun q hq => by simp [Value.ownBlock] at hq))
          clear ho5 hg5
          refine ⟨fun _ _ => HSB.out _ HB5.out, ?_⟩
          try simp only [Act.put, List.setIfInBounds_toArray, List.set_cons_zero, List.set_cons_succ]
          refine wpAnyK_one (i := 10) (o := { dst := some 91, op := Op.box 73 (Operand.tmp 90), type := 74, pos := "locks.go:352", after := #[{ on := 9, ground := Ground.data }], guard := none }) (v := (.pointer (some ⟨W5.heap.size, 0, none⟩))) (w' := W5.alloc (.cells #[.slice none 0 0, .slice none 0 0] 73)) (by kernel_rfl) rfl (by rfl) (by first | (go_simp; done) | (go_simp; rfl)) (HSB.out _ (HB5.out.trans ((alloc_below W5 (.cells #[.slice none 0 0, .slice none 0 0] 73)).mono HB5.out.size))) ?_
          try simp only [Act.put, List.setIfInBounds_toArray, List.set_cons_zero, List.set_cons_succ]
          refine wpAnyK_takeW (i := 11) (oi := { dst := some 92, op := Op.build 76 #[(0, Operand.tmp 89), (1, Operand.tmp 91)], type := 76, pos := "locks.go:352", after := #[{ on := 8, ground := Ground.data }, { on := 10, ground := Ground.data }], guard := none }) (v := (.agg #[.int .i64 m1, .string m2, .string m3, .pointer (some ⟨W5.heap.size, 0, none⟩)])) rfl (by kernel_rfl) (by kernel_rfl) (by kernel_rfl) (fun _ _ _ h => h) (by decide) (HSB.out _ (HB5.out.trans ((alloc_below W5 (.cells #[.slice none 0 0, .slice none 0 0] 73)).mono HB5.out.size))) (by rfl) ?_ ?_
          · intro W; go_simp
          try simp only [Act.put, List.setIfInBounds_toArray, List.set_cons_zero, List.set_cons_succ]
          refine wpAnyK_one (i := 12) (o := { dst := some 93, op := Op.buildSlice 27 1 #[(0, Operand.tmp 92)], type := 27, pos := "locks.go:352", after := #[{ on := 11, ground := Ground.data }], guard := none }) (v := (.slice (some ⟨W5.heap.size + 1, 0, none⟩) 1 1)) (w' := ((W5.alloc (.cells #[.slice none 0 0, .slice none 0 0] 73)).alloc (.cells #[.int .i64 m1, .string m2, .string m3, .pointer (some ⟨W5.heap.size, 0, none⟩)] 76))) (by kernel_rfl) rfl (by rfl) (by first | (go_simp; done) | (go_simp; rfl)) (HSB.out _ (HB5.out.trans ((below2 W5 (.cells #[.slice none 0 0, .slice none 0 0] 73) (.cells #[.int .i64 m1, .string m2, .string m3, .pointer (some ⟨W5.heap.size, 0, none⟩)] 76)).mono HB5.out.size))) ?_
          try simp only [Act.put, List.setIfInBounds_toArray, List.set_cons_zero, List.set_cons_succ]
          refine wpAnyK_step (i := 13) (o := { dst := some 94, op := Op.call { callee := Callee.builtin Builtin.append, args := #[Operand.tmp 88, Operand.tmp 93], argTypes := #[27, 27] }, type := 27, pos := "locks.go:352", after := #[{ on := 7, ground := Ground.data }, { on := 12, ground := Ground.data }, { on := 7, ground := Ground.chain }], guard := none }) (E := True) (by kernel_rfl) rfl (by rfl) ?_
          refine step_append_own tyN rfl (.tmp 88) (.tmp 93) rfl rfl (own_belowE HO5.out (below2 W5 (.cells #[.slice none 0 0, .slice none 0 0] 73) (.cells #[.int .i64 m1, .string m2, .string m3, .pointer (some ⟨W5.heap.size, 0, none⟩)] 76))) rfl (ent_two W5 (.cells #[.slice none 0 0, .slice none 0 0] 73) (m1, m2, m3) W5.heap.size) rfl (by show _ + 1 ≤ 1000000; rw [HLJ.out]; omega) (Nat.le_trans HB5.out.size (below2 W5 (.cells #[.slice none 0 0, .slice none 0 0] 73) (.cells #[.int .i64 m1, .string m2, .string m3, .pointer (some ⟨W5.heap.size, 0, none⟩)] 76)).size) ?_
          intro v6 W6 ho6 hg6
          have HO6 := Lib.hid ho6
          have HB6 : Hid (Below w5.heap.size w5 W6) := (HB5.out.trans ((below2 W5 (.cells #[.slice none 0 0, .slice none 0 0] 73) (.cells #[.int .i64 m1, .string m2, .string m3, .pointer (some ⟨W5.heap.size, 0, none⟩)] 76)).mono HB5.out.size)).trans (grown_own (own_belowE HO5.out (below2 W5 (.cells #[.slice none 0 0, .slice none 0 0] 73) (.cells #[.int .i64 m1, .string m2, .string m3, .pointer (some ⟨W5.heap.size, 0, none⟩)] 76))) hg6 (Nat.le_trans HB5.out.size (below2 W5 (.cells #[.slice none 0 0, .slice none 0 0] 73) (.cells #[.int .i64 m1, .string m2, .string m3, .pointer (some ⟨W5.heap.size, 0, none⟩)] 76)).size))
          have HQ6 := Lib.hid (blk_grown ((Blk.new W5 73 _).alloc _) (own_belowE HO5.out (below2 W5 (.cells #[.slice none 0 0, .slice none 0 0] 73) (.cells #[.int .i64 m1, .string m2, .string m3, .pointer (some ⟨W5.heap.size, 0, none⟩)] 76))) hg6)
          have hqz : w5.heap.size ≤ W5.heap.size := HB5.out.size
          clear ho6 hg6
          refine ⟨fun _ _ => HSB.out _ HB6.out, ?_⟩
          try simp only [Act.put, List.setIfInBounds_toArray, List.set_cons_zero, List.set_cons_succ]
          refine wpAnyK_step (i := 20) (o := { dst := some 101, op := Op.call { callee := Callee.builtin Builtin.append, args := #[Operand.tmp 94, Operand.tmp 100], argTypes := #[27, 27] }, type := 27, pos := "locks.go:352", after := #[{ on := 13, ground := Ground.data }, { on := 19, ground := Ground.data }, { on := 13, ground := Ground.chain }], guard := none }) (E := True) (by kernel_rfl) rfl (by rfl) ?_
          refine step_append_own tyN rfl (.tmp 94) (.tmp 100) rfl rfl HO6.out rfl (HTL.out.below HB6.out) HLM.out (by show _ + m2' ≤ 1000000; rw [List.length_append, HLJ.out]; show j + 1 + m2' ≤ 1000000; omega) HB6.out.size ?_
          intro v7 W7 ho7 hg7
          obtain ⟨A7, n7, c7, e7⟩ := own_form ho7
          subst e7
          have HO7 := Lib.hid ho7
          have HB7 : Hid (Below w5.heap.size w5 W7) := HB6.out.trans (grown_own HO6.out hg7 HB6.out.size)
          have HQ7 := Lib.hid (blk_grown HQ6.out HO6.out hg7)
          have qW7 : W7.cell? ⟨b, 0, none⟩ = some (.slice A ln c) := (HSB.out _ HB7.out).1
          have sW7 : b < W7.heap.size := Nat.lt_of_lt_of_le hbz HB7.out.size
          have fW7 := Blk.frozen ((HZ1.out.below HB7.out).blk) 0
          clear ho7 hg7
          refine ⟨fun _ _ => HSB.out _ HB7.out, ?_⟩
          try simp only [Act.put, List.setIfInBounds_toArray, List.set_cons_zero, List.set_cons_succ]
          refine wpAnyK_takeW (i := 21) (oi := { dst := some 102, op := Op.nilCheck (Operand.tmp 81), type := 0, pos := "locks.go:352", after := #[{ on := 0, ground := Ground.data }, { on := 0, ground := Ground.phase }, { on := 1, ground := Ground.phase }, { on := 2, ground := Ground.phase }, { on := 3, ground := Ground.phase }, { on := 4, ground := Ground.phase }, { on := 5, ground := Ground.phase }, { on := 6, ground := Ground.phase }, { on := 7, ground := Ground.phase }, { on := 8, ground := Ground.phase }, { on := 9, ground := Ground.phase }, { on := 10, ground := Ground.phase }, { on := 11, ground := Ground.phase }, { on := 12, ground := Ground.phase }, { on := 13, ground := Ground.phase }, { on := 14, ground := Ground.phase }, { on := 15, ground := Ground.phase }, { on := 16, ground := Ground.phase }, { on := 17, ground := Ground.phase }, { on := 18, ground := Ground.phase }, { on := 19, ground := Ground.phase }, { on := 20, ground := Ground.phase }], guard := none }) (v := (.pointer (some ⟨b, 0, none⟩))) rfl (by kernel_rfl) (by kernel_rfl) (by kernel_rfl) (fun _ _ _ h => h) (by decide) (HSB.out _ HB7.out) (by rfl) ?_ ?_
          · intro W; go_simp
          try simp only [Act.put, List.setIfInBounds_toArray, List.set_cons_zero, List.set_cons_succ]
          refine wpAnyK_takeW (i := 22) (oi := { dst := some 103, op := Op.fieldAddr 29 (Operand.tmp 102) 0, type := 0, pos := "locks.go:352", after := #[{ on := 21, ground := Ground.data }, { on := 0, ground := Ground.phase }, { on := 1, ground := Ground.phase }, { on := 2, ground := Ground.phase }, { on := 3, ground := Ground.phase }, { on := 4, ground := Ground.phase }, { on := 5, ground := Ground.phase }, { on := 6, ground := Ground.phase }, { on := 7, ground := Ground.phase }, { on := 8, ground := Ground.phase }, { on := 9, ground := Ground.phase }, { on := 10, ground := Ground.phase }, { on := 11, ground := Ground.phase }, { on := 12, ground := Ground.phase }, { on := 13, ground := Ground.phase }, { on := 14, ground := Ground.phase }, { on := 15, ground := Ground.phase }, { on := 16, ground := Ground.phase }, { on := 17, ground := Ground.phase }, { on := 18, ground := Ground.phase }, { on := 19, ground := Ground.phase }, { on := 20, ground := Ground.phase }], guard := none }) (v := (.pointer (some ⟨b, 0, none⟩))) rfl (by kernel_rfl) (by kernel_rfl) (by kernel_rfl) (fun _ _ _ h => h) (by decide) (HSB.out _ HB7.out) (by rfl) ?_ ?_
          · intro W; go_simp
          try simp only [Act.put, List.setIfInBounds_toArray, List.set_cons_zero, List.set_cons_succ]
          refine wpAnyK_store (i := 23) (o := { dst := none, op := Op.store 27 (Operand.tmp 103) (Operand.tmp 101), type := 0, pos := "locks.go:352", after := #[{ on := 22, ground := Ground.data }, { on := 20, ground := Ground.data }, { on := 20, ground := Ground.chain }, { on := 0, ground := Ground.phase }, { on := 1, ground := Ground.phase }, { on := 2, ground := Ground.phase }, { on := 3, ground := Ground.phase }, { on := 4, ground := Ground.phase }, { on := 5, ground := Ground.phase }, { on := 6, ground := Ground.phase }, { on := 7, ground := Ground.phase }, { on := 8, ground := Ground.phase }, { on := 9, ground := Ground.phase }, { on := 10, ground := Ground.phase }, { on := 11, ground := Ground.phase }, { on := 12, ground := Ground.phase }, { on := 13, ground := Ground.phase }, { on := 14, ground := Ground.phase }, { on := 15, ground := Ground.phase }, { on := 16, ground := Ground.phase }, { on := 17, ground := Ground.phase }, { on := 18, ground := Ground.phase }, { on := 19, ground := Ground.phase }, { on := 20, ground := Ground.phase }], guard := none }) (w' := W7.setCell ⟨b, 0, none⟩ (.slice A7 n7 c7)) (by kernel_rfl) rfl (by rfl) (by first | (go_simp; done) | (go_simp; rfl)) (by kernel_rfl) ?_
          try simp only [Act.put]
          refine wpAnyK_done (by kernel_rfl) ?_ _
          refine NoPanic.normal ?_
          have hb8 := HX7.out.trans (HBE.out.mono HX7.out.size)
          have hins := TB0.insert (n := (m1, m2, m3)) (pre := rs.take j) (post := rs.drop j) (by rw [List.take_append_drop]; exact HZ1.out) HB7.out (Nat.le_trans hbase hb8.size) (by rw [List.map_take, List.map_drop]; exact HO7.out) HQ7.out hqz
          have I1 := Lib.hid hins.1
          have I2 := Lib.hid ((Keep.of_below hb8).trans (Keep.mono hins.2 fun _ _ _ h => h))
          have hn7 : j < n7 := by
            obtain ⟨A8, c8, e8, _⟩ := own_lst HO7.out
            injection e8 with _ e9 _
            rw [e9, List.length_append, List.length_append, HLJ.out]
            simp only [List.length_singleton]
            omega
          have hjr : j ≤ rs.length := by rw [HLN.out]; exact hjl
          have hj2 : ∀ q, j < (rs.take j ++ newRw (m1, m2, m3) q :: rs.drop j).length := fun q => by
            rw [List.length_append, List.length_cons, List.length_take]
            omega
          have q0 := I1.out.blk.cell 0
          have hbs9 := I1.out.blk.lt
          obtain ⟨g9, o9, hA9, -, -, -, d9⟩ := I1.out.row (Below.refl _ _) (hj2 _)
          have hone := TB0.one_at I1.out (hj2 _)
          rw [new_at hjr (hj2 _)] at d9 hone
          subst hA9
          have hra := rask_ hone (Nat.le_trans hbase (Nat.le_trans hb8.size (Nat.le_trans HB7.out.size (by simp [World.setCell])))) HOKN.out (by simp [newRw]) (by simp [newRw]) who mode
          have HRA := Lib.hid hra
          have HHJ := Lib.hid hj2
          have HJR := Lib.hid hjr
          unfold newRw at d9
          simp only at d9
          clear hins hb8 hone hra hj2 qW7 sW7 fW7 hd1 hd2
          go_wp2_with fail
          refine HRA.out.mono ?_
          rintro e w9 ⟨rfl, hl9, hk9⟩
          obtain ⟨rs', e2, h9⟩ := TB0.turn_at I1.out (HHJ.out _) (by rw [new_at HJR.out (HHJ.out _)]; exact hl9) (by rw [new_at HJR.out (HHJ.out _)]; exact hk9)
          have hk9' := TB0.keep_at I1.out (HHJ.out _) (by rw [new_at HJR.out (HHJ.out _)]; exact hk9)
          rw [new_at HJR.out (HHJ.out _)] at e2
          have e3 : rs'.map Rw.ent = putN s (m1, m2, m3) (askP ([], []) who (mdN mode)).2 := by
            rw [e2]
            refine (new_set HJR.out).trans ?_
            unfold putN
            rw [HA.out, if_neg (by simp), HSP.out, ← HE.out]
            rfl
          have T1 := Lib.hid (show TB base b (putN s (m1, m2, m3) (askP ([], []) who (mdN mode)).2) w9 from ⟨_, rs', h9, e3⟩)
          have T2 := Lib.hid (I2.out.trans (Keep.mono hk9' fun _ _ _ h => h))
          have hza : (askP (newRw (m1, m2, m3) 0).l who (mdN mode)).1 = (askP ([], []) who (mdN mode)).1 := rfl
          clear hl9 hk9 h9 hk9' e2 e3 HRA
          generalize (askP ([], []) who (mdN mode)).2 = zb at *
          obtain ⟨za, hzb⟩ : ∃ za, (askP ([], []) who (mdN mode)).1 = za := ⟨_, rfl⟩
          have hzc : ∀ q, (askP (newRw (m1, m2, m3) q).l who (mdN mode)).1 = za := fun _ => hzb
          rw [hzc]
          have HZB := Lib.hid hzb
          clear hza hzb hzc
          cases za
          · go_wp2_with fail
            go_ret
            rw [HASK.out, HZB.out]
            exact ⟨rfl, T1.out, T2.out⟩
          · go_wp2_with fail
            go_ret
            rw [HASK.out, HZB.out]
            exact ⟨rfl, T1.out, T2.out⟩
        · refine if_exec (by rfl) (v := (.pointer (some ⟨w5.heap.size, 0, none⟩))) (w' := (w5.alloc (.cells #[.slice none 0 0, .slice none 0 0] 73)).drew) (by first | (go_simp; done) | (go_simp; rfl)) ?_
          refine ⟨fun _ _ => HSB.out _ (alloc_below w5 (.cells #[.slice none 0 0, .slice none 0 0] 73)).drew, ?_⟩
          try simp only [Act.put, List.setIfInBounds_toArray, List.set_cons_zero, List.set_cons_succ]
          refine wpAnyK_takeW (i := 11) (oi := { dst := some 92, op := Op.build 76 #[(0, Operand.tmp 89), (1, Operand.tmp 91)], type := 76, pos := "locks.go:352", after := #[{ on := 8, ground := Ground.data }, { on := 10, ground := Ground.data }], guard := none }) (v := (.agg #[.int .i64 m1, .string m2, .string m3, .pointer (some ⟨w5.heap.size, 0, none⟩)])) rfl (by kernel_rfl) (by kernel_rfl) (by kernel_rfl) (fun _ _ _ h => h) (by decide) (HSB.out _ (alloc_below w5 (.cells #[.slice none 0 0, .slice none 0 0] 73)).drew) (by rfl) ?_ ?_
          · intro W; go_simp
          try simp only [Act.put, List.setIfInBounds_toArray, List.set_cons_zero, List.set_cons_succ]
          refine wpAnyK_two (i := 7) (j := 12) (oi := { dst := some 88, op := Op.call { callee := Callee.builtin Builtin.append, args := #[Operand.const (Value.slice none 0 0), Operand.tmp 87], argTypes := #[27, 27] }, type := 27, pos := "locks.go:352", after := #[{ on := 6, ground := Ground.data }], guard := none }) (oj := { dst := some 93, op := Op.buildSlice 27 1 #[(0, Operand.tmp 92)], type := 27, pos := "locks.go:352", after := #[{ on := 11, ground := Ground.data }], guard := none }) (E := True) (F := True) (by kernel_rfl) rfl (by rfl) rfl (by rfl) ?_ ?_
          · refine step_append_own (v := .slice none 0 0) (ys := []) tyN rfl (.const (.slice none 0 0)) (.tmp 87) rfl rfl (own_nil (w5.alloc (.cells #[.slice none 0 0, .slice none 0 0] 73)).drew w5.heap.size) rfl (HQ.out.below (alloc_below w5 (.cells #[.slice none 0 0, .slice none 0 0] 73)).drew) HLJ.out (by show 0 + j ≤ 1000000; omega) (alloc_below w5 (.cells #[.slice none 0 0, .slice none 0 0] 73)).size ?_
            intro v5 W5 ho5 hg5
            rw [List.nil_append] at ho5
            have HO5 := Lib.hid ho5
            have HB5 : Hid (Below w5.heap.size w5 W5) := (alloc_below w5 (.cells #[.slice none 0 0, .slice none 0 0] 73)).drew.trans ((Below.refl _ _).grown hg5 (alloc_below w5 (.cells #[.slice none 0 0, .slice none 0 0] 73)).size (fun q hq => by simp [Value.ownBlock] at hq))
            have HG5 : Hid (Below (w5.alloc (.cells #[.slice none 0 0, .slice none 0 0] 73)).heap.size (w5.alloc (.cells #[.slice none 0 0, .slice none 0 0] 73)) W5) := (Below.refl _ _).drew.trans ((Below.refl _ _).grown hg5 (Nat.le_refl _) (fun q hq => by simp [Value.ownBlock] at hq))
            have HQ5 := Lib.hid ((Blk.new w5 73 _).below HG5.out (by simp))
            clear ho5 hg5
            refine ⟨fun _ _ => HSB.out _ HB5.out, ?_⟩
            try simp only [Act.put, List.setIfInBounds_toArray, List.set_cons_zero, List.set_cons_succ]
            refine wpAnyK_one (i := 12) (o := { dst := some 93, op := Op.buildSlice 27 1 #[(0, Operand.tmp 92)], type := 27, pos := "locks.go:352", after := #[{ on := 11, ground := Ground.data }], guard := none }) (v := (.slice (some ⟨W5.heap.size, 0, none⟩) 1 1)) (w' := (W5.alloc (.cells #[.int .i64 m1, .string m2, .string m3, .pointer (some ⟨w5.heap.size, 0, none⟩)] 76))) (by kernel_rfl) rfl (by rfl) (by first | (go_simp; done) | (go_simp; rfl)) (HSB.out _ (HB5.out.trans ((alloc_below W5 (.cells #[.int .i64 m1, .string m2, .string m3, .pointer (some ⟨w5.heap.size, 0, none⟩)] 76)).mono HB5.out.size))) ?_
            try simp only [Act.put, List.setIfInBounds_toArray, List.set_cons_zero, List.set_cons_succ]
            refine wpAnyK_step (i := 13) (o := { dst := some 94, op := Op.call { callee := Callee.builtin Builtin.append, args := #[Operand.tmp 88, Operand.tmp 93], argTypes := #[27, 27] }, type := 27, pos := "locks.go:352", after := #[{ on := 7, ground := Ground.data }, { on := 12, ground := Ground.data }, { on := 7, ground := Ground.chain }], guard := none }) (E := True) (by kernel_rfl) rfl (by rfl) ?_
            refine step_append_own tyN rfl (.tmp 88) (.tmp 93) rfl rfl (own_belowE HO5.out (alloc_below W5 (.cells #[.int .i64 m1, .string m2, .string m3, .pointer (some ⟨w5.heap.size, 0, none⟩)] 76))) rfl (ent_one W5 (m1, m2, m3) w5.heap.size) rfl (by show _ + 1 ≤ 1000000; rw [HLJ.out]; omega) (Nat.le_trans HB5.out.size (alloc_below W5 (.cells #[.int .i64 m1, .string m2, .string m3, .pointer (some ⟨w5.heap.size, 0, none⟩)] 76)).size) ?_
            intro v6 W6 ho6 hg6
            have HO6 := Lib.hid ho6
            have HB6 : Hid (Below w5.heap.size w5 W6) := (HB5.out.trans ((alloc_below W5 (.cells #[.int .i64 m1, .string m2, .string m3, .pointer (some ⟨w5.heap.size, 0, none⟩)] 76)).mono HB5.out.size)).trans (grown_own (own_belowE HO5.out (alloc_below W5 (.cells #[.int .i64 m1, .string m2, .string m3, .pointer (some ⟨w5.heap.size, 0, none⟩)] 76))) hg6 (Nat.le_trans HB5.out.size (alloc_below W5 (.cells #[.int .i64 m1, .string m2, .string m3, .pointer (some ⟨w5.heap.size, 0, none⟩)] 76)).size))
            have HQ6 := Lib.hid (blk_grown (HQ5.out.alloc _) (own_belowE HO5.out (alloc_below W5 (.cells #[.int .i64 m1, .string m2, .string m3, .pointer (some ⟨w5.heap.size, 0, none⟩)] 76))) hg6)
            have hqz : w5.heap.size ≤ w5.heap.size := Nat.le_refl _
            clear ho6 hg6
            refine ⟨fun _ _ => HSB.out _ HB6.out, ?_⟩
            try simp only [Act.put, List.setIfInBounds_toArray, List.set_cons_zero, List.set_cons_succ]
            refine wpAnyK_step (i := 20) (o := { dst := some 101, op := Op.call { callee := Callee.builtin Builtin.append, args := #[Operand.tmp 94, Operand.tmp 100], argTypes := #[27, 27] }, type := 27, pos := "locks.go:352", after := #[{ on := 13, ground := Ground.data }, { on := 19, ground := Ground.data }, { on := 13, ground := Ground.chain }], guard := none }) (E := True) (by kernel_rfl) rfl (by rfl) ?_
            refine step_append_own tyN rfl (.tmp 94) (.tmp 100) rfl rfl HO6.out rfl (HTL.out.below HB6.out) HLM.out (by show _ + m2' ≤ 1000000; rw [List.length_append, HLJ.out]; show j + 1 + m2' ≤ 1000000; omega) HB6.out.size ?_
            intro v7 W7 ho7 hg7
            obtain ⟨A7, n7, c7, e7⟩ := own_form ho7
            subst e7
            have HO7 := Lib.hid ho7
            have HB7 : Hid (Below w5.heap.size w5 W7) := HB6.out.trans (grown_own HO6.out hg7 HB6.out.size)
            have HQ7 := Lib.hid (blk_grown HQ6.out HO6.out hg7)
            have qW7 : W7.cell? ⟨b, 0, none⟩ = some (.slice A ln c) := (HSB.out _ HB7.out).1
            have sW7 : b < W7.heap.size := Nat.lt_of_lt_of_le hbz HB7.out.size
            have fW7 := Blk.frozen ((HZ1.out.below HB7.out).blk) 0
            clear ho7 hg7
            refine ⟨fun _ _ => HSB.out _ HB7.out, ?_⟩
            try simp only [Act.put, List.setIfInBounds_toArray, List.set_cons_zero, List.set_cons_succ]
            refine wpAnyK_takeW (i := 21) (oi := { dst := some 102, op := Op.nilCheck (Operand.tmp 81), type := 0, pos := "locks.go:352", after := #[{ on := 0, ground := Ground.data }, { on := 0, ground := Ground.phase }, { on := 1, ground := Ground.phase }, { on := 2, ground := Ground.phase }, { on := 3, ground := Ground.phase }, { on := 4, ground := Ground.phase }, { on := 5, ground := Ground.phase }, { on := 6, ground := Ground.phase }, { on := 7, ground := Ground.phase }, { on := 8, ground := Ground.phase }, { on := 9, ground := Ground.phase }, { on := 10, ground := Ground.phase }, { on := 11, ground := Ground.phase }, { on := 12, ground := Ground.phase }, { on := 13, ground := Ground.phase }, { on := 14, ground := Ground.phase }, { on := 15, ground := Ground.phase }, { on := 16, ground := Ground.phase }, { on := 17, ground := Ground.phase }, { on := 18, ground := Ground.phase }, { on := 19, ground := Ground.phase }, { on := 20, ground := Ground.phase }], guard := none }) (v := (.pointer (some ⟨b, 0, none⟩))) rfl (by kernel_rfl) (by kernel_rfl) (by kernel_rfl) (fun _ _ _ h => h) (by decide) (HSB.out _ HB7.out) (by rfl) ?_ ?_
            · intro W; go_simp
            try simp only [Act.put, List.setIfInBounds_toArray, List.set_cons_zero, List.set_cons_succ]
            refine wpAnyK_takeW (i := 22) (oi := { dst := some 103, op := Op.fieldAddr 29 (Operand.tmp 102) 0, type := 0, pos := "locks.go:352", after := #[{ on := 21, ground := Ground.data }, { on := 0, ground := Ground.phase }, { on := 1, ground := Ground.phase }, { on := 2, ground := Ground.phase }, { on := 3, ground := Ground.phase }, { on := 4, ground := Ground.phase }, { on := 5, ground := Ground.phase }, { on := 6, ground := Ground.phase }, { on := 7, ground := Ground.phase }, { on := 8, ground := Ground.phase }, { on := 9, ground := Ground.phase }, { on := 10, ground := Ground.phase }, { on := 11, ground := Ground.phase }, { on := 12, ground := Ground.phase }, { on := 13, ground := Ground.phase }, { on := 14, ground := Ground.phase }, { on := 15, ground := Ground.phase }, { on := 16, ground := Ground.phase }, { on := 17, ground := Ground.phase }, { on := 18, ground := Ground.phase }, { on := 19, ground := Ground.phase }, { on := 20, ground := Ground.phase }], guard := none }) (v := (.pointer (some ⟨b, 0, none⟩))) rfl (by kernel_rfl) (by kernel_rfl) (by kernel_rfl) (fun _ _ _ h => h) (by decide) (HSB.out _ HB7.out) (by rfl) ?_ ?_
            · intro W; go_simp
            try simp only [Act.put, List.setIfInBounds_toArray, List.set_cons_zero, List.set_cons_succ]
            refine wpAnyK_store (i := 23) (o := { dst := none, op := Op.store 27 (Operand.tmp 103) (Operand.tmp 101), type := 0, pos := "locks.go:352", after := #[{ on := 22, ground := Ground.data }, { on := 20, ground := Ground.data }, { on := 20, ground := Ground.chain }, { on := 0, ground := Ground.phase }, { on := 1, ground := Ground.phase }, { on := 2, ground := Ground.phase }, { on := 3, ground := Ground.phase }, { on := 4, ground := Ground.phase }, { on := 5, ground := Ground.phase }, { on := 6, ground := Ground.phase }, { on := 7, ground := Ground.phase }, { on := 8, ground := Ground.phase }, { on := 9, ground := Ground.phase }, { on := 10, ground := Ground.phase }, { on := 11, ground := Ground.phase }, { on := 12, ground := Ground.phase }, { on := 13, ground := Ground.phase }, { on := 14, ground := Ground.phase }, { on := 15, ground := Ground.phase }, { on := 16, ground := Ground.phase }, { on := 17, ground := Ground.phase }, { on := 18, ground := Ground.phase }, { on := 19, ground := Ground.phase }, { on := 20, ground := Ground.phase }], guard := none }) (w' := W7.setCell ⟨b, 0, none⟩ (.slice A7 n7 c7)) (by kernel_rfl) rfl (by rfl) (by first | (go_simp; done) | (go_simp; rfl)) (by kernel_rfl) ?_
            try simp only [Act.put]
            refine wpAnyK_done (by kernel_rfl) ?_ _
            refine NoPanic.normal ?_
            have hb8 := HX7.out.trans (HBE.out.mono HX7.out.size)
            have hins := TB0.insert (n := (m1, m2, m3)) (pre := rs.take j) (post := rs.drop j) (by rw [List.take_append_drop]; exact HZ1.out) HB7.out (Nat.le_trans hbase hb8.size) (by rw [List.map_take, List.map_drop]; exact HO7.out) HQ7.out hqz
            have I1 := Lib.hid hins.1
            have I2 := Lib.hid ((Keep.of_below hb8).trans (Keep.mono hins.2 fun _ _ _ h => h))
            have hn7 : j < n7 := by
              obtain ⟨A8, c8, e8, _⟩ := own_lst HO7.out
              injection e8 with _ e9 _
              rw [e9, List.length_append, List.length_append, HLJ.out]
              simp only [List.length_singleton]
              omega
            have hjr : j ≤ rs.length := by rw [HLN.out]; exact hjl
            have hj2 : ∀ q, j < (rs.take j ++ newRw (m1, m2, m3) q :: rs.drop j).length := fun q => by
              rw [List.length_append, List.length_cons, List.length_take]
              omega
            have q0 := I1.out.blk.cell 0
            have hbs9 := I1.out.blk.lt
            obtain ⟨g9, o9, hA9, -, -, -, d9⟩ := I1.out.row (Below.refl _ _) (hj2 _)
            have hone := TB0.one_at I1.out (hj2 _)
            rw [new_at hjr (hj2 _)] at d9 hone
            subst hA9
            have hra := rask_ hone (Nat.le_trans hbase (Nat.le_trans hb8.size (Nat.le_trans HB7.out.size (by simp [World.setCell])))) HOKN.out (by simp [newRw]) (by simp [newRw]) who mode
            have HRA := Lib.hid hra
            have HHJ := Lib.hid hj2
            have HJR := Lib.hid hjr
            unfold newRw at d9
            simp only at d9
            clear hins hb8 hone hra hj2 qW7 sW7 fW7 hd1 hd2
            go_wp2_with fail
            refine HRA.out.mono ?_
            rintro e w9 ⟨rfl, hl9, hk9⟩
            obtain ⟨rs', e2, h9⟩ := TB0.turn_at I1.out (HHJ.out _) (by rw [new_at HJR.out (HHJ.out _)]; exact hl9) (by rw [new_at HJR.out (HHJ.out _)]; exact hk9)
            have hk9' := TB0.keep_at I1.out (HHJ.out _) (by rw [new_at HJR.out (HHJ.out _)]; exact hk9)
            rw [new_at HJR.out (HHJ.out _)] at e2
            have e3 : rs'.map Rw.ent = putN s (m1, m2, m3) (askP ([], []) who (mdN mode)).2 := by
              rw [e2]
              refine (new_set HJR.out).trans ?_
              unfold putN
              rw [HA.out, if_neg (by simp), HSP.out, ← HE.out]
              rfl
            have T1 := Lib.hid (show TB base b (putN s (m1, m2, m3) (askP ([], []) who (mdN mode)).2) w9 from ⟨_, rs', h9, e3⟩)
            have T2 := Lib.hid (I2.out.trans (Keep.mono hk9' fun _ _ _ h => h))
            have hza : (askP (newRw (m1, m2, m3) 0).l who (mdN mode)).1 = (askP ([], []) who (mdN mode)).1 := rfl
            clear hl9 hk9 h9 hk9' e2 e3 HRA
            generalize (askP ([], []) who (mdN mode)).2 = zb at *
            obtain ⟨za, hzb⟩ : ∃ za, (askP ([], []) who (mdN mode)).1 = za := ⟨_, rfl⟩
            have hzc : ∀ q, (askP (newRw (m1, m2, m3) q).l who (mdN mode)).1 = za := fun _ => hzb
            rw [hzc]
            have HZB := Lib.hid hzb
            clear hza hzb hzc
            cases za
            · go_wp2_with fail
              go_ret
              rw [HASK.out, HZB.out]
              exact ⟨rfl, T1.out, T2.out⟩
            · go_wp2_with fail
              go_ret
              rw [HASK.out, HZB.out]
              exact ⟨rfl, T1.out, T2.out⟩
          · refine if_exec (by rfl) (v := (.slice (some ⟨w5.heap.size + 1, 0, none⟩) 1 1)) (w' := ((w5.alloc (.cells #[.slice none 0 0, .slice none 0 0] 73)).alloc (.cells #[.int .i64 m1, .string m2, .string m3, .pointer (some ⟨w5.heap.size, 0, none⟩)] 76)).drew) (by first | (go_simp; done) | (go_simp; rfl)) ?_
            refine ⟨fun _ _ => HSB.out _ (below2 w5 (.cells #[.slice none 0 0, .slice none 0 0] 73) (.cells #[.int .i64 m1, .string m2, .string m3, .pointer (some ⟨w5.heap.size, 0, none⟩)] 76)).drew, ?_⟩
            try simp only [Act.put, List.setIfInBounds_toArray, List.set_cons_zero, List.set_cons_succ]
            refine wpAnyK_step (i := 7) (o := { dst := some 88, op := Op.call { callee := Callee.builtin Builtin.append, args := #[Operand.const (Value.slice none 0 0), Operand.tmp 87], argTypes := #[27, 27] }, type := 27, pos := "locks.go:352", after := #[{ on := 6, ground := Ground.data }], guard := none }) (E := True) (by kernel_rfl) rfl (by rfl) ?_
            refine step_append_own (v := .slice none 0 0) (ys := []) tyN rfl (.const (.slice none 0 0)) (.tmp 87) rfl rfl (own_nil ((w5.alloc (.cells #[.slice none 0 0, .slice none 0 0] 73)).alloc (.cells #[.int .i64 m1, .string m2, .string m3, .pointer (some ⟨w5.heap.size, 0, none⟩)] 76)).drew w5.heap.size) rfl (HQ.out.below (below2 w5 (.cells #[.slice none 0 0, .slice none 0 0] 73) (.cells #[.int .i64 m1, .string m2, .string m3, .pointer (some ⟨w5.heap.size, 0, none⟩)] 76)).drew) HLJ.out (by show 0 + j ≤ 1000000; omega) (below2 w5 (.cells #[.slice none 0 0, .slice none 0 0] 73) (.cells #[.int .i64 m1, .string m2, .string m3, .pointer (some ⟨w5.heap.size, 0, none⟩)] 76)).size ?_
            intro v5 W5 ho5 hg5
            rw [List.nil_append] at ho5
            have HO5 := Lib.hid ho5
            have HB5 : Hid (Below w5.heap.size w5 W5) := (below2 w5 (.cells #[.slice none 0 0, .slice none 0 0] 73) (.cells #[.int .i64 m1, .string m2, .string m3, .pointer (some ⟨w5.heap.size, 0, none⟩)] 76)).drew.trans ((Below.refl _ _).grown hg5 (below2 w5 (.cells #[.slice none 0 0, .slice none 0 0] 73) (.cells #[.int .i64 m1, .string m2, .string m3, .pointer (some ⟨w5.heap.size, 0, none⟩)] 76)).size (fun q hq => by simp [Value.ownBlock] at hq))
            have HG5 : Hid (Below ((w5.alloc (.cells #[.slice none 0 0, .slice none 0 0] 73)).alloc (.cells #[.int .i64 m1, .string m2, .string m3, .pointer (some ⟨w5.heap.size, 0, none⟩)] 76)).heap.size ((w5.alloc (.cells #[.slice none 0 0, .slice none 0 0] 73)).alloc (.cells #[.int .i64 m1, .string m2, .string m3, .pointer (some ⟨w5.heap.size, 0, none⟩)] 76)) W5) := (Below.refl _ _).drew.trans ((Below.refl _ _).grown hg5 (Nat.le_refl _) (fun q hq => by simp [Value.ownBlock] at hq))
            have HQ5 := Lib.hid (((Blk.new w5 73 _).alloc (.cells #[.int .i64 m1, .string m2, .string m3, .pointer (some ⟨w5.heap.size, 0, none⟩)] 76)).below HG5.out (by simp; omega))
            have HS5 := Lib.hid ((ent_two w5 (.cells #[.slice none 0 0, .slice none 0 0] 73) (m1, m2, m3) w5.heap.size).below HG5.out)
            clear ho5 hg5
            refine ⟨fun _ _ => HSB.out _ HB5.out, ?_⟩
            try simp only [Act.put, List.setIfInBounds_toArray, List.set_cons_zero, List.set_cons_succ]
            refine wpAnyK_step (i := 13) (o := { dst := some 94, op := Op.call { callee := Callee.builtin Builtin.append, args := #[Operand.tmp 88, Operand.tmp 93], argTypes := #[27, 27] }, type := 27, pos := "locks.go:352", after := #[{ on := 7, ground := Ground.data }, { on := 12, ground := Ground.data }, { on := 7, ground := Ground.chain }], guard := none }) (E := True) (by kernel_rfl) rfl (by rfl) ?_
            refine step_append_own tyN rfl (.tmp 88) (.tmp 93) rfl rfl (own_belowE HO5.out (Below.refl W5.heap.size W5)) rfl HS5.out rfl (by show _ + 1 ≤ 1000000; rw [HLJ.out]; omega) (Nat.le_trans HB5.out.size (Below.refl W5.heap.size W5).size) ?_
            intro v6 W6 ho6 hg6
            have HO6 := Lib.hid ho6
            have HB6 : Hid (Below w5.heap.size w5 W6) := (HB5.out.trans ((Below.refl W5.heap.size W5).mono HB5.out.size)).trans (grown_own (own_belowE HO5.out (Below.refl W5.heap.size W5)) hg6 (Nat.le_trans HB5.out.size (Below.refl W5.heap.size W5).size))
            have HQ6 := Lib.hid (blk_grown HQ5.out (own_belowE HO5.out (Below.refl W5.heap.size W5)) hg6)
            have hqz : w5.heap.size ≤ w5.heap.size := Nat.le_refl _
            clear ho6 hg6
            refine ⟨fun _ _ => HSB.out _ HB6.out, ?_⟩
            try simp only [Act.put, List.setIfInBounds_toArray, List.set_cons_zero, List.set_cons_succ]
            refine wpAnyK_step (i := 20) (o := { dst := some 101, op := Op.call { callee := Callee.builtin Builtin.append, args := #[Operand.tmp 94, Operand.tmp 100], argTypes := #[27, 27] }, type := 27, pos := "locks.go:352", after := #[{ on := 13, ground := Ground.data }, { on := 19, ground := Ground.data }, { on := 13, ground := Ground.chain }], guard := none }) (E := True) (by kernel_rfl) rfl (by rfl) ?_
            refine step_append_own tyN rfl (.tmp 94) (.tmp 100) rfl rfl HO6.out rfl (HTL.out.below HB6.out) HLM.out (by show _ + m2' ≤ 1000000; rw [List.length_append, HLJ.out]; show j + 1 + m2' ≤ 1000000; omega) HB6.out.size ?_
            intro v7 W7 ho7 hg7
            obtain ⟨A7, n7, c7, e7⟩ := own_form ho7
            subst e7
            have HO7 := Lib.hid ho7
            have HB7 : Hid (Below w5.heap.size w5 W7) := HB6.out.trans (grown_own HO6.out hg7 HB6.out.size)
            have HQ7 := Lib.hid (blk_grown HQ6.out HO6.out hg7)
            have qW7 : W7.cell? ⟨b, 0, none⟩ = some (.slice A ln c) := (HSB.out _ HB7.out).1
            have sW7 : b < W7.heap.size := Nat.lt_of_lt_of_le hbz HB7.out.size
            have fW7 := Blk.frozen ((HZ1.out.below HB7.out).blk) 0
            clear ho7 hg7
            refine ⟨fun _ _ => HSB.out _ HB7.out, ?_⟩
            try simp only [Act.put, List.setIfInBounds_toArray, List.set_cons_zero, List.set_cons_succ]
            refine wpAnyK_takeW (i := 21) (oi := { dst := some 102, op := Op.nilCheck (Operand.tmp 81), type := 0, pos := "locks.go:352", after := #[{ on := 0, ground := Ground.data }, { on := 0, ground := Ground.phase }, { on := 1, ground := Ground.phase }, { on := 2, ground := Ground.phase }, { on := 3, ground := Ground.phase }, { on := 4, ground := Ground.phase }, { on := 5, ground := Ground.phase }, { on := 6, ground := Ground.phase }, { on := 7, ground := Ground.phase }, { on := 8, ground := Ground.phase }, { on := 9, ground := Ground.phase }, { on := 10, ground := Ground.phase }, { on := 11, ground := Ground.phase }, { on := 12, ground := Ground.phase }, { on := 13, ground := Ground.phase }, { on := 14, ground := Ground.phase }, { on := 15, ground := Ground.phase }, { on := 16, ground := Ground.phase }, { on := 17, ground := Ground.phase }, { on := 18, ground := Ground.phase }, { on := 19, ground := Ground.phase }, { on := 20, ground := Ground.phase }], guard := none }) (v := (.pointer (some ⟨b, 0, none⟩))) rfl (by kernel_rfl) (by kernel_rfl) (by kernel_rfl) (fun _ _ _ h => h) (by decide) (HSB.out _ HB7.out) (by rfl) ?_ ?_
            · intro W; go_simp
            try simp only [Act.put, List.setIfInBounds_toArray, List.set_cons_zero, List.set_cons_succ]
            refine wpAnyK_takeW (i := 22) (oi := { dst := some 103, op := Op.fieldAddr 29 (Operand.tmp 102) 0, type := 0, pos := "locks.go:352", after := #[{ on := 21, ground := Ground.data }, { on := 0, ground := Ground.phase }, { on := 1, ground := Ground.phase }, { on := 2, ground := Ground.phase }, { on := 3, ground := Ground.phase }, { on := 4, ground := Ground.phase }, { on := 5, ground := Ground.phase }, { on := 6, ground := Ground.phase }, { on := 7, ground := Ground.phase }, { on := 8, ground := Ground.phase }, { on := 9, ground := Ground.phase }, { on := 10, ground := Ground.phase }, { on := 11, ground := Ground.phase }, { on := 12, ground := Ground.phase }, { on := 13, ground := Ground.phase }, { on := 14, ground := Ground.phase }, { on := 15, ground := Ground.phase }, { on := 16, ground := Ground.phase }, { on := 17, ground := Ground.phase }, { on := 18, ground := Ground.phase }, { on := 19, ground := Ground.phase }, { on := 20, ground := Ground.phase }], guard := none }) (v := (.pointer (some ⟨b, 0, none⟩))) rfl (by kernel_rfl) (by kernel_rfl) (by kernel_rfl) (fun _ _ _ h => h) (by decide) (HSB.out _ HB7.out) (by rfl) ?_ ?_
            · intro W; go_simp
            try simp only [Act.put, List.setIfInBounds_toArray, List.set_cons_zero, List.set_cons_succ]
            refine wpAnyK_store (i := 23) (o := { dst := none, op := Op.store 27 (Operand.tmp 103) (Operand.tmp 101), type := 0, pos := "locks.go:352", after := #[{ on := 22, ground := Ground.data }, { on := 20, ground := Ground.data }, { on := 20, ground := Ground.chain }, { on := 0, ground := Ground.phase }, { on := 1, ground := Ground.phase }, { on := 2, ground := Ground.phase }, { on := 3, ground := Ground.phase }, { on := 4, ground := Ground.phase }, { on := 5, ground := Ground.phase }, { on := 6, ground := Ground.phase }, { on := 7, ground := Ground.phase }, { on := 8, ground := Ground.phase }, { on := 9, ground := Ground.phase }, { on := 10, ground := Ground.phase }, { on := 11, ground := Ground.phase }, { on := 12, ground := Ground.phase }, { on := 13, ground := Ground.phase }, { on := 14, ground := Ground.phase }, { on := 15, ground := Ground.phase }, { on := 16, ground := Ground.phase }, { on := 17, ground := Ground.phase }, { on := 18, ground := Ground.phase }, { on := 19, ground := Ground.phase }, { on := 20, ground := Ground.phase }], guard := none }) (w' := W7.setCell ⟨b, 0, none⟩ (.slice A7 n7 c7)) (by kernel_rfl) rfl (by rfl) (by first | (go_simp; done) | (go_simp; rfl)) (by kernel_rfl) ?_
            try simp only [Act.put]
            refine wpAnyK_done (by kernel_rfl) ?_ _
            refine NoPanic.normal ?_
            have hb8 := HX7.out.trans (HBE.out.mono HX7.out.size)
            have hins := TB0.insert (n := (m1, m2, m3)) (pre := rs.take j) (post := rs.drop j) (by rw [List.take_append_drop]; exact HZ1.out) HB7.out (Nat.le_trans hbase hb8.size) (by rw [List.map_take, List.map_drop]; exact HO7.out) HQ7.out hqz
            have I1 := Lib.hid hins.1
            have I2 := Lib.hid ((Keep.of_below hb8).trans (Keep.mono hins.2 fun _ _ _ h => h))
            have hn7 : j < n7 := by
              obtain ⟨A8, c8, e8, _⟩ := own_lst HO7.out
              injection e8 with _ e9 _
              rw [e9, List.length_append, List.length_append, HLJ.out]
              simp only [List.length_singleton]
              omega
            have hjr : j ≤ rs.length := by rw [HLN.out]; exact hjl
            have hj2 : ∀ q, j < (rs.take j ++ newRw (m1, m2, m3) q :: rs.drop j).length := fun q => by
              rw [List.length_append, List.length_cons, List.length_take]
              omega
            have q0 := I1.out.blk.cell 0
            have hbs9 := I1.out.blk.lt
            obtain ⟨g9, o9, hA9, -, -, -, d9⟩ := I1.out.row (Below.refl _ _) (hj2 _)
            have hone := TB0.one_at I1.out (hj2 _)
            rw [new_at hjr (hj2 _)] at d9 hone
            subst hA9
            have hra := rask_ hone (Nat.le_trans hbase (Nat.le_trans hb8.size (Nat.le_trans HB7.out.size (by simp [World.setCell])))) HOKN.out (by simp [newRw]) (by simp [newRw]) who mode
            have HRA := Lib.hid hra
            have HHJ := Lib.hid hj2
            have HJR := Lib.hid hjr
            unfold newRw at d9
            simp only at d9
            clear hins hb8 hone hra hj2 qW7 sW7 fW7 hd1 hd2
            go_wp2_with fail
            refine HRA.out.mono ?_
            rintro e w9 ⟨rfl, hl9, hk9⟩
            obtain ⟨rs', e2, h9⟩ := TB0.turn_at I1.out (HHJ.out _) (by rw [new_at HJR.out (HHJ.out _)]; exact hl9) (by rw [new_at HJR.out (HHJ.out _)]; exact hk9)
            have hk9' := TB0.keep_at I1.out (HHJ.out _) (by rw [new_at HJR.out (HHJ.out _)]; exact hk9)
            rw [new_at HJR.out (HHJ.out _)] at e2
            have e3 : rs'.map Rw.ent = putN s (m1, m2, m3) (askP ([], []) who (mdN mode)).2 := by
              rw [e2]
              refine (new_set HJR.out).trans ?_
              unfold putN
              rw [HA.out, if_neg (by simp), HSP.out, ← HE.out]
              rfl
            have T1 := Lib.hid (show TB base b (putN s (m1, m2, m3) (askP ([], []) who (mdN mode)).2) w9 from ⟨_, rs', h9, e3⟩)
            have T2 := Lib.hid (I2.out.trans (Keep.mono hk9' fun _ _ _ h => h))
            have hza : (askP (newRw (m1, m2, m3) 0).l who (mdN mode)).1 = (askP ([], []) who (mdN mode)).1 := rfl
            clear hl9 hk9 h9 hk9' e2 e3 HRA
            generalize (askP ([], []) who (mdN mode)).2 = zb at *
            obtain ⟨za, hzb⟩ : ∃ za, (askP ([], []) who (mdN mode)).1 = za := ⟨_, rfl⟩
            have hzc : ∀ q, (askP (newRw (m1, m2, m3) q).l who (mdN mode)).1 = za := fun _ => hzb
            rw [hzc]
            have HZB := Lib.hid hzb
            clear hza hzb hzc
            cases za
            · go_wp2_with fail
              go_ret
              rw [HASK.out, HZB.out]
              exact ⟨rfl, T1.out, T2.out⟩
            · go_wp2_with fail
              go_ret
              rw [HASK.out, HZB.out]
              exact ⟨rfl, T1.out, T2.out⟩
    · have hdt : decide ((j : Int) < (ln : Int)) = false := by simpa using hlt
      have hjj : j = ln := by have := HJ.out; have := HLN.out; omega
      have hjl : j ≤ ln := by omega
      have hsp : spotN s (m1, m2, m3) = j := by
        have hsd : s = rs.map Rw.ent := HE.out.symm
        rw [hsd]
        unfold spotN
        rw [List.findIdx_map]
        refine (List.findIdx_eq_length.2 fun r hr => ?_).trans (by rw [hjj]; exact HLN.out)
        obtain ⟨q, hq, rfl⟩ := List.getElem_of_mem hr
        have := H1.out q (by have := HLN.out; omega) hq
        show (!decide (cmpN rs[q].n (m1, m2, m3) < 0)) = false
        exact this
      have HSP := Lib.hid hsp
      clear hsp hjj H1
      go_wp2_with fail
      go_quiet (fail)
      have HBE := Lib.hid (below_drewN HBR.out nq)
      go_wp2_with fail
      clear HBR p0 n0 n1 n2 hdt hlt
      generalize wr.drewN nq = w5 at *
      have p0 := (cell_of_heap (HBE.out.block b hbs4) _).trans P0.out
      have n0 := (cell_of_heap (HBE.out.block _ hns4) _).trans N0.out
      have n1 := (cell_of_heap (HBE.out.block _ hns4) _).trans N1.out
      have n2 := (cell_of_heap (HBE.out.block _ hns4) _).trans N2.out
      have HZ1 := Lib.hid (H4.out.below HBE.out)
      have hbz := HZ1.out.blk.lt
      have hxz := block_of_cell n0
      obtain ⟨A', c', eA, lE, _⟩ := own_lst HZ1.out.own
      injection eA with eA e2 e3
      clear e2 e3
      subst eA
      have hML : (rs.map Rw.at_).length = ln := by rw [List.length_map]; exact HLN.out
      have hlj : ((rs.map Rw.at_).take j).length = j := by rw [List.length_take, hML]; omega
      obtain ⟨m2', hm2⟩ : ∃ m2', ln - j = m2' := ⟨_, rfl⟩
      obtain ⟨A2, hd2, hr2, _⟩ := tail_ents lE hML hcc hjl hm2
      have hd1 := fun W => head_ents A ln c j (by omega) W
      have hlm : ((rs.map Rw.at_).drop j).length = m2' := by rw [List.length_drop, hML]; exact hm2
      have hjc : j ≤ c := Nat.le_trans hjl hcc
      have HLJ := Lib.hid hlj
      have HLM := Lib.hid hlm
      have HQ := Lib.hid (lE.take j)
      have HTL := Lib.hid hr2
      have HSB : Hid (∀ W, Below w5.heap.size w5 W → W.cell? ⟨b, 0, none⟩ = some (.slice A ln c) ∧ W.cell? ⟨w.heap.size, 0, none⟩ = some (.int .i64 m1) ∧ W.cell? ⟨w.heap.size, 1, none⟩ = some (.string m2) ∧ W.cell? ⟨w.heap.size, 2, none⟩ = some (.string m3)) := Lib.hid fun W k => ⟨(cell_of_heap (k.block _ hbz) _).trans p0, (cell_of_heap (k.block _ hxz) _).trans n0, (cell_of_heap (k.block _ hxz) _).trans n1, (cell_of_heap (k.block _ hxz) _).trans n2⟩
      clear hlj hlm lE hr2 hML n0 n1 n2 p0
      refine wp_region_noPanic ?_
      refine wp_region_K (k := 23) (S := (fun W : World => W.cell? ⟨b, 0, none⟩ = some (.slice A ln c) ∧ W.cell? ⟨w.heap.size, 0, none⟩ = some (.int .i64 m1) ∧ W.cell? ⟨w.heap.size, 1, none⟩ = some (.string m2) ∧ W.cell? ⟨w.heap.size, 2, none⟩ = some (.string m3))) (by kernel_rfl) ?_
      refine wpAnyK_takeW (i := 0) (oi := { dst := some 81, op := Op.move (Operand.tmp 0), type := 26, pos := "locks.go:352", after := #[], guard := none }) (v := (.pointer (some ⟨b, 0, none⟩))) rfl (by kernel_rfl) (by kernel_rfl) (by kernel_rfl) (fun _ _ _ h => h) (by decide) (HSB.out _ (Below.refl w5.heap.size w5).drew) (by rfl) ?_ ?_
      · intro W; go_simp
      try simp only [Act.put, List.setIfInBounds_toArray, List.set_cons_zero, List.set_cons_succ]
      refine wpAnyK_takeW (i := 1) (oi := { dst := some 82, op := Op.move (Operand.tmp 0), type := 26, pos := "locks.go:352", after := #[], guard := none }) (v := (.pointer (some ⟨b, 0, none⟩))) rfl (by kernel_rfl) (by kernel_rfl) (by kernel_rfl) (fun _ _ _ h => h) (by decide) (HSB.out _ (Below.refl w5.heap.size w5).drew) (by rfl) ?_ ?_
      · intro W; go_simp
      try simp only [Act.put, List.setIfInBounds_toArray, List.set_cons_zero, List.set_cons_succ]
      refine wpAnyK_takeW (i := 2) (oi := { dst := some 83, op := Op.nilCheck (Operand.tmp 82), type := 0, pos := "locks.go:352", after := #[{ on := 1, ground := Ground.data }], guard := none }) (v := (.pointer (some ⟨b, 0, none⟩))) rfl (by kernel_rfl) (by kernel_rfl) (by kernel_rfl) (fun _ _ _ h => h) (by decide) (HSB.out _ (Below.refl w5.heap.size w5).drew) (by rfl) ?_ ?_
      · intro W; go_simp
      try simp only [Act.put, List.setIfInBounds_toArray, List.set_cons_zero, List.set_cons_succ]
      refine wpAnyK_takeW (i := 3) (oi := { dst := some 84, op := Op.fieldAddr 29 (Operand.tmp 83) 0, type := 0, pos := "locks.go:352", after := #[{ on := 2, ground := Ground.data }], guard := none }) (v := (.pointer (some ⟨b, 0, none⟩))) rfl (by kernel_rfl) (by kernel_rfl) (by kernel_rfl) (fun _ _ _ h => h) (by decide) (HSB.out _ (Below.refl w5.heap.size w5).drew) (by rfl) ?_ ?_
      · intro W; go_simp
      try simp only [Act.put, List.setIfInBounds_toArray, List.set_cons_zero, List.set_cons_succ]
      refine wpAnyK_take (i := 4) (oi := { dst := some 85, op := Op.load 27 (Operand.tmp 84), type := 27, pos := "locks.go:352", after := #[{ on := 3, ground := Ground.data }], guard := none }) (v := (.slice A ln c)) rfl (by kernel_rfl) (by kernel_rfl) (by kernel_rfl) (by kernel_rfl) (by kernel_rfl) (fun _ _ _ h => h) (by decide) (HSB.out _ (Below.refl w5.heap.size w5).drew) (by rfl) ?_ ?_
      · intro W hSw; obtain ⟨s0, s1, s2, s3⟩ := hSw; go_simp
      try simp only [Act.put, List.setIfInBounds_toArray, List.set_cons_zero, List.set_cons_succ]
      refine wpAnyK_takeW (i := 5) (oi := { dst := some 86, op := Op.move (Operand.tmp 11), type := 3, pos := "locks.go:352", after := #[], guard := none }) (v := (.int .i64 (j : Int))) rfl (by kernel_rfl) (by kernel_rfl) (by kernel_rfl) (fun _ _ _ h => h) (by decide) (HSB.out _ (Below.refl w5.heap.size w5).drew) (by rfl) ?_ ?_
      · intro W; go_simp
      try simp only [Act.put, List.setIfInBounds_toArray, List.set_cons_zero, List.set_cons_succ]
      refine wpAnyK_takeW (i := 6) (oi := { dst := some 87, op := Op.slice 27 (Operand.tmp 85) none (some (Operand.tmp 86)) none, type := 27, pos := "locks.go:352", after := #[{ on := 4, ground := Ground.data }, { on := 5, ground := Ground.data }], guard := none }) (v := (.slice A j c)) rfl (by kernel_rfl) (by kernel_rfl) (by kernel_rfl) (fun _ _ _ h => h) (by decide) (HSB.out _ (Below.refl w5.heap.size w5).drew) (by rfl) ?_ ?_
      · intro W; go_simp
      try simp only [Act.put, List.setIfInBounds_toArray, List.set_cons_zero, List.set_cons_succ]
      refine wpAnyK_take (i := 8) (oi := { dst := some 89, op := Op.load 31 (Operand.tmp 6), type := 31, pos := "locks.go:352", after := #[], guard := none }) (v := (.agg #[.int .i64 m1, .string m2, .string m3])) rfl (by kernel_rfl) (by kernel_rfl) (by kernel_rfl) (by kernel_rfl) (by kernel_rfl) (fun _ _ _ h => h) (by decide) (HSB.out _ (Below.refl w5.heap.size w5).drew) (by rfl) ?_ ?_
      · intro W hSw; obtain ⟨s0, s1, s2, s3⟩ := hSw; go_simp
      try simp only [Act.put, List.setIfInBounds_toArray, List.set_cons_zero, List.set_cons_succ]
      refine wpAnyK_takeW (i := 9) (oi := { dst := some 90, op := Op.build 73 #[], type := 73, pos := "locks.go:352", after := #[], guard := none }) (v := (.agg #[.slice none 0 0, .slice none 0 0])) rfl (by kernel_rfl) (by kernel_rfl) (by kernel_rfl) (fun _ _ _ h => h) (by decide) (HSB.out _ (Below.refl w5.heap.size w5).drew) (by rfl) ?_ ?_
      · intro W; go_simp
      try simp only [Act.put, List.setIfInBounds_toArray, List.set_cons_zero, List.set_cons_succ]
      refine wpAnyK_takeW (i := 14) (oi := { dst := some 95, op := Op.move (Operand.tmp 0), type := 26, pos := "locks.go:352", after := #[], guard := none }) (v := (.pointer (some ⟨b, 0, none⟩))) rfl (by kernel_rfl) (by kernel_rfl) (by kernel_rfl) (fun _ _ _ h => h) (by decide) (HSB.out _ (Below.refl w5.heap.size w5).drew) (by rfl) ?_ ?_
      · intro W; go_simp
      try simp only [Act.put, List.setIfInBounds_toArray, List.set_cons_zero, List.set_cons_succ]
      refine wpAnyK_takeW (i := 15) (oi := { dst := some 96, op := Op.nilCheck (Operand.tmp 95), type := 0, pos := "locks.go:352", after := #[{ on := 14, ground := Ground.data }], guard := none }) (v := (.pointer (some ⟨b, 0, none⟩))) rfl (by kernel_rfl) (by kernel_rfl) (by kernel_rfl) (fun _ _ _ h => h) (by decide) (HSB.out _ (Below.refl w5.heap.size w5).drew) (by rfl) ?_ ?_
      · intro W; go_simp
      try simp only [Act.put, List.setIfInBounds_toArray, List.set_cons_zero, List.set_cons_succ]
      refine wpAnyK_takeW (i := 16) (oi := { dst := some 97, op := Op.fieldAddr 29 (Operand.tmp 96) 0, type := 0, pos := "locks.go:352", after := #[{ on := 15, ground := Ground.data }], guard := none }) (v := (.pointer (some ⟨b, 0, none⟩))) rfl (by kernel_rfl) (by kernel_rfl) (by kernel_rfl) (fun _ _ _ h => h) (by decide) (HSB.out _ (Below.refl w5.heap.size w5).drew) (by rfl) ?_ ?_
      · intro W; go_simp
      try simp only [Act.put, List.setIfInBounds_toArray, List.set_cons_zero, List.set_cons_succ]
      refine wpAnyK_take (i := 17) (oi := { dst := some 98, op := Op.load 27 (Operand.tmp 97), type := 27, pos := "locks.go:352", after := #[{ on := 16, ground := Ground.data }], guard := none }) (v := (.slice A ln c)) rfl (by kernel_rfl) (by kernel_rfl) (by kernel_rfl) (by kernel_rfl) (by kernel_rfl) (fun _ _ _ h => h) (by decide) (HSB.out _ (Below.refl w5.heap.size w5).drew) (by rfl) ?_ ?_
      · intro W hSw; obtain ⟨s0, s1, s2, s3⟩ := hSw; go_simp
      try simp only [Act.put, List.setIfInBounds_toArray, List.set_cons_zero, List.set_cons_succ]
      refine wpAnyK_takeW (i := 18) (oi := { dst := some 99, op := Op.move (Operand.tmp 11), type := 3, pos := "locks.go:352", after := #[], guard := none }) (v := (.int .i64 (j : Int))) rfl (by kernel_rfl) (by kernel_rfl) (by kernel_rfl) (fun _ _ _ h => h) (by decide) (HSB.out _ (Below.refl w5.heap.size w5).drew) (by rfl) ?_ ?_
      · intro W; go_simp
      try simp only [Act.put, List.setIfInBounds_toArray, List.set_cons_zero, List.set_cons_succ]
      refine wpAnyK_takeW (i := 19) (oi := { dst := some 100, op := Op.slice 27 (Operand.tmp 98) (some (Operand.tmp 99)) none none, type := 27, pos := "locks.go:352", after := #[{ on := 17, ground := Ground.data }, { on := 18, ground := Ground.data }], guard := none }) (v := (.slice A2 m2' (c - j))) rfl (by kernel_rfl) (by kernel_rfl) (by kernel_rfl) (fun _ _ _ h => h) (by decide) (HSB.out _ (Below.refl w5.heap.size w5).drew) (by rfl) ?_ ?_
      · intro W; go_simp
      try simp only [Act.put, List.setIfInBounds_toArray, List.set_cons_zero, List.set_cons_succ]
      refine wpAnyK_two (i := 7) (j := 10) (oi := { dst := some 88, op := Op.call { callee := Callee.builtin Builtin.append, args := #[Operand.const (Value.slice none 0 0), Operand.tmp 87], argTypes := #[27, 27] }, type := 27, pos := "locks.go:352", after := #[{ on := 6, ground := Ground.data }], guard := none }) (oj := { dst := some 91, op := Op.box 73 (Operand.tmp 90), type := 74, pos := "locks.go:352", after := #[{ on := 9, ground := Ground.data }], guard := none }) (E := True) (F := True) (by kernel_rfl) rfl (by rfl) rfl (by rfl) ?_ ?_
      · refine step_append_own (v := .slice none 0 0) (ys := []) tyN rfl (.const (.slice none 0 0)) (.tmp 87) rfl rfl (own_nil w5.drew w5.heap.size) rfl (HQ.out.below (Below.refl w5.heap.size w5).drew) HLJ.out (by show 0 + j ≤ 1000000; omega) (Below.refl w5.heap.size w5).size ?_
        intro v5 W5 ho5 hg5
        rw [List.nil_append] at ho5
        have HO5 := Lib.hid ho5
        have HB5 : Hid (Below w5.heap.size w5 W5) := (Below.refl w5.heap.size w5).drew.trans ((Below.refl _ _).grown hg5 (Below.refl w5.heap.size w5).size (fun q hq => by simp [Value.ownBlock] at hq))
        have HG5 : Hid (Below w5.heap.size w5 W5) := (Below.refl _ _).drew.trans ((Below.refl _ _).grown hg5 (Nat.le_refl _) (fun q hq => by simp [Value.ownBlock] at hq))
        clear ho5 hg5
        refine ⟨fun _ _ => HSB.out _ HB5.out, ?_⟩
        try simp only [Act.put, List.setIfInBounds_toArray, List.set_cons_zero, List.set_cons_succ]
        refine wpAnyK_one (i := 10) (o := { dst := some 91, op := Op.box 73 (Operand.tmp 90), type := 74, pos := "locks.go:352", after := #[{ on := 9, ground := Ground.data }], guard := none }) (v := (.pointer (some ⟨W5.heap.size, 0, none⟩))) (w' := W5.alloc (.cells #[.slice none 0 0, .slice none 0 0] 73)) (by kernel_rfl) rfl (by rfl) (by first | (go_simp; done) | (go_simp; rfl)) (HSB.out _ (HB5.out.trans ((alloc_below W5 (.cells #[.slice none 0 0, .slice none 0 0] 73)).mono HB5.out.size))) ?_
        try simp only [Act.put, List.setIfInBounds_toArray, List.set_cons_zero, List.set_cons_succ]
        refine wpAnyK_takeW (i := 11) (oi := { dst := some 92, op := Op.build 76 #[(0, Operand.tmp 89), (1, Operand.tmp 91)], type := 76, pos := "locks.go:352", after := #[{ on := 8, ground := Ground.data }, { on := 10, ground := Ground.data }], guard := none }) (v := (.agg #[.int .i64 m1, .string m2, .string m3, .pointer (some ⟨W5.heap.size, 0, none⟩)])) rfl (by kernel_rfl) (by kernel_rfl) (by kernel_rfl) (fun _ _ _ h => h) (by decide) (HSB.out _ (HB5.out.trans ((alloc_below W5 (.cells #[.slice none 0 0, .slice none 0 0] 73)).mono HB5.out.size))) (by rfl) ?_ ?_
        · intro W; go_simp
        try simp only [Act.put, List.setIfInBounds_toArray, List.set_cons_zero, List.set_cons_succ]
        refine wpAnyK_one (i := 12) (o := { dst := some 93, op := Op.buildSlice 27 1 #[(0, Operand.tmp 92)], type := 27, pos := "locks.go:352", after := #[{ on := 11, ground := Ground.data }], guard := none }) (v := (.slice (some ⟨W5.heap.size + 1, 0, none⟩) 1 1)) (w' := ((W5.alloc (.cells #[.slice none 0 0, .slice none 0 0] 73)).alloc (.cells #[.int .i64 m1, .string m2, .string m3, .pointer (some ⟨W5.heap.size, 0, none⟩)] 76))) (by kernel_rfl) rfl (by rfl) (by first | (go_simp; done) | (go_simp; rfl)) (HSB.out _ (HB5.out.trans ((below2 W5 (.cells #[.slice none 0 0, .slice none 0 0] 73) (.cells #[.int .i64 m1, .string m2, .string m3, .pointer (some ⟨W5.heap.size, 0, none⟩)] 76)).mono HB5.out.size))) ?_
        try simp only [Act.put, List.setIfInBounds_toArray, List.set_cons_zero, List.set_cons_succ]
        refine wpAnyK_step (i := 13) (o := { dst := some 94, op := Op.call { callee := Callee.builtin Builtin.append, args := #[Operand.tmp 88, Operand.tmp 93], argTypes := #[27, 27] }, type := 27, pos := "locks.go:352", after := #[{ on := 7, ground := Ground.data }, { on := 12, ground := Ground.data }, { on := 7, ground := Ground.chain }], guard := none }) (E := True) (by kernel_rfl) rfl (by rfl) ?_
        refine step_append_own tyN rfl (.tmp 88) (.tmp 93) rfl rfl (own_belowE HO5.out (below2 W5 (.cells #[.slice none 0 0, .slice none 0 0] 73) (.cells #[.int .i64 m1, .string m2, .string m3, .pointer (some ⟨W5.heap.size, 0, none⟩)] 76))) rfl (ent_two W5 (.cells #[.slice none 0 0, .slice none 0 0] 73) (m1, m2, m3) W5.heap.size) rfl (by show _ + 1 ≤ 1000000; rw [HLJ.out]; omega) (Nat.le_trans HB5.out.size (below2 W5 (.cells #[.slice none 0 0, .slice none 0 0] 73) (.cells #[.int .i64 m1, .string m2, .string m3, .pointer (some ⟨W5.heap.size, 0, none⟩)] 76)).size) ?_
        intro v6 W6 ho6 hg6
        have HO6 := Lib.hid ho6
        have HB6 : Hid (Below w5.heap.size w5 W6) := (HB5.out.trans ((below2 W5 (.cells #[.slice none 0 0, .slice none 0 0] 73) (.cells #[.int .i64 m1, .string m2, .string m3, .pointer (some ⟨W5.heap.size, 0, none⟩)] 76)).mono HB5.out.size)).trans (grown_own (own_belowE HO5.out (below2 W5 (.cells #[.slice none 0 0, .slice none 0 0] 73) (.cells #[.int .i64 m1, .string m2, .string m3, .pointer (some ⟨W5.heap.size, 0, none⟩)] 76))) hg6 (Nat.le_trans HB5.out.size (below2 W5 (.cells #[.slice none 0 0, .slice none 0 0] 73) (.cells #[.int .i64 m1, .string m2, .string m3, .pointer (some ⟨W5.heap.size, 0, none⟩)] 76)).size))
        have HQ6 := Lib.hid (blk_grown ((Blk.new W5 73 _).alloc _) (own_belowE HO5.out (below2 W5 (.cells #[.slice none 0 0, .slice none 0 0] 73) (.cells #[.int .i64 m1, .string m2, .string m3, .pointer (some ⟨W5.heap.size, 0, none⟩)] 76))) hg6)
        have hqz : w5.heap.size ≤ W5.heap.size := HB5.out.size
        clear ho6 hg6
        refine ⟨fun _ _ => HSB.out _ HB6.out, ?_⟩
        try simp only [Act.put, List.setIfInBounds_toArray, List.set_cons_zero, List.set_cons_succ]
        refine wpAnyK_step (i := 20) (o := { dst := some 101, op := Op.call { callee := Callee.builtin Builtin.append, args := #[Operand.tmp 94, Operand.tmp 100], argTypes := #[27, 27] }, type := 27, pos := "locks.go:352", after := #[{ on := 13, ground := Ground.data }, { on := 19, ground := Ground.data }, { on := 13, ground := Ground.chain }], guard := none }) (E := True) (by kernel_rfl) rfl (by rfl) ?_
        refine step_append_own tyN rfl (.tmp 94) (.tmp 100) rfl rfl HO6.out rfl (HTL.out.below HB6.out) HLM.out (by show _ + m2' ≤ 1000000; rw [List.length_append, HLJ.out]; show j + 1 + m2' ≤ 1000000; omega) HB6.out.size ?_
        intro v7 W7 ho7 hg7
        obtain ⟨A7, n7, c7, e7⟩ := own_form ho7
        subst e7
        have HO7 := Lib.hid ho7
        have HB7 : Hid (Below w5.heap.size w5 W7) := HB6.out.trans (grown_own HO6.out hg7 HB6.out.size)
        have HQ7 := Lib.hid (blk_grown HQ6.out HO6.out hg7)
        have qW7 : W7.cell? ⟨b, 0, none⟩ = some (.slice A ln c) := (HSB.out _ HB7.out).1
        have sW7 : b < W7.heap.size := Nat.lt_of_lt_of_le hbz HB7.out.size
        have fW7 := Blk.frozen ((HZ1.out.below HB7.out).blk) 0
        clear ho7 hg7
        refine ⟨fun _ _ => HSB.out _ HB7.out, ?_⟩
        try simp only [Act.put, List.setIfInBounds_toArray, List.set_cons_zero, List.set_cons_succ]
        refine wpAnyK_takeW (i := 21) (oi := { dst := some 102, op := Op.nilCheck (Operand.tmp 81), type := 0, pos := "locks.go:352", after := #[{ on := 0, ground := Ground.data }, { on := 0, ground := Ground.phase }, { on := 1, ground := Ground.phase }, { on := 2, ground := Ground.phase }, { on := 3, ground := Ground.phase }, { on := 4, ground := Ground.phase }, { on := 5, ground := Ground.phase }, { on := 6, ground := Ground.phase }, { on := 7, ground := Ground.phase }, { on := 8, ground := Ground.phase }, { on := 9, ground := Ground.phase }, { on := 10, ground := Ground.phase }, { on := 11, ground := Ground.phase }, { on := 12, ground := Ground.phase }, { on := 13, ground := Ground.phase }, { on := 14, ground := Ground.phase }, { on := 15, ground := Ground.phase }, { on := 16, ground := Ground.phase }, { on := 17, ground := Ground.phase }, { on := 18, ground := Ground.phase }, { on := 19, ground := Ground.phase }, { on := 20, ground := Ground.phase }], guard := none }) (v := (.pointer (some ⟨b, 0, none⟩))) rfl (by kernel_rfl) (by kernel_rfl) (by kernel_rfl) (fun _ _ _ h => h) (by decide) (HSB.out _ HB7.out) (by rfl) ?_ ?_
        · intro W; go_simp
        try simp only [Act.put, List.setIfInBounds_toArray, List.set_cons_zero, List.set_cons_succ]
        refine wpAnyK_takeW (i := 22) (oi := { dst := some 103, op := Op.fieldAddr 29 (Operand.tmp 102) 0, type := 0, pos := "locks.go:352", after := #[{ on := 21, ground := Ground.data }, { on := 0, ground := Ground.phase }, { on := 1, ground := Ground.phase }, { on := 2, ground := Ground.phase }, { on := 3, ground := Ground.phase }, { on := 4, ground := Ground.phase }, { on := 5, ground := Ground.phase }, { on := 6, ground := Ground.phase }, { on := 7, ground := Ground.phase }, { on := 8, ground := Ground.phase }, { on := 9, ground := Ground.phase }, { on := 10, ground := Ground.phase }, { on := 11, ground := Ground.phase }, { on := 12, ground := Ground.phase }, { on := 13, ground := Ground.phase }, { on := 14, ground := Ground.phase }, { on := 15, ground := Ground.phase }, { on := 16, ground := Ground.phase }, { on := 17, ground := Ground.phase }, { on := 18, ground := Ground.phase }, { on := 19, ground := Ground.phase }, { on := 20, ground := Ground.phase }], guard := none }) (v := (.pointer (some ⟨b, 0, none⟩))) rfl (by kernel_rfl) (by kernel_rfl) (by kernel_rfl) (fun _ _ _ h => h) (by decide) (HSB.out _ HB7.out) (by rfl) ?_ ?_
        · intro W; go_simp
        try simp only [Act.put, List.setIfInBounds_toArray, List.set_cons_zero, List.set_cons_succ]
        refine wpAnyK_store (i := 23) (o := { dst := none, op := Op.store 27 (Operand.tmp 103) (Operand.tmp 101), type := 0, pos := "locks.go:352", after := #[{ on := 22, ground := Ground.data }, { on := 20, ground := Ground.data }, { on := 20, ground := Ground.chain }, { on := 0, ground := Ground.phase }, { on := 1, ground := Ground.phase }, { on := 2, ground := Ground.phase }, { on := 3, ground := Ground.phase }, { on := 4, ground := Ground.phase }, { on := 5, ground := Ground.phase }, { on := 6, ground := Ground.phase }, { on := 7, ground := Ground.phase }, { on := 8, ground := Ground.phase }, { on := 9, ground := Ground.phase }, { on := 10, ground := Ground.phase }, { on := 11, ground := Ground.phase }, { on := 12, ground := Ground.phase }, { on := 13, ground := Ground.phase }, { on := 14, ground := Ground.phase }, { on := 15, ground := Ground.phase }, { on := 16, ground := Ground.phase }, { on := 17, ground := Ground.phase }, { on := 18, ground := Ground.phase }, { on := 19, ground := Ground.phase }, { on := 20, ground := Ground.phase }], guard := none }) (w' := W7.setCell ⟨b, 0, none⟩ (.slice A7 n7 c7)) (by kernel_rfl) rfl (by rfl) (by first | (go_simp; done) | (go_simp; rfl)) (by kernel_rfl) ?_
        try simp only [Act.put]
        refine wpAnyK_done (by kernel_rfl) ?_ _
        refine NoPanic.normal ?_
        have hb8 := HX7.out.trans (HBE.out.mono HX7.out.size)
        have hins := TB0.insert (n := (m1, m2, m3)) (pre := rs.take j) (post := rs.drop j) (by rw [List.take_append_drop]; exact HZ1.out) HB7.out (Nat.le_trans hbase hb8.size) (by rw [List.map_take, List.map_drop]; exact HO7.out) HQ7.out hqz
        have I1 := Lib.hid hins.1
        have I2 := Lib.hid ((Keep.of_below hb8).trans (Keep.mono hins.2 fun _ _ _ h => h))
        have hn7 : j < n7 := by
          obtain ⟨A8, c8, e8, _⟩ := own_lst HO7.out
          injection e8 with _ e9 _
          rw [e9, List.length_append, List.length_append, HLJ.out]
          simp only [List.length_singleton]
          omega
        have hjr : j ≤ rs.length := by rw [HLN.out]; exact hjl
        have hj2 : ∀ q, j < (rs.take j ++ newRw (m1, m2, m3) q :: rs.drop j).length := fun q => by
          rw [List.length_append, List.length_cons, List.length_take]
          omega
        have q0 := I1.out.blk.cell 0
        have hbs9 := I1.out.blk.lt
        obtain ⟨g9, o9, hA9, -, -, -, d9⟩ := I1.out.row (Below.refl _ _) (hj2 _)
        have hone := TB0.one_at I1.out (hj2 _)
        rw [new_at hjr (hj2 _)] at d9 hone
        subst hA9
        have hra := rask_ hone (Nat.le_trans hbase (Nat.le_trans hb8.size (Nat.le_trans HB7.out.size (by simp [World.setCell])))) HOKN.out (by simp [newRw]) (by simp [newRw]) who mode
        have HRA := Lib.hid hra
        have HHJ := Lib.hid hj2
        have HJR := Lib.hid hjr
        unfold newRw at d9
        simp only at d9
        clear hins hb8 hone hra hj2 qW7 sW7 fW7 hd1 hd2
        go_wp2_with fail
        refine HRA.out.mono ?_
        rintro e w9 ⟨rfl, hl9, hk9⟩
        obtain ⟨rs', e2, h9⟩ := TB0.turn_at I1.out (HHJ.out _) (by rw [new_at HJR.out (HHJ.out _)]; exact hl9) (by rw [new_at HJR.out (HHJ.out _)]; exact hk9)
        have hk9' := TB0.keep_at I1.out (HHJ.out _) (by rw [new_at HJR.out (HHJ.out _)]; exact hk9)
        rw [new_at HJR.out (HHJ.out _)] at e2
        have e3 : rs'.map Rw.ent = putN s (m1, m2, m3) (askP ([], []) who (mdN mode)).2 := by
          rw [e2]
          refine (new_set HJR.out).trans ?_
          unfold putN
          rw [HA.out, if_neg (by simp), HSP.out, ← HE.out]
          rfl
        have T1 := Lib.hid (show TB base b (putN s (m1, m2, m3) (askP ([], []) who (mdN mode)).2) w9 from ⟨_, rs', h9, e3⟩)
        have T2 := Lib.hid (I2.out.trans (Keep.mono hk9' fun _ _ _ h => h))
        have hza : (askP (newRw (m1, m2, m3) 0).l who (mdN mode)).1 = (askP ([], []) who (mdN mode)).1 := rfl
        clear hl9 hk9 h9 hk9' e2 e3 HRA
        generalize (askP ([], []) who (mdN mode)).2 = zb at *
        obtain ⟨za, hzb⟩ : ∃ za, (askP ([], []) who (mdN mode)).1 = za := ⟨_, rfl⟩
        have hzc : ∀ q, (askP (newRw (m1, m2, m3) q).l who (mdN mode)).1 = za := fun _ => hzb
        rw [hzc]
        have HZB := Lib.hid hzb
        clear hza hzb hzc
        cases za
        · go_wp2_with fail
          go_ret
          rw [HASK.out, HZB.out]
          exact ⟨rfl, T1.out, T2.out⟩
        · go_wp2_with fail
          go_ret
          rw [HASK.out, HZB.out]
          exact ⟨rfl, T1.out, T2.out⟩
      · refine if_exec (by rfl) (v := (.pointer (some ⟨w5.heap.size, 0, none⟩))) (w' := (w5.alloc (.cells #[.slice none 0 0, .slice none 0 0] 73)).drew) (by first | (go_simp; done) | (go_simp; rfl)) ?_
        refine ⟨fun _ _ => HSB.out _ (alloc_below w5 (.cells #[.slice none 0 0, .slice none 0 0] 73)).drew, ?_⟩
        try simp only [Act.put, List.setIfInBounds_toArray, List.set_cons_zero, List.set_cons_succ]
        refine wpAnyK_takeW (i := 11) (oi := { dst := some 92, op := Op.build 76 #[(0, Operand.tmp 89), (1, Operand.tmp 91)], type := 76, pos := "locks.go:352", after := #[{ on := 8, ground := Ground.data }, { on := 10, ground := Ground.data }], guard := none }) (v := (.agg #[.int .i64 m1, .string m2, .string m3, .pointer (some ⟨w5.heap.size, 0, none⟩)])) rfl (by kernel_rfl) (by kernel_rfl) (by kernel_rfl) (fun _ _ _ h => h) (by decide) (HSB.out _ (alloc_below w5 (.cells #[.slice none 0 0, .slice none 0 0] 73)).drew) (by rfl) ?_ ?_
        · intro W; go_simp
        try simp only [Act.put, List.setIfInBounds_toArray, List.set_cons_zero, List.set_cons_succ]
        refine wpAnyK_two (i := 7) (j := 12) (oi := { dst := some 88, op := Op.call { callee := Callee.builtin Builtin.append, args := #[Operand.const (Value.slice none 0 0), Operand.tmp 87], argTypes := #[27, 27] }, type := 27, pos := "locks.go:352", after := #[{ on := 6, ground := Ground.data }], guard := none }) (oj := { dst := some 93, op := Op.buildSlice 27 1 #[(0, Operand.tmp 92)], type := 27, pos := "locks.go:352", after := #[{ on := 11, ground := Ground.data }], guard := none }) (E := True) (F := True) (by kernel_rfl) rfl (by rfl) rfl (by rfl) ?_ ?_
        · refine step_append_own (v := .slice none 0 0) (ys := []) tyN rfl (.const (.slice none 0 0)) (.tmp 87) rfl rfl (own_nil (w5.alloc (.cells #[.slice none 0 0, .slice none 0 0] 73)).drew w5.heap.size) rfl (HQ.out.below (alloc_below w5 (.cells #[.slice none 0 0, .slice none 0 0] 73)).drew) HLJ.out (by show 0 + j ≤ 1000000; omega) (alloc_below w5 (.cells #[.slice none 0 0, .slice none 0 0] 73)).size ?_
          intro v5 W5 ho5 hg5
          rw [List.nil_append] at ho5
          have HO5 := Lib.hid ho5
          have HB5 : Hid (Below w5.heap.size w5 W5) := (alloc_below w5 (.cells #[.slice none 0 0, .slice none 0 0] 73)).drew.trans ((Below.refl _ _).grown hg5 (alloc_below w5 (.cells #[.slice none 0 0, .slice none 0 0] 73)).size (fun q hq => by simp [Value.ownBlock] at hq))
          have HG5 : Hid (Below (w5.alloc (.cells #[.slice none 0 0, .slice none 0 0] 73)).heap.size (w5.alloc (.cells #[.slice none 0 0, .slice none 0 0] 73)) W5) := (Below.refl _ _).drew.trans ((Below.refl _ _).grown hg5 (Nat.le_refl _) (fun q hq => by simp [Value.ownBlock] at hq))
          have HQ5 := Lib.hid ((Blk.new w5 73 _).below HG5.out (by simp))
          clear ho5 hg5
          refine ⟨fun _ _ => HSB.out _ HB5.out, ?_⟩
          try simp only [Act.put, List.setIfInBounds_toArray, List.set_cons_zero, List.set_cons_succ]
          refine wpAnyK_one (i := 12) (o := { dst := some 93, op := Op.buildSlice 27 1 #[(0, Operand.tmp 92)], type := 27, pos := "locks.go:352", after := #[{ on := 11, ground := Ground.data }], guard := none }) (v := (.slice (some ⟨W5.heap.size, 0, none⟩) 1 1)) (w' := (W5.alloc (.cells #[.int .i64 m1, .string m2, .string m3, .pointer (some ⟨w5.heap.size, 0, none⟩)] 76))) (by kernel_rfl) rfl (by rfl) (by first | (go_simp; done) | (go_simp; rfl)) (HSB.out _ (HB5.out.trans ((alloc_below W5 (.cells #[.int .i64 m1, .string m2, .string m3, .pointer (some ⟨w5.heap.size, 0, none⟩)] 76)).mono HB5.out.size))) ?_
          try simp only [Act.put, List.setIfInBounds_toArray, List.set_cons_zero, List.set_cons_succ]
          refine wpAnyK_step (i := 13) (o := { dst := some 94, op := Op.call { callee := Callee.builtin Builtin.append, args := #[Operand.tmp 88, Operand.tmp 93], argTypes := #[27, 27] }, type := 27, pos := "locks.go:352", after := #[{ on := 7, ground := Ground.data }, { on := 12, ground := Ground.data }, { on := 7, ground := Ground.chain }], guard := none }) (E := True) (by kernel_rfl) rfl (by rfl) ?_
          refine step_append_own tyN rfl (.tmp 88) (.tmp 93) rfl rfl (own_belowE HO5.out (alloc_below W5 (.cells #[.int .i64 m1, .string m2, .string m3, .pointer (some ⟨w5.heap.size, 0, none⟩)] 76))) rfl (ent_one W5 (m1, m2, m3) w5.heap.size) rfl (by show _ + 1 ≤ 1000000; rw [HLJ.out]; omega) (Nat.le_trans HB5.out.size (alloc_below W5 (.cells #[.int .i64 m1, .string m2, .string m3, .pointer (some ⟨w5.heap.size, 0, none⟩)] 76)).size) ?_
          intro v6 W6 ho6 hg6
          have HO6 := Lib.hid ho6
          have HB6 : Hid (Below w5.heap.size w5 W6) := (HB5.out.trans ((alloc_below W5 (.cells #[.int .i64 m1, .string m2, .string m3, .pointer (some ⟨w5.heap.size, 0, none⟩)] 76)).mono HB5.out.size)).trans (grown_own (own_belowE HO5.out (alloc_below W5 (.cells #[.int .i64 m1, .string m2, .string m3, .pointer (some ⟨w5.heap.size, 0, none⟩)] 76))) hg6 (Nat.le_trans HB5.out.size (alloc_below W5 (.cells #[.int .i64 m1, .string m2, .string m3, .pointer (some ⟨w5.heap.size, 0, none⟩)] 76)).size))
          have HQ6 := Lib.hid (blk_grown (HQ5.out.alloc _) (own_belowE HO5.out (alloc_below W5 (.cells #[.int .i64 m1, .string m2, .string m3, .pointer (some ⟨w5.heap.size, 0, none⟩)] 76))) hg6)
          have hqz : w5.heap.size ≤ w5.heap.size := Nat.le_refl _
          clear ho6 hg6
          refine ⟨fun _ _ => HSB.out _ HB6.out, ?_⟩
          try simp only [Act.put, List.setIfInBounds_toArray, List.set_cons_zero, List.set_cons_succ]
          refine wpAnyK_step (i := 20) (o := { dst := some 101, op := Op.call { callee := Callee.builtin Builtin.append, args := #[Operand.tmp 94, Operand.tmp 100], argTypes := #[27, 27] }, type := 27, pos := "locks.go:352", after := #[{ on := 13, ground := Ground.data }, { on := 19, ground := Ground.data }, { on := 13, ground := Ground.chain }], guard := none }) (E := True) (by kernel_rfl) rfl (by rfl) ?_
          refine step_append_own tyN rfl (.tmp 94) (.tmp 100) rfl rfl HO6.out rfl (HTL.out.below HB6.out) HLM.out (by show _ + m2' ≤ 1000000; rw [List.length_append, HLJ.out]; show j + 1 + m2' ≤ 1000000; omega) HB6.out.size ?_
          intro v7 W7 ho7 hg7
          obtain ⟨A7, n7, c7, e7⟩ := own_form ho7
          subst e7
          have HO7 := Lib.hid ho7
          have HB7 : Hid (Below w5.heap.size w5 W7) := HB6.out.trans (grown_own HO6.out hg7 HB6.out.size)
          have HQ7 := Lib.hid (blk_grown HQ6.out HO6.out hg7)
          have qW7 : W7.cell? ⟨b, 0, none⟩ = some (.slice A ln c) := (HSB.out _ HB7.out).1
          have sW7 : b < W7.heap.size := Nat.lt_of_lt_of_le hbz HB7.out.size
          have fW7 := Blk.frozen ((HZ1.out.below HB7.out).blk) 0
          clear ho7 hg7
          refine ⟨fun _ _ => HSB.out _ HB7.out, ?_⟩
          try simp only [Act.put, List.setIfInBounds_toArray, List.set_cons_zero, List.set_cons_succ]
          refine wpAnyK_takeW (i := 21) (oi := { dst := some 102, op := Op.nilCheck (Operand.tmp 81), type := 0, pos := "locks.go:352", after := #[{ on := 0, ground := Ground.data }, { on := 0, ground := Ground.phase }, { on := 1, ground := Ground.phase }, { on := 2, ground := Ground.phase }, { on := 3, ground := Ground.phase }, { on := 4, ground := Ground.phase }, { on := 5, ground := Ground.phase }, { on := 6, ground := Ground.phase }, { on := 7, ground := Ground.phase }, { on := 8, ground := Ground.phase }, { on := 9, ground := Ground.phase }, { on := 10, ground := Ground.phase }, { on := 11, ground := Ground.phase }, { on := 12, ground := Ground.phase }, { on := 13, ground := Ground.phase }, { on := 14, ground := Ground.phase }, { on := 15, ground := Ground.phase }, { on := 16, ground := Ground.phase }, { on := 17, ground := Ground.phase }, { on := 18, ground := Ground.phase }, { on := 19, ground := Ground.phase }, { on := 20, ground := Ground.phase }], guard := none }) (v := (.pointer (some ⟨b, 0, none⟩))) rfl (by kernel_rfl) (by kernel_rfl) (by kernel_rfl) (fun _ _ _ h => h) (by decide) (HSB.out _ HB7.out) (by rfl) ?_ ?_
          · intro W; go_simp
          try simp only [Act.put, List.setIfInBounds_toArray, List.set_cons_zero, List.set_cons_succ]
          refine wpAnyK_takeW (i := 22) (oi := { dst := some 103, op := Op.fieldAddr 29 (Operand.tmp 102) 0, type := 0, pos := "locks.go:352", after := #[{ on := 21, ground := Ground.data }, { on := 0, ground := Ground.phase }, { on := 1, ground := Ground.phase }, { on := 2, ground := Ground.phase }, { on := 3, ground := Ground.phase }, { on := 4, ground := Ground.phase }, { on := 5, ground := Ground.phase }, { on := 6, ground := Ground.phase }, { on := 7, ground := Ground.phase }, { on := 8, ground := Ground.phase }, { on := 9, ground := Ground.phase }, { on := 10, ground := Ground.phase }, { on := 11, ground := Ground.phase }, { on := 12, ground := Ground.phase }, { on := 13, ground := Ground.phase }, { on := 14, ground := Ground.phase }, { on := 15, ground := Ground.phase }, { on := 16, ground := Ground.phase }, { on := 17, ground := Ground.phase }, { on := 18, ground := Ground.phase }, { on := 19, ground := Ground.phase }, { on := 20, ground := Ground.phase }], guard := none }) (v := (.pointer (some ⟨b, 0, none⟩))) rfl (by kernel_rfl) (by kernel_rfl) (by kernel_rfl) (fun _ _ _ h => h) (by decide) (HSB.out _ HB7.out) (by rfl) ?_ ?_
          · intro W; go_simp
          try simp only [Act.put, List.setIfInBounds_toArray, List.set_cons_zero, List.set_cons_succ]
          refine wpAnyK_store (i := 23) (o := { dst := none, op := Op.store 27 (Operand.tmp 103) (Operand.tmp 101), type := 0, pos := "locks.go:352", after := #[{ on := 22, ground := Ground.data }, { on := 20, ground := Ground.data }, { on := 20, ground := Ground.chain }, { on := 0, ground := Ground.phase }, { on := 1, ground := Ground.phase }, { on := 2, ground := Ground.phase }, { on := 3, ground := Ground.phase }, { on := 4, ground := Ground.phase }, { on := 5, ground := Ground.phase }, { on := 6, ground := Ground.phase }, { on := 7, ground := Ground.phase }, { on := 8, ground := Ground.phase }, { on := 9, ground := Ground.phase }, { on := 10, ground := Ground.phase }, { on := 11, ground := Ground.phase }, { on := 12, ground := Ground.phase }, { on := 13, ground := Ground.phase }, { on := 14, ground := Ground.phase }, { on := 15, ground := Ground.phase }, { on := 16, ground := Ground.phase }, { on := 17, ground := Ground.phase }, { on := 18, ground := Ground.phase }, { on := 19, ground := Ground.phase }, { on := 20, ground := Ground.phase }], guard := none }) (w' := W7.setCell ⟨b, 0, none⟩ (.slice A7 n7 c7)) (by kernel_rfl) rfl (by rfl) (by first | (go_simp; done) | (go_simp; rfl)) (by kernel_rfl) ?_
          try simp only [Act.put]
          refine wpAnyK_done (by kernel_rfl) ?_ _
          refine NoPanic.normal ?_
          have hb8 := HX7.out.trans (HBE.out.mono HX7.out.size)
          have hins := TB0.insert (n := (m1, m2, m3)) (pre := rs.take j) (post := rs.drop j) (by rw [List.take_append_drop]; exact HZ1.out) HB7.out (Nat.le_trans hbase hb8.size) (by rw [List.map_take, List.map_drop]; exact HO7.out) HQ7.out hqz
          have I1 := Lib.hid hins.1
          have I2 := Lib.hid ((Keep.of_below hb8).trans (Keep.mono hins.2 fun _ _ _ h => h))
          have hn7 : j < n7 := by
            obtain ⟨A8, c8, e8, _⟩ := own_lst HO7.out
            injection e8 with _ e9 _
            rw [e9, List.length_append, List.length_append, HLJ.out]
            simp only [List.length_singleton]
            omega
          have hjr : j ≤ rs.length := by rw [HLN.out]; exact hjl
          have hj2 : ∀ q, j < (rs.take j ++ newRw (m1, m2, m3) q :: rs.drop j).length := fun q => by
            rw [List.length_append, List.length_cons, List.length_take]
            omega
          have q0 := I1.out.blk.cell 0
          have hbs9 := I1.out.blk.lt
          obtain ⟨g9, o9, hA9, -, -, -, d9⟩ := I1.out.row (Below.refl _ _) (hj2 _)
          have hone := TB0.one_at I1.out (hj2 _)
          rw [new_at hjr (hj2 _)] at d9 hone
          subst hA9
          have hra := rask_ hone (Nat.le_trans hbase (Nat.le_trans hb8.size (Nat.le_trans HB7.out.size (by simp [World.setCell])))) HOKN.out (by simp [newRw]) (by simp [newRw]) who mode
          have HRA := Lib.hid hra
          have HHJ := Lib.hid hj2
          have HJR := Lib.hid hjr
          unfold newRw at d9
          simp only at d9
          clear hins hb8 hone hra hj2 qW7 sW7 fW7 hd1 hd2
          go_wp2_with fail
          refine HRA.out.mono ?_
          rintro e w9 ⟨rfl, hl9, hk9⟩
          obtain ⟨rs', e2, h9⟩ := TB0.turn_at I1.out (HHJ.out _) (by rw [new_at HJR.out (HHJ.out _)]; exact hl9) (by rw [new_at HJR.out (HHJ.out _)]; exact hk9)
          have hk9' := TB0.keep_at I1.out (HHJ.out _) (by rw [new_at HJR.out (HHJ.out _)]; exact hk9)
          rw [new_at HJR.out (HHJ.out _)] at e2
          have e3 : rs'.map Rw.ent = putN s (m1, m2, m3) (askP ([], []) who (mdN mode)).2 := by
            rw [e2]
            refine (new_set HJR.out).trans ?_
            unfold putN
            rw [HA.out, if_neg (by simp), HSP.out, ← HE.out]
            rfl
          have T1 := Lib.hid (show TB base b (putN s (m1, m2, m3) (askP ([], []) who (mdN mode)).2) w9 from ⟨_, rs', h9, e3⟩)
          have T2 := Lib.hid (I2.out.trans (Keep.mono hk9' fun _ _ _ h => h))
          have hza : (askP (newRw (m1, m2, m3) 0).l who (mdN mode)).1 = (askP ([], []) who (mdN mode)).1 := rfl
          clear hl9 hk9 h9 hk9' e2 e3 HRA
          generalize (askP ([], []) who (mdN mode)).2 = zb at *
          obtain ⟨za, hzb⟩ : ∃ za, (askP ([], []) who (mdN mode)).1 = za := ⟨_, rfl⟩
          have hzc : ∀ q, (askP (newRw (m1, m2, m3) q).l who (mdN mode)).1 = za := fun _ => hzb
          rw [hzc]
          have HZB := Lib.hid hzb
          clear hza hzb hzc
          cases za
          · go_wp2_with fail
            go_ret
            rw [HASK.out, HZB.out]
            exact ⟨rfl, T1.out, T2.out⟩
          · go_wp2_with fail
            go_ret
            rw [HASK.out, HZB.out]
            exact ⟨rfl, T1.out, T2.out⟩
        · refine if_exec (by rfl) (v := (.slice (some ⟨w5.heap.size + 1, 0, none⟩) 1 1)) (w' := ((w5.alloc (.cells #[.slice none 0 0, .slice none 0 0] 73)).alloc (.cells #[.int .i64 m1, .string m2, .string m3, .pointer (some ⟨w5.heap.size, 0, none⟩)] 76)).drew) (by first | (go_simp; done) | (go_simp; rfl)) ?_
          refine ⟨fun _ _ => HSB.out _ (below2 w5 (.cells #[.slice none 0 0, .slice none 0 0] 73) (.cells #[.int .i64 m1, .string m2, .string m3, .pointer (some ⟨w5.heap.size, 0, none⟩)] 76)).drew, ?_⟩
          try simp only [Act.put, List.setIfInBounds_toArray, List.set_cons_zero, List.set_cons_succ]
          refine wpAnyK_step (i := 7) (o := { dst := some 88, op := Op.call { callee := Callee.builtin Builtin.append, args := #[Operand.const (Value.slice none 0 0), Operand.tmp 87], argTypes := #[27, 27] }, type := 27, pos := "locks.go:352", after := #[{ on := 6, ground := Ground.data }], guard := none }) (E := True) (by kernel_rfl) rfl (by rfl) ?_
          refine step_append_own (v := .slice none 0 0) (ys := []) tyN rfl (.const (.slice none 0 0)) (.tmp 87) rfl rfl (own_nil ((w5.alloc (.cells #[.slice none 0 0, .slice none 0 0] 73)).alloc (.cells #[.int .i64 m1, .string m2, .string m3, .pointer (some ⟨w5.heap.size, 0, none⟩)] 76)).drew w5.heap.size) rfl (HQ.out.below (below2 w5 (.cells #[.slice none 0 0, .slice none 0 0] 73) (.cells #[.int .i64 m1, .string m2, .string m3, .pointer (some ⟨w5.heap.size, 0, none⟩)] 76)).drew) HLJ.out (by show 0 + j ≤ 1000000; omega) (below2 w5 (.cells #[.slice none 0 0, .slice none 0 0] 73) (.cells #[.int .i64 m1, .string m2, .string m3, .pointer (some ⟨w5.heap.size, 0, none⟩)] 76)).size ?_
          intro v5 W5 ho5 hg5
          rw [List.nil_append] at ho5
          have HO5 := Lib.hid ho5
          have HB5 : Hid (Below w5.heap.size w5 W5) := (below2 w5 (.cells #[.slice none 0 0, .slice none 0 0] 73) (.cells #[.int .i64 m1, .string m2, .string m3, .pointer (some ⟨w5.heap.size, 0, none⟩)] 76)).drew.trans ((Below.refl _ _).grown hg5 (below2 w5 (.cells #[.slice none 0 0, .slice none 0 0] 73) (.cells #[.int .i64 m1, .string m2, .string m3, .pointer (some ⟨w5.heap.size, 0, none⟩)] 76)).size (fun q hq => by simp [Value.ownBlock] at hq))
          have HG5 : Hid (Below ((w5.alloc (.cells #[.slice none 0 0, .slice none 0 0] 73)).alloc (.cells #[.int .i64 m1, .string m2, .string m3, .pointer (some ⟨w5.heap.size, 0, none⟩)] 76)).heap.size ((w5.alloc (.cells #[.slice none 0 0, .slice none 0 0] 73)).alloc (.cells #[.int .i64 m1, .string m2, .string m3, .pointer (some ⟨w5.heap.size, 0, none⟩)] 76)) W5) := (Below.refl _ _).drew.trans ((Below.refl _ _).grown hg5 (Nat.le_refl _) (fun q hq => by simp [Value.ownBlock] at hq))
          have HQ5 := Lib.hid (((Blk.new w5 73 _).alloc (.cells #[.int .i64 m1, .string m2, .string m3, .pointer (some ⟨w5.heap.size, 0, none⟩)] 76)).below HG5.out (by simp; omega))
          have HS5 := Lib.hid ((ent_two w5 (.cells #[.slice none 0 0, .slice none 0 0] 73) (m1, m2, m3) w5.heap.size).below HG5.out)
          clear ho5 hg5
          refine ⟨fun _ _ => HSB.out _ HB5.out, ?_⟩
          try simp only [Act.put, List.setIfInBounds_toArray, List.set_cons_zero, List.set_cons_succ]
          refine wpAnyK_step (i := 13) (o := { dst := some 94, op := Op.call { callee := Callee.builtin Builtin.append, args := #[Operand.tmp 88, Operand.tmp 93], argTypes := #[27, 27] }, type := 27, pos := "locks.go:352", after := #[{ on := 7, ground := Ground.data }, { on := 12, ground := Ground.data }, { on := 7, ground := Ground.chain }], guard := none }) (E := True) (by kernel_rfl) rfl (by rfl) ?_
          refine step_append_own tyN rfl (.tmp 88) (.tmp 93) rfl rfl (own_belowE HO5.out (Below.refl W5.heap.size W5)) rfl HS5.out rfl (by show _ + 1 ≤ 1000000; rw [HLJ.out]; omega) (Nat.le_trans HB5.out.size (Below.refl W5.heap.size W5).size) ?_
          intro v6 W6 ho6 hg6
          have HO6 := Lib.hid ho6
          have HB6 : Hid (Below w5.heap.size w5 W6) := (HB5.out.trans ((Below.refl W5.heap.size W5).mono HB5.out.size)).trans (grown_own (own_belowE HO5.out (Below.refl W5.heap.size W5)) hg6 (Nat.le_trans HB5.out.size (Below.refl W5.heap.size W5).size))
          have HQ6 := Lib.hid (blk_grown HQ5.out (own_belowE HO5.out (Below.refl W5.heap.size W5)) hg6)
          have hqz : w5.heap.size ≤ w5.heap.size := Nat.le_refl _
          clear ho6 hg6
          refine ⟨fun _ _ => HSB.out _ HB6.out, ?_⟩
          try simp only [Act.put, List.setIfInBounds_toArray, List.set_cons_zero, List.set_cons_succ]
          refine wpAnyK_step (i := 20) (o := { dst := some 101, op := Op.call { callee := Callee.builtin Builtin.append, args := #[Operand.tmp 94, Operand.tmp 100], argTypes := #[27, 27] }, type := 27, pos := "locks.go:352", after := #[{ on := 13, ground := Ground.data }, { on := 19, ground := Ground.data }, { on := 13, ground := Ground.chain }], guard := none }) (E := True) (by kernel_rfl) rfl (by rfl) ?_
          refine step_append_own tyN rfl (.tmp 94) (.tmp 100) rfl rfl HO6.out rfl (HTL.out.below HB6.out) HLM.out (by show _ + m2' ≤ 1000000; rw [List.length_append, HLJ.out]; show j + 1 + m2' ≤ 1000000; omega) HB6.out.size ?_
          intro v7 W7 ho7 hg7
          obtain ⟨A7, n7, c7, e7⟩ := own_form ho7
          subst e7
          have HO7 := Lib.hid ho7
          have HB7 : Hid (Below w5.heap.size w5 W7) := HB6.out.trans (grown_own HO6.out hg7 HB6.out.size)
          have HQ7 := Lib.hid (blk_grown HQ6.out HO6.out hg7)
          have qW7 : W7.cell? ⟨b, 0, none⟩ = some (.slice A ln c) := (HSB.out _ HB7.out).1
          have sW7 : b < W7.heap.size := Nat.lt_of_lt_of_le hbz HB7.out.size
          have fW7 := Blk.frozen ((HZ1.out.below HB7.out).blk) 0
          clear ho7 hg7
          refine ⟨fun _ _ => HSB.out _ HB7.out, ?_⟩
          try simp only [Act.put, List.setIfInBounds_toArray, List.set_cons_zero, List.set_cons_succ]
          refine wpAnyK_takeW (i := 21) (oi := { dst := some 102, op := Op.nilCheck (Operand.tmp 81), type := 0, pos := "locks.go:352", after := #[{ on := 0, ground := Ground.data }, { on := 0, ground := Ground.phase }, { on := 1, ground := Ground.phase }, { on := 2, ground := Ground.phase }, { on := 3, ground := Ground.phase }, { on := 4, ground := Ground.phase }, { on := 5, ground := Ground.phase }, { on := 6, ground := Ground.phase }, { on := 7, ground := Ground.phase }, { on := 8, ground := Ground.phase }, { on := 9, ground := Ground.phase }, { on := 10, ground := Ground.phase }, { on := 11, ground := Ground.phase }, { on := 12, ground := Ground.phase }, { on := 13, ground := Ground.phase }, { on := 14, ground := Ground.phase }, { on := 15, ground := Ground.phase }, { on := 16, ground := Ground.phase }, { on := 17, ground := Ground.phase }, { on := 18, ground := Ground.phase }, { on := 19, ground := Ground.phase }, { on := 20, ground := Ground.phase }], guard := none }) (v := (.pointer (some ⟨b, 0, none⟩))) rfl (by kernel_rfl) (by kernel_rfl) (by kernel_rfl) (fun _ _ _ h => h) (by decide) (HSB.out _ HB7.out) (by rfl) ?_ ?_
          · intro W; go_simp
          try simp only [Act.put, List.setIfInBounds_toArray, List.set_cons_zero, List.set_cons_succ]
          refine wpAnyK_takeW (i := 22) (oi := { dst := some 103, op := Op.fieldAddr 29 (Operand.tmp 102) 0, type := 0, pos := "locks.go:352", after := #[{ on := 21, ground := Ground.data }, { on := 0, ground := Ground.phase }, { on := 1, ground := Ground.phase }, { on := 2, ground := Ground.phase }, { on := 3, ground := Ground.phase }, { on := 4, ground := Ground.phase }, { on := 5, ground := Ground.phase }, { on := 6, ground := Ground.phase }, { on := 7, ground := Ground.phase }, { on := 8, ground := Ground.phase }, { on := 9, ground := Ground.phase }, { on := 10, ground := Ground.phase }, { on := 11, ground := Ground.phase }, { on := 12, ground := Ground.phase }, { on := 13, ground := Ground.phase }, { on := 14, ground := Ground.phase }, { on := 15, ground := Ground.phase }, { on := 16, ground := Ground.phase }, { on := 17, ground := Ground.phase }, { on := 18, ground := Ground.phase }, { on := 19, ground := Ground.phase }, { on := 20, ground := Ground.phase }], guard := none }) (v := (.pointer (some ⟨b, 0, none⟩))) rfl (by kernel_rfl) (by kernel_rfl) (by kernel_rfl) (fun _ _ _ h => h) (by decide) (HSB.out _ HB7.out) (by rfl) ?_ ?_
          · intro W; go_simp
          try simp only [Act.put, List.setIfInBounds_toArray, List.set_cons_zero, List.set_cons_succ]
          refine wpAnyK_store (i := 23) (o := { dst := none, op := Op.store 27 (Operand.tmp 103) (Operand.tmp 101), type := 0, pos := "locks.go:352", after := #[{ on := 22, ground := Ground.data }, { on := 20, ground := Ground.data }, { on := 20, ground := Ground.chain }, { on := 0, ground := Ground.phase }, { on := 1, ground := Ground.phase }, { on := 2, ground := Ground.phase }, { on := 3, ground := Ground.phase }, { on := 4, ground := Ground.phase }, { on := 5, ground := Ground.phase }, { on := 6, ground := Ground.phase }, { on := 7, ground := Ground.phase }, { on := 8, ground := Ground.phase }, { on := 9, ground := Ground.phase }, { on := 10, ground := Ground.phase }, { on := 11, ground := Ground.phase }, { on := 12, ground := Ground.phase }, { on := 13, ground := Ground.phase }, { on := 14, ground := Ground.phase }, { on := 15, ground := Ground.phase }, { on := 16, ground := Ground.phase }, { on := 17, ground := Ground.phase }, { on := 18, ground := Ground.phase }, { on := 19, ground := Ground.phase }, { on := 20, ground := Ground.phase }], guard := none }) (w' := W7.setCell ⟨b, 0, none⟩ (.slice A7 n7 c7)) (by kernel_rfl) rfl (by rfl) (by first | (go_simp; done) | (go_simp; rfl)) (by kernel_rfl) ?_
          try simp only [Act.put]
          refine wpAnyK_done (by kernel_rfl) ?_ _
          refine NoPanic.normal ?_
          have hb8 := HX7.out.trans (HBE.out.mono HX7.out.size)
          have hins := TB0.insert (n := (m1, m2, m3)) (pre := rs.take j) (post := rs.drop j) (by rw [List.take_append_drop]; exact HZ1.out) HB7.out (Nat.le_trans hbase hb8.size) (by rw [List.map_take, List.map_drop]; exact HO7.out) HQ7.out hqz
          have I1 := Lib.hid hins.1
          have I2 := Lib.hid ((Keep.of_below hb8).trans (Keep.mono hins.2 fun _ _ _ h => h))
          have hn7 : j < n7 := by
            obtain ⟨A8, c8, e8, _⟩ := own_lst HO7.out
            injection e8 with _ e9 _
            rw [e9, List.length_append, List.length_append, HLJ.out]
            simp only [List.length_singleton]
            omega
          have hjr : j ≤ rs.length := by rw [HLN.out]; exact hjl
          have hj2 : ∀ q, j < (rs.take j ++ newRw (m1, m2, m3) q :: rs.drop j).length := fun q => by
            rw [List.length_append, List.length_cons, List.length_take]
            omega
          have q0 := I1.out.blk.cell 0
          have hbs9 := I1.out.blk.lt
          obtain ⟨g9, o9, hA9, -, -, -, d9⟩ := I1.out.row (Below.refl _ _) (hj2 _)
          have hone := TB0.one_at I1.out (hj2 _)
          rw [new_at hjr (hj2 _)] at d9 hone
          subst hA9
          have hra := rask_ hone (Nat.le_trans hbase (Nat.le_trans hb8.size (Nat.le_trans HB7.out.size (by simp [World.setCell])))) HOKN.out (by simp [newRw]) (by simp [newRw]) who mode
          have HRA := Lib.hid hra
          have HHJ := Lib.hid hj2
          have HJR := Lib.hid hjr
          unfold newRw at d9
          simp only at d9
          clear hins hb8 hone hra hj2 qW7 sW7 fW7 hd1 hd2
          go_wp2_with fail
          refine HRA.out.mono ?_
          rintro e w9 ⟨rfl, hl9, hk9⟩
          obtain ⟨rs', e2, h9⟩ := TB0.turn_at I1.out (HHJ.out _) (by rw [new_at HJR.out (HHJ.out _)]; exact hl9) (by rw [new_at HJR.out (HHJ.out _)]; exact hk9)
          have hk9' := TB0.keep_at I1.out (HHJ.out _) (by rw [new_at HJR.out (HHJ.out _)]; exact hk9)
          rw [new_at HJR.out (HHJ.out _)] at e2
          have e3 : rs'.map Rw.ent = putN s (m1, m2, m3) (askP ([], []) who (mdN mode)).2 := by
            rw [e2]
            refine (new_set HJR.out).trans ?_
            unfold putN
            rw [HA.out, if_neg (by simp), HSP.out, ← HE.out]
            rfl
          have T1 := Lib.hid (show TB base b (putN s (m1, m2, m3) (askP ([], []) who (mdN mode)).2) w9 from ⟨_, rs', h9, e3⟩)
          have T2 := Lib.hid (I2.out.trans (Keep.mono hk9' fun _ _ _ h => h))
          have hza : (askP (newRw (m1, m2, m3) 0).l who (mdN mode)).1 = (askP ([], []) who (mdN mode)).1 := rfl
          clear hl9 hk9 h9 hk9' e2 e3 HRA
          generalize (askP ([], []) who (mdN mode)).2 = zb at *
          obtain ⟨za, hzb⟩ : ∃ za, (askP ([], []) who (mdN mode)).1 = za := ⟨_, rfl⟩
          have hzc : ∀ q, (askP (newRw (m1, m2, m3) q).l who (mdN mode)).1 = za := fun _ => hzb
          rw [hzc]
          have HZB := Lib.hid hzb
          clear hza hzb hzc
          cases za
          · go_wp2_with fail
            go_ret
            rw [HASK.out, HZB.out]
            exact ⟨rfl, T1.out, T2.out⟩
          · go_wp2_with fail
            go_ret
            rw [HASK.out, HZB.out]
            exact ⟨rfl, T1.out, T2.out⟩

end Go.Proofs.YtnjhhndggfjjdaaGreatDoor
