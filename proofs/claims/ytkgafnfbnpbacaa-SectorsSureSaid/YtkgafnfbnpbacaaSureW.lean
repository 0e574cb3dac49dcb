/- The law on what is sure, walked. -/
import Derived.Test.YtkgafnfbnpbacaaSureP
import Derived.Deep.RegionHeld3
import Derived.Deep.RegionWith
namespace Go.Proofs.Ytkgafnfbnpbacaa
open Go.RowKit
theorem make16 (w : World) : (Instr.makeSlice 32 (.int .i64 16) (.int .i64 16)).run Try.prog w = .ok (.slice (some ⟨w.heap.size, 0, none⟩) 16 16) (w.alloc (.cells (cellsB (zeros 16)).toArray 5)) := made5 16 (by omega) w
def SureRelA (w : World) (B g gw n k : Nat) (i : Value) (wr : World) : Prop :=
  ∃ j xs, j + k = n ∧ i = .int .i64 (j : Int) ∧ gw < wr.heap.size ∧ Keep (fun i _ => i < B) w wr ∧ SureA B g gw wr xs j
def SureRelB (w : World) (B g gw : Nat) (ks : List Bool) (n k : Nat) (i : Value) (wr : World) : Prop :=
  ∃ j xs, j + k = n ∧ i = .int .i64 (j : Int) ∧ gw < wr.heap.size ∧ Keep (fun i _ => i < B) w wr ∧ SureB B g gw ks wr xs j
def SureRelC (w : World) (B g gw : Nat) (s : St) (ys : List UInt8) (k : Nat) (i : Value) (wr : World) : Prop :=
  ∃ j, j + k = 16 ∧ i = .int .i64 (j : Int) ∧ gw < wr.heap.size ∧ Below w.heap.size w wr ∧ Blk wr gw 5 (cellsB ys).toArray ∧ DiskAt wr g (HiBut B gw) s
set_option maxRecDepth 100000 in
set_option maxHeartbeats 4000000 in
theorem sectorsSure (A1 : Option Addr) (n1 c1 : Nat) (z1 : List Int) (A2 : Option Addr) (n2 c2 : Nat) (z2 : List Int) (A3 : Option Addr) (n3 c3 : Nat) (ks : List Bool) (w : World)
    (h1 : Ints w A1 n1 z1) (h2 : Ints w A2 n2 z2) (h3 : Bools w (fun i => i < w.heap.size) A3 n3 ks) (m1 : n1 ≤ 9223372036854775807) (m2 : n2 ≤ 9223372036854775807) (m3 : n3 ≤ 9223372036854775807) (nc1 : n1 ≤ c1) (nc2 : n2 ≤ c2) :
    Calls Try.prog 4 #[.slice A1 n1 c1, .slice A2 n2 c2, .slice A3 n3 c3] w fun e w' => e = .returned (.bool true) ∧ Below w.heap.size w w' := by
  by_cases hin : n1 ≤ 30 ∧ n2 ≤ 30 ∧ n3 ≤ 40
  · obtain ⟨b1, b2, b3⟩ := hin
    have HI1 := Lib.hid h1
    have HI2 := Lib.hid h2
    have HKS := Lib.hid h3
    clear h1 h2 h3
    have hmk := make16
    go_enter Try.func4, Try.ntmps4
    go_wp2_with fail
    refine (alive w).mono ?_
    rintro e w1 ⟨rfl, hb1⟩
    have HB1 := Lib.hid hb1
    clear hb1
    go_wp2_with fail
    refine (new_ w1 16).mono ?_
    rintro e w2 ⟨rfl, hd, hb, hz⟩
    have HD := Lib.hid hd
    have HB2 := Lib.hid hb
    have HZ := Lib.hid hz
    have hsz2 : w1.heap.size < w2.heap.size := by omega
    clear hd hb hz
    go_wp2_with fail
    go_loopg [10] n1 (fun k i wr => SureRelA w1 w1.heap.size (w1.heap.size + 1) w2.heap.size n1 k i wr)
    case atStart =>
      refine ⟨0, zeros 16, by omega, rfl, by simp, (Keep.of_below HB2.out).alloc _, ?_⟩
      refine ⟨zeros_length 16, Blk.new w2 5 _, St.new (cutN 16), ?_, by rw [St.n_new]; rfl, ?_, rfl, rfl, rfl, rfl⟩
      · exact (HD.out.cut.more (O' := HiBut w1.heap.size w2.heap.size) fun i hi => ⟨hi.1, by omega⟩).below (alloc_below w2 _)
      · rw [show cutN 16 = 16 from rfl, new_secOf]
    case round =>
      obtain ⟨j, xs, hj, rfl, hgw, hkw, hx, hB, s, hd, hn, hnow, hl, hco, he, hle⟩ := hrel
      have HJ := Lib.hid hj
      have HKW := Lib.hid hkw
      have HX := Lib.hid hx
      have HB := Lib.hid hB
      have HDr := Lib.hid hd.drew
      have HD0 := Lib.hid hd
      have HN := Lib.hid hn
      have HNOW := Lib.hid hnow
      have HL := Lib.hid hl
      have HCO := Lib.hid hco
      have HE := Lib.hid he
      have HLE := Lib.hid hle
      clear hj hkw hx hB hd hn hnow hl hco he hle
      by_cases hlt : j < n1
      · obtain ⟨ab, ao, rfl, hab, hac⟩ := HI1.out.2 (by omega)
        obtain ⟨z, hz⟩ := at_of_lt z1 j (by have := HI1.out.1; omega)
        have hab1 : ab < w1.heap.size := Nat.lt_of_lt_of_le hab HB1.out.size
        have hcw : wr.cell? ⟨ab, ao + j, none⟩ = some (.int .i64 z) := by
          rw [cell_keep HKW.out hab1 (fun _ => hab1), cell_of_heap (HB1.out.block ab hab)]; exact hac j z hz
        have hb15 := and15 z
        have hk15 : (z % 16).toNat < 16 := by omega
        generalize (z % 16).toNat = k at *
        have hbr : s.broken = false := by simp [St.broken, HE.out]
        have HBR := Lib.hid hbr
        have hsm : j ≤ 1000000 := by omega
        have hlz : s.left ≤ 9223372036854775807 := by rw [HLE.out]; omega
        clear hac hz hbr
        obtain ⟨c, hc⟩ : ∃ c, c = j + 1 := ⟨_, rfl⟩
        have hws : IntKind.i64.wrap (1 + (j : Int)) = (c : Int) := by rw [IntKind.wrap_i64]; omega
        have hwu : IntKind.u8.wrap (c : Int) = (c : Int) := by rw [IntKind.wrap_u8]; omega
        have hc256 : c < 256 := by omega
        have HC := Lib.hid hc
        clear hc
        go_wp2_with fail
        go_region_held3 (fun w' => w'.cell? ⟨ab, ao + j, none⟩ = some (.int .i64 z)) (first | exact hcw | exact (cell_keep ((Keep.refl wr.drew).alloc _) (K := fun _ _ => True) (by show ab < wr.heap.size; omega) (fun _ => trivial) _).trans hcw | exact (cell_keep hk7 (by simp; omega) (fun _ h => by have := h.1; omega) _).trans ((cell_keep ((Keep.refl wr.drew).alloc _) (K := fun _ _ => True) (by show ab < wr.heap.size; omega) (fun _ => trivial) _).trans hcw))
          (first | (go_at_call 11; refine (fill_f _ c rfl hc256 _).mono ?_; rintro e w5 ⟨rfl, rfl⟩) | (go_at_call 10; refine (write_f HDr.out HBR.out (by rw [HL.out]; exact hsm) (by rw [HCO.out]; exact hsm) hlz k (by rw [HN.out]; exact hk15) c).mono ?_; rintro e w7 ⟨rfl, hd7, hk7⟩))
        rename_i hS7
        have hS7' : w7.cell? ⟨ab, ao + j, none⟩ = some (.int .i64 z) := hS7
        have hA := SureA.next HX.out HN.out HNOW.out HL.out HCO.out HE.out HLE.out HB.out rfl hc256 (by omega) hd7 hk7
        have hcj : (c : Int) = 1 + (j : Int) := by have := HC.out; omega
        rw [hcj] at hA
        have hgw7 : w2.heap.size < w7.heap.size := Nat.lt_of_lt_of_le (by simp; omega) hk7.size
        have hBw : Blk w7 w2.heap.size 5 (cellsB xs).toArray := by
          have h0 : Blk (wr.drew.alloc (.cells (cellsB (filled c false)).toArray 5)) w2.heap.size 5 (cellsB xs).toArray := Blk.alloc (w := wr.drew) HB.out _
          exact h0.keep hk7 (fun h => h.2 rfl)
        obtain ⟨y, hy⟩ := at_of_lt xs k (by rw [HX.out]; exact hk15)
        have hcy : w7.cell? ⟨w2.heap.size, k, none⟩ = some (u8 y) := by rw [hBw.cell, List.getElem?_toArray, cellsB_get, hy]; rfl
        have hfy := hBw.frozen k
        have hk8 := ((HKW.out.drew.alloc (.cells (cellsB (filled c false)).toArray 5)).trans (keep_lo hk7 fun i hi => hi.1)).setCell (p := ⟨w2.heap.size, k, none⟩) (fun _ _ h => by have : w2.heap.size < w1.heap.size := h; omega) (.int .u8 (1 + (j : Int)))
        have HA := Lib.hid hA
        have HK8 := Lib.hid hk8
        clear hws hwu hS7 hA hcj hBw hy hk8 hd7 hk7
        go_wp2
        go_roundg (n1 - (j + 1))
        case measure => have := HJ.out; omega
        case rel => exact ⟨j + 1, _, by omega, by go_num, by simpa [World.setCell] using hgw7, HK8.out, HA.out⟩
      · obtain rfl : j = n1 := by have := HJ.out; omega
        have hbr : s.broken = false := by simp [St.broken, HE.out]
        have HBR := Lib.hid hbr
        clear hbr hlt
        go_wp2_with fail
        refine (sync_ HD0.out HBR.out).mono ?_
        rintro e w3 ⟨rfl, hd3, hk3⟩
        have HB3 := Lib.hid (HB.out.keep hk3 (fun h => h.2 rfl))
        have HK3 := Lib.hid (HKW.out.trans (keep_lo hk3 fun i hi => hi.1))
        have HD3 := Lib.hid hd3
        have hgw3 : w2.heap.size < w3.heap.size := Nat.lt_of_lt_of_le hgw hk3.size
        clear hd3 hk3
        go_wp2_with fail
        go_loopg [12] n2 (fun k i wr => SureRelB w1 w1.heap.size (w1.heap.size + 1) w2.heap.size ks n2 k i wr)
        case atStart => exact ⟨0, xs, by omega, rfl, hgw3, HK3.out, HX.out, HB3.out, _, HD3.out, by rw [St.n_sync]; exact HN.out, HNOW.out, rfl, by show s.count ≤ _; rw [HCO.out]; omega, HE.out, HLE.out⟩
        case round =>
          obtain ⟨i, ys, hi, rfl, hgr, hkw2, hy, hB2, t, hd2, hn2, hset, hl2, hco2, he2, hle2⟩ := hrel
          have HIJ := Lib.hid hi
          have HKW2 := Lib.hid hkw2
          have HY := Lib.hid hy
          have HBY := Lib.hid hB2
          have HDr2 := Lib.hid hd2.drew
          have HD2 := Lib.hid hd2
          have HN2 := Lib.hid hn2
          have HSET := Lib.hid hset
          have HL2 := Lib.hid hl2
          have HCO2 := Lib.hid hco2
          have HE2 := Lib.hid he2
          have HLE2 := Lib.hid hle2
          clear hi hkw2 hy hB2 hd2 hn2 hset hl2 hco2 he2 hle2
          by_cases hlt : i < n2
          · obtain ⟨ab, ao, rfl, hab, hac⟩ := HI2.out.2 (by omega)
            obtain ⟨z, hz⟩ := at_of_lt z2 i (by have := HI2.out.1; omega)
            have hab1 : ab < w1.heap.size := Nat.lt_of_lt_of_le hab HB1.out.size
            have hcw : wr.cell? ⟨ab, ao + i, none⟩ = some (.int .i64 z) := by
              rw [cell_keep HKW2.out hab1 (fun _ => hab1), cell_of_heap (HB1.out.block ab hab)]; exact hac i z hz
            have hb15 := and15 z
            have hk15 : (z % 16).toNat < 16 := by omega
            generalize (z % 16).toNat = k at *
            have hbr : t.broken = false := by simp [St.broken, HE2.out]
            have HBR2 := Lib.hid hbr
            have hsm : i ≤ 1000000 := by omega
            have hsm2 : 30 + i ≤ 1000000 := by omega
            have hlz : t.left ≤ 9223372036854775807 := by rw [HLE2.out]; omega
            clear hac hz hbr
            obtain ⟨c, hc⟩ : ∃ c, c = i + 101 := ⟨_, rfl⟩
            have hws : IntKind.i64.wrap (101 + (i : Int)) = (c : Int) := by rw [IntKind.wrap_i64]; omega
            have hwu : IntKind.u8.wrap (c : Int) = (c : Int) := by rw [IntKind.wrap_u8]; omega
            have hc256 : c < 256 := by omega
            have HC := Lib.hid hc
            clear hc
            go_wp2_with fail
            go_region_held3 (fun w' => w'.cell? ⟨ab, ao + i, none⟩ = some (.int .i64 z)) (first | exact hcw | exact (cell_keep ((Keep.refl wr.drew).alloc _) (K := fun _ _ => True) (by show ab < wr.heap.size; omega) (fun _ => trivial) _).trans hcw | exact (cell_keep hk7 (by simp; omega) (fun _ h => by have := h.1; omega) _).trans ((cell_keep ((Keep.refl wr.drew).alloc _) (K := fun _ _ => True) (by show ab < wr.heap.size; omega) (fun _ => trivial) _).trans hcw))
              (first | (go_at_call 11; refine (fill_f _ c rfl hc256 _).mono ?_; rintro e w5 ⟨rfl, rfl⟩) | (go_at_call 10; refine (write_f HDr2.out HBR2.out (by rw [HL2.out]; exact hsm) (Nat.le_trans HCO2.out hsm2) hlz k (by rw [HN2.out]; exact hk15) c).mono ?_; rintro e w7 ⟨rfl, hd7, hk7⟩))
            rename_i hS7
            have hS7' : w7.cell? ⟨ab, ao + i, none⟩ = some (.int .i64 z) := hS7
            have hA := SureB.next HY.out HN2.out HSET.out HL2.out HCO2.out HE2.out HLE2.out HBY.out rfl hc256 (by omega) hd7 hk7
            have hcj : (c : Int) = 101 + (i : Int) := by have := HC.out; omega
            rw [hcj] at hA
            have hgw7 : w2.heap.size < w7.heap.size := Nat.lt_of_lt_of_le (by simp; omega) hk7.size
            have hBw : Blk w7 w2.heap.size 5 (cellsB ys).toArray := by
              have h0 : Blk (wr.drew.alloc (.cells (cellsB (filled c false)).toArray 5)) w2.heap.size 5 (cellsB ys).toArray := Blk.alloc (w := wr.drew) HBY.out _
              exact h0.keep hk7 (fun h => h.2 rfl)
            obtain ⟨y, hy⟩ := at_of_lt ys k (by rw [HY.out]; exact hk15)
            have hcy : w7.cell? ⟨w2.heap.size, k, none⟩ = some (u8 y) := by rw [hBw.cell, List.getElem?_toArray, cellsB_get, hy]; rfl
            have hfy := hBw.frozen k
            have hk70 := ((HKW2.out.drew.alloc (.cells (cellsB (filled c false)).toArray 5)).trans (keep_lo hk7 fun i hi => hi.1))
            have hk8 := hk70.setCell (p := ⟨w2.heap.size, k, none⟩) (fun _ _ h => by have : w2.heap.size < w1.heap.size := h; omega) (.int .u8 (101 + (i : Int)))
            have HBK := Lib.hid (HKS.out.keep (Keep.of_below ((HB1.out.trans ((below_of_keep hk70 (Nat.le_refl _)).mono HB1.out.size)).mono (Nat.le_refl _))))
            have HA := Lib.hid hA
            have HK8 := Lib.hid hk8
            have HK70 := Lib.hid hk70
            clear hws hwu hS7 hA hcj hBw hy hk8 hd7 hk7 hk70
            by_cases hin3 : i < n3
            · obtain ⟨kb, ko, rfl, hkb, _, hkc⟩ := HBK.out.2 (by omega)
              obtain ⟨q, hq⟩ := at_of_lt ks i (by have := HBK.out.1; omega)
              have hcellq := hkc i q hq
              have hst0 : stays ks i = q := by
                unfold stays
                rw [List.getD_eq_getElem?_getD, hq]; rfl
              have HF := Lib.hid hst0
              clear hst0 hq hkc hkb
              cases q
              · go_wp2
                go_roundg (n2 - (i + 1))
                case measure => have := HIJ.out; omega
                case rel => exact ⟨i + 1, _, by omega, by go_num, hgw7, HK70.out, HA.out.2 HF.out⟩
              · go_wp2
                go_roundg (n2 - (i + 1))
                case measure => have := HIJ.out; omega
                case rel => exact ⟨i + 1, _, by omega, by go_num, by simpa [World.setCell] using hgw7, HK8.out, HA.out.1 HF.out⟩
            · have hst0 : stays ks i = false := by
                unfold stays
                rw [List.getD_eq_getElem?_getD, List.getElem?_eq_none (by have := HBK.out.1; omega)]; rfl
              have HF := Lib.hid hst0
              clear hst0
              go_wp2
              go_roundg (n2 - (i + 1))
              case measure => have := HIJ.out; omega
              case rel => exact ⟨i + 1, _, by omega, by go_num, hgw7, HK70.out, HA.out.2 HF.out⟩
          · obtain rfl : i = n2 := by have := HIJ.out; omega
            have hbel : Below w.heap.size w wr := HB1.out.trans ((below_of_keep HKW2.out (Nat.le_refl _)).mono HB1.out.size)
            have HBEL := Lib.hid hbel
            have HBK := Lib.hid (HKS.out.keep (Keep.of_below (hbel.mono (Nat.le_refl _))))
            clear hbel hlt
            go_wp2_with fail
            refine (crash_ HD2.out (by rw [HL2.out]; omega) A3 n3 c3 ks (HBK.out.more fun i _ hi h => by have := HB1.out.size; have := h.1; omega) m3).mono ?_
            rintro e w8 ⟨rfl, hd8, hk8⟩
            have hnow8 : (t.crash (stays ks)).now = secOf ys := HSET.out
            have hn8 : (t.crash (stays ks)).n = 16 := by rw [St.n_crash]; exact HN2.out
            have HD8 := Lib.hid hd8
            have HB8 := Lib.hid (HBY.out.keep hk8 (fun h => h.2 rfl))
            have HBEL8 := Lib.hid (HBEL.out.trans ((below_of_keep (keep_lo hk8 fun i hi => hi.1) (by omega)).mono HB1.out.size))
            have hgw8 : w2.heap.size < w8.heap.size := Nat.lt_of_lt_of_le hgr hk8.size
            have HNOW8 := Lib.hid hnow8
            have HN8 := Lib.hid hn8
            clear hd8 hk8 hnow8 hn8
            generalize t.crash (stays ks) = s8 at *
            go_wp2_with fail
            go_loopg [13] 16 (fun k i wr => SureRelC w w1.heap.size (w1.heap.size + 1) w2.heap.size s8 ys k i wr)
            case atStart => exact ⟨0, rfl, rfl, hgw8, HBEL8.out, HB8.out, HD8.out⟩
            case round =>
              obtain ⟨q, hq, rfl, hgq, hbq, hBq, hdq⟩ := hrel
              have HQ := Lib.hid hq
              have HBQ := Lib.hid hbq
              have HBB := Lib.hid hBq
              have HDQ := Lib.hid hdq
              clear hq hbq hBq hdq
              by_cases hlt : q < 16
              · obtain ⟨y, hy⟩ := at_of_lt ys q (by rw [HY.out]; exact hlt)
                have hcy : wr.cell? ⟨w2.heap.size, q, none⟩ = some (u8 y) := by rw [HBB.out.cell, List.getElem?_toArray, cellsB_get, hy]; rfl
                have hgq2 := secOf_get hy
                rw [← HNOW8.out] at hgq2
                have HG := Lib.hid hgq2
                have hqn : q < s8.n := by rw [HN8.out]; exact hlt
                have hy256 : y.toNat < 256 := UInt8.toNat_lt y
                have hcf := convert_filled y.toNat
                clear hy hgq2
                generalize hye : y.toNat = yn at *
                have hcy2 : wr.cell? ⟨w2.heap.size, q, none⟩ = some (.int .u8 (yn : Int)) := by rw [hcy, ← hye]
                clear hcy hye
                go_wp2_with fail
                go_region_with (first | (go_at_call 22; refine (read_strD HDQ.out q hqn HG.out).mono ?_; rintro e w7 ⟨rfl, hcv1, hcv2, hbel7, hsz7⟩; have hcy7 := (cell_of_heap (hbel7.block w2.heap.size hgq) q).trans hcy2) | (go_at_call 11; refine (fill_f _ yn rfl hy256 _).mono ?_; rintro e w8 ⟨rfl, rfl⟩))
                all_goals
                  have HBEL7 := Lib.hid hbel7
                  have hgq7 : w2.heap.size < w7.heap.size := Nat.lt_trans hgq hsz7
                  clear hcv1 hcv2 hbel7 hcf
                  go_wp2
                  go_roundg (16 - (q + 1))
                  case measure => have := HQ.out; omega
                  case rel => exact ⟨q + 1, by omega, by go_num, by simp; omega, (HBQ.out.trans (HBEL7.out.mono HBQ.out.size)).alloc (by have := HBQ.out.size; omega) _, (HBB.out.below HBEL7.out hgq).alloc _, (HDQ.out.below HBEL7.out).below (alloc_below _ _)⟩
              · go_wp2
                go_ret
                exact ⟨rfl, HBQ.out⟩
  · have hor : 30 < n1 ∨ (¬ 30 < n1 ∧ 30 < n2) ∨ (¬ 30 < n1 ∧ ¬ 30 < n2 ∧ 40 < n3) := by omega
    clear hin h1 h2 h3
    rcases hor with h1 | ⟨h1, h2⟩ | ⟨h1, h2, h3⟩
    all_goals
      go_enter Try.func4, Try.ntmps4
      go_wp2_with (go_at_call 7; refine (alive _).mono ?_; rintro e w' ⟨rfl, hb⟩)
      go_ret
      exact ⟨rfl, hb⟩
end Go.Proofs.Ytkgafnfbnpbacaa
