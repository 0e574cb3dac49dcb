/- What Put does. -/
import Derived.Test.YteilbaabnhogbaaSpanM
import Derived.RegionTactic
namespace Go.Proofs.Yteilbaabnhogbaa
open Go.RowKit
def PutP (w : World) (g : Nat) (O : Nat → Prop) (p : St × Bool) (e : Ending) (w' : World) : Prop :=
  e = .returned (.bool p.2) ∧ DiskAt w' g (fun i => O i ∨ w.heap.size ≤ i) p.1 ∧ Keep (Out O) w w'
def PutRel (w : World) (g : Nat) (O : Nat → Prop) (at_ : Nat) (xs : List UInt8) (p : St × Bool) (N k : Nat) (i : Value) (wr : World) : Prop :=
  ∃ (j : Nat) (s : St), j + k = N ∧ i = .int .i64 (j : Int) ∧ DiskAt wr g (fun i => O i ∨ w.heap.size ≤ i) s ∧ Keep (fun i _ => i < w.heap.size ∧ ¬ O i) w wr ∧ putGo at_ xs s j k = p ∧
    s.l.length + k ≤ 1000000 ∧ s.count + k ≤ 1000000 ∧ s.left ≤ 9223372036854775807 ∧ at_ + N ≤ s.n
theorem src_blk {w : World} {O : Nat → Prop} {b : Nat} {xs : List UInt8} (h : Blk w b 49 (cellsB xs).toArray) (hO : ¬ O b) : Src w O b 0 xs :=
  ⟨h.lt, .inl hO, fun j u hu => by rw [h.cell, Nat.zero_add, List.getElem?_toArray]; exact hu⟩
theorem put_next {w wr W2 w3 : World} {g N a gk j : Nat} {O : Nat → Prop} {xs : List UInt8} {t : St} {p : St × Bool} (hj : j + (gk + 1) = N) (hn : a + N ≤ t.n) (hl : t.l.length + (gk + 1) ≤ 1000000) (hc : t.count + (gk + 1) ≤ 1000000) (hle : t.left ≤ 9223372036854775807)
    (hb : Below wr.heap.size wr W2) (hs : W2.heap.size = wr.heap.size + 1) (hws : w.heap.size ≤ wr.heap.size) (hk : Keep (fun i _ => i < w.heap.size ∧ ¬ O i) w wr)
    (hd : DiskAt w3 g (fun i => ((O i ∨ w.heap.size ≤ i) ∧ i < wr.heap.size) ∨ W2.heap.size ≤ i) (t.wr (a + j) (chunk xs j))) (hk3 : Keep (Out fun i => (O i ∨ w.heap.size ≤ i) ∧ i < wr.heap.size) W2 w3)
    (hp : (if false = true then (t, false) else putGo a xs (t.wr (a + j) (chunk xs j)) (j + 1) gk) = p) : PutRel w g O a xs p N gk (.int .i64 (((j + 1 : Nat) : Int))) w3 := by
  refine ⟨j + 1, t.wr (a + j) (chunk xs j), by omega, rfl, hd.more fun i hi => ?_, ?_, by simpa using hp, ?_, ?_, ?_, by rw [St.n_wr]; omega⟩
  · rcases hi with hi | hi
    · exact hi.1
    · exact .inr (by omega)
  · refine (hk.trans (Keep.of_below hb)).trans (hk3.mono fun i _ _ hi h => ?_)
    rcases h.1 with h | h
    · exact hi.2 h
    · omega
  · simp only [St.wr, List.length_append, List.length_singleton]; omega
  · simp only [St.wr]; omega
  · simp only [St.wr]; split <;> omega
set_option maxRecDepth 100000 in
set_option maxHeartbeats 1000000 in
theorem put_ {w : World} {g : Nat} {O : Nat → Prop} {s : St} (h : DiskAt w g O s) (at_ : Int) (A : Option Addr) (c : Nat) (xs : List UInt8) (hx : Has w (fun i => ¬ O i) A xs) (hc : xs.length ≤ c) (hl : s.l.length + need xs.length ≤ 1000000) (hco : s.count + need xs.length ≤ 1000000) (hle : s.left ≤ 9223372036854775807) (hxl : xs.length ≤ 1000000) :
    Calls Try.prog 24 #[ptr g, .int .i64 at_, .slice A xs.length c] w (PutP w g O (s.put at_ xs)) := by
  have hneed : need xs.length ≤ 1000000 := by unfold need; omega
  by_cases hn0 : need xs.length = 0
  · have e : s.put at_ xs = (s, true) := by rw [St.put, if_pos hn0]
    rw [e]
    have HD := Lib.hid h
    clear h e hx
    go_enter Try.func24, Try.ntmps24
    go_wp2_with fail
    refine (need_of (Int.toNat_natCast xs.length) (by omega) w).mono ?_
    rintro e w1 ⟨rfl, rfl⟩
    rw [hn0]
    go_wp2
    go_ret
    exact ⟨rfl, HD.out.more fun _ hi => .inl hi, Keep.refl w⟩
  · cases hfit : s.fits at_ (need xs.length)
    · have e : s.put at_ xs = (s, false) := by rw [St.put, if_neg hn0, hfit]; rfl
      rw [e]
      have HF := Lib.hid hfit
      have HD := Lib.hid h
      have hn1 : ((need xs.length : Int) == 0) = false := by rw [beq_eq_false_iff_ne]; omega
      clear h e hx hfit
      go_enter Try.func24, Try.ntmps24
      go_wp2_with (first | (go_at_call 34; refine (need_of (Int.toNat_natCast xs.length) (by omega) w).mono ?_; rintro e w1 ⟨rfl, rfl⟩) | (go_at_call 35; refine (spanHas HD.out at_ _ (by omega)).mono ?_; rintro e w1 ⟨rfl, rfl⟩; rw [HF.out]))
      go_ret
      exact ⟨rfl, HD.out.more fun _ hi => .inl hi, Keep.refl w⟩
    · have e : s.put at_ xs = putGo at_.toNat xs s 0 (need xs.length) := by rw [St.put, if_neg hn0, hfit]; rfl
      rw [e]
      obtain ⟨f0, f1⟩ := St.fits_iff.1 hfit
      obtain ⟨a, rfl⟩ := Int.eq_ofNat_of_zero_le f0
      rw [Int.toNat_natCast]
      have hsn : s.n ≤ 4096 := by obtain ⟨_, _, h⟩ := h; exact h.ok.many
      have HF := Lib.hid hfit
      have HD := Lib.hid h
      have HX := Lib.hid hx
      have HL := Lib.hid hl
      have HCO := Lib.hid hco
      have HLE := Lib.hid hle
      generalize hp : putGo a xs s 0 (need xs.length) = p
      have HPu := Lib.hid hp
      have hn1 : ((need xs.length : Int) == 0) = false := by rw [beq_eq_false_iff_ne]; omega
      have hng : need xs.length * 64 < xs.length + 64 := by unfold need; omega
      clear h e hx hfit hl hco hle hp
      go_enter Try.func24, Try.ntmps24
      go_wp2_with (first | (go_at_call 34; refine (need_of (Int.toNat_natCast xs.length) (by omega) w).mono ?_; rintro e w1 ⟨rfl, rfl⟩) | (go_at_call 35; refine (spanHas HD.out a _ (by omega)).mono ?_; rintro e w1 ⟨rfl, rfl⟩; rw [HF.out]))
      generalize need xs.length = N at *
      go_loopg [21] N (fun k i wr => PutRel w g O a xs p N k i wr)
      case atStart => exact ⟨0, s, by omega, rfl, HD.out.more fun _ hi => .inl hi, Keep.refl w, HPu.out, HL.out, HCO.out, HLE.out, by omega⟩
      case round =>
        obtain ⟨j, t, hj, rfl, hd, hk, hpj, hll, hcc, hlf, htn⟩ := hrel
        have HJ := Lib.hid hj
        have HK := Lib.hid hk
        have HPJ := Lib.hid hpj
        have HDJ := Lib.hid hd
        have HLL := Lib.hid hll
        have HCC := Lib.hid hcc
        have HLF := Lib.hid hlf
        have HTN := Lib.hid htn
        clear hj hk hpj hd hll hcc hlf htn
        by_cases hlt : j < N
        · have hj64 : j * 64 < xs.length := by omega
          have hxw : Has wr (fun i => i < w.heap.size ∧ ¬ O i) A xs := (HX.out.more (K' := fun i => i < w.heap.size ∧ ¬ O i) fun i hi hO => ⟨hi, hO⟩).keep HK.out
          obtain ⟨b, o, W2, rfl, hcp, hb2, hbel, hsz⟩ := sector_copy (c := c) hxw hj64
          have HB2 := Lib.hid hb2
          have HBL := Lib.hid hbel
          have HSZ := Lib.hid hsz
          have HXW := Lib.hid hxw
          clear hb2 hbel hsz hxw
          go_wp2_with fail
          change Code.wp _ _ _ _ (wr.alloc (.cells (cellsB (zeros 64)).toArray 49))
          generalize (cellsB (zeros 64)).toArray = Z at *
          go_region
          clear hcp
          have hpg := HPJ.out
          obtain ⟨gk', rfl⟩ : ∃ q, gk = q + 1 := ⟨gk - 1, by have := HJ.out; omega⟩
          rw [putGo] at hpg
          have hdw : DiskAt W2 g (fun i => (O i ∨ w.heap.size ≤ i) ∧ i < wr.heap.size) t := HDJ.out.cut.below HBL.out
          have hws : w.heap.size ≤ wr.heap.size := HK.out.size
          cases hbr : t.broken
          · rw [hbr] at hpg
            have HPG := Lib.hid hpg
            have HBR := Lib.hid hbr
            have HDW := Lib.hid hdw
            clear hpg hbr hdw
            go_wp2_with fail
            refine (write_ HDW.out HBR.out (by have := HLL.out; omega) (by have := HCC.out; omega) HLF.out (a + j) (by have := HTN.out; omega) _ 0 64 (chunk xs j) (chunk_length _ _) ?_).mono ?_
            · exact src_blk HB2.out (by omega)
            · rintro e w3 ⟨rfl, hd3, hk3⟩
              have HD3 := Lib.hid hd3
              have HK3 := Lib.hid hk3
              clear hd3 hk3
              go_wp2
              go_roundg gk'
              case measure => omega
              case rel => exact put_next HJ.out HTN.out HLL.out HCC.out HLF.out HBL.out HSZ.out hws HK.out HD3.out HK3.out HPG.out
          · rw [hbr, if_pos rfl] at hpg
            have HPG := Lib.hid hpg
            have HBR := Lib.hid hbr
            have HDW := Lib.hid hdw
            clear hpg hbr hdw
            go_wp2_with fail
            refine (write_no HDW.out (((a + j : Nat) : Int)) _ 64 (.inr HBR.out)).mono ?_
            rintro e w3 ⟨rfl, rfl⟩
            go_wp2
            go_ret
            have hp := HPG.out
            subst hp
            exact ⟨rfl, HDW.out.more fun i hi => hi.1, (HK.out.mono fun i _ hi hO => ⟨lt_of_some hi, hO⟩).trans (Keep.of_below HBL.out)⟩
        · obtain rfl : gk = 0 := by have := HJ.out; omega
          go_wp2
          go_ret
          have hp := HPJ.out
          rw [putGo] at hp
          subst hp
          exact ⟨rfl, HDJ.out, HK.out.mono fun i _ hi hO => ⟨lt_of_some hi, hO⟩⟩
end Go.Proofs.Yteilbaabnhogbaa
