/- What the document's own Put does. -/
import Derived.Test.YtfccghbhkgnmlaaSpanM
import Derived.RegionTactic
import Derived.IntWalk
namespace Go.Proofs.Ytfccghbhkgnmlaa
open Go.RowKit
def RPutP (w : World) (g : Nat) (O : Nat → Prop) (p : St × Bool) (e : Ending) (w' : World) : Prop :=
  e = .returned (.bool p.2) ∧ RefAt w' g (fun i => O i ∨ w.heap.size ≤ i) p.1 ∧ Keep (Out O) w w'
def RPutRel (w : World) (g : Nat) (O : Nat → Prop) (at_ : Nat) (xs : List UInt8) (p : St × Bool) (N k : Nat) (i : Value) (wr : World) : Prop :=
  ∃ (j : Nat) (s : St), j + k = N ∧ i = .int .i64 (j : Int) ∧ RefAt wr g (fun i => O i ∨ w.heap.size ≤ i) s ∧ Keep (fun i _ => i < w.heap.size ∧ ¬ O i) w wr ∧ putGo at_ xs s j k = p ∧
    s.l.length + k ≤ 1000000 ∧ s.count + k ≤ 1000000 ∧ s.left ≤ 9223372036854775807 ∧ at_ + N ≤ s.n
/-- the first k bytes of a sector are there -/
def half (l : List UInt8) (k : Nat) : List UInt8 := l.take k ++ zeros (64 - k)
def HalfRel (wr : World) (l : List UInt8) (K k : Nat) (i : Value) (wi : World) : Prop :=
  ∃ q, q + k = K ∧ i = .int .i64 (q : Int) ∧ Blk wi wr.heap.size 5 (cellsB (half l q)).toArray ∧ Below wr.heap.size wr wi
theorem half_zero (l : List UInt8) : half l 0 = zeros 64 := by simp [half]
theorem half_set {l : List UInt8} {k : Nat} {x : UInt8} (h : l[k]? = some x) (hk : k < 64) : (cellsB (half l k)).set k (u8 x) = cellsB (half l (k + 1)) := by
  obtain ⟨hl, rfl⟩ := List.getElem?_eq_some_iff.1 h
  unfold half zeros
  rw [show 64 - k = (64 - (k + 1)) + 1 by omega, List.replicate_succ, List.take_succ_eq_append_getElem hl]
  simp only [cellsB, List.map_append, List.map_cons, List.append_assoc, List.cons_append, List.nil_append]
  rw [List.set_append_right _ _ (by simp; omega)]
  congr 1
  have : k - (List.map u8 (List.take k l)).length = 0 := by simp; omega
  rw [this]; rfl
theorem half_at {l : List UInt8} {k : Nat} (h : k ≤ l.length) (hk : k < 64) : (cellsB (half l k))[k]? = some (u8 0) := by
  rw [cellsB_get]
  unfold half zeros
  rw [List.getElem?_append_right (by rw [List.length_take]; omega), List.length_take, Nat.min_eq_left h, Nat.sub_self, List.getElem?_replicate, if_pos (by omega)]; rfl
theorem half_chunk (xs : List UInt8) (j : Nat) : half (xs.drop (j * 64)) (min 64 (xs.length - j * 64)) = chunk xs j := by
  unfold half chunk
  rw [List.length_drop]
  rcases Nat.lt_or_ge (xs.length - j * 64) 64 with h | h
  · rw [Nat.min_eq_right (by omega), List.take_of_length_le (l := xs.drop (j * 64)) (by simp), List.take_of_length_le (l := xs.drop (j * 64)) (by simp; omega)]
  · rw [Nat.min_eq_left h]; simp [zeros]; omega
theorem rput_next {w wr W2 w3 : World} {g N a gk j : Nat} {O : Nat → Prop} {xs : List UInt8} {t : St} {p : St × Bool} (hj : j + (gk + 1) = N) (hn : a + N ≤ t.n) (hl : t.l.length + (gk + 1) ≤ 1000000) (hc : t.count + (gk + 1) ≤ 1000000) (hle : t.left ≤ 9223372036854775807)
    (hb : Below wr.heap.size wr W2) (hws : w.heap.size ≤ wr.heap.size) (hk : Keep (fun i _ => i < w.heap.size ∧ ¬ O i) w wr)
    (hd : RefAt w3 g (fun i => (O i ∨ w.heap.size ≤ i) ∨ W2.heap.size ≤ i) (t.wr (a + j) (chunk xs j))) (hk3 : Keep (Out fun i => O i ∨ w.heap.size ≤ i) W2 w3)
    (hp : (if false = true then (t, false) else putGo a xs (t.wr (a + j) (chunk xs j)) (j + 1) gk) = p) : RPutRel w g O a xs p N gk (.int .i64 (((j + 1 : Nat) : Int))) w3 := by
  refine ⟨j + 1, t.wr (a + j) (chunk xs j), by omega, rfl, hd.more fun i hi => ?_, ?_, by simpa using hp, ?_, ?_, ?_, by rw [St.n_wr]; omega⟩
  · rcases hi with hi | hi
    · exact hi
    · have := hb.size
      exact .inr (by omega)
  · refine (hk.trans (Keep.of_below hb)).trans (hk3.mono fun i _ _ hi h => ?_)
    rcases h with h | h
    · exact hi.2 h
    · omega
  · simp only [St.wr, List.length_append, List.length_singleton]; omega
  · simp only [St.wr]; omega
  · simp only [St.wr]; split <;> omega
set_option maxRecDepth 100000 in
set_option maxHeartbeats 1000000 in
theorem rput_ {w : World} {g : Nat} {O : Nat → Prop} {s : St} (h : RefAt w g O s) (at_ : Int) (A : Option Addr) (c : Nat) (xs : List UInt8) (hx : Has w (fun i => ¬ O i) A xs) (hl : s.l.length + need xs.length ≤ 1000000) (hco : s.count + need xs.length ≤ 1000000) (hle : s.left ≤ 9223372036854775807) (hxl : xs.length ≤ 1000000) :
    Calls Try.prog 14 #[ptr g, .int .i64 at_, .slice A xs.length c] w (RPutP w g O (s.put at_ xs)) := by
  have hneed : need xs.length ≤ 1000000 := by unfold need; omega
  have hsn : s.n ≤ 4096 := by obtain ⟨_, _, _, _, h⟩ := h; exact h.ok.many
  by_cases hn0 : need xs.length = 0
  · have e : s.put at_ xs = (s, true) := by rw [St.put, if_pos hn0]
    rw [e]
    have HD := Lib.hid h
    clear h e hx
    go_enter Try.func14, Try.ntmps14
    go_wp2_with fail
    refine (rneed_of (Int.toNat_natCast xs.length) (by omega) w).mono ?_
    rintro e w1 ⟨rfl, rfl⟩
    rw [hn0]
    go_wp2
    go_ret
    exact ⟨rfl, HD.out.more fun _ hi => .inl hi, Keep.refl w⟩
  · cases hfit : s.fits at_ (need xs.length)
    · have e : s.put at_ xs = (s, false) := by rw [St.put, if_neg hn0, hfit]; rfl
      rw [e]
      have hf := St.fits_no.1 hfit
      have HD := Lib.hid h
      have hn1 : ((need xs.length : Int) == 0) = false := by rw [beq_eq_false_iff_ne]; omega
      clear h e hx hfit
      by_cases h0 : at_ < 0
      · clear hf
        go_enter Try.func14, Try.ntmps14
        go_wp2_with (go_at_call 12; refine (rneed_of (Int.toNat_natCast xs.length) (by omega) w).mono ?_; rintro e w1 ⟨rfl, rfl⟩)
        go_ret
        exact ⟨rfl, HD.out.more fun _ hi => .inl hi, Keep.refl w⟩
      · have h1 : (s.n : Int) - (need xs.length : Int) < at_ := by omega
        clear hf
        go_enter Try.func14, Try.ntmps14
        go_wp2_with (first | (go_at_call 12; refine (rneed_of (Int.toNat_natCast xs.length) (by omega) w).mono ?_; rintro e w1 ⟨rfl, rfl⟩) | (go_at_call 25; refine (rlen_ HD.out).mono ?_; rintro e w1 ⟨rfl, rfl⟩))
        go_ret
        exact ⟨rfl, HD.out.more fun _ hi => .inl hi, Keep.refl w⟩
    · have e : s.put at_ xs = putGo at_.toNat xs s 0 (need xs.length) := by rw [St.put, if_neg hn0, hfit]; rfl
      rw [e]
      obtain ⟨f0, f1⟩ := St.fits_iff.1 hfit
      obtain ⟨a, rfl⟩ := Int.eq_ofNat_of_zero_le f0
      rw [Int.toNat_natCast]
      have HD := Lib.hid h
      have HX := Lib.hid hx
      have HL := Lib.hid hl
      have HCO := Lib.hid hco
      have HLE := Lib.hid hle
      generalize hp : putGo a xs s 0 (need xs.length) = p
      have HPu := Lib.hid hp
      have hn1 : ((need xs.length : Int) == 0) = false := by rw [beq_eq_false_iff_ne]; omega
      have hng : need xs.length * 64 < xs.length + 64 := by unfold need; omega
      have h1 : ¬ (s.n : Int) - (need xs.length : Int) < (a : Int) := by omega
      clear h e hx hfit hl hco hle hp
      go_enter Try.func14, Try.ntmps14
      go_wp2_with (first | (go_at_call 12; refine (rneed_of (Int.toNat_natCast xs.length) (by omega) w).mono ?_; rintro e w1 ⟨rfl, rfl⟩) | (go_at_call 25; refine (rlen_ HD.out).mono ?_; rintro e w1 ⟨rfl, rfl⟩))
      generalize need xs.length = N at *
      go_loopg [8] N (fun k i wr => RPutRel w g O a xs p N k i wr)
      case atStart => exact ⟨0, s, by omega, rfl, HD.out.more fun _ hi => .inl hi, Keep.refl w, HPu.out, HL.out, HCO.out, HLE.out, by omega⟩
      case round =>
        obtain ⟨j, t, hj, rfl, hd, hk, hpj, hll, hcc, hlf, htn⟩ := hrel
        have HJ := Lib.hid hj
        have HK := Lib.hid hk
        have HPJ := Lib.hid hpj
        have HDJ := Lib.hid hd
        have HLL := Lib.hid hll
        have HCC := Lib.hid hcc
        have HLF := Lib.hid hlf
        have HTN := Lib.hid htn
        clear hj hk hpj hd hll hcc hlf htn
        by_cases hlt : j < N
        · have hj64 : j * 64 < xs.length := by omega
          have hxw : Has wr (fun i => i < w.heap.size ∧ ¬ O i) A xs := (HX.out.more (K' := fun i => i < w.heap.size ∧ ¬ O i) fun i hi hO => ⟨hi, hO⟩).keep HK.out
          obtain ⟨b, o, rfl, hbO, hbl, hcells⟩ := hxw (by omega)
          have HC := Lib.hid hcells
          have hmk := make64
          clear hcells
          have HBO := Lib.hid hbO
          clear hbO
          go_wp2_with fail
          obtain ⟨wo, hwo⟩ : ∃ x, x = wr := ⟨_, rfl⟩
          subst hwo
          generalize hK : min 64 (xs.length - j * 64) = K
          have HKK := Lib.hid hK
          have hK1 : K ≤ 64 := by omega
          have hK2 : j * 64 + K ≤ xs.length := by omega
          have hK3 : K = 64 ∨ xs.length ≤ j * 64 + K := by omega
          have HK3 := Lib.hid hK3
          clear hK hK3
          have hpg := HPJ.out
          obtain ⟨gk', rfl⟩ : ∃ q, gk = q + 1 := ⟨gk - 1, by have := HJ.out; omega⟩
          rw [putGo] at hpg
          have HPG := Lib.hid hpg
          clear hpg
          go_loopg [10] K (fun k i wi => HalfRel wo (xs.drop (j * 64)) K k i wi)
          case atStart => exact ⟨0, by omega, rfl, by rw [half_zero]; exact Blk.new _ _ _, alloc_below _ _⟩
          case round =>
            obtain ⟨q, hq, rfl, hhb, hhl⟩ := hrel
            have HQ := Lib.hid hq
            have HHB := Lib.hid hhb
            have HHL := Lib.hid hhl
            clear hq hhb hhl
            by_cases hqK : q < K
            · have hx : j * 64 + q < xs.length := by omega
              have hq64 : q < 64 := by omega
              have hcell : wr.cell? ⟨b, o + (64 * j + q), none⟩ = some (u8 xs[j * 64 + q]) := by
                rw [Nat.mul_comm 64 j]
                exact (cell_of_heap (HHL.out.block b hbl) _).trans (HC.out _ _ (by rw [cellsB_get, List.getElem?_eq_getElem hx]; rfl))
              have hc2 : wr.cell? ⟨wo.heap.size, q, none⟩ = some (u8 0) := by
                rw [HHB.out.cell, List.getElem?_toArray, half_at (by rw [List.length_drop]; omega) hq64]
              have hf2 := HHB.out.frozen q
              have hgs : (xs.drop (j * 64))[q]? = some xs[j * 64 + q] := by rw [List.getElem?_drop, List.getElem?_eq_getElem hx]
              have hnx : Blk (wr.setCell ⟨wo.heap.size, q, none⟩ (u8 xs[j * 64 + q])) wo.heap.size 5 (cellsB (half (xs.drop (j * 64)) (q + 1))).toArray := by
                have := HHB.out.set_ q (u8 xs[j * 64 + q])
                rwa [List.setIfInBounds_toArray, half_set hgs hq64] at this
              have HNX := Lib.hid hnx
              have HBE := Lib.hid (HHL.out.setCell (p := ⟨wo.heap.size, q, none⟩) (Nat.le_refl _) (u8 xs[j * 64 + q]))
              clear hgs hnx
              generalize xs[j * 64 + q] = x at *
              go_wp2
              go_roundg (K - (q + 1))
              case measure => have := HQ.out; omega
              case rel => exact ⟨q + 1, by omega, by go_num, HNX.out, HBE.out⟩
            · obtain rfl : q = K := by have := HQ.out; omega
              have hch := HHB.out
              rw [← HKK.out, half_chunk] at hch
              have HCH := Lib.hid hch
              clear hch hqK
              have hdw : RefAt wr g (fun i => O i ∨ w.heap.size ≤ i) t := HDJ.out.below HHL.out
              have hws : w.heap.size ≤ wo.heap.size := HK.out.size
              have HDW := Lib.hid hdw
              clear hdw
              have hcB : ∀ (y : Nat) u, (cellsB (chunk xs j))[y]? = some u → wr.cell? ⟨wo.heap.size, 0 + y, none⟩ = some u := fun y u hu => by rw [HCH.out.cell, Nat.zero_add, List.getElem?_toArray]; exact hu
              have HCB := Lib.hid hcB
              clear hcB
              by_cases hq64 : q < 64
              all_goals
                have hend := HK3.out
                have hle : q < 64 → ¬ 64 * j + q < xs.length := by omega
                have hE : q < 64 → Hid (¬ 64 * j + q < xs.length) := hle
                clear hend hle
                first | (have hle : ¬ 64 * j + q < xs.length := (hE hq64).out; clear hE) | clear hE
                cases hbr : t.broken
                · have hpg := HPG.out
                  rw [hbr] at hpg
                  have HPN := Lib.hid hpg
                  have HBR := Lib.hid hbr
                  clear hpg hbr
                  go_wp2_with fail
                  refine (rwrite_ HDW.out HBR.out (by have := HLL.out; omega) (by have := HCC.out; omega) HLF.out (a + j) (by have := HTN.out; omega) _ 0 64 (chunk xs j) (chunk_length _ _) HCB.out).mono ?_
                  rintro e w3 ⟨rfl, hd3, hk3⟩
                  have HD3 := Lib.hid hd3
                  have HK3 := Lib.hid hk3
                  clear hd3 hk3
                  go_wp2
                  go_roundg gk'
                  case measure => omega
                  case rel => exact rput_next HJ.out HTN.out HLL.out HCC.out HLF.out HHL.out hws HK.out HD3.out HK3.out HPN.out
                · have hpg := HPG.out
                  rw [hbr, if_pos rfl] at hpg
                  have HPN := Lib.hid hpg
                  have HBR := Lib.hid hbr
                  clear hpg hbr
                  go_wp2_with fail
                  refine (rwrite_no HDW.out (((a + j : Nat) : Int)) _ 64 (.inr HBR.out)).mono ?_
                  rintro e w3 ⟨rfl, rfl⟩
                  go_wp2
                  go_ret
                  have hp := HPN.out
                  subst hp
                  exact ⟨rfl, HDW.out, (HK.out.mono fun i _ hi hO => ⟨lt_of_some hi, hO⟩).trans (Keep.of_below HHL.out)⟩
        · obtain rfl : gk = 0 := by have := HJ.out; omega
          go_wp2
          go_ret
          have hp := HPJ.out
          rw [putGo] at hp
          subst hp
          exact ⟨rfl, HDJ.out, HK.out.mono fun i _ hi hO => ⟨lt_of_some hi, hO⟩⟩
end Go.Proofs.Ytfccghbhkgnmlaa
