/- What the document's own reader takes and answers. -/
import Derived.Test.YtlapicjbnheioaaBRFlag
import Derived.Deep.QuietTactic
import Derived.BigQuiet
import Derived.StillTailTactics
set_option maxRecDepth 4000
namespace Go.Proofs.Ytlapicjbnheioaa
open Go.RowKit
set_option maxHeartbeats 400000 in
theorem rtake (w : World) (g B : Nat) (r : Rd) (n : Int) (h : ReaderAt 84 w g B r) (hn : 0 ≤ n) (hn2 : n ≤ 1000000) :
    Calls Try.prog 55 #[.pointer (some ⟨g, 0, none⟩), .int .i64 n] w (TakeP 84 w g B r n.toNat) := by
  obtain ⟨k, rfl⟩ := Int.eq_ofNat_of_zero_le hn
  rw [Int.toNat_natCast]
  obtain ⟨rest, bad⟩ := r
  have H := Lib.hid h
  obtain ⟨A, m, c, hb, h1, h2, hr, hB⟩ := h
  have c0 := hb.cell 0
  have c1 := hb.cell 1
  have f0 := hb.frozen 0
  have f1 := hb.frozen 1
  simp at c0 c1
  have hm := hr.1
  simp only at hm
  unfold maxLen at h2
  cases bad
  · by_cases hlt : m < k
    · have HT := Lib.hid (take_short rest k (by omega))
      clear hb hr hm
      go_enter Try.func55, Try.ntmps55
      go_wp2
      go_ret
      exact ⟨none, 0, 0, rfl, by rw [HT.out]; exact RB.nil_ none, by rw [HT.out]; exact (reader_set1 H.out).1, (reader_set1 H.out).2⟩
    · have HT : Hid ((⟨rest, false⟩ : Rd).take k = (rest.take k, ⟨rest.drop k, false⟩)) := by
        have : ¬ rest.length < k := by omega
        show _ = _
        simp [Rd.take, this]
      have hh := headRun A m c k (by omega)
      have ht := tailRun A m c k (by omega)
      have hr2 := hr.drop (k := k) (c := c) (by omega) h1
      generalize (if c = k then A else A.map (·.add (k * 1))) = A2 at ht hr2
      have HR := Lib.hid hr
      have HR2 := Lib.hid hr2
      have HB := Lib.hid hb
      have hgl := hb.lt
      clear hb hr hm hr2
      go_enter Try.func55, Try.ntmps55
      go_wp2
      go_ret
      have hk : Keep (But g) w (w.setCell ⟨g, 0, none⟩ (.slice A2 (m - k) (c - k))) := (Keep.refl w).setBut 0 _
      have hbel := hk.below (B := B) (by omega) fun i _ hi => by simp only [But]; omega
      refine ⟨A, k, c, rfl, ?_, ?_, hk⟩
      · rw [HT.out]; exact (HR.out.take (by omega)).below hbel
      · rw [HT.out]
        exact ⟨A2, m - k, c - k, by simpa using HB.out.set_ 0 _, by omega, by unfold maxLen; omega, HR2.out.below hbel, hB⟩
  · clear hb hr hm
    go_enter Try.func55, Try.ntmps55
    go_wp2
    go_ret
    exact ⟨none, 0, 0, rfl, RB.nil_ none, (reader_set1 H.out).1, (reader_set1 H.out).2⟩
theorem drop_step (xs : List UInt8) (k : Nat) (hk : k < xs.length) (h8 : xs.length ≤ 8) :
    bits .or .u64 (IntKind.u64.wrap ((joinN (xs.drop (k + 1)) : Int) * 256)) (IntKind.u64.wrap (xs[k].toNat : Int)) = (joinN (xs.drop k) : Int) := by
  have hb : xs[k].toNat < 256 := xs[k].toNat_lt
  have ha : joinN (xs.drop (k + 1)) < 256 ^ 7 := joinN_le _ _ (by rw [List.length_drop]; omega)
  simp only [Nat.reducePow] at ha
  have ew : IntKind.u64.wrap ((joinN (xs.drop (k + 1)) : Int) * 256) = ((joinN (xs.drop (k + 1)) * 2 ^ 8 : Nat) : Int) := by
    rw [IntKind.wrap_u64]
    simp only [Nat.reducePow]
    omega
  rw [byte_wrap, ew, u64_or_nat _ _ (by simp only [Nat.reducePow]; omega) (by omega), Nat.or_comm, or_shift _ _ 8 (by simpa using hb), List.drop_eq_getElem_cons hk, joinN]
  simp only [Nat.reducePow]
  omega
set_option maxHeartbeats 400000 in
theorem rInt (w : World) (g B : Nat) (r : Rd) (h : ReaderAt 84 w g B r) : Calls Try.prog 36 #[.pointer (some ⟨g, 0, none⟩)] w (IntP 84 w g B r) := by
  go_enter Try.func36, Try.ntmps36
  go_wp2_with fail
  refine (rtake w g B r _ h (by omega) (by omega)).mono ?_
  rintro e w1 ⟨A, m, c, rfl, hr, hR, hK⟩
  have h2 := taken_le r (Int.toNat 8)
  generalize hT : r.take (Int.toNat 8) = p at *
  obtain ⟨xs, r1⟩ := p
  have hle : m ≤ 8 := by
    have h1 := hr.1
    simp at h1 h2
    omega
  have HT := Lib.hid (int_of hT)
  have HR := Lib.hid hr
  have HR2 := Lib.hid hR
  have HK := Lib.hid hK
  clear hr hR hK h hT h2
  go_wp2_with fail
  go_loop [4, 5] (fun v i => ∃ k : Nat, k ≤ m ∧ i = .int .i64 ((k : Int) - 1) ∧ v = .int .u64 (joinN (xs.drop k) : Int)) (fun _ i => (intOf i + 1).toNat)
  case atStart => exact ⟨m, Nat.le_refl _, rfl, by have := HR.out.1; rw [List.drop_of_length_le (by omega)]; rfl⟩
  case round =>
    obtain ⟨k, hk, rfl, rfl⟩ := hrel
    rcases k with _ | k
    · go_wp2
      go_ret
      exact ⟨retU (by rw [HT.out]; exact wrap64_of _), by rw [HT.out]; exact HR2.out, HK.out⟩
    · obtain ⟨b, o, rfl, _, hc⟩ := HR.out.2 (by omega)
      have hx : k < xs.length := by have := HR.out.1; omega
      have hcell := hc k xs[k] (List.getElem?_eq_getElem hx)
      clear hc
      go_wp2
      go_round
      case rel => exact ⟨k, by omega, rfl, by rw [drop_step xs k hx (by have := HR.out.1; omega)]⟩
      case measure => simp [intOf]
theorem two_of {xs : List UInt8} (h : xs.length = 2) : ∃ a b, xs = [a, b] := by
  match xs, h with
  | [a, b], _ => exact ⟨a, b, rfl⟩
theorem taken_all (r : Rd) (n : Nat) : (r.take n).1.length = n ∨ ((r.take n).1 = [] ∧ (r.take n).2.bad = true) := by
  obtain ⟨l, b⟩ := r
  unfold Rd.take
  cases b
  · by_cases h : l.length < n
    · right; simp [h]
    · left; simp [h]; omega
  · right; simp
set_option maxHeartbeats 400000 in
theorem rText (w : World) (g B : Nat) (r : Rd) (h : ReaderAt 84 w g B r) : Calls Try.prog 38 #[.pointer (some ⟨g, 0, none⟩)] w (TextP 84 w g B r) := by
  go_enter Try.func38, Try.ntmps38
  go_wp2_with fail
  refine (rtake w g B r _ h (by omega) (by omega)).mono ?_
  rintro e w1 ⟨A, m, c, rfl, hr, hR, hK⟩
  have h2 := taken_all r (Int.toNat 2)
  generalize hT : r.take (Int.toNat 2) = p at *
  obtain ⟨xs, r1⟩ := p
  have HT := Lib.hid (text_of hT)
  have HR2 := Lib.hid hR
  have HK := Lib.hid hK
  clear hR hK h hT
  rcases h2 with h2 | ⟨h2, h3⟩
  · obtain ⟨a, b, rfl⟩ := two_of h2
    obtain rfl : 2 = m := hr.1
    obtain ⟨bk, o, rfl, _, hc⟩ := hr.2 (by omega)
    have d0 := hc 0 a rfl
    have d1 := hc 1 b rfl
    simp only [Nat.add_zero] at d0
    have ha : a.toNat < 256 := a.toNat_lt
    have hb : b.toNat < 256 := b.toNat_lt
    clear hr hc h2
    go_wp2_with fail
    go_still_tail 11, (by kernel_rfl)
    change wpList _ _ _ _ _ w1.drew
    have HR3 := Lib.hid (HR2.out.keep (K := fun _ _ => True) (Keep.refl w1).drew (fun _ _ _ => trivial))
    have HK3 := Lib.hid (HK.out.drew)
    generalize w1.drew = w2 at *
    clear HR2 HK d0 d1
    have ej : (((a.toNat : Int) + 256 * (b.toNat : Int)).toNat) = joinN [a, b] := by simp only [joinN]; omega
    have EJ := Lib.hid ej
    clear ej
    go_wp2_with fail
    refine (rtake w2 g B r1 _ HR3.out (by omega) (by omega)).mono ?_
    rintro e w3 ⟨A', m', c', rfl, hr, hR, hK⟩
    rw [EJ.out, ← HT.out] at hr hR
    have hcv := convert_row _ w3 A' B m' c' hr
    have HR4 := Lib.hid hR
    have HK4 := Lib.hid hK
    clear hr hR hK
    go_wp2
    go_ret
    exact ⟨rfl, HR4.out, HK3.out.trans HK4.out⟩
  · simp only at h2 h3
    subst h2
    obtain rfl : 0 = m := hr.1
    clear hr
    go_wp2_with fail
    go_ret
    have e : r1.take (joinN []) = ([], r1) := by simp [Rd.take, h3]
    refine ⟨by rw [HT.out, e]; rfl, by rw [HT.out, e]; exact HR2.out, HK.out⟩
theorem one_of {xs : List UInt8} (h : xs.length = 1) : ∃ a, xs = [a] := by
  match xs, h with
  | [a], _ => exact ⟨a, rfl⟩
set_option maxHeartbeats 400000 in
theorem rFlag (w : World) (g B : Nat) (r : Rd) (h : ReaderAt 84 w g B r) : Calls Try.prog 39 #[.pointer (some ⟨g, 0, none⟩)] w (FlagP 84 w g B r) := by
  go_enter Try.func39, Try.ntmps39
  go_wp2_with fail
  refine (rtake w g B r _ h (by omega) (by omega)).mono ?_
  rintro e w1 ⟨A, m, c, rfl, hr, hR, hK⟩
  have h2 := taken_all r (Int.toNat 1)
  generalize hT : r.take (Int.toNat 1) = p at *
  obtain ⟨xs, r1⟩ := p
  have HT := Lib.hid (flag_of hT)
  have HR2 := Lib.hid hR
  have HK := Lib.hid hK
  obtain ⟨c1, f1⟩ := reader_cell hR
  clear hR hK h hT
  rcases h2 with h2 | ⟨h2, h3⟩
  · obtain ⟨a, rfl⟩ := one_of h2
    obtain rfl : 1 = m := hr.1
    obtain ⟨bk, o, rfl, hbk, hc⟩ := hr.2 (by omega)
    have d0 := hc 0 a rfl
    simp only [Nat.add_zero] at d0
    have hgb : bk ≠ g := by obtain ⟨_, _, _, _, _, _, _, hB⟩ := HR2.out; omega
    have d0' : (w1.setCell ⟨g, 1, none⟩ (.bool true)).cell? ⟨bk, o, none⟩ = some (u8 a) := by
      rw [World.cell?_setCell_other _ _ _ _ (fun e => by injection e with e _; exact hgb e.symm)]; exact d0
    have ej : joinN [a] = a.toNat := by simp [joinN]
    rw [ej] at HT
    clear hr hc h2 ej
    by_cases h1 : 1 < a.toNat
    · have h1' : decide (1 < (a.toNat : Int)) = true := decide_eq_true (by omega)
      go_wp2
      go_ret
      obtain ⟨k1, k2⟩ := reader_set1 (l := r1.rest) (b := r1.bad) HR2.out
      exact ⟨retB (by rw [HT.out]; exact beq1 _), by rw [HT.out, if_pos h1]; exact k1, HK.out.trans k2⟩
    · have h1' : decide (1 < (a.toNat : Int)) = false := decide_eq_false (by omega)
      go_wp2
      go_ret
      exact ⟨retB (by rw [HT.out]; exact beq1 _), by rw [HT.out, if_neg h1]; exact HR2.out, HK.out⟩
  · simp only at h2 h3
    subst h2
    obtain rfl : 0 = m := hr.1
    clear hr
    go_wp2
    go_ret
    exact ⟨retB (by rw [HT.out]; rfl), by rw [HT.out]; exact HR2.out, HK.out⟩
theorem rDone (w : World) (g B : Nat) (r : Rd) (h : ReaderAt 84 w g B r) : Calls Try.prog 41 #[.pointer (some ⟨g, 0, none⟩)] w fun e w' => e = .returned (.bool r.done) ∧ w = w' := by
  obtain ⟨rest, bad⟩ := r
  obtain ⟨A, m, c, hb, h1, h2, hr, hB⟩ := h
  have c0 := hb.cell 0
  have c1 := hb.cell 1
  simp at c0 c1
  have hm := hr.1
  simp only at hm
  have e : (⟨rest, bad⟩ : Rd).done = (!bad && decide (m = 0)) := by simp [Rd.done, hm]
  have E := Lib.hid e
  unfold maxLen at h2
  clear hb hr hm e
  cases bad
  · go_enter Try.func41, Try.ntmps41
    go_wp2
    go_ret
    exact ⟨retB (by rw [E.out]; simp [beq0]), rfl⟩
  · go_enter Try.func41, Try.ntmps41
    go_wp2
    go_ret
    exact ⟨retB (by rw [E.out]; simp), rfl⟩
end Go.Proofs.Ytlapicjbnheioaa
