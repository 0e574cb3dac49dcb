/- What the document's own Get answers. -/
import Derived.Test.YtfccghbhkgnmlaaSpanGet
namespace Go.Proofs.Ytfccghbhkgnmlaa
open Go.RowKit
def RGetRel (w : World) (s : St) (a n N k : Nat) (v i : Value) (wr : World) : Prop :=
  ∃ j, j + k = N ∧ i = .int .i64 (j : Int) ∧ wr.ownsRow w.heap.size 5 1 v (j * 64) (cellsB ((got s a n).take (j * 64))) ∧ Below w.heap.size w wr
theorem own_any {w : World} {B e size n : Nat} {v : Value} {xs : List Value} (h : w.ownsRow B e size v n xs) : ∃ A c, v = .slice A n c ∧ n ≤ c ∧ c ≤ maxLen := by
  rcases h.2 with ⟨rfl, h0⟩ | ⟨g, cap, cur, rfl, _, _, h1, h2, _⟩
  · exact ⟨none, 0, by rw [h0], by omega, by unfold maxLen; omega⟩
  · exact ⟨_, cap, rfl, h1, h2⟩
/-- one sector more behind it -/
theorem rget_step {w wr w2 : World} {s : St} {a n j : Nat} {v : Value} {A : Option Addr} {c : Nat} (hok : s.ok) (h : a + need n ≤ s.n) (hj : j < need n) (hn : n ≤ 262144) (hv : wr.ownsRow w.heap.size 5 1 v (j * 64) (cellsB ((got s a n).take (j * 64)))) (hw : Below w.heap.size w wr)
    (hb : Below wr.heap.size wr w2) (hr : Row64 w2 (fun i => i = wr.heap.size) (.slice A 64 c) (s.now.getD (a + j) [])) :
    ∃ v' W3, (Builtin.append_ #[22, 22] 22 #[v, .slice A 64 c]).run Try.prog w2 = .ok v' W3 ∧ W3.ownsRow w.heap.size 5 1 v' ((j + 1) * 64) (cellsB ((got s a n).take ((j + 1) * 64))) ∧ Below w.heap.size w W3 := by
  obtain ⟨i0, hi0, hz0, hz1, hz2⟩ := info_parts info5
  obtain ⟨b, c', hv2, _, _, _, _, hcell⟩ := hr.slice
  injection hv2 with hv2 _ hv3
  subst hv2 hv3
  have hj2 : (j + 1) * 64 ≤ 262144 + 64 := by unfold need at hj; omega
  have hws := hw.size
  have hown2 : w2.ownsRow w.heap.size 5 1 v (j * 64) (cellsB ((got s a n).take (j * 64))) := by
    refine ⟨hv.1, ?_⟩
    rcases hv.2 with hn | ⟨g, cap, cur, rfl, hB, hg, r⟩
    · exact .inl hn
    · exact .inr ⟨g, cap, cur, rfl, hB, (hb.block g (lt_of_some hg)).trans hg, r⟩
  obtain ⟨v', W', hrun, hown, hgrow, _, _⟩ := run_append_own_at (P := Try.prog) w2 w.heap.size 22 22 5 i0 _ 1 1 Try.underlying22 hi0 hz0 hz1 hz2 rfl (by omega) v (j * 64) _ hown2 ⟨b, 0, none⟩ 64 c (cellsB (s.now.getD (a + j) [])) (by rw [cellsB_length, hr.len]) (fun q u hu => by rw [Addr.add_mid, Nat.zero_add]; exact hcell q u hu) (cellsB_one _) (by unfold maxLen; omega) (by omega) (by have := hb.size; omega)
  rw [show j * 64 + 64 = (j + 1) * 64 by omega, ← cellsB_append, ← got_next hok h hj] at hown
  refine ⟨v', W', hrun, hown, hw.trans ((hb.mono hws).trans ?_)⟩
  have hlo : ∀ k, v.ownBlock = some k → w.heap.size ≤ k := fun k hk => by
    rcases hown2.2 with ⟨rfl, _⟩ | ⟨g, cap, cur, rfl, hB, _⟩
    · cases hk
    · simp [Value.ownBlock] at hk; omega
  exact ⟨hgrow.os, hgrow.tape, hgrow.output, hgrow.size, fun i hi => hgrow.block i (by have := hb.size; omega) fun e => by have := hlo i e.symm; omega⟩
theorem cutI_G (n : Int) : cutI n 0 262144 = ((cutG n : Nat) : Int) := by
  unfold cutI cutG; omega
theorem rget_no {w : World} {g : Nat} {O : Nat → Prop} {s : St} (h : RefAt w g O s) (at_ n : Int) (hn : s.fits at_ (need (cutG n)) = false ∨ need (cutG n) = 0) :
    Calls Try.prog 19 #[ptr g, .int .i64 at_, .int .i64 n] w (GetP w (s.get at_ n)) := by
  have e : s.get at_ n = [] := by
    rcases hn with hn | hn
    · unfold St.get; rw [hn]; rfl
    · unfold St.get; rw [need_zero.1 hn]; simp
  rw [e]
  have hsn : s.n ≤ 4096 := by obtain ⟨_, _, _, _, h⟩ := h; exact h.ok.many
  have H := Lib.hid h
  have HCU := Lib.hid (cutI_G n)
  have hm : cutG n ≤ 262144 := by unfold cutG; omega
  generalize cutG n = M at *
  have hd : need M ≤ 262144 := by unfold need; omega
  clear h e
  by_cases h0 : need M = 0
  · have HZ := Lib.hid h0
    clear h0 hn
    go_enter Try.func19, Try.ntmps19
    go_wp2_with (first | (go_at_call 21; refine (cut_ n 0 262144 _).mono ?_; rintro e w1 ⟨rfl, rfl⟩; rw [HCU.out]) | (go_at_call 12; refine (rneed_of (Int.toNat_natCast M) (by omega) _).mono ?_; rintro e w1 ⟨rfl, rfl⟩; rw [HZ.out]))
    go_ret
    exact ⟨none, 0, rfl, Has.nil _ _ _, Below.refl _ _⟩
  · have hn1 : ((need M : Int) == 0) = false := by rw [beq_eq_false_iff_ne]; omega
    have hf := St.fits_no.1 (hn.resolve_right h0)
    clear hn
    by_cases ha : at_ < 0
    · clear hf
      go_enter Try.func19, Try.ntmps19
      go_wp2_with (first | (go_at_call 21; refine (cut_ n 0 262144 _).mono ?_; rintro e w1 ⟨rfl, rfl⟩; rw [HCU.out]) | (go_at_call 12; refine (rneed_of (Int.toNat_natCast M) (by omega) _).mono ?_; rintro e w1 ⟨rfl, rfl⟩))
      go_ret
      exact ⟨none, 0, rfl, Has.nil _ _ _, Below.refl _ _⟩
    · have h1 : (s.n : Int) - (need M : Int) < at_ := by omega
      clear hf
      go_enter Try.func19, Try.ntmps19
      go_wp2_with (first | (go_at_call 21; refine (cut_ n 0 262144 _).mono ?_; rintro e w1 ⟨rfl, rfl⟩; rw [HCU.out]) | (go_at_call 12; refine (rneed_of (Int.toNat_natCast M) (by omega) _).mono ?_; rintro e w1 ⟨rfl, rfl⟩) | (go_at_call 25; refine (rlen_ H.out).mono ?_; rintro e w1 ⟨rfl, rfl⟩))
      go_ret
      exact ⟨none, 0, rfl, Has.nil _ _ _, Below.refl _ _⟩
set_option maxRecDepth 100000 in
set_option maxHeartbeats 1000000 in
theorem rget_yes {w : World} {g : Nat} {O : Nat → Prop} {s : St} (h : RefAt w g O s) (a : Nat) (n : Int) (hf : s.fits a (need (cutG n)) = true) (h0 : need (cutG n) ≠ 0) (hsl : s.l.length ≤ 1000000) :
    Calls Try.prog 19 #[ptr g, .int .i64 a, .int .i64 n] w (GetP w (s.get a n)) := by
  have e : s.get a n = (got s a (cutG n)).take (cutG n) := by unfold St.get; rw [hf]; rfl
  have hok : s.ok := by obtain ⟨_, _, _, _, h⟩ := h; exact h.ok
  have hsn : s.n ≤ 4096 := hok.many
  obtain ⟨f0, f1⟩ := St.fits_iff.1 hf
  rw [e]
  have H := Lib.hid h
  have HSL := Lib.hid hsl
  have HCU := Lib.hid (cutI_G n)
  have hm : cutG n ≤ 262144 := by unfold cutG; omega
  generalize cutG n = M at *
  have hgl := got_length hok (a := a) (n := M) (by omega)
  have HOK := Lib.hid hok
  have HGL := Lib.hid hgl
  have hd : need M ≤ 262144 := by unfold need; omega
  have hn1 : ((need M : Int) == 0) = false := by rw [beq_eq_false_iff_ne]; omega
  have h1 : ¬ (s.n : Int) - (need M : Int) < (a : Int) := by omega
  clear h hf e hgl hok hsl
  go_enter Try.func19, Try.ntmps19
  go_wp2_with (first | (go_at_call 21; refine (cut_ n 0 262144 _).mono ?_; rintro e w1 ⟨rfl, rfl⟩; rw [HCU.out]) | (go_at_call 12; refine (rneed_of (Int.toNat_natCast M) (by omega) _).mono ?_; rintro e w1 ⟨rfl, rfl⟩) | (go_at_call 25; refine (rlen_ H.out).mono ?_; rintro e w1 ⟨rfl, rfl⟩))
  have hnM := need_ge M
  have hnL := need_lt (n := M) (by have := @need_zero M; omega)
  generalize hN : need M = N at *
  have HN := Lib.hid hN
  clear hN
  go_loopg [8, 9] N (fun k v i wr => RGetRel w s a M N k v i wr)
  case atStart => exact ⟨0, by omega, rfl, by simpa [cellsB] using World.ownsRow_nil _ _ _ _, Below.refl _ _⟩
  case round =>
    obtain ⟨j, hj, rfl, hv, hbel⟩ := hrel
    obtain ⟨A, c, rfl, hcl, hcm⟩ := own_any hv
    have HJ := Lib.hid hj
    have HV := Lib.hid hv
    have HBL := Lib.hid hbel
    clear hj hv hbel
    unfold maxLen at hcm
    by_cases hlt : j < N
    · have hdd : RefAt wr g O s := H.out.below HBL.out
      have HD := Lib.hid hdd
      have hle : a + need M ≤ s.n := by rw [HN.out]; omega
      have hjn : j < need M := by rw [HN.out]; exact hlt
      have HLE := Lib.hid hle
      have HJN := Lib.hid hjn
      have hai : a + j < s.n := by omega
      clear hdd hle hjn
      go_wp2_with fail
      refine (rread_ HD.out (a + j) hai HSL.out).mono ?_
      rintro e w2 ⟨A2, c2, rfl, hrow, _, hb2, _⟩
      obtain ⟨v', W3, hap, hv3, hbel3⟩ := rget_step HOK.out HLE.out HJN.out hm HV.out HBL.out hb2 hrow
      have HAP := Lib.hid hap
      have HV3 := Lib.hid hv3
      have HB3 := Lib.hid hbel3
      clear hap hv3 hbel3 hrow hb2
      go_wp2_with (refine wpList_value (o := ⟨some 39, _, _, _, _, _⟩) rfl (exec_append rfl rfl rfl HAP.out) ?_)
      go_roundg (N - (j + 1))
      case measure => have := HJ.out; omega
      case rel => exact ⟨j + 1, by omega, by go_num, HV3.out, HB3.out⟩
    · obtain rfl : j = N := by have := HJ.out; omega
      have hv := HV.out
      rcases hv.2 with ⟨_, hz⟩ | ⟨q, cap, cur, hq, hB, hqq⟩
      · omega
      · injection hq with hq1 _ hq3
        subst hq1 hq3
        have HB := Lib.hid hB
        have hcells : ∀ (y : Nat) u, (cellsB ((got s a M).take M))[y]? = some u → wr.cell? ⟨q, y, none⟩ = some u := fun y u hu => by
          have := hv.cells (g := q) rfl y u (by
            rw [List.take_of_length_le (Nat.le_of_eq HGL.out)]
            rw [cellsB_get] at hu ⊢
            rw [List.getElem?_take] at hu
            split at hu
            · exact hu
            · cases hu)
          rwa [Addr.add_mid, Nat.zero_add] at this
        have HC := Lib.hid hcells
        have hlt2 : q < wr.heap.size := lt_of_some hqq.1
        have HLQ := Lib.hid hlt2
        clear hqq hcells hv hB hlt2
        go_wp2
        go_ret
        have hl : ((got s a M).take M).length = M := by
          rw [List.length_take, HGL.out]; omega
        exact ⟨some ⟨q, 0, none⟩, c, by rw [hl]; rfl, fun _ => ⟨q, 0, rfl, HB.out, HLQ.out, fun y u hu => by rw [Nat.zero_add]; exact HC.out y u hu⟩, HBL.out⟩
theorem rget_ {w : World} {g : Nat} {O : Nat → Prop} {s : St} (h : RefAt w g O s) (at_ n : Int) (hsl : s.l.length ≤ 1000000) :
    Calls Try.prog 19 #[ptr g, .int .i64 at_, .int .i64 n] w (GetP w (s.get at_ n)) := by
  cases hf : s.fits at_ (need (cutG n))
  · exact rget_no h at_ n (.inl hf)
  · by_cases h0 : need (cutG n) = 0
    · exact rget_no h at_ n (.inr h0)
    · obtain ⟨f0, _⟩ := St.fits_iff.1 hf
      obtain ⟨a, rfl⟩ := Int.eq_ofNat_of_zero_le f0
      exact rget_yes h a n hf h0 hsl
end Go.Proofs.Ytfccghbhkgnmlaa
