/- All of a tree. -/
import Derived.Test.YtmlifmeimhbmgaaTop
import Derived.Laws.MakeOwn
namespace Go.Proofs.Ytmlifmeimhbmgaa
open Go.RowKit
theorem made_rows (m : Nat) (hm : m ≤ 100000) : ∃ Z : Array Value, Z.size = m * 2 ∧ ∀ W : World, (Instr.makeSlice 22 (.int .i64 0) (.int .i64 (m : Int))).run Try.prog W = .ok (.slice (some ⟨W.heap.size, 0, none⟩) 0 m) (W.alloc (.cells Z 29)) := by
  obtain ⟨i0, hi, hz0, hz1, hz2⟩ := info_parts infoRow
  refine ⟨madeCells (Value.agg #[.string ⟨#[]⟩, .string ⟨#[]⟩]).cells (m * 2), size_madeCells _ _, fun W => ?_⟩
  have h := run_make (P := Try.prog) W 22 29 i0 _ Try.underlying22 hi hz0 .i64 .i64 0 m (Int.le_refl _) (by omega) (by rw [hz2]; omega) (by omega)
  rw [hz1] at h
  simpa using h
theorem own_made {W : World} {Z : Array Value} {m b : Nat} (hb : Blk W b 29 Z) (hz : Z.size = m * 2) (hm : m ≤ 100000) : W.ownsRow b 29 2 (.slice (some ⟨b, 0, none⟩) 0 m) 0 (cellsR []) :=
  ⟨rfl, .inr ⟨b, m, Z, rfl, Nat.le_refl _, hb, Nat.zero_le _, by unfold maxLen; omega, hz, by simp [cellsR]⟩⟩
theorem all_at {h : Nat} {w2 : World} {K : Nat → Prop} {bt m : Nat} {t : Tr h} {xs : List Rw} {Z : Array Value} (a : TrAt h w2 K (.iface (tyT h) (.pointer (some ⟨bt, 0, none⟩))) t) (ok : OkT h t) (hx : flatT h t = xs) (hm : xs.length = m) (hs : m ≤ 10000) (hz : Z.size = m * 2) :
    Calls Try.prog (fnAll h) #[.pointer (some ⟨bt, 0, none⟩), .slice (some ⟨w2.heap.size, 0, none⟩) 0 m] (w2.alloc (.cells Z 29)) fun e w' => ∃ A c, e = .returned (.slice A m c) ∧ Rws w' (fun i => w2.heap.size ≤ i) A xs ∧ m ≤ c ∧ (A = none → c = 0) ∧ Below w2.heap.size w2 w' := by
  have hb := alloc_below w2 (.cells Z 29)
  refine (all_part h _ w2.heap.size bt 0 t _ [] ok ((a.more (K' := fun i => i < w2.heap.size) fun i hi _ => hi).below hb) (own_made (Blk.new _ _ _) hz (by omega)) hb.size (by rw [hx]; omega)).mono ?_
  rintro e w' ⟨u, rfl, ho, hk⟩
  rw [hx, hm, List.nil_append, Nat.zero_add] at ho
  obtain ⟨A, c, rfl, hr, _, h1, _, h2⟩ := own_rws ho
  exact ⟨A, c, rfl, hr, h1, h2, hb.trans hk⟩
set_option maxHeartbeats 2000000 in
theorem all_of {w : World} {K : Nat → Prop} {b : Nat} {T : Te} (a : TeAt w K b T) (ok : OkTe T) (hs : (flatTe T).length ≤ 10000) (hK : ∀ i, w.heap.size ≤ i → K i) :
    Calls Try.prog 10 #[.pointer (some ⟨b, 0, none⟩)] w fun e w' => ∃ A c, e = .returned (.slice A (flatTe T).length c) ∧ Rws w' (fun i => w.heap.size ≤ i) A (flatTe T) ∧ (flatTe T).length ≤ c ∧ (A = none → c = 0) ∧ Below w.heap.size w w' := by
  have ht := top_ (a.below (Below.refl _ _).drew) (w := w.drew) hK
  have HT := Lib.hid ht
  have HL := Lib.hid fun (W : World) (hb : Below w.heap.size w W) => len_ (a.below hb) (fun i hi => hK i (Nat.le_trans hb.size hi))
  obtain ⟨xs, hx⟩ : ∃ xs, flatTe T = xs := ⟨_, rfl⟩
  have HX : Hid (flatT (topT T).1 (topT T).2 = xs) := hx
  rw [hx] at HL hs ⊢
  unfold TopP at HT
  unfold OkTe at ok
  obtain ⟨m, hm⟩ : ∃ m, xs.length = m := ⟨_, rfl⟩
  rw [hm] at HL hs ⊢
  have HM := Lib.hid hm
  obtain ⟨Z, hz, hmk⟩ := made_rows m (by omega)
  have HZ := Lib.hid hz
  clear a ht hK hx hm hz
  generalize (topT T).2 = t at *
  generalize (topT T).1 = h at *
  have hcf := c_all h
  go_enter Try.func10, Try.ntmps10
  go_wp2_with fail
  go_region_with (first | (go_at_call 21; refine HT.out.mono ?_; rintro e w1 ⟨bt, rfl, ht1, hb1⟩; have HB1 := Lib.hid ((Below.refl w.heap.size w).drew.trans hb1); have HT1 := Lib.hid ht1; have hmt := (fun n => m_all h n bt); have hnt := (fun n => n_all h n bt); clear ht1 hb1) | (go_at_call 11; refine (HL.out _ HB1.out).mono ?_; rintro e w2 ⟨rfl, hb2⟩; have HB2 := Lib.hid hb2; clear hb2) | (guard_target =~ Calls _ (fnAll h) _ _ _; refine (all_at (HT1.out.below HB2.out) ok HX.out HM.out hs HZ.out).mono ?_; rintro e w3 ⟨A3, c3, rfl, hr3, h13, h23, hb3⟩; have HR3 := Lib.hid hr3; have H23 := Lib.hid h23; have HB3 := Lib.hid hb3; clear hr3 h23 hb3))
  all_goals
    go_wp2_with fail
    go_ret
    have hb2 := HB1.out.trans (HB2.out.mono HB1.out.size)
    exact ⟨A3, c3, rfl, HR3.out.more (fun i _ hi => Nat.le_trans hb2.size hi), h13, H23.out, hb2.trans (HB3.out.mono hb2.size)⟩
end Go.Proofs.Ytmlifmeimhbmgaa
