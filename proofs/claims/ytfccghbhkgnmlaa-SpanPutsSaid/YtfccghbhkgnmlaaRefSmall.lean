/- What the small calls of the document's own disk answer and do: Cut, Len, Broken, Break. -/
import Derived.Test.YtfccghbhkgnmlaaRefMem
namespace Go.Proofs.Ytfccghbhkgnmlaa
open Go.RowKit
def cutI (n lo hi : Int) : Int := if n < lo then lo else if hi < n then hi else n
theorem cut_ (n lo hi : Int) (w : World) : Calls Try.prog 21 #[.int .i64 n, .int .i64 lo, .int .i64 hi] w fun e w' => e = .returned (.int .i64 (cutI n lo hi)) ∧ w = w' := by
  by_cases h1 : n < lo
  · have hc : cutI n lo hi = lo := by simp [cutI, h1]
    rw [hc]
    clear hc
    go_enter Try.func21, Try.ntmps21
    go_wp2
    go_ret
    exact ⟨rfl, rfl⟩
  · by_cases h2 : hi < n
    · have hc : cutI n lo hi = hi := by simp [cutI, h1, h2]
      rw [hc]
      clear hc
      go_enter Try.func21, Try.ntmps21
      go_wp2
      go_ret
      exact ⟨rfl, rfl⟩
    · have hc : cutI n lo hi = n := by simp [cutI, h1, h2]
      rw [hc]
      clear hc
      go_enter Try.func21, Try.ntmps21
      go_wp2
      go_ret
      exact ⟨rfl, rfl⟩
section
variable {w : World} {g : Nat} {O : Nat → Prop} {s : St}
theorem rlen_ (h : RefAt w g O s) : Calls Try.prog 25 #[ptr g] w fun e w' => e = .returned (.int .i64 (s.n : Int)) ∧ w = w' := by
  obtain ⟨vs, vl, rs, ls, h⟩ := h
  obtain ⟨A, c, rfl, _, _⟩ := own_slice h.own_s
  have c0 := h.head.cell 0
  simp at c0
  rw [h.lr] at c0
  clear h
  go_enter Try.func25, Try.ntmps25
  go_wp2
  go_ret
  exact ⟨rfl, rfl⟩
theorem rbroken_ (h : RefAt w g O s) : Calls Try.prog 23 #[ptr g] w fun e w' => e = .returned (.bool s.broken) ∧ w = w' := by
  obtain ⟨vs, vl, rs, ls, h⟩ := h
  have c3 := h.head.cell 3
  have c4 := h.head.cell 2
  simp at c3 c4
  clear h
  unfold St.broken
  generalize s.ends = e at *
  generalize s.left = l at *
  cases e
  · go_enter Try.func23, Try.ntmps23
    go_wp2
    go_ret
    exact ⟨rfl, rfl⟩
  · go_enter Try.func23, Try.ntmps23
    go_wp2
    go_ret
    refine ⟨?_, rfl⟩
    have : ((l : Int) == 0) = (l == 0) := by rw [Bool.eq_iff_iff]; simp
    simp [this]
theorem rbroken_is {b : Bool} (h : RefAt w g O s) (hb : s.broken = b) : Calls Try.prog 23 #[ptr g] w fun e w' => e = .returned (.bool b) ∧ w = w' :=
  (rbroken_ h).mono fun _ _ ⟨h1, h2⟩ => ⟨by rw [h1, hb], h2⟩
/-- the head turned: all else stands -/
theorem RefM.set {vs vl : Value} {rs : List Value} {ls : List (Nat × Value)} {t : List Sec} (h : RefM w g O vs vl rs ls t s) {w' : World} {s' : St} (hw : Keep (fun i _ => i ≠ g) w w')
    (hh : Blk w' g 36 #[vs, vl, .int .i64 (s'.left : Int), .bool s'.ends, .int .i64 (s'.count : Int)]) (hl : s'.l = s.l) (hs : s'.ok) : RefM w' g O vs vl rs ls t s' :=
  ⟨hh, ownsRow_keep h.own_s hw (fun i _ hi => own_ne' h.own_s h.head (by decide) i hi), ownsRow_keep h.own_l hw (fun i _ hi => own_ne' h.own_l h.head (by decide) i hi), h.lr,
    fun i v x h1 h2 => (h.rows i v x h1 h2).keep_ne hw h.head, by rw [hl]; exact h.ll, fun i p x h1 h2 => by rw [hl] at h2; exact ⟨(h.wrs i p x h1 h2).1, (h.wrs i p x h1 h2).2.keep_ne hw h.head⟩, h.og, h.os, h.ol, hs⟩
theorem rbreak_no (h : RefAt w g O s) (hb : s.broken = true) (n : Int) : Calls Try.prog 10 #[ptr g, .int .i64 n] w fun e w' => e = .returned (.tuple #[]) ∧ w = w' := by
  have H := Lib.hid h
  have HB := Lib.hid hb
  clear h hb
  go_enter Try.func10, Try.ntmps10
  go_wp2_with (go_at_call 23; refine (rbroken_is H.out HB.out).mono ?_; rintro e w' ⟨rfl, rfl⟩)
  exact bodyPost_ret (v := .tuple #[]) (by simp [results, Try.results10, go_sem]) rfl ⟨rfl, rfl⟩
theorem rbreak_ (h : RefAt w g O s) (hb : s.broken = false) (n : Int) : Calls Try.prog 10 #[ptr g, .int .i64 n] w fun e w' => e = .returned (.tuple #[]) ∧ RefAt w' g O (s.brk (cutI n 0 1073741824).toNat) ∧ Keep (Out O) w w' := by
  have H := Lib.hid h
  have HB := Lib.hid hb
  obtain ⟨vs, vl, rs, ls, h⟩ := h
  have c3 := h.head.cell 3
  have c4 := h.head.cell 2
  have f3 := h.head.frozen 3
  have f4 := h.head.frozen 2
  simp at c3 c4
  have HM := Lib.hid h
  have h0 : 0 ≤ cutI n 0 1073741824 := by unfold cutI; split <;> (try split) <;> omega
  obtain ⟨m, hm⟩ := Int.eq_ofNat_of_zero_le h0
  have HC := Lib.hid hm
  clear h hb h0 hm
  go_enter Try.func10, Try.ntmps10
  go_wp2_with (first | (go_at_call 23; refine (rbroken_is H.out HB.out).mono ?_; rintro e w' ⟨rfl, rfl⟩) | (go_at_call 21; refine (cut_ _ _ _ _).mono ?_; rintro e w' ⟨rfl, rfl⟩; rw [HC.out]))
  go_end0
  rw [HC.out, Int.toNat_natCast]
  have k1 : Keep (fun i _ => i ≠ g) w ((w.setCell ⟨g, 3, none⟩ (.bool true)).setCell ⟨g, 2, none⟩ (.int .i64 (m : Int))) := ((Keep.refl w).setCell (p := ⟨g, 3, none⟩) (fun _ _ hk => hk rfl) _).setCell (p := ⟨g, 2, none⟩) (fun _ _ hk => hk rfl) _
  exact ⟨rfl, ⟨vs, vl, rs, ls, HM.out.set k1 ((HM.out.head.set_ 3 (.bool true)).set_ 2 (.int .i64 (m : Int))) rfl (HM.out.ok.brk _)⟩, k1.mono fun i _ _ hi e => hi (e ▸ HM.out.og)⟩
end
end Go.Proofs.Ytfccghbhkgnmlaa
