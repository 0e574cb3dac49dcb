/- The document's RightEffect, kind by kind. -/
import Derived.Test.YtlapicjbnheioaaEfH
set_option maxRecDepth 4000
namespace Go.Proofs.Ytlapicjbnheioaa
open Go.RowKit
attribute [local go_sem ↓] eqf_cells
/-- a change and one with the fields of its kind alone, each in a block of its own -/
structure TwoE (w : World) (e x : Ef) (wk : World) : Prop where
  bel : Below w.heap.size w wk
  be : Blk wk w.heap.size 29 e.cells
  bx : Blk wk (w.heap.size + 1) 29 x.cells
section
variable {w wk w' : World} {e x : Ef}
theorem TwoE.first (w : World) (e x : Ef) : TwoE w e x ((w.alloc (.cells e.cells 29)).alloc (.cells x.cells 29)) := by
  have h1 := alloc_below w (.cells e.cells 29)
  have h2 := Blk.new (w.alloc (.cells e.cells 29)) 29 x.cells
  rw [show (w.alloc (.cells e.cells 29)).heap.size = w.heap.size + 1 by simp] at h2
  exact ⟨h1.alloc h1.size _, (Blk.new w _ _).alloc _, h2⟩
theorem TwoE.next (h : TwoE w e x wk) (k : Below wk.heap.size wk w') : TwoE w e x w' := ⟨h.bel.trans (k.mono h.bel.size), h.be.below k h.be.lt, h.bx.below k h.bx.lt⟩
end
set_option maxHeartbeats 1000000 in
theorem rright1 (o ky v : ByteArray) (n l : Int) (t : Bool) (i p r : Int) (cl : Bool) (c b : ByteArray) (w : World) : Calls Try.prog 9 #[Ef.val_ ⟨1, o, ky, v, n, l, t, ⟨i, p, r, cl, c, b⟩⟩] w fun x w' => x = .returned (.bool (Ef.right ⟨1, o, ky, v, n, l, t, ⟨i, p, r, cl, c, b⟩⟩)) ∧ Below w.heap.size w w' := by
  have H1 := Lib.hid (TwoE.first w ⟨1, o, ky, v, n, l, t, ⟨i, p, r, cl, c, b⟩⟩ ⟨1, o, ⟨#[]⟩, ⟨#[]⟩, n, l, false, Mg.zero⟩)
  have HN := Lib.hid (name_ o)
  obtain ⟨nb, hnb⟩ : ∃ b, nameB o = b := ⟨_, rfl⟩
  rw [hnb] at HN
  have hr : Ef.right ⟨1, o, ky, v, n, l, t, ⟨i, p, r, cl, c, b⟩⟩ = ((nb && kindB n l) && Ef.same ⟨1, o, ⟨#[]⟩, ⟨#[]⟩, n, l, false, Mg.zero⟩ ⟨1, o, ky, v, n, l, t, ⟨i, p, r, cl, c, b⟩⟩) := by
    have e1 : Ef.good ⟨1, o, ky, v, n, l, t, ⟨i, p, r, cl, c, b⟩⟩ = (nb && kindB n l) := by simp [Ef.good, hnb]
    have e2 : Ef.bare ⟨1, o, ky, v, n, l, t, ⟨i, p, r, cl, c, b⟩⟩ = ⟨1, o, ⟨#[]⟩, ⟨#[]⟩, n, l, false, Mg.zero⟩ := by simp [Ef.bare]
    unfold Ef.right
    rw [e1, e2, same_comm]
  rw [hr]
  clear hr hnb
  have HK := Lib.hid (rkind_ n l)
  generalize kindB n l = kb at *
  go_enter Try.func9, Try.ntmps9
  go_wp2_with fail
  refine (HN.out _).mono ?_
  rintro e w1 ⟨rfl, rfl⟩
  cases nb
  · go_wp2_with fail
    go_ret
    exact ⟨retM (by simp), H1.out.bel⟩
  go_wp2_with fail
  refine (HK.out _).mono ?_
  rintro e w2 ⟨rfl, rfl⟩
  cases kb
  · go_wp2_with fail
    go_ret
    exact ⟨retM (by simp), H1.out.bel⟩
  go_wp2_with fail
  go_ret
  exact ⟨retM (by simp [Mg.zero]), H1.out.bel⟩
set_option maxHeartbeats 1000000 in
theorem rright2 (o ky v : ByteArray) (n l : Int) (t : Bool) (i p r : Int) (cl : Bool) (c b : ByteArray) (w : World) : Calls Try.prog 9 #[Ef.val_ ⟨2, o, ky, v, n, l, t, ⟨i, p, r, cl, c, b⟩⟩] w fun x w' => x = .returned (.bool (Ef.right ⟨2, o, ky, v, n, l, t, ⟨i, p, r, cl, c, b⟩⟩)) ∧ Below w.heap.size w w' := by
  have H1 := Lib.hid (TwoE.first w ⟨2, o, ky, v, n, l, t, ⟨i, p, r, cl, c, b⟩⟩ ⟨2, o, ky, v, 0, 0, false, Mg.zero⟩)
  have HN := Lib.hid (name_ o)
  obtain ⟨nb, hnb⟩ : ∃ b, nameB o = b := ⟨_, rfl⟩
  rw [hnb] at HN
  have hr : Ef.right ⟨2, o, ky, v, n, l, t, ⟨i, p, r, cl, c, b⟩⟩ = ((nb && (keyB ky && bodyB v)) && Ef.same ⟨2, o, ky, v, 0, 0, false, Mg.zero⟩ ⟨2, o, ky, v, n, l, t, ⟨i, p, r, cl, c, b⟩⟩) := by
    have e1 : Ef.good ⟨2, o, ky, v, n, l, t, ⟨i, p, r, cl, c, b⟩⟩ = (nb && (keyB ky && bodyB v)) := by simp [Ef.good, hnb]
    have e2 : Ef.bare ⟨2, o, ky, v, n, l, t, ⟨i, p, r, cl, c, b⟩⟩ = ⟨2, o, ky, v, 0, 0, false, Mg.zero⟩ := by simp [Ef.bare]
    unfold Ef.right
    rw [e1, e2, same_comm]
  rw [hr]
  clear hr hnb
  have HK := Lib.hid (rrow_ ky v)
  generalize (keyB ky && bodyB v) = kb at *
  go_enter Try.func9, Try.ntmps9
  go_wp2_with fail
  refine (HN.out _).mono ?_
  rintro e w1 ⟨rfl, rfl⟩
  cases nb
  · go_wp2_with fail
    go_ret
    exact ⟨retM (by simp), H1.out.bel⟩
  go_wp2_with fail
  refine (HK.out _).mono ?_
  rintro e w2 ⟨rfl, hb2⟩
  have H2 := Lib.hid (H1.out.next hb2)
  obtain ⟨q0, q1, q2, q3, q4, q5, q6, q7, q8, q9, q10, q11, q12⟩ := thir_of H2.out.be
  obtain ⟨s0, s1, s2, s3, s4, s5, s6, s7, s8, s9, s10, s11, s12⟩ := thir_of H2.out.bx
  simp only [Mg.zero] at q0 q1 q2 q3 q4 q5 q6 q7 q8 q9 q10 q11 q12 s0 s1 s2 s3 s4 s5 s6 s7 s8 s9 s10 s11 s12
  clear hb2 H1
  cases kb
  · go_wp2_with fail
    go_ret
    exact ⟨retM (by simp), H2.out.bel⟩
  go_wp2_with fail
  go_ret
  exact ⟨retM (by simp [Mg.zero]), H2.out.bel⟩
set_option maxHeartbeats 1000000 in
theorem rright3 (o ky v : ByteArray) (n l : Int) (t : Bool) (i p r : Int) (cl : Bool) (c b : ByteArray) (w : World) : Calls Try.prog 9 #[Ef.val_ ⟨3, o, ky, v, n, l, t, ⟨i, p, r, cl, c, b⟩⟩] w fun x w' => x = .returned (.bool (Ef.right ⟨3, o, ky, v, n, l, t, ⟨i, p, r, cl, c, b⟩⟩)) ∧ Below w.heap.size w w' := by
  have H1 := Lib.hid (TwoE.first w ⟨3, o, ky, v, n, l, t, ⟨i, p, r, cl, c, b⟩⟩ ⟨3, o, ky, ⟨#[]⟩, 0, 0, false, Mg.zero⟩)
  have HN := Lib.hid (name_ o)
  obtain ⟨nb, hnb⟩ : ∃ b, nameB o = b := ⟨_, rfl⟩
  rw [hnb] at HN
  have hr : Ef.right ⟨3, o, ky, v, n, l, t, ⟨i, p, r, cl, c, b⟩⟩ = ((nb && keyB ky) && Ef.same ⟨3, o, ky, ⟨#[]⟩, 0, 0, false, Mg.zero⟩ ⟨3, o, ky, v, n, l, t, ⟨i, p, r, cl, c, b⟩⟩) := by
    have e1 : Ef.good ⟨3, o, ky, v, n, l, t, ⟨i, p, r, cl, c, b⟩⟩ = (nb && keyB ky) := by simp [Ef.good, hnb]
    have e2 : Ef.bare ⟨3, o, ky, v, n, l, t, ⟨i, p, r, cl, c, b⟩⟩ = ⟨3, o, ky, ⟨#[]⟩, 0, 0, false, Mg.zero⟩ := by simp [Ef.bare]
    unfold Ef.right
    rw [e1, e2, same_comm]
  rw [hr]
  clear hr hnb
  have hk := rrow_ ky ⟨#[]⟩
  rw [show bodyB ⟨#[]⟩ = true from rfl, Bool.and_true] at hk
  have HK := Lib.hid hk
  clear hk
  generalize keyB ky = kb at *
  go_enter Try.func9, Try.ntmps9
  go_wp2_with fail
  refine (HN.out _).mono ?_
  rintro e w1 ⟨rfl, rfl⟩
  cases nb
  · go_wp2_with fail
    go_ret
    exact ⟨retM (by simp), H1.out.bel⟩
  go_wp2_with fail
  refine (HK.out _).mono ?_
  rintro e w2 ⟨rfl, hb2⟩
  have H2 := Lib.hid (H1.out.next hb2)
  obtain ⟨q0, q1, q2, q3, q4, q5, q6, q7, q8, q9, q10, q11, q12⟩ := thir_of H2.out.be
  obtain ⟨s0, s1, s2, s3, s4, s5, s6, s7, s8, s9, s10, s11, s12⟩ := thir_of H2.out.bx
  simp only [Mg.zero] at q0 q1 q2 q3 q4 q5 q6 q7 q8 q9 q10 q11 q12 s0 s1 s2 s3 s4 s5 s6 s7 s8 s9 s10 s11 s12
  clear hb2 H1
  cases kb
  · go_wp2_with fail
    go_ret
    exact ⟨retM (by simp), H2.out.bel⟩
  go_wp2_with fail
  go_ret
  exact ⟨retM (by simp [Mg.zero]), H2.out.bel⟩
set_option maxHeartbeats 1000000 in
theorem rright4 (o ky v : ByteArray) (n l : Int) (t : Bool) (i p r : Int) (cl : Bool) (c b : ByteArray) (w : World) : Calls Try.prog 9 #[Ef.val_ ⟨4, o, ky, v, n, l, t, ⟨i, p, r, cl, c, b⟩⟩] w fun x w' => x = .returned (.bool (Ef.right ⟨4, o, ky, v, n, l, t, ⟨i, p, r, cl, c, b⟩⟩)) ∧ Below w.heap.size w w' := by
  have H1 := Lib.hid (TwoE.first w ⟨4, o, ky, v, n, l, t, ⟨i, p, r, cl, c, b⟩⟩ ⟨4, o, ⟨#[]⟩, ⟨#[]⟩, 0, 0, false, ⟨i, p, r, cl, c, b⟩⟩)
  have HN := Lib.hid (name_ o)
  obtain ⟨nb, hnb⟩ : ∃ b, nameB o = b := ⟨_, rfl⟩
  rw [hnb] at HN
  have hr : Ef.right ⟨4, o, ky, v, n, l, t, ⟨i, p, r, cl, c, b⟩⟩ = ((nb && Mg.right ⟨i, p, r, cl, c, b⟩) && Ef.same ⟨4, o, ⟨#[]⟩, ⟨#[]⟩, 0, 0, false, ⟨i, p, r, cl, c, b⟩⟩ ⟨4, o, ky, v, n, l, t, ⟨i, p, r, cl, c, b⟩⟩) := by
    have e1 : Ef.good ⟨4, o, ky, v, n, l, t, ⟨i, p, r, cl, c, b⟩⟩ = (nb && Mg.right ⟨i, p, r, cl, c, b⟩) := by simp [Ef.good, hnb]
    have e2 : Ef.bare ⟨4, o, ky, v, n, l, t, ⟨i, p, r, cl, c, b⟩⟩ = ⟨4, o, ⟨#[]⟩, ⟨#[]⟩, 0, 0, false, ⟨i, p, r, cl, c, b⟩⟩ := by simp [Ef.bare]
    unfold Ef.right
    rw [e1, e2, same_comm]
  rw [hr]
  clear hr hnb
  have HK := Lib.hid (rright_ ⟨i, p, r, cl, c, b⟩)
  generalize Mg.right ⟨i, p, r, cl, c, b⟩ = kb at *
  go_enter Try.func9, Try.ntmps9
  go_wp2_with fail
  refine (HN.out _).mono ?_
  rintro e w1 ⟨rfl, rfl⟩
  cases nb
  · go_wp2_with fail
    go_ret
    exact ⟨retM (by simp), H1.out.bel⟩
  go_wp2_with fail
  refine (HK.out _).mono ?_
  rintro e w2 ⟨rfl, hb2⟩
  have H2 := Lib.hid (H1.out.next hb2)
  obtain ⟨q0, q1, q2, q3, q4, q5, q6, q7, q8, q9, q10, q11, q12⟩ := thir_of H2.out.be
  obtain ⟨s0, s1, s2, s3, s4, s5, s6, s7, s8, s9, s10, s11, s12⟩ := thir_of H2.out.bx
  simp only at q0 q1 q2 q3 q4 q5 q6 q7 q8 q9 q10 q11 q12 s0 s1 s2 s3 s4 s5 s6 s7 s8 s9 s10 s11 s12
  clear hb2 H1
  cases kb
  · go_wp2_with fail
    go_ret
    exact ⟨retM (by simp), H2.out.bel⟩
  go_wp2_with fail
  go_ret
  exact ⟨retM (by simp), H2.out.bel⟩
set_option maxHeartbeats 1000000 in
theorem rright5 (o ky v : ByteArray) (n l : Int) (t : Bool) (i p r : Int) (cl : Bool) (c b : ByteArray) (w : World) : Calls Try.prog 9 #[Ef.val_ ⟨5, o, ky, v, n, l, t, ⟨i, p, r, cl, c, b⟩⟩] w fun x w' => x = .returned (.bool (Ef.right ⟨5, o, ky, v, n, l, t, ⟨i, p, r, cl, c, b⟩⟩)) ∧ Below w.heap.size w w' := by
  have H1 := Lib.hid (TwoE.first w ⟨5, o, ky, v, n, l, t, ⟨i, p, r, cl, c, b⟩⟩ ⟨5, o, ⟨#[]⟩, ⟨#[]⟩, n, 0, false, Mg.zero⟩)
  have HN := Lib.hid (name_ o)
  obtain ⟨nb, hnb⟩ : ∃ b, nameB o = b := ⟨_, rfl⟩
  rw [hnb] at HN
  have hr : Ef.right ⟨5, o, ky, v, n, l, t, ⟨i, p, r, cl, c, b⟩⟩ = ((nb && idB n) && Ef.same ⟨5, o, ⟨#[]⟩, ⟨#[]⟩, n, 0, false, Mg.zero⟩ ⟨5, o, ky, v, n, l, t, ⟨i, p, r, cl, c, b⟩⟩) := by
    have e1 : Ef.good ⟨5, o, ky, v, n, l, t, ⟨i, p, r, cl, c, b⟩⟩ = (nb && idB n) := by simp [Ef.good, hnb]
    have e2 : Ef.bare ⟨5, o, ky, v, n, l, t, ⟨i, p, r, cl, c, b⟩⟩ = ⟨5, o, ⟨#[]⟩, ⟨#[]⟩, n, 0, false, Mg.zero⟩ := by simp [Ef.bare]
    unfold Ef.right
    rw [e1, e2, same_comm]
  rw [hr]
  clear hr hnb
  by_cases h1 : 1 ≤ n
  rotate_left
  · have E : Hid (idB n = false) := by
      have e : idB n = false := by unfold idB; rw [decide_eq_false h1, Bool.false_and]
      exact e
    go_enter Try.func9, Try.ntmps9
    go_wp2_with fail
    refine (HN.out _).mono ?_
    rintro e w1 ⟨rfl, rfl⟩
    cases nb
    · go_wp2_with fail
      go_ret
      exact ⟨retM (by simp), H1.out.bel⟩
    go_wp2_with fail
    go_ret
    exact ⟨retM (by rw [E.out]; simp), H1.out.bel⟩
  by_cases h2 : n ≤ 1099511627776
  rotate_left
  · have E : Hid (idB n = false) := by
      have e : idB n = false := by unfold idB; rw [decide_eq_false h2, Bool.and_false]
      exact e
    go_enter Try.func9, Try.ntmps9
    go_wp2_with fail
    refine (HN.out _).mono ?_
    rintro e w1 ⟨rfl, rfl⟩
    cases nb
    · go_wp2_with fail
      go_ret
      exact ⟨retM (by simp), H1.out.bel⟩
    go_wp2_with fail
    go_ret
    exact ⟨retM (by rw [E.out]; simp), H1.out.bel⟩
  have E : Hid (idB n = true) := by
    have e : idB n = true := by unfold idB; rw [decide_eq_true h1, decide_eq_true h2]; rfl
    exact e
  go_enter Try.func9, Try.ntmps9
  go_wp2_with fail
  refine (HN.out _).mono ?_
  rintro e w1 ⟨rfl, rfl⟩
  cases nb
  · go_wp2_with fail
    go_ret
    exact ⟨retM (by simp), H1.out.bel⟩
  go_wp2_with fail
  go_ret
  exact ⟨retM (by rw [E.out]; simp [Mg.zero]), H1.out.bel⟩
set_option maxHeartbeats 1000000 in
theorem rright6 (o ky v : ByteArray) (n l : Int) (t : Bool) (i p r : Int) (cl : Bool) (c b : ByteArray) (w : World) : Calls Try.prog 9 #[Ef.val_ ⟨6, o, ky, v, n, l, t, ⟨i, p, r, cl, c, b⟩⟩] w fun x w' => x = .returned (.bool (Ef.right ⟨6, o, ky, v, n, l, t, ⟨i, p, r, cl, c, b⟩⟩)) ∧ Below w.heap.size w w' := by
  have H1 := Lib.hid (TwoE.first w ⟨6, o, ky, v, n, l, t, ⟨i, p, r, cl, c, b⟩⟩ ⟨6, o, ⟨#[]⟩, ⟨#[]⟩, n, 0, false, Mg.zero⟩)
  have HN := Lib.hid (name_ o)
  obtain ⟨nb, hnb⟩ : ∃ b, nameB o = b := ⟨_, rfl⟩
  rw [hnb] at HN
  have hr : Ef.right ⟨6, o, ky, v, n, l, t, ⟨i, p, r, cl, c, b⟩⟩ = ((nb && idB n) && Ef.same ⟨6, o, ⟨#[]⟩, ⟨#[]⟩, n, 0, false, Mg.zero⟩ ⟨6, o, ky, v, n, l, t, ⟨i, p, r, cl, c, b⟩⟩) := by
    have e1 : Ef.good ⟨6, o, ky, v, n, l, t, ⟨i, p, r, cl, c, b⟩⟩ = (nb && idB n) := by simp [Ef.good, hnb]
    have e2 : Ef.bare ⟨6, o, ky, v, n, l, t, ⟨i, p, r, cl, c, b⟩⟩ = ⟨6, o, ⟨#[]⟩, ⟨#[]⟩, n, 0, false, Mg.zero⟩ := by simp [Ef.bare]
    unfold Ef.right
    rw [e1, e2, same_comm]
  rw [hr]
  clear hr hnb
  by_cases h1 : 1 ≤ n
  rotate_left
  · have E : Hid (idB n = false) := by
      have e : idB n = false := by unfold idB; rw [decide_eq_false h1, Bool.false_and]
      exact e
    go_enter Try.func9, Try.ntmps9
    go_wp2_with fail
    refine (HN.out _).mono ?_
    rintro e w1 ⟨rfl, rfl⟩
    cases nb
    · go_wp2_with fail
      go_ret
      exact ⟨retM (by simp), H1.out.bel⟩
    go_wp2_with fail
    go_ret
    exact ⟨retM (by rw [E.out]; simp), H1.out.bel⟩
  by_cases h2 : n ≤ 1099511627776
  rotate_left
  · have E : Hid (idB n = false) := by
      have e : idB n = false := by unfold idB; rw [decide_eq_false h2, Bool.and_false]
      exact e
    go_enter Try.func9, Try.ntmps9
    go_wp2_with fail
    refine (HN.out _).mono ?_
    rintro e w1 ⟨rfl, rfl⟩
    cases nb
    · go_wp2_with fail
      go_ret
      exact ⟨retM (by simp), H1.out.bel⟩
    go_wp2_with fail
    go_ret
    exact ⟨retM (by rw [E.out]; simp), H1.out.bel⟩
  have E : Hid (idB n = true) := by
    have e : idB n = true := by unfold idB; rw [decide_eq_true h1, decide_eq_true h2]; rfl
    exact e
  go_enter Try.func9, Try.ntmps9
  go_wp2_with fail
  refine (HN.out _).mono ?_
  rintro e w1 ⟨rfl, rfl⟩
  cases nb
  · go_wp2_with fail
    go_ret
    exact ⟨retM (by simp), H1.out.bel⟩
  go_wp2_with fail
  go_ret
  exact ⟨retM (by rw [E.out]; simp [Mg.zero]), H1.out.bel⟩
set_option maxHeartbeats 1000000 in
theorem rright7 (o ky v : ByteArray) (n l : Int) (t : Bool) (i p r : Int) (cl : Bool) (c b : ByteArray) (w : World) : Calls Try.prog 9 #[Ef.val_ ⟨7, o, ky, v, n, l, t, ⟨i, p, r, cl, c, b⟩⟩] w fun x w' => x = .returned (.bool (Ef.right ⟨7, o, ky, v, n, l, t, ⟨i, p, r, cl, c, b⟩⟩)) ∧ Below w.heap.size w w' := by
  have H1 := Lib.hid (TwoE.first w ⟨7, o, ky, v, n, l, t, ⟨i, p, r, cl, c, b⟩⟩ ⟨7, o, ⟨#[]⟩, ⟨#[]⟩, n, 0, t, Mg.zero⟩)
  have HN := Lib.hid (name_ o)
  obtain ⟨nb, hnb⟩ : ∃ b, nameB o = b := ⟨_, rfl⟩
  rw [hnb] at HN
  have hr : Ef.right ⟨7, o, ky, v, n, l, t, ⟨i, p, r, cl, c, b⟩⟩ = ((nb && idB n) && Ef.same ⟨7, o, ⟨#[]⟩, ⟨#[]⟩, n, 0, t, Mg.zero⟩ ⟨7, o, ky, v, n, l, t, ⟨i, p, r, cl, c, b⟩⟩) := by
    have e1 : Ef.good ⟨7, o, ky, v, n, l, t, ⟨i, p, r, cl, c, b⟩⟩ = (nb && idB n) := by simp [Ef.good, hnb]
    have e2 : Ef.bare ⟨7, o, ky, v, n, l, t, ⟨i, p, r, cl, c, b⟩⟩ = ⟨7, o, ⟨#[]⟩, ⟨#[]⟩, n, 0, t, Mg.zero⟩ := by simp [Ef.bare]
    unfold Ef.right
    rw [e1, e2, same_comm]
  rw [hr]
  clear hr hnb
  by_cases h1 : 1 ≤ n
  rotate_left
  · have E : Hid (idB n = false) := by
      have e : idB n = false := by unfold idB; rw [decide_eq_false h1, Bool.false_and]
      exact e
    go_enter Try.func9, Try.ntmps9
    go_wp2_with fail
    refine (HN.out _).mono ?_
    rintro e w1 ⟨rfl, rfl⟩
    cases nb
    · go_wp2_with fail
      go_ret
      exact ⟨retM (by simp), H1.out.bel⟩
    go_wp2_with fail
    go_ret
    exact ⟨retM (by rw [E.out]; simp), H1.out.bel⟩
  by_cases h2 : n ≤ 1099511627776
  rotate_left
  · have E : Hid (idB n = false) := by
      have e : idB n = false := by unfold idB; rw [decide_eq_false h2, Bool.and_false]
      exact e
    go_enter Try.func9, Try.ntmps9
    go_wp2_with fail
    refine (HN.out _).mono ?_
    rintro e w1 ⟨rfl, rfl⟩
    cases nb
    · go_wp2_with fail
      go_ret
      exact ⟨retM (by simp), H1.out.bel⟩
    go_wp2_with fail
    go_ret
    exact ⟨retM (by rw [E.out]; simp), H1.out.bel⟩
  have E : Hid (idB n = true) := by
    have e : idB n = true := by unfold idB; rw [decide_eq_true h1, decide_eq_true h2]; rfl
    exact e
  go_enter Try.func9, Try.ntmps9
  go_wp2_with fail
  refine (HN.out _).mono ?_
  rintro e w1 ⟨rfl, rfl⟩
  cases nb
  · go_wp2_with fail
    go_ret
    exact ⟨retM (by simp), H1.out.bel⟩
  go_wp2_with fail
  go_ret
  exact ⟨retM (by rw [E.out]; simp [Mg.zero]), H1.out.bel⟩
set_option maxHeartbeats 1000000 in
theorem rright8 (o ky v : ByteArray) (n l : Int) (t : Bool) (i p r : Int) (cl : Bool) (c b : ByteArray) (w : World) : Calls Try.prog 9 #[Ef.val_ ⟨8, o, ky, v, n, l, t, ⟨i, p, r, cl, c, b⟩⟩] w fun x w' => x = .returned (.bool (Ef.right ⟨8, o, ky, v, n, l, t, ⟨i, p, r, cl, c, b⟩⟩)) ∧ Below w.heap.size w w' := by
  have H1 := Lib.hid (TwoE.first w ⟨8, o, ky, v, n, l, t, ⟨i, p, r, cl, c, b⟩⟩ ⟨8, ⟨#[]⟩, ⟨#[]⟩, ⟨#[]⟩, n, 0, false, Mg.zero⟩)
  have HN := Lib.hid (name_ o)
  obtain ⟨nb, hnb⟩ : ∃ b, nameB o = b := ⟨_, rfl⟩
  rw [hnb] at HN
  have hr : Ef.right ⟨8, o, ky, v, n, l, t, ⟨i, p, r, cl, c, b⟩⟩ = ((idB n) && Ef.same ⟨8, ⟨#[]⟩, ⟨#[]⟩, ⟨#[]⟩, n, 0, false, Mg.zero⟩ ⟨8, o, ky, v, n, l, t, ⟨i, p, r, cl, c, b⟩⟩) := by
    have e1 : Ef.good ⟨8, o, ky, v, n, l, t, ⟨i, p, r, cl, c, b⟩⟩ = (idB n) := by simp [Ef.good]
    have e2 : Ef.bare ⟨8, o, ky, v, n, l, t, ⟨i, p, r, cl, c, b⟩⟩ = ⟨8, ⟨#[]⟩, ⟨#[]⟩, ⟨#[]⟩, n, 0, false, Mg.zero⟩ := by simp [Ef.bare]
    unfold Ef.right
    rw [e1, e2, same_comm]
  rw [hr]
  clear hr hnb
  by_cases h1 : 1 ≤ n
  rotate_left
  · have E : Hid (idB n = false) := by
      have e : idB n = false := by unfold idB; rw [decide_eq_false h1, Bool.false_and]
      exact e
    go_enter Try.func9, Try.ntmps9
    go_wp2_with fail
    refine (HN.out _).mono ?_
    rintro e w1 ⟨rfl, rfl⟩
    go_wp2_with fail
    go_ret
    exact ⟨retM (by rw [E.out]; simp), H1.out.bel⟩
  by_cases h2 : n ≤ 1099511627776
  rotate_left
  · have E : Hid (idB n = false) := by
      have e : idB n = false := by unfold idB; rw [decide_eq_false h2, Bool.and_false]
      exact e
    go_enter Try.func9, Try.ntmps9
    go_wp2_with fail
    refine (HN.out _).mono ?_
    rintro e w1 ⟨rfl, rfl⟩
    go_wp2_with fail
    go_ret
    exact ⟨retM (by rw [E.out]; simp), H1.out.bel⟩
  have E : Hid (idB n = true) := by
    have e : idB n = true := by unfold idB; rw [decide_eq_true h1, decide_eq_true h2]; rfl
    exact e
  go_enter Try.func9, Try.ntmps9
  go_wp2_with fail
  refine (HN.out _).mono ?_
  rintro e w1 ⟨rfl, rfl⟩
  go_wp2_with fail
  go_ret
  exact ⟨retM (by rw [E.out]; simp [Mg.zero]), H1.out.bel⟩
set_option maxHeartbeats 1000000 in
theorem rrightE_ (e : Ef) (w : World) : Calls Try.prog 9 #[e.val_] w fun x w' => x = .returned (.bool e.right) ∧ Below w.heap.size w w' := by
  obtain ⟨k, o, ky, v, n, l, t, ⟨i, p, r, cl, c, b⟩⟩ := e
  by_cases h1 : k = 1
  · subst h1
    exact rright1 o ky v n l t i p r cl c b w
  by_cases h2 : k = 2
  · subst h2
    exact rright2 o ky v n l t i p r cl c b w
  by_cases h3 : k = 3
  · subst h3
    exact rright3 o ky v n l t i p r cl c b w
  by_cases h4 : k = 4
  · subst h4
    exact rright4 o ky v n l t i p r cl c b w
  by_cases h5 : k = 5
  · subst h5
    exact rright5 o ky v n l t i p r cl c b w
  by_cases h6 : k = 6
  · subst h6
    exact rright6 o ky v n l t i p r cl c b w
  by_cases h7 : k = 7
  · subst h7
    exact rright7 o ky v n l t i p r cl c b w
  by_cases h8 : k = 8
  · subst h8
    exact rright8 o ky v n l t i p r cl c b w
  have E : Hid (Ef.right ⟨k, o, ky, v, n, l, t, ⟨i, p, r, cl, c, b⟩⟩ = false) := by
    have e : Ef.right ⟨k, o, ky, v, n, l, t, ⟨i, p, r, cl, c, b⟩⟩ = false := by
      have e1 : Ef.good ⟨k, o, ky, v, n, l, t, ⟨i, p, r, cl, c, b⟩⟩ = false := by simp [Ef.good, h1, h2, h3, h4, h5, h6, h7, h8]
      unfold Ef.right
      rw [e1, Bool.false_and]
    exact e
  have H1 := Lib.hid (TwoE.first w ⟨k, o, ky, v, n, l, t, ⟨i, p, r, cl, c, b⟩⟩ ⟨k, o, ⟨#[]⟩, ⟨#[]⟩, 0, 0, false, Mg.zero⟩)
  have HN := Lib.hid (name_ o)
  generalize nameB o = nb at *
  go_enter Try.func9, Try.ntmps9
  go_wp2_with fail
  refine (HN.out _).mono ?_
  rintro e w1 ⟨rfl, rfl⟩
  go_wp2_with fail
  go_ret
  exact ⟨retM (E.out.symm), H1.out.bel⟩
end Go.Proofs.Ytlapicjbnheioaa
