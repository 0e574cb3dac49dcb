/- Thirteen cells stored one after the other; a change read next: package effect's next. -/
import Derived.Test.YtlapicjbnheioaaMsR
import Derived.Test.YtlapicjbnheioaaEfE
import Derived.Test.YtlapicjbnheioaaEfP
set_option maxRecDepth 4000
namespace Go.Proofs.Ytlapicjbnheioaa
open Go.RowKit
/-- thirteen cells of block g stored -/
abbrev put13 (w : World) (g : Nat) (v0 v1 v2 v3 v4 v5 v6 v7 v8 v9 v10 v11 v12 : Value) : World := (((((((((((((w.setCell ⟨g, 0, none⟩ v0).setCell ⟨g, 1, none⟩ v1).setCell ⟨g, 2, none⟩ v2).setCell ⟨g, 3, none⟩ v3).setCell ⟨g, 4, none⟩ v4).setCell ⟨g, 5, none⟩ v5).setCell ⟨g, 6, none⟩ v6).setCell ⟨g, 7, none⟩ v7).setCell ⟨g, 8, none⟩ v8).setCell ⟨g, 9, none⟩ v9).setCell ⟨g, 10, none⟩ v10).setCell ⟨g, 11, none⟩ v11).setCell ⟨g, 12, none⟩ v12)
theorem below_13 {B : Nat} {w w1 : World} (h : Below B w w1) {g : Nat} (hg : B ≤ g) (v0 v1 v2 v3 v4 v5 v6 v7 v8 v9 v10 v11 v12 : Value) : Below B w (put13 w1 g v0 v1 v2 v3 v4 v5 v6 v7 v8 v9 v10 v11 v12) :=
  ((((((((((((h.setCell hg v0).setCell hg v1).setCell hg v2).setCell hg v3).setCell hg v4).setCell hg v5).setCell hg v6).setCell hg v7).setCell hg v8).setCell hg v9).setCell hg v10).setCell hg v11).setCell hg v12
theorem blk_store13 {w : World} {g : Nat} {T : TypeId} {a0 a1 a2 a3 a4 a5 a6 a7 a8 a9 a10 a11 a12 : Value} (h : Blk w g T #[a0, a1, a2, a3, a4, a5, a6, a7, a8, a9, a10, a11, a12]) (v0 v1 v2 v3 v4 v5 v6 v7 v8 v9 v10 v11 v12 : Value) : Blk (put13 w g v0 v1 v2 v3 v4 v5 v6 v7 v8 v9 v10 v11 v12) g T #[v0, v1, v2, v3, v4, v5, v6, v7, v8, v9, v10, v11, v12] := by
  have := ((((((((((((h.set_ 0 v0).set_ 1 v1).set_ 2 v2).set_ 3 v3).set_ 4 v4).set_ 5 v5).set_ 6 v6).set_ 7 v7).set_ 8 v8).set_ 9 v9).set_ 10 v10).set_ 11 v11).set_ 12 v12
  simpa using this
/-- a reader, beside a new block for the answer -/
structure RE (T : TypeId) (w : World) (g B : Nat) (r : Rd) (wk : World) : Prop where
  keep : Keep (But g) w wk
  res : Blk wk w.heap.size 29 Ef.zero.cells
  rd : ReaderAt T wk g B r
  lt : g < w.heap.size
section
variable {T : TypeId} {w wk w' : World} {g B : Nat} {r r' : Rd}
theorem RE.first (h : ReaderAt T w g B r) : RE T w g B r (w.alloc (.cells Ef.zero.cells 29)) :=
  ⟨Keep.of_below (alloc_below w _), Blk.new w _ _, h.belowR (alloc_below w _), h.lt⟩
theorem RE.next (h : RE T w g B r wk) (hr : ReaderAt T w' g B r') (hk : Keep (But g) wk w') : RE T w g B r' w' :=
  ⟨h.keep.trans hk, h.res.keep hk (by have := h.lt; simp only [But]; omega), hr, h.lt⟩
theorem RE.done (h : RE T w g B r wk) {W : World} (hW : Below w.heap.size wk W) : ReaderAt T W g B r ∧ Keep (But g) w W := by
  refine ⟨h.rd.keep (K := fun i _ => i < w.heap.size) ⟨hW.os, hW.tape, hW.output, hW.size, fun i o ho hi => (hW.block i hi).trans ho⟩ (fun i o hi => ?_), ?_⟩
  · obtain ⟨_, _, _, _, _, _, _, hB⟩ := h.rd
    have := h.lt
    show i < w.heap.size
    omega
  · refine ⟨hW.os.trans h.keep.os, hW.tape.trans h.keep.tape, hW.output.trans h.keep.output, Nat.le_trans h.keep.size hW.size, fun i o ho hi => ?_⟩
    exact (hW.block i (lt_of_some ho)).trans (h.keep.block i o ho hi)
theorem RE.fin (h : RE T w g B r wk) (v0 v1 v2 v3 v4 v5 v6 v7 v8 v9 v10 v11 v12 : Value) : ReaderAt T (put13 wk w.heap.size v0 v1 v2 v3 v4 v5 v6 v7 v8 v9 v10 v11 v12) g B r ∧ Keep (But g) w (put13 wk w.heap.size v0 v1 v2 v3 v4 v5 v6 v7 v8 v9 v10 v11 v12) :=
  h.done (below_13 (Below.refl _ _) (Nat.le_refl _) v0 v1 v2 v3 v4 v5 v6 v7 v8 v9 v10 v11 v12)
end
theorem ef_of {r r1 r2 r3 r4 r5 r6 r7 : Rd} {k n l : Int} {t : Bool} {o ky v : List UInt8} (h1 : r.int = (k, r1)) (h2 : r1.text = (o, r2)) (h3 : r2.text = (ky, r3)) (h4 : r3.text = (v, r4)) (h5 : r4.int = (n, r5)) (h6 : r5.int = (l, r6)) (h7 : r6.flag = (t, r7)) :
    r.efR = r7.msgR ∧ r.efV = ⟨k, ⟨o.toArray⟩, ⟨ky.toArray⟩, ⟨v.toArray⟩, n, l, t, r7.msg⟩ := by
  simp only [Rd.efR, Rd.efV, h1, h2, h3, h4, h5, h6, h7, and_self]
set_option maxHeartbeats 1000000 in
theorem nextE {w : World} {g B : Nat} {r : Rd} (h : ReaderAt 79 w g B r) : Calls Try.prog 33 #[.pointer (some ⟨g, 0, none⟩)] w
    fun e w' => e = .returned r.efV.val_ ∧ ReaderAt 79 w' g B r.efR ∧ Keep (But g) w w' := by
  obtain ⟨k, r1, e1⟩ := pair_ex r.int
  obtain ⟨o, r2, e2⟩ := pair_ex r1.text
  obtain ⟨ky, r3, e3⟩ := pair_ex r2.text
  obtain ⟨v, r4, e4⟩ := pair_ex r3.text
  obtain ⟨n, r5, e5⟩ := pair_ex r4.int
  obtain ⟨l, r6, e6⟩ := pair_ex r5.int
  obtain ⟨t, r7, e7⟩ := pair_ex r6.flag
  obtain ⟨hR, hV⟩ := ef_of e1 e2 e3 e4 e5 e6 e7
  rw [hR, hV]
  have hrm := fun (w : World) (g B : Nat) (h : ReaderAt 79 w g B r7) => readM_ h
  clear hR hV
  generalize r7.msgR = r8 at *
  generalize r7.msg = m at *
  obtain ⟨i, p, y, cl, cr, bd⟩ := m
  have HRM := Lib.hid hrm
  clear hrm
  have H0 := Lib.hid (RE.first h)
  have E1 := Lib.hid e1
  have E2 := Lib.hid e2
  have E3 := Lib.hid e3
  have E4 := Lib.hid e4
  have E5 := Lib.hid e5
  have E6 := Lib.hid e6
  have E7 := Lib.hid e7
  clear e1 e2 e3 e4 e5 e6 e7 h
  go_enter Try.func33, Try.ntmps33
  go_wp2_with fail
  refine (rdInt _ _ _ _ H0.out.rd).mono ?_
  rintro e w1 ⟨rfl, hr1, hk1⟩
  rw [E1.out] at hr1 ⊢
  have H1 := Lib.hid (H0.out.next hr1 hk1)
  clear hr1 hk1 H0 E1
  go_wp2_with fail
  refine (rdText _ _ _ _ H1.out.rd).mono ?_
  rintro e w2 ⟨rfl, hr2, hk2⟩
  rw [E2.out] at hr2 ⊢
  have H2 := Lib.hid (H1.out.next hr2 hk2)
  clear hr2 hk2 H1 E2
  go_wp2_with fail
  refine (rdText _ _ _ _ H2.out.rd).mono ?_
  rintro e w3 ⟨rfl, hr3, hk3⟩
  rw [E3.out] at hr3 ⊢
  have H3 := Lib.hid (H2.out.next hr3 hk3)
  clear hr3 hk3 H2 E3
  go_wp2_with fail
  refine (rdText _ _ _ _ H3.out.rd).mono ?_
  rintro e w4 ⟨rfl, hr4, hk4⟩
  rw [E4.out] at hr4 ⊢
  have H4 := Lib.hid (H3.out.next hr4 hk4)
  clear hr4 hk4 H3 E4
  go_wp2_with fail
  refine (rdInt _ _ _ _ H4.out.rd).mono ?_
  rintro e w5 ⟨rfl, hr5, hk5⟩
  rw [E5.out] at hr5 ⊢
  have H5 := Lib.hid (H4.out.next hr5 hk5)
  clear hr5 hk5 H4 E5
  go_wp2_with fail
  refine (rdInt _ _ _ _ H5.out.rd).mono ?_
  rintro e w6 ⟨rfl, hr6, hk6⟩
  rw [E6.out] at hr6 ⊢
  have H6 := Lib.hid (H5.out.next hr6 hk6)
  clear hr6 hk6 H5 E6
  go_wp2_with fail
  refine (rdFlag _ _ _ _ H6.out.rd).mono ?_
  rintro e w7 ⟨rfl, hr7, hk7⟩
  rw [E7.out] at hr7 ⊢
  have H7 := Lib.hid (H6.out.next hr7 hk7)
  clear hr7 hk7 H6 E7
  go_wp2_with fail
  refine (HRM.out _ _ _ H7.out.rd).mono ?_
  rintro e w8 ⟨rfl, hr8, hk8⟩
  have H8 := Lib.hid (H7.out.next hr8 hk8)
  clear hr8 hk8 H7
  have hres := H8.out.res
  have f0 := hres.frozen 0
  have f1 := hres.frozen 1
  have f2 := hres.frozen 2
  have f3 := hres.frozen 3
  have f4 := hres.frozen 4
  have f5 := hres.frozen 5
  have f6 := hres.frozen 6
  have f7 := hres.frozen 7
  have f8 := hres.frozen 8
  have f9 := hres.frozen 9
  have f10 := hres.frozen 10
  have f11 := hres.frozen 11
  have f12 := hres.frozen 12
  obtain ⟨q0, q1, q2, q3, q4, q5, q6, q7, q8, q9, q10, q11, q12⟩ := thir_of hres
  simp only [Ef.zero, Mg.zero] at q0 q1 q2 q3 q4 q5 q6 q7 q8 q9 q10 q11 q12
  have hs := blk_store13 hres (.int .i64 k) (.string ⟨o.toArray⟩) (.string ⟨ky.toArray⟩) (.string ⟨v.toArray⟩) (.int .i64 n) (.int .i64 l) (.bool t) (.int .i64 i) (.int .i64 p) (.int .i64 y) (.bool cl) (.string cr) (.string bd)
  have t0 := hs.cell 0
  have t1 := hs.cell 1
  have t2 := hs.cell 2
  have t3 := hs.cell 3
  have t4 := hs.cell 4
  have t5 := hs.cell 5
  have t6 := hs.cell 6
  have t7 := hs.cell 7
  have t8 := hs.cell 8
  have t9 := hs.cell 9
  have t10 := hs.cell 10
  have t11 := hs.cell 11
  have t12 := hs.cell 12
  have hd := H8.out.fin (.int .i64 k) (.string ⟨o.toArray⟩) (.string ⟨ky.toArray⟩) (.string ⟨v.toArray⟩) (.int .i64 n) (.int .i64 l) (.bool t) (.int .i64 i) (.int .i64 p) (.int .i64 y) (.bool cl) (.string cr) (.string bd)
  have HD := Lib.hid hd
  clear hs hd hres H8
  go_wp2_with fail
  refine bodyPost_ret (v := .agg #[.int .i64 k, .string ⟨o.toArray⟩, .string ⟨ky.toArray⟩, .string ⟨v.toArray⟩, .int .i64 n, .int .i64 l, .bool t, .int .i64 i, .int .i64 p, .int .i64 y, .bool cl, .string cr, .string bd]) (by simp [results, Try.results33, go_sem, t0, t1, t2, t3, t4, t5, t6, t7, t8, t9, t10, t11, t12]) rfl ?_
  exact ⟨rfl, HD.out.1, HD.out.2⟩
end Go.Proofs.Ytlapicjbnheioaa
