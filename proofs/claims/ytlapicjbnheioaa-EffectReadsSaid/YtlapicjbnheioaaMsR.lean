/- Messages read: Read, the program's and the document's. -/
import Derived.Test.YtlapicjbnheioaaSix
import Derived.Test.YtlapicjbnheioaaMsM
import Derived.Test.YtlapicjbnheioaaBRefNew
set_option maxRecDepth 4000
namespace Go.Proofs.Ytlapicjbnheioaa
open Go.RowKit
theorem pair_ex {α β : Type} (p : α × β) : ∃ a b, p = (a, b) := ⟨p.1, p.2, rfl⟩
theorem msg_of {r r1 r2 r3 r4 r5 r6 : Rd} {i p n : Int} {cl : Bool} {c b : List UInt8} (h1 : r.int = (i, r1)) (h2 : r1.int = (p, r2)) (h3 : r2.int = (n, r3)) (h4 : r3.flag = (cl, r4)) (h5 : r4.text = (c, r5)) (h6 : r5.text = (b, r6)) :
    r.msgR = r6 ∧ r.msgV = ⟨i, p, n, cl, ⟨c.toArray⟩, ⟨b.toArray⟩⟩ := by
  simp only [Rd.msgR, Rd.msgV, h1, h2, h3, h4, h5, h6, and_self]
/-- a reader, beside a new block for the answer -/
structure RM (T : TypeId) (w : World) (g B : Nat) (r : Rd) (wk : World) : Prop where
  keep : Keep (But g) w wk
  res : Blk wk w.heap.size 27 Mg.zero.cells
  rd : ReaderAt T wk g B r
  lt : g < w.heap.size
section
variable {T : TypeId} {w wk w' : World} {g B : Nat} {r r' : Rd}
theorem ReaderAt.lt (h : ReaderAt T w g B r) : g < w.heap.size := by obtain ⟨_, _, _, hb, _⟩ := h; exact hb.lt
theorem ReaderAt.belowR (h : ReaderAt T w g B r) (k : Below w.heap.size w w') : ReaderAt T w' g B r := h.keep (K := fun _ _ => True) (Keep.of_below k) fun _ _ _ => trivial
theorem RM.first (h : ReaderAt T w g B r) : RM T w g B r (w.alloc (.cells Mg.zero.cells 27)) :=
  ⟨Keep.of_below (alloc_below w _), Blk.new w _ _, h.belowR (alloc_below w _), h.lt⟩
theorem RM.next (h : RM T w g B r wk) (hr : ReaderAt T w' g B r') (hk : Keep (But g) wk w') : RM T w g B r' w' :=
  ⟨h.keep.trans hk, h.res.keep hk (by have := h.lt; simp only [But]; omega), hr, h.lt⟩
/-- what a reader knows behind all: the answer stored, a block made besides -/
theorem RM.done (h : RM T w g B r wk) {W : World} (hW : Below w.heap.size wk W) : ReaderAt T W g B r ∧ Keep (But g) w W := by
  refine ⟨h.rd.keep (K := fun i _ => i < w.heap.size) ⟨hW.os, hW.tape, hW.output, hW.size, fun i o ho hi => (hW.block i hi).trans ho⟩ (fun i o hi => ?_), ?_⟩
  · obtain ⟨_, _, _, _, _, _, _, hB⟩ := h.rd
    have := h.lt
    show i < w.heap.size
    omega
  · refine ⟨hW.os.trans h.keep.os, hW.tape.trans h.keep.tape, hW.output.trans h.keep.output, Nat.le_trans h.keep.size hW.size, fun i o ho hi => ?_⟩
    exact (hW.block i (lt_of_some ho)).trans (h.keep.block i o ho hi)
end
section
variable {T : TypeId} {w wk w' : World} {g B : Nat} {r r' : Rd}
/-- the answer stored, behind a block that was made -/
theorem RM.fin (h : RM T w g B r wk) (o : Obj) (a b c d e f : Value) : ReaderAt T ((((((((wk.alloc o).setCell ⟨w.heap.size, 0, none⟩ a).setCell ⟨w.heap.size, 1, none⟩ b).setCell ⟨w.heap.size, 2, none⟩ c).setCell ⟨w.heap.size, 3, none⟩ d).setCell ⟨w.heap.size, 4, none⟩ e).setCell ⟨w.heap.size, 5, none⟩ f)) g B r ∧
    Keep (But g) w ((((((((wk.alloc o).setCell ⟨w.heap.size, 0, none⟩ a).setCell ⟨w.heap.size, 1, none⟩ b).setCell ⟨w.heap.size, 2, none⟩ c).setCell ⟨w.heap.size, 3, none⟩ d).setCell ⟨w.heap.size, 4, none⟩ e).setCell ⟨w.heap.size, 5, none⟩ f)) :=
  h.done (below_six ((alloc_below wk o).mono h.keep.size) (Nat.le_refl _) a b c d e f)
end
set_option maxHeartbeats 1000000 in
theorem readM_ {w : World} {g B : Nat} {r : Rd} (h : ReaderAt 79 w g B r) : Calls Try.prog 54 #[.pointer (some ⟨g, 0, none⟩)] w
    fun e w' => e = .returned r.msg.val ∧ ReaderAt 79 w' g B r.msgR ∧ Keep (But g) w w' := by
  obtain ⟨i, r1, e1⟩ := pair_ex r.int
  obtain ⟨p, r2, e2⟩ := pair_ex r1.int
  obtain ⟨n, r3, e3⟩ := pair_ex r2.int
  obtain ⟨cl, r4, e4⟩ := pair_ex r3.flag
  obtain ⟨c, r5, e5⟩ := pair_ex r4.text
  obtain ⟨b, r6, e6⟩ := pair_ex r5.text
  obtain ⟨hR, hV⟩ := msg_of e1 e2 e3 e4 e5 e6
  have hz : r.msg = if r6.bad = true then Mg.zero else ⟨i, p, n, cl, ⟨c.toArray⟩, ⟨b.toArray⟩⟩ := by unfold Rd.msg; rw [hR, hV]
  rw [hR, hz]
  have H0 := Lib.hid (RM.first h)
  have E1 := Lib.hid e1
  have E2 := Lib.hid e2
  have E3 := Lib.hid e3
  have E4 := Lib.hid e4
  have E5 := Lib.hid e5
  have E6 := Lib.hid e6
  clear e1 e2 e3 e4 e5 e6 hR hV hz h
  go_enter Try.func54, Try.ntmps54
  go_wp2_with fail
  refine (rdInt _ _ _ _ H0.out.rd).mono ?_
  rintro e w1 ⟨rfl, hr1, hk1⟩
  rw [E1.out] at hr1 ⊢
  have H1 := Lib.hid (H0.out.next hr1 hk1)
  clear hr1 hk1 H0 E1
  go_wp2_with fail
  refine (rdInt _ _ _ _ H1.out.rd).mono ?_
  rintro e w2 ⟨rfl, hr2, hk2⟩
  rw [E2.out] at hr2 ⊢
  have H2 := Lib.hid (H1.out.next hr2 hk2)
  clear hr2 hk2 H1 E2
  go_wp2_with fail
  refine (rdInt _ _ _ _ H2.out.rd).mono ?_
  rintro e w3 ⟨rfl, hr3, hk3⟩
  rw [E3.out] at hr3 ⊢
  have H3 := Lib.hid (H2.out.next hr3 hk3)
  clear hr3 hk3 H2 E3
  go_wp2_with fail
  refine (rdFlag _ _ _ _ H3.out.rd).mono ?_
  rintro e w4 ⟨rfl, hr4, hk4⟩
  rw [E4.out] at hr4 ⊢
  have H4 := Lib.hid (H3.out.next hr4 hk4)
  clear hr4 hk4 H3 E4
  go_wp2_with fail
  refine (rdText _ _ _ _ H4.out.rd).mono ?_
  rintro e w5 ⟨rfl, hr5, hk5⟩
  rw [E5.out] at hr5 ⊢
  have H5 := Lib.hid (H4.out.next hr5 hk5)
  clear hr5 hk5 H4 E5
  go_wp2_with fail
  refine (rdText _ _ _ _ H5.out.rd).mono ?_
  rintro e w6 ⟨rfl, hr6, hk6⟩
  rw [E6.out] at hr6 ⊢
  have H6 := Lib.hid (H5.out.next hr6 hk6)
  clear hr6 hk6 H5 E6
  go_wp2_with fail
  refine (rdFailed _ _ _ _ (H6.out.rd.belowR (alloc_below w6 (.cells #[.int .i64 i, .int .i64 p, .int .i64 n, .bool cl, .string ⟨c.toArray⟩, .string ⟨b.toArray⟩] 27)))).mono ?_
  rintro e w7 ⟨rfl, rfl⟩
  have hres := H6.out.res.alloc (.cells #[.int .i64 i, .int .i64 p, .int .i64 n, .bool cl, .string ⟨c.toArray⟩, .string ⟨b.toArray⟩] 27)
  have f0 := hres.frozen 0
  have f1 := hres.frozen 1
  have f2 := hres.frozen 2
  have f3 := hres.frozen 3
  have f4 := hres.frozen 4
  have f5 := hres.frozen 5
  have q0 := hres.cell 0
  have q1 := hres.cell 1
  have q2 := hres.cell 2
  have q3 := hres.cell 3
  have q4 := hres.cell 4
  have q5 := hres.cell 5
  have HRES := Lib.hid hres
  have hne : w.heap.size ≠ w6.heap.size := by have := H6.out.res.lt; omega
  clear hres
  obtain ⟨l6, bad⟩ := r6
  simp only
  cases bad
  · have hs := blk_store6 (a' := .int .i64 i) (b' := .int .i64 p) (c' := .int .i64 n) (d' := .bool cl) (e' := .string ⟨c.toArray⟩) (f' := .string ⟨b.toArray⟩) HRES.out
    have t0 := hs.cell 0
    have t1 := hs.cell 1
    have t2 := hs.cell 2
    have t3 := hs.cell 3
    have t4 := hs.cell 4
    have t5 := hs.cell 5
    have hd := H6.out.fin (.cells #[.int .i64 i, .int .i64 p, .int .i64 n, .bool cl, .string ⟨c.toArray⟩, .string ⟨b.toArray⟩] 27) (.int .i64 i) (.int .i64 p) (.int .i64 n) (.bool cl) (.string ⟨c.toArray⟩) (.string ⟨b.toArray⟩)
    have HD := Lib.hid hd
    clear hs hd H6 HRES
    go_wp2_with fail
    refine bodyPost_ret (v := .agg #[.int .i64 i, .int .i64 p, .int .i64 n, .bool cl, .string ⟨c.toArray⟩, .string ⟨b.toArray⟩]) (by simp [results, Try.results54, go_sem, t0, t1, t2, t3, t4, t5]) rfl ?_
    exact ⟨rfl, HD.out.1, HD.out.2⟩
  · have hs := blk_store6 (a' := .int .i64 0) (b' := .int .i64 0) (c' := .int .i64 0) (d' := .bool false) (e' := .string ⟨#[]⟩) (f' := .string ⟨#[]⟩) HRES.out
    have t0 := hs.cell 0
    have t1 := hs.cell 1
    have t2 := hs.cell 2
    have t3 := hs.cell 3
    have t4 := hs.cell 4
    have t5 := hs.cell 5
    have hd := H6.out.fin (.cells #[.int .i64 i, .int .i64 p, .int .i64 n, .bool cl, .string ⟨c.toArray⟩, .string ⟨b.toArray⟩] 27) (.int .i64 0) (.int .i64 0) (.int .i64 0) (.bool false) (.string ⟨#[]⟩) (.string ⟨#[]⟩)
    have HD := Lib.hid hd
    clear hs hd H6 HRES
    go_wp2_with fail
    refine bodyPost_ret (v := .agg #[.int .i64 0, .int .i64 0, .int .i64 0, .bool false, .string ⟨#[]⟩, .string ⟨#[]⟩]) (by simp [results, Try.results54, go_sem, t0, t1, t2, t3, t4, t5]) rfl ?_
    exact ⟨rfl, HD.out.1, HD.out.2⟩
set_option maxHeartbeats 1000000 in
theorem getM_ {w : World} {g B : Nat} {r : Rd} (h : ReaderAt 84 w g B r) : Calls Try.prog 40 #[.pointer (some ⟨g, 0, none⟩)] w
    fun e w' => e = .returned r.msg.val ∧ ReaderAt 84 w' g B r.msgR ∧ Keep (But g) w w' := by
  obtain ⟨i, r1, e1⟩ := pair_ex r.int
  obtain ⟨p, r2, e2⟩ := pair_ex r1.int
  obtain ⟨n, r3, e3⟩ := pair_ex r2.int
  obtain ⟨cl, r4, e4⟩ := pair_ex r3.flag
  obtain ⟨c, r5, e5⟩ := pair_ex r4.text
  obtain ⟨b, r6, e6⟩ := pair_ex r5.text
  obtain ⟨hR, hV⟩ := msg_of e1 e2 e3 e4 e5 e6
  have hz : r.msg = if r6.bad = true then Mg.zero else ⟨i, p, n, cl, ⟨c.toArray⟩, ⟨b.toArray⟩⟩ := by unfold Rd.msg; rw [hR, hV]
  rw [hR, hz]
  have H0 := Lib.hid (RM.first h)
  have E1 := Lib.hid e1
  have E2 := Lib.hid e2
  have E3 := Lib.hid e3
  have E4 := Lib.hid e4
  have E5 := Lib.hid e5
  have E6 := Lib.hid e6
  clear e1 e2 e3 e4 e5 e6 hR hV hz h
  go_enter Try.func40, Try.ntmps40
  go_wp2_with fail
  refine (rInt _ _ _ _ H0.out.rd).mono ?_
  rintro e w1 ⟨rfl, hr1, hk1⟩
  rw [E1.out] at hr1 ⊢
  have H1 := Lib.hid (H0.out.next hr1 hk1)
  clear hr1 hk1 H0 E1
  go_wp2_with fail
  refine (rInt _ _ _ _ H1.out.rd).mono ?_
  rintro e w2 ⟨rfl, hr2, hk2⟩
  rw [E2.out] at hr2 ⊢
  have H2 := Lib.hid (H1.out.next hr2 hk2)
  clear hr2 hk2 H1 E2
  go_wp2_with fail
  refine (rInt _ _ _ _ H2.out.rd).mono ?_
  rintro e w3 ⟨rfl, hr3, hk3⟩
  rw [E3.out] at hr3 ⊢
  have H3 := Lib.hid (H2.out.next hr3 hk3)
  clear hr3 hk3 H2 E3
  go_wp2_with fail
  refine (rFlag _ _ _ _ H3.out.rd).mono ?_
  rintro e w4 ⟨rfl, hr4, hk4⟩
  rw [E4.out] at hr4 ⊢
  have H4 := Lib.hid (H3.out.next hr4 hk4)
  clear hr4 hk4 H3 E4
  go_wp2_with fail
  refine (rText _ _ _ _ H4.out.rd).mono ?_
  rintro e w5 ⟨rfl, hr5, hk5⟩
  rw [E5.out] at hr5 ⊢
  have H5 := Lib.hid (H4.out.next hr5 hk5)
  clear hr5 hk5 H4 E5
  go_wp2_with fail
  refine (rText _ _ _ _ H5.out.rd).mono ?_
  rintro e w6 ⟨rfl, hr6, hk6⟩
  rw [E6.out] at hr6 ⊢
  have H6 := Lib.hid (H5.out.next hr6 hk6)
  clear hr6 hk6 H5 E6
  go_wp2_with fail
  refine (rBad _ _ _ _ (H6.out.rd.belowR (alloc_below w6 (.cells #[.int .i64 i, .int .i64 p, .int .i64 n, .bool cl, .string ⟨c.toArray⟩, .string ⟨b.toArray⟩] 27)))).mono ?_
  rintro e w7 ⟨rfl, rfl⟩
  have hres := H6.out.res.alloc (.cells #[.int .i64 i, .int .i64 p, .int .i64 n, .bool cl, .string ⟨c.toArray⟩, .string ⟨b.toArray⟩] 27)
  have f0 := hres.frozen 0
  have f1 := hres.frozen 1
  have f2 := hres.frozen 2
  have f3 := hres.frozen 3
  have f4 := hres.frozen 4
  have f5 := hres.frozen 5
  have q0 := hres.cell 0
  have q1 := hres.cell 1
  have q2 := hres.cell 2
  have q3 := hres.cell 3
  have q4 := hres.cell 4
  have q5 := hres.cell 5
  have HRES := Lib.hid hres
  have hne : w.heap.size ≠ w6.heap.size := by have := H6.out.res.lt; omega
  clear hres
  obtain ⟨l6, bad⟩ := r6
  simp only
  cases bad
  · have hs := blk_store6 (a' := .int .i64 i) (b' := .int .i64 p) (c' := .int .i64 n) (d' := .bool cl) (e' := .string ⟨c.toArray⟩) (f' := .string ⟨b.toArray⟩) HRES.out
    have t0 := hs.cell 0
    have t1 := hs.cell 1
    have t2 := hs.cell 2
    have t3 := hs.cell 3
    have t4 := hs.cell 4
    have t5 := hs.cell 5
    have hd := H6.out.fin (.cells #[.int .i64 i, .int .i64 p, .int .i64 n, .bool cl, .string ⟨c.toArray⟩, .string ⟨b.toArray⟩] 27) (.int .i64 i) (.int .i64 p) (.int .i64 n) (.bool cl) (.string ⟨c.toArray⟩) (.string ⟨b.toArray⟩)
    have HD := Lib.hid hd
    clear hs hd H6 HRES
    go_wp2_with fail
    refine bodyPost_ret (v := .agg #[.int .i64 i, .int .i64 p, .int .i64 n, .bool cl, .string ⟨c.toArray⟩, .string ⟨b.toArray⟩]) (by simp [results, Try.results40, go_sem, t0, t1, t2, t3, t4, t5]) rfl ?_
    exact ⟨rfl, HD.out.1, HD.out.2⟩
  · have hs := blk_store6 (a' := .int .i64 0) (b' := .int .i64 0) (c' := .int .i64 0) (d' := .bool false) (e' := .string ⟨#[]⟩) (f' := .string ⟨#[]⟩) HRES.out
    have t0 := hs.cell 0
    have t1 := hs.cell 1
    have t2 := hs.cell 2
    have t3 := hs.cell 3
    have t4 := hs.cell 4
    have t5 := hs.cell 5
    have hd := H6.out.fin (.cells #[.int .i64 i, .int .i64 p, .int .i64 n, .bool cl, .string ⟨c.toArray⟩, .string ⟨b.toArray⟩] 27) (.int .i64 0) (.int .i64 0) (.int .i64 0) (.bool false) (.string ⟨#[]⟩) (.string ⟨#[]⟩)
    have HD := Lib.hid hd
    clear hs hd H6 HRES
    go_wp2_with fail
    refine bodyPost_ret (v := .agg #[.int .i64 0, .int .i64 0, .int .i64 0, .bool false, .string ⟨#[]⟩, .string ⟨#[]⟩]) (by simp [results, Try.results40, go_sem, t0, t1, t2, t3, t4, t5]) rfl ?_
    exact ⟨rfl, HD.out.1, HD.out.2⟩
end Go.Proofs.Ytlapicjbnheioaa
