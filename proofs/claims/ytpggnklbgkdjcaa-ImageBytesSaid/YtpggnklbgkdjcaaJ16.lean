/- What a reader's Flag and Done answer. Whether a reader has failed: package bytes' Failed. Messages read: Read of package message. A reader that tells of a count below 0 apart, in memory; a row that grows beside it. Package image: a row, a message read. Package image: list of rows. -/
import Derived.Test.YtpggnklbgkdjcaaJ15
import Derived.Test.YtpggnklbgkdjcaaJ14
import Derived.Test.YtpggnklbgkdjcaaJ07
import Derived.Test.YtpggnklbgkdjcaaJ04
import Derived.Deep.RegionHeld3
import Derived.Deep.RegionWith
import Derived.Deep.LoopGhost
set_option maxRecDepth 4000
namespace Go.Proofs.Ytpggnklbgkdjcaa
open Go.RowKit
theorem reader_cell {T : TypeId} {w : World} {g B : Nat} {r : Rd} (h : ReaderAt T w g B r) : w.cell? ⟨g, 1, none⟩ = some (.bool r.bad) ∧ w.frozen? ⟨g, 1, none⟩ = false := by
  obtain ⟨A, m, c, hb, _⟩ := h
  exact ⟨by rw [hb.cell]; rfl, hb.frozen 1⟩
theorem beq1 (n : Nat) : ((n : Int) == 1) = decide (n = 1) := by rw [Bool.eq_iff_iff]; simp; omega
theorem beq0 (n : Nat) : ((n : Int) == 0) = decide (n = 0) := by rw [Bool.eq_iff_iff]; simp
theorem retB {a b : Bool} (h : a = b) : Ending.returned (.bool a) = .returned (.bool b) := by rw [h]
set_option maxHeartbeats 400000 in
theorem rdFlag (w : World) (g B : Nat) (r : Rd) (h : ReaderAt 90 w g B r) : Calls Try.prog 78 #[.pointer (some ⟨g, 0, none⟩)] w (FlagP 90 w g B r) := by
  go_enter Try.func78, Try.ntmps78
  go_wp2_with fail
  refine (take_ w g B r _ h (by omega) (by omega)).mono ?_
  rintro e w1 ⟨A, m, c, rfl, hr, hR, hK⟩
  have h2 := taken_le r (Int.toNat 1)
  generalize hT : r.take (Int.toNat 1) = p at *
  obtain ⟨xs, r1⟩ := p
  have hle : m ≤ 1 := by
    have h1 := hr.1
    simp at h1 h2
    omega
  have HT := Lib.hid (flag_of hT)
  have HR := Lib.hid hr
  have HR2 := Lib.hid hR
  have HK := Lib.hid hK
  obtain ⟨c1, f1⟩ := reader_cell hR
  clear hr hR hK h hT h2
  go_wp2_with fail
  refine (join_ _ _ _ _ _ _ HR.out (by omega)).mono ?_
  rintro e w2 ⟨rfl, rfl⟩
  by_cases h1 : 1 < joinN xs
  · go_wp2
    go_ret
    obtain ⟨k1, k2⟩ := reader_set1 (l := r1.rest) (b := r1.bad) HR2.out
    exact ⟨retB (by rw [HT.out]; exact beq1 _), by rw [HT.out, if_pos h1]; exact k1, HK.out.trans k2⟩
  · go_wp2
    go_ret
    exact ⟨retB (by rw [HT.out]; exact beq1 _), by rw [HT.out, if_neg h1]; exact HR2.out, HK.out⟩
theorem rdDone (w : World) (g B : Nat) (r : Rd) (h : ReaderAt 90 w g B r) : Calls Try.prog 34 #[.pointer (some ⟨g, 0, none⟩)] w fun e w' => e = .returned (.bool r.done) ∧ w = w' := by
  obtain ⟨rest, bad⟩ := r
  obtain ⟨A, m, c, hb, h1, h2, hr, hB⟩ := h
  have c0 := hb.cell 0
  have c1 := hb.cell 1
  simp at c0 c1
  have hm := hr.1
  simp only at hm
  have e : (⟨rest, bad⟩ : Rd).done = (!bad && decide (m = 0)) := by simp [Rd.done, hm]
  have E := Lib.hid e
  unfold maxLen at h2
  clear hb hr hm e
  cases bad
  · go_enter Try.func34, Try.ntmps34
    go_wp2
    go_ret
    exact ⟨retB (by rw [E.out]; simp [beq0]), rfl⟩
  · go_enter Try.func34, Try.ntmps34
    go_wp2
    go_ret
    exact ⟨retB (by rw [E.out]; simp), rfl⟩
end Go.Proofs.Ytpggnklbgkdjcaa

namespace Go.Proofs.Ytpggnklbgkdjcaa
open Go.RowKit
theorem rdFailed (w : World) (g B : Nat) (r : Rd) (h : ReaderAt 90 w g B r) : Calls Try.prog 50 #[.pointer (some ⟨g, 0, none⟩)] w fun e w' => e = .returned (.bool r.bad) ∧ w = w' := by
  obtain ⟨c1, f1⟩ := reader_cell h
  clear h
  go_enter Try.func50, Try.ntmps50
  go_wp2
  go_ret
  exact ⟨rfl, rfl⟩
end Go.Proofs.Ytpggnklbgkdjcaa
namespace Go.Proofs.Ytpggnklbgkdjcaa
open Go.RowKit
theorem pair_ex {α β : Type} (p : α × β) : ∃ a b, p = (a, b) := ⟨p.1, p.2, rfl⟩
theorem msg_of {r r1 r2 r3 r4 r5 r6 : Rd} {i p n : Int} {cl : Bool} {c b : List UInt8} (h1 : r.int = (i, r1)) (h2 : r1.int = (p, r2)) (h3 : r2.int = (n, r3)) (h4 : r3.flag = (cl, r4)) (h5 : r4.text = (c, r5)) (h6 : r5.text = (b, r6)) :
    r.msgR = r6 ∧ r.msgV = ⟨i, p, n, cl, ⟨c.toArray⟩, ⟨b.toArray⟩⟩ := by
  simp only [Rd.msgR, Rd.msgV, h1, h2, h3, h4, h5, h6, and_self]
/-- a reader, beside a new block for the answer -/
structure RM (T : TypeId) (w : World) (g B : Nat) (r : Rd) (wk : World) : Prop where
  keep : Keep (But g) w wk
  res : Blk wk w.heap.size 55 Mg.zero.cells
  rd : ReaderAt T wk g B r
  lt : g < w.heap.size
section
variable {T : TypeId} {w wk w' : World} {g B : Nat} {r r' : Rd}
theorem ReaderAt.lt (h : ReaderAt T w g B r) : g < w.heap.size := by obtain ⟨_, _, _, hb, _⟩ := h; exact hb.lt
theorem ReaderAt.belowR (h : ReaderAt T w g B r) (k : Below w.heap.size w w') : ReaderAt T w' g B r := h.keep (K := fun _ _ => True) (Keep.of_below k) fun _ _ _ => trivial
theorem RM.first (h : ReaderAt T w g B r) : RM T w g B r (w.alloc (.cells Mg.zero.cells 55)) :=
  ⟨Keep.of_below (alloc_below w _), Blk.new w _ _, h.belowR (alloc_below w _), h.lt⟩
theorem RM.next (h : RM T w g B r wk) (hr : ReaderAt T w' g B r') (hk : Keep (But g) wk w') : RM T w g B r' w' :=
  ⟨h.keep.trans hk, h.res.keep hk (by have := h.lt; simp only [But]; omega), hr, h.lt⟩
/-- what a reader knows behind all: the answer stored, a block made besides -/
theorem RM.done (h : RM T w g B r wk) {W : World} (hW : Below w.heap.size wk W) : ReaderAt T W g B r ∧ Keep (But g) w W := by
  refine ⟨h.rd.keep (K := fun i _ => i < w.heap.size) ⟨hW.os, hW.tape, hW.output, hW.size, fun i o ho hi => (hW.block i hi).trans ho⟩ (fun i o hi => ?_), ?_⟩
  · obtain ⟨_, _, _, _, _, _, _, hB⟩ := h.rd
    have := h.lt
    show i < w.heap.size
    omega
  · refine ⟨hW.os.trans h.keep.os, hW.tape.trans h.keep.tape, hW.output.trans h.keep.output, Nat.le_trans h.keep.size hW.size, fun i o ho hi => ?_⟩
    exact (hW.block i (lt_of_some ho)).trans (h.keep.block i o ho hi)
end
section
variable {T : TypeId} {w wk w' : World} {g B : Nat} {r r' : Rd}
/-- the answer stored, behind a block that was made -/
theorem RM.fin (h : RM T w g B r wk) (o : Obj) (a b c d e f : Value) : ReaderAt T ((((((((wk.alloc o).setCell ⟨w.heap.size, 0, none⟩ a).setCell ⟨w.heap.size, 1, none⟩ b).setCell ⟨w.heap.size, 2, none⟩ c).setCell ⟨w.heap.size, 3, none⟩ d).setCell ⟨w.heap.size, 4, none⟩ e).setCell ⟨w.heap.size, 5, none⟩ f)) g B r ∧
    Keep (But g) w ((((((((wk.alloc o).setCell ⟨w.heap.size, 0, none⟩ a).setCell ⟨w.heap.size, 1, none⟩ b).setCell ⟨w.heap.size, 2, none⟩ c).setCell ⟨w.heap.size, 3, none⟩ d).setCell ⟨w.heap.size, 4, none⟩ e).setCell ⟨w.heap.size, 5, none⟩ f)) :=
  h.done (below_six ((alloc_below wk o).mono h.keep.size) (Nat.le_refl _) a b c d e f)
end
set_option maxHeartbeats 1000000 in
theorem readM_ {w : World} {g B : Nat} {r : Rd} (h : ReaderAt 90 w g B r) : Calls Try.prog 68 #[.pointer (some ⟨g, 0, none⟩)] w
    fun e w' => e = .returned r.msg.val ∧ ReaderAt 90 w' g B r.msgR ∧ Keep (But g) w w' := by
  obtain ⟨i, r1, e1⟩ := pair_ex r.int
  obtain ⟨p, r2, e2⟩ := pair_ex r1.int
  obtain ⟨n, r3, e3⟩ := pair_ex r2.int
  obtain ⟨cl, r4, e4⟩ := pair_ex r3.flag
  obtain ⟨c, r5, e5⟩ := pair_ex r4.text
  obtain ⟨b, r6, e6⟩ := pair_ex r5.text
  obtain ⟨hR, hV⟩ := msg_of e1 e2 e3 e4 e5 e6
  have hz : r.msg = if r6.bad = true then Mg.zero else ⟨i, p, n, cl, ⟨c.toArray⟩, ⟨b.toArray⟩⟩ := by unfold Rd.msg; rw [hR, hV]
  rw [hR, hz]
  have H0 := Lib.hid (RM.first h)
  have E1 := Lib.hid e1
  have E2 := Lib.hid e2
  have E3 := Lib.hid e3
  have E4 := Lib.hid e4
  have E5 := Lib.hid e5
  have E6 := Lib.hid e6
  clear e1 e2 e3 e4 e5 e6 hR hV hz h
  go_enter Try.func68, Try.ntmps68
  go_wp2_with fail
  refine (rdInt _ _ _ _ H0.out.rd).mono ?_
  rintro e w1 ⟨rfl, hr1, hk1⟩
  rw [E1.out] at hr1 ⊢
  have H1 := Lib.hid (H0.out.next hr1 hk1)
  clear hr1 hk1 H0 E1
  go_wp2_with fail
  refine (rdInt _ _ _ _ H1.out.rd).mono ?_
  rintro e w2 ⟨rfl, hr2, hk2⟩
  rw [E2.out] at hr2 ⊢
  have H2 := Lib.hid (H1.out.next hr2 hk2)
  clear hr2 hk2 H1 E2
  go_wp2_with fail
  refine (rdInt _ _ _ _ H2.out.rd).mono ?_
  rintro e w3 ⟨rfl, hr3, hk3⟩
  rw [E3.out] at hr3 ⊢
  have H3 := Lib.hid (H2.out.next hr3 hk3)
  clear hr3 hk3 H2 E3
  go_wp2_with fail
  refine (rdFlag _ _ _ _ H3.out.rd).mono ?_
  rintro e w4 ⟨rfl, hr4, hk4⟩
  rw [E4.out] at hr4 ⊢
  have H4 := Lib.hid (H3.out.next hr4 hk4)
  clear hr4 hk4 H3 E4
  go_wp2_with fail
  refine (rdText _ _ _ _ H4.out.rd).mono ?_
  rintro e w5 ⟨rfl, hr5, hk5⟩
  rw [E5.out] at hr5 ⊢
  have H5 := Lib.hid (H4.out.next hr5 hk5)
  clear hr5 hk5 H4 E5
  go_wp2_with fail
  refine (rdText _ _ _ _ H5.out.rd).mono ?_
  rintro e w6 ⟨rfl, hr6, hk6⟩
  rw [E6.out] at hr6 ⊢
  have H6 := Lib.hid (H5.out.next hr6 hk6)
  clear hr6 hk6 H5 E6
  go_wp2_with fail
  refine (rdFailed _ _ _ _ (H6.out.rd.belowR (alloc_below w6 (.cells #[.int .i64 i, .int .i64 p, .int .i64 n, .bool cl, .string ⟨c.toArray⟩, .string ⟨b.toArray⟩] 55)))).mono ?_
  rintro e w7 ⟨rfl, rfl⟩
  have hres := H6.out.res.alloc (.cells #[.int .i64 i, .int .i64 p, .int .i64 n, .bool cl, .string ⟨c.toArray⟩, .string ⟨b.toArray⟩] 55)
  have f0 := hres.frozen 0
  have f1 := hres.frozen 1
  have f2 := hres.frozen 2
  have f3 := hres.frozen 3
  have f4 := hres.frozen 4
  have f5 := hres.frozen 5
  have q0 := hres.cell 0
  have q1 := hres.cell 1
  have q2 := hres.cell 2
  have q3 := hres.cell 3
  have q4 := hres.cell 4
  have q5 := hres.cell 5
  have HRES := Lib.hid hres
  have hne : w.heap.size ≠ w6.heap.size := by have := H6.out.res.lt; omega
  clear hres
  obtain ⟨l6, bad⟩ := r6
  simp only
  cases bad
  · have hs := blk_store6 (a' := .int .i64 i) (b' := .int .i64 p) (c' := .int .i64 n) (d' := .bool cl) (e' := .string ⟨c.toArray⟩) (f' := .string ⟨b.toArray⟩) HRES.out
    have t0 := hs.cell 0
    have t1 := hs.cell 1
    have t2 := hs.cell 2
    have t3 := hs.cell 3
    have t4 := hs.cell 4
    have t5 := hs.cell 5
    have hd := H6.out.fin (.cells #[.int .i64 i, .int .i64 p, .int .i64 n, .bool cl, .string ⟨c.toArray⟩, .string ⟨b.toArray⟩] 55) (.int .i64 i) (.int .i64 p) (.int .i64 n) (.bool cl) (.string ⟨c.toArray⟩) (.string ⟨b.toArray⟩)
    have HD := Lib.hid hd
    clear hs hd H6 HRES
    go_wp2_with fail
    refine bodyPost_ret (v := .agg #[.int .i64 i, .int .i64 p, .int .i64 n, .bool cl, .string ⟨c.toArray⟩, .string ⟨b.toArray⟩]) (by simp [results, Try.results68, go_sem, t0, t1, t2, t3, t4, t5]) rfl ?_
    exact ⟨rfl, HD.out.1, HD.out.2⟩
  · have hs := blk_store6 (a' := .int .i64 0) (b' := .int .i64 0) (c' := .int .i64 0) (d' := .bool false) (e' := .string ⟨#[]⟩) (f' := .string ⟨#[]⟩) HRES.out
    have t0 := hs.cell 0
    have t1 := hs.cell 1
    have t2 := hs.cell 2
    have t3 := hs.cell 3
    have t4 := hs.cell 4
    have t5 := hs.cell 5
    have hd := H6.out.fin (.cells #[.int .i64 i, .int .i64 p, .int .i64 n, .bool cl, .string ⟨c.toArray⟩, .string ⟨b.toArray⟩] 55) (.int .i64 0) (.int .i64 0) (.int .i64 0) (.bool false) (.string ⟨#[]⟩) (.string ⟨#[]⟩)
    have HD := Lib.hid hd
    clear hs hd H6 HRES
    go_wp2_with fail
    refine bodyPost_ret (v := .agg #[.int .i64 0, .int .i64 0, .int .i64 0, .bool false, .string ⟨#[]⟩, .string ⟨#[]⟩]) (by simp [results, Try.results68, go_sem, t0, t1, t2, t3, t4, t5]) rfl ?_
    exact ⟨rfl, HD.out.1, HD.out.2⟩
end Go.Proofs.Ytpggnklbgkdjcaa
namespace Go.Proofs.Ytpggnklbgkdjcaa
open Go.RowKit
structure ShutL2 (p : Prop) : Prop where out : p
/-- all blocks but these two -/
abbrev But2 (g G : Nat) : Nat → Obj → Prop := fun i _ => i ≠ g ∧ i ≠ G
/-- a reader of images at block G, over a reader of bytes at block g -/
structure RX (w : World) (G g B : Nat) (low : Bool) (r : Rd) : Prop where
  box : Blk w G 68 #[.pointer (some ⟨g, 0, none⟩), .bool low]
  rd : ReaderAt 90 w g B r
  lt : g < G
  few : r.rest.length ≤ 500000
theorem Keep.but2 {w w' : World} {g G : Nat} (h : Keep (But g) w w') : Keep (But2 g G) w w' := h.mono fun _ _ _ hi => hi.1
section
variable {w w' : World} {G g B : Nat} {low : Bool} {r r2 : Rd}
theorem RX.glt (h : RX w G g B low r) : G < w.heap.size := h.box.lt
theorem RX.Ble (h : RX w G g B low r) : B ≤ g := by obtain ⟨_, _, _, _, _, _, _, hB⟩ := h.rd; exact hB
theorem RX.read (h : RX w G g B low r) (hr : ReaderAt 90 w' g B r2) (hk : Keep (But g) w w') (hg : r2.rest.length ≤ r.rest.length) : RX w' G g B low r2 :=
  ⟨h.box.keep hk (by have := h.lt; simp only [But]; omega), hr, h.lt, Nat.le_trans hg h.few⟩
theorem RX.keep (h : RX w G g B low r) {Q : Nat → Obj → Prop} (k : Keep Q w w') (hq : ∀ i o, i ≤ G → Q i o) : RX w' G g B low r :=
  ⟨h.box.keep k (hq _ _ (Nat.le_refl _)), h.rd.keep k (fun i o hi => hq i o (by have := h.lt; have := h.Ble; omega)), h.lt, h.few⟩
theorem RX.below (h : RX w G g B low r) (k : Below w.heap.size w w') : RX w' G g B low r :=
  h.keep (Q := fun _ _ => True) (Keep.of_below k) fun _ _ _ => trivial
theorem RX.cells (h : RX w G g B low r) : w.cell? ⟨G, 0, none⟩ = some (.pointer (some ⟨g, 0, none⟩)) ∧ w.cell? ⟨G, 1, none⟩ = some (.bool low) ∧ w.frozen? ⟨G, 1, none⟩ = false := ⟨h.box.cell 0, h.box.cell 1, h.box.frozen 1⟩
theorem RX.set (h : RX w G g B low r) : RX (w.setCell ⟨G, 1, none⟩ (.bool true)) G g B true r ∧ Keep (But2 g G) w (w.setCell ⟨G, 1, none⟩ (.bool true)) := by
  have hk : Keep (But G) w (w.setCell ⟨G, 1, none⟩ (.bool true)) := (Keep.refl w).setCell (fun o _ hn => hn rfl) _
  refine ⟨⟨?_, h.rd.keep hk (fun i o hi => by have := h.lt; have := h.Ble; simp only [But]; omega), h.lt, h.few⟩, hk.mono fun _ _ _ hi => hi.2⟩
  have := h.box.set_ 1 (.bool true)
  simpa using this
end
/-- words for what an element leans on in memory -/
structure MemOf {β : Type} (M : World → (Nat → Prop) → β → Prop) : Prop where
  keep : ∀ {w w' : World} {K : Nat → Prop} {Q : Nat → Obj → Prop} {b : β}, M w K b → Keep Q w w' → (∀ i o, w.heap[i]? = some o → K i → Q i o) → M w' K b
  more : ∀ {w : World} {K K' : Nat → Prop} {b : β}, M w K b → (∀ i, i < w.heap.size → K i → K' i) → M w K' b
def NoM {β : Type} : World → (Nat → Prop) → β → Prop := fun _ _ _ => True
theorem noM {β : Type} : MemOf (NoM (β := β)) := ⟨fun _ _ _ => trivial, fun _ _ => trivial⟩
theorem ocM : MemOf OcK := ⟨fun h k hq => h.keep k hq, fun h hk => h.more hk⟩
/-- what a call answers that reads an element -/
def ElemP {α β : Type} (val : β → Value) (f : β → α) (M : World → (Nat → Prop) → β → Prop) (v : Rd → α) (s : Rd → Rd) (G g B : Nat) (r' r : Rd) (W : World) (e : Ending) (w' : World) : Prop :=
  ∃ b low2 r2, e = .returned (val b) ∧ RX w' G g B low2 r2 ∧ Sim low2 r2 (s r) ∧ ((s r).bad = false → f b = v r) ∧ M w' (fun i => W.heap.size ≤ i) b ∧ Keep (But2 g G) W w' ∧ Got r' r2 1
def ElemOk (fn : Nat) {α β : Type} (val : β → Value) (f : β → α) (M : World → (Nat → Prop) → β → Prop) (v : Rd → α) (s : Rd → Rd) : Prop :=
  ∀ (W : World) (G g B : Nat) (low : Bool) (r' r : Rd), RX W G g B low r' → Sim low r' r → Calls Try.prog fn #[.pointer (some ⟨G, 0, none⟩)] W (ElemP val f M v s G g B r' r W)
/-- what a call answers that reads a count and so many elements -/
def ListP {α β : Type} (E : Enc β) (f : β → α) (M : World → (Nat → Prop) → β → Prop) (v : Rd → α) (s : Rd → Rd) (G g B : Nat) (r' r : Rd) (W : World) (e : Ending) (w' : World) : Prop :=
  ∃ (sl : Sv) (ys : List β) (low2 : Bool) (r2 : Rd), e = .returned (.slice sl.a sl.n sl.c) ∧ SlK w' (fun i => W.heap.size ≤ i) E sl ys ∧ (∀ b ∈ ys, M w' (fun i => W.heap.size ≤ i) b) ∧ RX w' G g B low2 r2 ∧ Sim low2 r2 (cntR s r) ∧ ((cntR s r).bad = false → ys.map f = cntL v s r) ∧ Keep (But2 g G) W w' ∧ Got r' r2 0
/-- the row that grows, beside the readers -/
structure LsJ {β : Type} (E : Enc β) (T : TypeId) (M : World → (Nat → Prop) → β → Prop) (w : World) (G g B : Nat) (v : Value) (ys : List β) (low : Bool) (r' : Rd) (wk : World) : Prop where
  kp : Keep (But2 g G) w wk
  rx : RX wk G g B low r'
  own : Own wk w.heap.size E T v ys
  mem : ∀ b ∈ ys, M wk (fun i => w.heap.size ≤ i ∧ v.ownBlock ≠ some i) b
  lt : G < w.heap.size
section
variable {β : Type} {E : Enc β} {T S : TypeId} {M : World → (Nat → Prop) → β → Prop} {w wk w' : World} {G g B : Nat} {v : Value} {ys : List β} {low low2 : Bool} {r' r2 : Rd}
theorem LsJ.first (hk : Keep (But2 g G) w wk) (h : RX wk G g B low r') (hl : G < w.heap.size) : LsJ E T M w G g B (.slice none 0 0) [] low r' wk :=
  ⟨hk, h, own_nil _ _, fun b hb => absurd hb (by simp), hl⟩
theorem LsJ.call (hM : MemOf M) (h : LsJ E T M w G g B v ys low r' wk) (k : Keep (But2 g G) wk w') (hx : RX w' G g B low2 r2) : LsJ E T M w G g B v ys low2 r2 w' :=
  ⟨h.kp.trans k, hx, own_keep h.own fun q hq => by
    obtain ⟨hb, _, cur, hcur⟩ := own_blk h.own hq
    have h1 := h.lt
    have h2 := hx.lt
    rw [hcur]
    exact k.block q _ hcur ⟨by omega, by omega⟩, fun b hb => hM.keep (h.mem b hb) k fun i o _ hi => by
      have h1 := h.lt
      have h2 := hx.lt
      exact ⟨by omega, by omega⟩, h.lt⟩
theorem LsJ.grow (t : RowTy E T S) (hM : MemOf M) (h : LsJ E T M w G g B v ys low r' wk) {b : β} (hb : M wk (fun i => w.heap.size ≤ i ∧ v.ownBlock ≠ some i) b) (hl : ys.length ≤ 900000) {cs : Array Value} (hcs : cs.toList = E.enc b) :
    ∃ A n c W, (Builtin.append_ #[S, S] S #[v, .slice (some ⟨wk.heap.size, 0, none⟩) 1 1]).run Try.prog (wk.alloc (.cells cs T)) = .ok (.slice A n c) W ∧ LsJ E T M w G g B (.slice A n c) (ys ++ [b]) low r' W := by
  have ha := alloc_below wk (.cells cs T)
  have hone := one_lst E wk T b hcs
  have ho2 := own_belowE h.own ha
  have hsz : w.heap.size ≤ (wk.alloc (.cells cs T)).heap.size := Nat.le_trans h.kp.size ha.size
  have hrx := h.rx.below ha
  have hkp := h.kp.trans (Keep.of_below ha)
  have hmem : ∀ x ∈ ys ++ [b], M (wk.alloc (.cells cs T)) (fun i => w.heap.size ≤ i ∧ v.ownBlock ≠ some i) x := fun x hx => by
    refine hM.keep (Q := fun _ _ => True) ?_ (Keep.of_below ha) fun _ _ _ _ => trivial
    rcases List.mem_append.1 hx with hx | hx
    · exact h.mem x hx
    · obtain rfl := List.mem_singleton.1 hx
      exact hb
  have hlt := h.lt
  have hgG := h.rx.lt
  generalize wk.alloc (.cells cs T) = W2 at *
  obtain ⟨v', W', hap, ho', hg, hor⟩ := append_own t ho2 hone rfl 1 (by show ys.length + 1 ≤ _; omega) hsz
  obtain ⟨A, c, rfl, _⟩ := own_lst ho'
  have hkeep : Keep (fun i _ => v.ownBlock ≠ some i) W2 W' := (Keep.refl W2).grown hg fun q o e _ hn => hn e
  refine ⟨A, _, c, W', hap, ?_, ?_, ho', fun x hx => ?_, hlt⟩
  · refine hkp.grown hg fun q o e hq _ => ?_
    have h1 := (own_blk ho2 e).1
    have h2 := lt_of_some hq
    omega
  · refine hrx.keep hkeep fun i o hi e => ?_
    have h1 := (own_blk ho2 e).1
    omega
  · have h1 := hM.more (K' := fun i => (w.heap.size ≤ i ∧ v.ownBlock ≠ some i) ∧ Value.ownBlock (.slice A (ys ++ [b]).length c) ≠ some i) (hmem x hx) fun i hi hK => ⟨hK, by
      rcases hor with e | e
      · rw [e]; exact hK.2
      · rw [e]
        intro e2
        injection e2 with e2
        omega⟩
    exact hM.more (hM.keep h1 hkeep fun i o _ hK => hK.1.2) fun i _ hK => ⟨hK.1.1, hK.2⟩
theorem LsJ.done (hM : MemOf M) (h : LsJ E T M w G g B v ys low r' wk) : ∃ sl : Sv, v = sl.val ∧ SlK wk (fun i => w.heap.size ≤ i) E sl ys ∧ ∀ b ∈ ys, M wk (fun i => w.heap.size ≤ i) b := by
  obtain ⟨sl, e, hs⟩ := h.own.k
  exact ⟨sl, e, hs, fun b hb => hM.more (h.mem b hb) fun _ _ hK => hK.1⟩
theorem LsJ.ownlt (h : LsJ E T M w G g B v ys low r' wk) {i : Nat} (hi : wk.heap.size ≤ i) : v.ownBlock ≠ some i := fun e => by
  have := (own_blk h.own e).2.1
  omega
end
abbrev valR (r : Rw) : Value := .agg #[.string r.1, .string r.2]
/-- a list read so far -/
def LsRel {α β : Type} (E : Enc β) (T : TypeId) (f : β → α) (M : World → (Nat → Prop) → β → Prop) (v : Rd → α) (s : Rd → Rd) (w : World) (G g B : Nat) (r0 r1 : Rd) (N k : Nat) (u i : Value) (wr : World) : Prop :=
  ∃ j ys low rj, j + k = N ∧ i = .int .i64 (j : Int) ∧ LsJ E T M w G g B u ys low rj wr ∧ Sim low rj (manyR s r1 j) ∧ ((manyR s r1 j).bad = false → ys.map f = manyL v s r1 j) ∧ ys.length = j ∧ Got r0 rj j ∧ j ≤ 500001
end Go.Proofs.Ytpggnklbgkdjcaa
namespace Go.Proofs.Ytpggnklbgkdjcaa
open Go.RowKit
/-- one cell after the other of block g -/
abbrev put2 (w : World) (g : Nat) (a b : Value) : World := (w.setCell ⟨g, 0, none⟩ a).setCell ⟨g, 1, none⟩ b
/-- the readers, beside a new block for the answer -/
structure RY (w : World) (T : TypeId) (cs : Array Value) (G g B : Nat) (low : Bool) (r : Rd) (wk : World) : Prop where
  kp : Keep (But2 g G) w wk
  res : Blk wk w.heap.size T cs
  rx : RX wk G g B low r
  lt : G < w.heap.size
section
variable {w wk w' : World} {T : TypeId} {cs cs' : Array Value} {G g B : Nat} {low low2 : Bool} {r r2 : Rd}
theorem RY.first (h : RX w G g B low r) (T : TypeId) (cs : Array Value) : RY w T cs G g B low r (w.alloc (.cells cs T)) :=
  ⟨Keep.of_below (alloc_below w _), Blk.new w T cs, h.below (alloc_below w _), h.glt⟩
theorem RY.call (h : RY w T cs G g B low r wk) (k : Keep (But2 g G) wk w') (hx : RX w' G g B low2 r2) : RY w T cs G g B low2 r2 w' :=
  ⟨h.kp.trans k, h.res.keep k (by have := h.lt; have := hx.lt; exact ⟨by omega, by omega⟩), hx, h.lt⟩
theorem RY.read (h : RY w T cs G g B low r wk) (hr : ReaderAt 90 w' g B r2) (k : Keep (But g) wk w') (hg : r2.rest.length ≤ r.rest.length) : RY w T cs G g B low r2 w' :=
  h.call k.but2 (h.rx.read hr k hg)
/-- the answer's block turned -/
theorem RY.done (h : RY w T cs G g B low r wk) (hW : Below w.heap.size wk w') : RX w' G g B low r ∧ Keep (But2 g G) w w' :=
  ⟨h.rx.keep (Q := fun i _ => i < w.heap.size) ⟨hW.os, hW.tape, hW.output, hW.size, fun i o ho hi => (hW.block i hi).trans ho⟩ fun i o hi => by have := h.lt; show i < w.heap.size; omega,
    ⟨hW.os.trans h.kp.os, hW.tape.trans h.kp.tape, hW.output.trans h.kp.output, Nat.le_trans h.kp.size hW.size, fun i o ho hi => (hW.block i (lt_of_some ho)).trans (h.kp.block i o ho hi)⟩⟩
end
set_option maxHeartbeats 2000000 in
theorem msg_ok : ElemOk 55 Mg.val (id : Mg → Mg) NoM Rd.msg Rd.msgR := by
  intro W G g B low r' r h hs
  have H0 := ShutL2.mk (RY.first h 55 Mg.zero.cells)
  have HS := ShutL2.mk (hs.map (s := Rd.msgR) msg_sticky)
  have HEQ := ShutL2.mk fun (hb : r.msgR.bad = false) => (hs.eq (msg_law.ok hb)).2
  obtain ⟨c0, -, -⟩ := (RY.first h 55 Mg.zero.cells).rx.cells
  clear h hs
  simp only [Mg.zero] at H0 c0
  go_enter Try.func55, Try.ntmps55
  go_wp2_with fail
  refine (readM_ H0.out.rx.rd).mono ?_
  rintro e w1 ⟨rfl, hr1, hk1⟩
  have H1 := ShutL2.mk (H0.out.read hr1 hk1 (got_msg r').le)
  have HV := ShutL2.mk fun (hb : r.msgR.bad = false) => (congrArg Rd.msg (HEQ.out hb) : r'.msg = r.msg)
  have HG := ShutL2.mk (got_msg r')
  clear hr1 hk1 H0 c0 HEQ
  generalize r'.msgR = r2 at *
  generalize r'.msg = m at *
  obtain ⟨a0, a1, a2, a3, a4, a5⟩ := m
  have hres := H1.out.res
  have f0 := hres.frozen 0
  have f1 := hres.frozen 1
  have f2 := hres.frozen 2
  have f3 := hres.frozen 3
  have f4 := hres.frozen 4
  have f5 := hres.frozen 5
  have q0 := hres.cell 0
  have q1 := hres.cell 1
  have q2 := hres.cell 2
  have q3 := hres.cell 3
  have q4 := hres.cell 4
  have q5 := hres.cell 5
  simp only [List.getElem?_toArray, List.getElem?_cons_zero, List.getElem?_cons_succ] at q0 q1 q2 q3 q4 q5
  have hs := blk_store6 (a' := .int .i64 a0) (b' := .int .i64 a1) (c' := .int .i64 a2) (d' := .bool a3) (e' := .string a4) (f' := .string a5) hres
  have t0 := hs.cell 0
  have t1 := hs.cell 1
  have t2 := hs.cell 2
  have t3 := hs.cell 3
  have t4 := hs.cell 4
  have t5 := hs.cell 5
  have hd := H1.out.done (below_six (Below.refl _ _) (Nat.le_refl _) (.int .i64 a0) (.int .i64 a1) (.int .i64 a2) (.bool a3) (.string a4) (.string a5))
  have HD := ShutL2.mk hd
  clear hs hd hres H1
  go_wp2_with fail
  refine bodyPost_ret (v := .agg #[.int .i64 a0, .int .i64 a1, .int .i64 a2, .bool a3, .string a4, .string a5]) (by simp [results, Try.results55, go_sem, t0, t1, t2, t3, t4, t5]) rfl ?_
  exact ⟨⟨a0, a1, a2, a3, a4, a5⟩, low, r2, rfl, HD.out.1, HS.out, HV.out, trivial, HD.out.2, HG.out⟩
theorem RX.drew {w : World} {G g B : Nat} {low : Bool} {r : Rd} (h : RX w G g B low r) : RX w.drew G g B low r := ⟨h.box, h.rd, h.lt, h.few⟩
theorem RY.drew {w wk : World} {T : TypeId} {cs : Array Value} {G g B : Nat} {low : Bool} {r : Rd} (h : RY w T cs G g B low r wk) : RY w T cs G g B low r wk.drew := ⟨h.kp.drew, h.res, h.rx.drew, h.lt⟩
/-- the reader's own block, told -/
abbrev CG (G g : Nat) (W : World) : Prop := W.cell? ⟨G, 0, none⟩ = some (.pointer (some ⟨g, 0, none⟩))
theorem below_two {B : Nat} {w w1 : World} (h : Below B w w1) {g : Nat} (hg : B ≤ g) (a b : Value) : Below B w (put2 w1 g a b) := (h.setCell hg a).setCell hg b
theorem blk_store2 {w : World} {g : Nat} {T : TypeId} {a b : Value} (h : Blk w g T #[a, b]) (a' b' : Value) : Blk (put2 w g a' b') g T #[a', b'] := by
  have := (h.set_ 0 a').set_ 1 b'
  simpa using this
set_option maxHeartbeats 4000000 in
theorem row_ok : ElemOk 53 valR (id : Rw → Rw) NoM rowV rowR := by
  intro W G g B low r' r h hs
  have H0 := ShutL2.mk (RY.first h 52 #[.string ⟨#[]⟩, .string ⟨#[]⟩]).drew
  have HS := ShutL2.mk (hs.map (s := rowR) row_law.sticky)
  have HEQ := ShutL2.mk fun (hb : (rowR r).bad = false) => (congrArg rowV (hs.eq (row_law.ok hb)).2 : rowV r' = rowV r)
  have HG := ShutL2.mk (got_row r')
  have hS0 : ShutL2 (CG G g (W.alloc (.cells #[.string ⟨#[]⟩, .string ⟨#[]⟩] 52)).drew) := ⟨H0.out.rx.cells.1⟩
  clear h hs
  go_enter Try.func53, Try.ntmps53
  go_wp2_with fail
  go_region_held3 (fun W : World => CG G g W)
    (first | with_reducible exact hS3.out | with_reducible exact hS2.out | with_reducible exact hS1.out | with_reducible exact hS0.out)
    (first | (go_at_call 51; refine (rdText _ _ _ _ H1.out.rx.rd).mono ?_; rintro e w2 ⟨rfl, hr2, hk2⟩; have H2 := ShutL2.mk (H1.out.read hr2 hk2 (got_text _).le); have hS2 : ShutL2 (CG G g w2) := ⟨H2.out.rx.cells.1⟩; have f0 := H2.out.res.frozen 0; have f1 := H2.out.res.frozen 1; have q0 := H2.out.res.cell 0; have q1 := H2.out.res.cell 1; have hS3 : ShutL2 (CG G g (put2 w2 W.heap.size (.string ⟨r'.text.1.toArray⟩) (.string ⟨r'.text.2.text.1.toArray⟩))) := ⟨(H2.out.done (below_two (Below.refl _ _) (Nat.le_refl _) _ _)).1.cells.1⟩; clear hr2 hk2) | (go_at_call 51; refine (rdText _ _ _ _ H0.out.rx.rd).mono ?_; rintro e w1 ⟨rfl, hr1, hk1⟩; have H1 := ShutL2.mk (H0.out.read hr1 hk1 (got_text _).le); have hS1 : ShutL2 (CG G g w1) := ⟨H1.out.rx.cells.1⟩; clear hr1 hk1))
  go_wp2_with fail
  have hb2 := blk_store2 H2.out.res (.string ⟨r'.text.1.toArray⟩) (.string ⟨r'.text.2.text.1.toArray⟩)
  have t0 := hb2.cell 0
  have t1 := hb2.cell 1
  have hd := H2.out.done (below_two (Below.refl _ _) (Nat.le_refl _) (.string ⟨r'.text.1.toArray⟩) (.string ⟨r'.text.2.text.1.toArray⟩))
  have HD := ShutL2.mk hd
  clear hb2 hd
  refine bodyPost_ret (v := .agg #[.string ⟨r'.text.1.toArray⟩, .string ⟨r'.text.2.text.1.toArray⟩]) (by simp [results, Try.results53, go_sem, t0, t1]) rfl ?_
  exact ⟨rowV r', low, rowR r', rfl, HD.out.1, HS.out, HEQ.out, trivial, HD.out.2, HG.out⟩
end Go.Proofs.Ytpggnklbgkdjcaa
namespace Go.Proofs.Ytpggnklbgkdjcaa
open Go.RowKit
theorem enters_r : ∀ args w, (callFunc 53 args).run Try.prog w = .ok (.enter 53 args) w := enters_of Try.func53 (by kernel_rfl) rfl
set_option maxHeartbeats 2000000 in
theorem list_r_neg {W : World} {G g B : Nat} {low : Bool} {r' r : Rd} (h : RX W G g B low r') (hs : Sim low r' r) (hc : r'.int.1 < 0) :
    Calls Try.prog 52 #[.pointer (some ⟨G, 0, none⟩), .func (.func 53) #[.pointer (some ⟨G, 0, none⟩)] #[]] W (ListP eR (id : Rw → Rw) NoM rowV rowR G g B r' r W) := by
  have H := ShutL2.mk h
  obtain ⟨hlow1, hlow2⟩ := list_low (v := rowV) (s := rowR) row_law hs hc
  have HL := ShutL2.mk hlow1
  have HL2 := ShutL2.mk hlow2
  obtain ⟨c0, -, -⟩ := h.cells
  clear h hs hlow1 hlow2
  go_enter Try.func52, Try.ntmps52
  go_wp2_with fail
  refine (rdInt _ _ _ _ H.out.rd).mono ?_
  rintro e w1 ⟨rfl, hr1, hk1⟩
  have H1 := ShutL2.mk (H.out.read hr1 hk1 (got_int r').le)
  have K1 := ShutL2.mk (hk1.but2 (G := G))
  obtain ⟨d0, d1, d2⟩ := H1.out.cells
  obtain ⟨c, hcc⟩ : ∃ c, r'.int.1 = c := ⟨_, rfl⟩
  rw [hcc] at hc ⊢
  have H2 := ShutL2.mk H1.out.set
  clear hr1 hk1 hcc c0
  go_wp2_with fail
  generalize w1.setCell ⟨G, 1, none⟩ (.bool true) = w2 at *
  go_loopg [6, 7] 0 (fun k v i wr => v = .slice none 0 0 ∧ i = .int .i64 0 ∧ wr = w2)
  case atStart => exact ⟨rfl, rfl, rfl⟩
  case round =>
    obtain ⟨rfl, rfl, rfl⟩ := hrel
    go_wp2_with fail
    go_ret
    exact ⟨⟨none, 0, 0⟩, [], true, r'.int.2, rfl, SlK.none_ _ _ _, fun b hb => absurd hb (by simp), H2.out.1, HL.out, (fun hb => by rw [HL2.out] at hb; cases hb), K1.out.trans H2.out.2, (got_int r').weak (by omega)⟩
set_option maxHeartbeats 4000000 in
theorem list_r_pos (hE : ElemOk 53 valR (id : Rw → Rw) NoM rowV rowR) {W : World} {G g B : Nat} {low : Bool} {r' r : Rd} (h : RX W G g B low r') (hs : Sim low r' r) (hc : 0 ≤ r'.int.1) :
    Calls Try.prog 52 #[.pointer (some ⟨G, 0, none⟩), .func (.func 53) #[.pointer (some ⟨G, 0, none⟩)] #[]] W (ListP eR (id : Rw → Rw) NoM rowV rowR G g B r' r W) := by
  have H := ShutL2.mk h
  have HS := ShutL2.mk hs
  have HC := ShutL2.mk hc
  have HS1 := ShutL2.mk (hs.map (s := fun r => r.int.2) int_sticky)
  have HEL := ShutL2.mk hE
  have hfew := h.few
  have HFEW := ShutL2.mk hfew
  obtain ⟨c0, -, -⟩ := h.cells
  have eg := enters_r
  clear h hs hE hfew
  go_enter Try.func52, Try.ntmps52
  go_wp2_with fail
  refine (rdInt _ _ _ _ H.out.rd).mono ?_
  rintro e w1 ⟨rfl, hr1, hk1⟩
  have hlj : LsJ eR 52 NoM W G g B (.slice none 0 0) [] low r'.int.2 w1 := LsJ.first (hk1.but2 (G := G)) (H.out.read hr1 hk1 (got_int r').le) H.out.glt
  have HLJ := ShutL2.mk hlj
  have HHI := ShutL2.mk (int_hi r')
  have HGI := ShutL2.mk ((got_int r').weak (m := 0) (by omega))
  have HEND := ShutL2.mk fun (low2 : Bool) (rj : Rd) (ys : List Rw) (j : Nat) (hj : Sim low2 rj (manyR rowR r.int.2 j)) (hle : j ≤ r'.int.1.toNat) (he : j = r'.int.1.toNat ∨ rj.bad = true) (hv : (manyR rowR r.int.2 j).bad = false → ys.map (id : Rw → Rw) = manyL rowV rowR r.int.2 j) =>
    list_end (f := (id : Rw → Rw)) row_law HS.out (Int.not_lt.2 HC.out) hj hle he hv
  have hcc := HC.out
  clear hr1 hk1 hlj c0 H HS HC hc
  generalize r'.int.2 = r1' at *
  generalize r.int.2 = r1 at *
  generalize r'.int.1 = c at *
  obtain ⟨N, rfl⟩ := Int.eq_ofNat_of_zero_le hcc
  rw [Int.toNat_natCast] at HEND
  have hNN : N ≤ 9223372036854775807 := by have := HHI.out; omega
  go_wp2_with fail
  go_loopg [6, 7] N (fun k v i wr => LsRel eR 52 (id : Rw → Rw) NoM rowV rowR W G g B r' r1 N k v i wr)
  case atStart => exact ⟨0, [], low, r1', by omega, rfl, HLJ.out, HS1.out, fun _ => rfl, rfl, HGI.out, by omega⟩
  case round =>
    obtain ⟨j, ys, lw, rj, hj, rfl, hls, hsim, hv, hln, hgot, hjb⟩ := hrel
    have HJ := ShutL2.mk hj
    have HLS := ShutL2.mk hls
    have HSIM := ShutL2.mk hsim
    have HV := ShutL2.mk hv
    have HLN := ShutL2.mk hln
    have HGOT := ShutL2.mk hgot
    obtain ⟨d0, -, -⟩ := hls.rx.cells
    clear hj hls hsim hv hln hgot HLJ
    by_cases hlt : j < N
    · go_wp2_with fail
      refine (rdFailed _ _ _ _ HLS.out.rx.rd).mono ?_
      rintro e w5 ⟨rfl, rfl⟩
      cases hbad : rj.bad
      · have hg2 := HGOT.out.ok hbad
        have hj5 : j ≤ 500000 := by have := HFEW.out; omega
        have hcall := HEL.out _ G g B lw rj (manyR rowR r1 j) HLS.out.rx HSIM.out
        have HCALL := ShutL2.mk hcall
        clear hcall hg2 hbad
        go_wp2_with fail
        go_at_fn 53
        refine HCALL.out.mono ?_
        rintro e w6 ⟨b, lw2, r2, rfl, hx6, hs6, hv6, hm6, hk6, hg6⟩
        have hls6 := HLS.out.call noM hk6 hx6
        obtain ⟨A7, n7, c7, w7, hap, hls7⟩ := hls6.grow tyR noM (b := b) (cs := #[.string b.1, .string b.2]) (noM.more hm6 fun i _ hi => ⟨Nat.le_trans HLS.out.kp.size hi, HLS.out.ownlt hi⟩) (by have := HLN.out; omega) rfl
        have HLS7 := ShutL2.mk hls7
        have HS6 := ShutL2.mk (sim_next (s := rowR) hs6)
        have HV7 := ShutL2.mk (list_next row_law HV.out hv6)
        have HG7 := ShutL2.mk (HGOT.out.trans hg6)
        clear hx6 hs6 hv6 hm6 hk6 hg6 hls6 hls7 HCALL HLS HSIM HV HGOT d0
        obtain ⟨b0, b1⟩ := b
        go_wp2_with (at_builtin; refine wpList_append_run rfl (.tmp 31) (.tmp 34) 36 36 rfl _ _ rfl rfl hap ?_)
        go_roundg (N - (j + 1))
        case measure => have := HJ.out; omega
        case rel => exact ⟨j + 1, ys ++ [(b0, b1)], lw2, r2, by omega, by go_num, HLS7.out, HS6.out, HV7.out, by rw [List.length_append, HLN.out]; rfl, HG7.out, by omega⟩
      · obtain ⟨e1, e2⟩ := HEND.out lw rj ys j HSIM.out (by omega) (.inr hbad) HV.out
        obtain ⟨sl, rfl, hsl, hmm⟩ := HLS.out.done noM
        have HE1 := ShutL2.mk e1
        have HE2 := ShutL2.mk e2
        have HSL := ShutL2.mk hsl
        have HMM := ShutL2.mk hmm
        clear e1 e2 hsl hmm
        go_wp2_with fail
        go_ret
        exact ⟨sl, ys, lw, rj, rfl, HSL.out, HMM.out, HLS.out.rx, HE1.out, HE2.out, HLS.out.kp, HGOT.out.weak (by omega)⟩
    · obtain ⟨e1, e2⟩ := HEND.out lw rj ys j HSIM.out (by have := HJ.out; omega) (.inl (by have := HJ.out; omega)) HV.out
      obtain ⟨sl, rfl, hsl, hmm⟩ := HLS.out.done noM
      have HE1 := ShutL2.mk e1
      have HE2 := ShutL2.mk e2
      have HSL := ShutL2.mk hsl
      have HMM := ShutL2.mk hmm
      clear e1 e2 hsl hmm
      go_wp2_with fail
      go_ret
      exact ⟨sl, ys, lw, rj, rfl, HSL.out, HMM.out, HLS.out.rx, HE1.out, HE2.out, HLS.out.kp, HGOT.out.weak (by omega)⟩
theorem list_r (hE : ElemOk 53 valR (id : Rw → Rw) NoM rowV rowR) {W : World} {G g B : Nat} {low : Bool} {r' r : Rd} (h : RX W G g B low r') (hs : Sim low r' r) :
    Calls Try.prog 52 #[.pointer (some ⟨G, 0, none⟩), .func (.func 53) #[.pointer (some ⟨G, 0, none⟩)] #[]] W (ListP eR (id : Rw → Rw) NoM rowV rowR G g B r' r W) := by
  by_cases hc : r'.int.1 < 0
  · exact list_r_neg h hs hc
  · exact list_r_pos hE h hs (Int.not_lt.1 hc)
end Go.Proofs.Ytpggnklbgkdjcaa
