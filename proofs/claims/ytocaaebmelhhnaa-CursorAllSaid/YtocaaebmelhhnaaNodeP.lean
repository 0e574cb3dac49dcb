/- What Put, Cut and Halves of package node make. -/
import Derived.Test.YtocaaebmelhhnaaNodeF
import Derived.Test.YtocaaebmelhhnaaRowC
import Derived.Deep.RegionWith
set_option maxRecDepth 4000
namespace Go.Proofs.Ytocaaebmelhhnaa
open Go.RowKit
theorem elemRow : Try.prog.elem 22 = 29 := by simp [Program.elem, Try.underlying22]
theorem sizeRow (w : World) : (Go.sizeOf 29).run Try.prog w = .ok 2 w := by kernel_rfl
theorem head_rows (A : Option Addr) (l c q : Nat) (h : q ≤ c) (W : World) : (Instr.slice 22 (.slice A l c) none (some (.int .i64 (q : Int))) none).run Try.prog W = .ok (.slice A q c) W := by
  rw [run_slice_h W 22 _ _ _ (by rw [elemRow]; exact Try.underlying22) .i64 _ (by omega) (by omega), elemRow, sizeRow]
  have : A.map (·.add (0 * 2)) = A := by cases A <;> simp [Addr.add]
  simp [Result.andThen, sliced]
  cases A <;> simp [Addr.add]
/-- rows from place q on -/
theorem tail_rows {w : World} {K : Nat → Prop} {A : Option Addr} {xs : List Rw} {n c : Nat} (h : Rws w K A xs) (hl : xs.length = n) (hc : n ≤ c) {q m : Nat} (hq : q ≤ n) (hm : n - q = m) :
    ∃ A', (∀ W, (Instr.slice 22 (.slice A n c) (some (.int .i64 (q : Int))) none none).run Try.prog W = .ok (.slice A' m (c - q)) W) ∧ Rws w K A' (xs.drop q) ∧ (A' = none → A = none) := by
  subst hl hm
  refine ⟨_, fun W => ?_, h.drop (k := q) hc, fun e => by split at e <;> simpa using e⟩
  rw [run_slice_l W 22 _ _ _ (by rw [elemRow]; exact Try.underlying22) .i64 _ (by omega) (by omega), elemRow, sizeRow]
  rfl
theorem NewR.of_below {w w1 w' : World} {n : Nat} {xs : List Rw} {v : Value} (h : NewR w1 n xs v w') (hb : Below w.heap.size w w1) : NewR w n xs v w' := by
  obtain ⟨A, c, e, hr, h1, h2, h3, hk⟩ := h
  exact ⟨A, c, e, hr.more fun i _ hi => Nat.le_trans hb.size hi, h1, h2, h3, hb.trans (hk.mono hb.size)⟩
theorem blk_cells {w : World} {g : Nat} {t : TypeId} {cs : Array Value} (h : Blk w g t cs) {ps : List (Value × List Rw)} (hp : cs.toList = ps.map (·.1)) : Vals w g 0 ps :=
  ⟨h.lt, fun j hj => by
    rw [h.cell, Nat.zero_add, ← Array.getElem?_toList, hp, List.getElem?_map, List.getElem?_eq_getElem hj]; rfl⟩
/-- some rows, one more, and others, side by side -/
theorem concat3 {w : World} {K : Nat → Prop} {A1 A2 : Option Addr} {xs1 xs2 : List Rw} {q m c1 c2 : Nat} (h1 : Rws w K A1 xs1) (l1 : xs1.length = q) (h2 : Rws w K A2 xs2) (l2 : xs2.length = m) (r : Rw) (hs : q + m ≤ 999999) {b a : Nat} (hb : b = w.heap.size + 1) (ha : a = w.heap.size) :
    Calls Try.prog 66 #[.slice (some ⟨b, 0, none⟩) 3 3] (((w.alloc (.cells #[.string r.1, .string r.2] 29)).alloc (.cells #[.slice A1 q c1, .slice (some ⟨a, 0, none⟩) 1 1, .slice A2 m c2] 22)).drew)
      fun e w' => ∃ v, e = .returned v ∧ NewR w (q + m + 1) (xs1 ++ [r] ++ xs2) v w' := by
  subst hb ha l1 l2
  have k1 := alloc_below w (.cells #[.string r.1, .string r.2] 29)
  have k2 := k1.alloc k1.size (.cells #[.slice A1 xs1.length c1, .slice (some ⟨w.heap.size, 0, none⟩) 1 1, .slice A2 xs2.length c2] 22)
  have hB := Blk.new (w.alloc (.cells #[.string r.1, .string r.2] 29)) 22 #[.slice A1 xs1.length c1, .slice (some ⟨w.heap.size, 0, none⟩) 1 1, .slice A2 xs2.length c2]
  have hr := (rws_one w r).below (alloc_below (w.alloc (.cells #[.string r.1, .string r.2] 29)) (.cells #[.slice A1 xs1.length c1, .slice (some ⟨w.heap.size, 0, none⟩) 1 1, .slice A2 xs2.length c2] 22))
  have hz : (w.alloc (.cells #[.string r.1, .string r.2] 29)).heap.size = w.heap.size + 1 := by simp
  rw [hz] at hB
  have hV := blk_cells hB.drew (ps := [(.slice A1 xs1.length c1, xs1), (.slice (some ⟨w.heap.size, 0, none⟩) 1 1, [r]), (.slice A2 xs2.length c2, xs2)]) rfl
  refine (concat_ hV ?_ rfl (by simp) (by simp [flatR]; omega)).mono ?_
  · intro p hp
    rcases List.mem_cons.1 hp with rfl | hp
    · exact ⟨A1, c1, K, rfl, (h1.below k2).drew⟩
    · rcases List.mem_cons.1 hp with rfl | hp
      · exact ⟨_, 1, _, rfl, hr.drew⟩
      · rcases List.mem_cons.1 hp with rfl | hp
        · exact ⟨A2, c2, K, rfl, (h2.below k2).drew⟩
        · cases hp
  · rintro e w' ⟨v, rfl, hn⟩
    have e1 : flatR [(Value.slice A1 xs1.length c1, xs1), (.slice (some ⟨w.heap.size, 0, none⟩) 1 1, [r]), (.slice A2 xs2.length c2, xs2)] = xs1 ++ [r] ++ xs2 := by simp [flatR]
    rw [e1] at hn
    have e2 : (xs1 ++ [r] ++ xs2).length = xs1.length + xs2.length + 1 := by simp; omega
    rw [e2] at hn
    exact ⟨v, rfl, hn.of_below k2.drew⟩
/-- some rows and others, side by side -/
theorem concat2 {w : World} {K : Nat → Prop} {A1 A2 : Option Addr} {xs1 xs2 : List Rw} {q m c1 c2 : Nat} (h1 : Rws w K A1 xs1) (l1 : xs1.length = q) (h2 : Rws w K A2 xs2) (l2 : xs2.length = m) (hs : q + m ≤ 999999) {b : Nat} (hb : b = w.heap.size) :
    Calls Try.prog 66 #[.slice (some ⟨b, 0, none⟩) 2 2] ((w.alloc (.cells #[.slice A1 q c1, .slice A2 m c2] 22)).drew)
      fun e w' => ∃ v, e = .returned v ∧ NewR w (q + m) (xs1 ++ xs2) v w' := by
  subst hb l1 l2
  have k2 := alloc_below w (.cells #[.slice A1 xs1.length c1, .slice A2 xs2.length c2] 22)
  have hB := Blk.new w 22 #[.slice A1 xs1.length c1, .slice A2 xs2.length c2]
  have hV := blk_cells hB.drew (ps := [(.slice A1 xs1.length c1, xs1), (.slice A2 xs2.length c2, xs2)]) rfl
  refine (concat_ hV ?_ rfl (by simp) (by simp [flatR]; omega)).mono ?_
  · intro p hp
    rcases List.mem_cons.1 hp with rfl | hp
    · exact ⟨A1, c1, K, rfl, (h1.below k2).drew⟩
    · rcases List.mem_cons.1 hp with rfl | hp
      · exact ⟨A2, c2, K, rfl, (h2.below k2).drew⟩
      · cases hp
  · rintro e w' ⟨v, rfl, hn⟩
    have e1 : flatR [(Value.slice A1 xs1.length c1, xs1), (.slice A2 xs2.length c2, xs2)] = xs1 ++ xs2 := by simp [flatR]
    rw [e1, List.length_append] at hn
    exact ⟨v, rfl, hn.of_below k2.drew⟩
set_option maxHeartbeats 1000000 in
theorem put_row {w : World} {K : Nat → Prop} {A : Option Addr} {n c : Nat} {xs : List Rw} (h : Rws w K A xs) (hl : xs.length = n) (hn : n ≤ 100000) (hc : n ≤ c) (r : Rw) :
    Calls Try.prog 64 #[.slice A n c, .agg #[.string r.1, .string r.2]] w fun e w' => ∃ v, e = .returned v ∧ NewR w (putR xs r).length (putR xs r) v w' := by
  obtain ⟨k, v⟩ := r
  have hb0 := alloc_below w (.cells #[.string k, .string v] 29)
  have HB0 := Lib.hid hb0
  have HX0 := Lib.hid (Blk.new w 29 #[.string k, .string v])
  have H := Lib.hid (h.below hb0)
  have HL := Lib.hid hl
  have hf1 := findR_le xs k
  have hf2 := behR_le xs k
  have hpb := put_beh xs (k, v)
  simp only at hpb
  unfold behR at hf2 hpb
  rw [hl] at hf1 hf2
  have hfind := fun W (hW : Rws W K A xs) => find_row (c := c) hW hl (by omega) k
  obtain ⟨fd, hfd⟩ : ∃ fd, foundR xs k = fd := ⟨_, rfl⟩
  rw [hfd] at hf2 hpb hfind
  have HPB := Lib.hid hpb
  have HFI := Lib.hid hfind
  clear h hl hb0 hpb hfd hfind
  generalize findR xs k = q at *
  have hd1 := fun W => head_rows A n c q (by omega) W
  cases fd
  · obtain ⟨A2, hd2, hr2, _⟩ := tail_rows H.out HL.out hc hf1 rfl
    have HR2 := Lib.hid hr2
    clear hr2
    obtain ⟨m2, hm2⟩ : ∃ m, n - q = m := ⟨_, rfl⟩
    rw [hm2] at hd2
    have h3 := concat3 (q := q) (m := m2) (c1 := c) (c2 := c - q) (H.out.take q) (by rw [List.length_take, HL.out]; omega) HR2.out (by rw [List.length_drop, HL.out]; exact hm2) (k, v) (by omega) (b := w.heap.size + 1 + 1) (a := w.heap.size + 1) (by simp) (by simp)
    have hlen : (putR xs (k, v)).length = q + m2 + 1 := by rw [HPB.out]; simp [List.length_take, List.length_drop, HL.out]; omega
    have H3 := Lib.hid h3
    have HN := Lib.hid hlen
    clear h3 hlen hf2 hm2
    go_enter Try.func64, Try.ntmps64
    go_wp2_with (go_at_call 62; refine (HFI.out _ H.out).mono ?_; rintro e w' ⟨rfl, rfl⟩)
    go_region_with (go_at_call 66; refine H3.out.mono ?_; rintro e w' ⟨v1, rfl, hn1⟩; have HN1 := Lib.hid hn1; clear hn1)
    go_wp2
    go_ret
    exact ⟨v1, rfl, by rw [HN.out, HPB.out]; exact HN1.out.of_below HB0.out⟩
  · simp only [if_true] at hf2
    obtain ⟨A2, hd2, hr2, _⟩ := tail_rows H.out HL.out hc hf2 rfl
    have HR2 := Lib.hid hr2
    clear hr2
    obtain ⟨m2, hm2⟩ : ∃ m, n - (q + 1) = m := ⟨_, rfl⟩
    rw [hm2] at hd2
    have hd2' : ∀ W, (Instr.slice 22 (.slice A n c) (some (.int .i64 ((q : Int) + 1))) none none).run Try.prog W = .ok (.slice A2 m2 (c - (q + 1))) W := hd2
    have h3 := concat3 (q := q) (m := m2) (c1 := c) (c2 := c - (q + 1)) (H.out.take q) (by rw [List.length_take, HL.out]; omega) HR2.out (by rw [List.length_drop, HL.out]; exact hm2) (k, v) (by omega) (b := w.heap.size + 1 + 1) (a := w.heap.size + 1) (by simp) (by simp)
    have hlen : (putR xs (k, v)).length = q + m2 + 1 := by rw [HPB.out]; simp [List.length_take, List.length_drop, HL.out]; omega
    have H3 := Lib.hid h3
    have HN := Lib.hid hlen
    clear h3 hlen hm2 hd2
    go_enter Try.func64, Try.ntmps64
    go_wp2_with (go_at_call 62; refine (HFI.out _ H.out).mono ?_; rintro e w' ⟨rfl, rfl⟩)
    go_region_with (go_at_call 66; refine H3.out.mono ?_; rintro e w' ⟨v1, rfl, hn1⟩; have HN1 := Lib.hid hn1; clear hn1)
    go_wp2
    go_ret
    exact ⟨v1, rfl, by rw [HN.out, HPB.out]; exact HN1.out.of_below HB0.out⟩
end Go.Proofs.Ytocaaebmelhhnaa
