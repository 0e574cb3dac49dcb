/- What the Write of the document's own disk does. -/
import Derived.Test.YtfccghbhkgnmlaaRefNew
namespace Go.Proofs.Ytfccghbhkgnmlaa
open Go.RowKit
theorem build58 (i : Int) (A : Option Addr) (n c : Nat) (W : World) : (Instr.build 53 #[(0, .int .i64 i), (1, .slice A n c)]).run Try.prog W = .ok (.agg #[.int .i64 i, .slice A n c]) W := by
  obtain ⟨i0, hi, hz0, hz1, hz2⟩ := info_parts info58
  obtain ⟨i3, h3⟩ : ∃ i, Try.prog.info? 3 = some i := by
    cases h : Try.prog.info? 3 with
    | some i => exact ⟨i, rfl⟩
    | none => exact absurd (show (Try.prog.info? 3).isSome = true by kernel_rfl) (by simp [h])
  have s3 : i3.size = 1 := by
    have : (Try.prog.info? 3).map (·.size) = some 1 := by kernel_rfl
    simpa [h3] using this
  obtain ⟨i4, h4, _, s4, _⟩ := info_parts info32
  simp [Instr.build, zeroValue, typeInfo, sizeOf, hi, hz0, run_underlying Try.underlying53, h3, h4, s3, s4, Value.cells, Instr.fill]
theorem buildS38 (u : Int) (A : Option Addr) (n c : Nat) (W : World) : (Instr.buildSlice 34 1 #[(0, .agg #[.int .i64 u, .slice A n c])]).run Try.prog W = .ok (.slice (some ⟨W.heap.size, 0, none⟩) 1 1) (W.alloc (.cells #[.int .i64 u, .slice A n c] 53)) := by
  obtain ⟨i0, hi, hz0, hz1, hz2⟩ := info_parts info58
  simp only [Instr.buildSlice, Sem.run_bind, run_underlying Try.underlying34]
  simp [zeroValue, typeInfo, sizeOf, hi, hz0, hz1, Value.cells, newRow, Instr.fill, Array.range_succ, Array.range_zero']
/-- a copy of 64 bytes in new memory -/
theorem fresh_bytes {W : World} {b o c : Nat} {x : Sec} (hx : x.length = 64) (hr : ∀ j u, (cellsB x)[j]? = some u → W.cell? ⟨b, o + j, none⟩ = some u) :
    ∃ A c' W', (Builtin.append_ #[22, 22] 22 #[.slice none 0 0, .slice (some ⟨b, o, none⟩) 64 c]).run Try.prog W = .ok (.slice A 64 c') W' ∧ Row64 W' (fun i => i = W.heap.size) (.slice A 64 c') x ∧ Below W.heap.size W W' ∧ W.heap.size < W'.heap.size := by
  obtain ⟨i0, hi0, hz0, hz1, hz2⟩ := info_parts info5
  obtain ⟨v', W', hrun, hown, hgrow, hnil, hat⟩ := run_append_own_at (P := Try.prog) W 0 22 22 5 i0 _ 1 1 Try.underlying22 hi0 hz0 hz1 hz2 rfl (by omega) (.slice none 0 0) 0 [] (World.ownsRow_nil _ _ _ _) ⟨b, o, none⟩ 64 c (cellsB x) (by rw [cellsB_length, hx]) (fun j u hu => by rw [Addr.add_mid]; exact hr j u hu) (cellsB_one x) (by unfold maxLen; omega) (by omega) (Nat.zero_le _)
  rw [List.nil_append, Nat.zero_add] at hown
  obtain ⟨A, c', rfl, _, _⟩ := own_slice hown
  have hb : (Value.slice A 64 c').ownBlock = some W.heap.size := by
    rcases hat with e | e
    · rcases hown.2 with ⟨_, h0⟩ | ⟨g, cap, cur, hv, _⟩
      · omega
      · rw [hv] at e; cases e
    · exact e
  refine ⟨A, c', W', hrun, ⟨hown, fun k hk => ?_⟩, ⟨hgrow.os, hgrow.tape, hgrow.output, hgrow.size, fun i hi => hgrow.block i hi (by simp [Value.ownBlock])⟩, own_lt' hown _ hb⟩
  rw [hb] at hk; injection hk with hk; exact hk.symm
theorem cellsL_snoc (ls : List (Nat × Value)) (i : Nat) (v : Value) : cellsL (ls ++ [(i, v)]) = cellsL ls ++ [.int .i64 (i : Int), v] := by simp [cellsL, cellL]
theorem rwrite_mem {w : World} {g : Nat} {O : Nat → Prop} {A : Option Addr} {m c : Nat} {vs : Value} {rs : List Value} {ls : List (Nat × Value)} {s : St} (h : RefM w g O vs (.slice A m c) rs ls s.sure s) (hm : ls.length = m) (hl : m ≤ 1000000) {i : Nat} (hi : i < s.n) {b ob cb : Nat} {xs : List UInt8} (hx : xs.length = 64) (hB : ∀ j u, (cellsB xs)[j]? = some u → w.cell? ⟨b, ob + j, none⟩ = some u) :
    w.drew.cell? ⟨g, 1, none⟩ = some (.slice A m c) ∧ ∃ A1 c1 W1, (Builtin.append_ #[22, 22] 22 #[.slice none 0 0, .slice (some ⟨b, ob, none⟩) 64 cb]).run Try.prog w.drew = .ok (.slice A1 64 c1) W1 ∧ W1.cell? ⟨g, 1, none⟩ = some (.slice A m c) ∧
      (W1.alloc (.cells #[.int .i64 (i : Int), .slice A1 64 c1] 53)).cell? ⟨g, 1, none⟩ = some (.slice A m c) ∧
      ∃ A' m' c' W3, (Builtin.append_ #[34, 34] 34 #[.slice A m c, .slice (some ⟨W1.heap.size, 0, none⟩) 1 1]).run Try.prog (W1.alloc (.cells #[.int .i64 (i : Int), .slice A1 64 c1] 53)) = .ok (.slice A' m' c') W3 ∧
        W3.cell? ⟨g, 1, none⟩ = some (.slice A m c) ∧ W3.frozen? ⟨g, 1, none⟩ = false ∧
        ∃ ls', RefM (W3.setCell ⟨g, 1, none⟩ (.slice A' m' c')) g (fun i => O i ∨ w.heap.size ≤ i) vs (.slice A' m' c') rs ls' s.sure { s with l := s.l ++ [(i, xs)] } ∧ Keep (Out O) w (W3.setCell ⟨g, 1, none⟩ (.slice A' m' c')) := by
  have hgl := h.head.lt
  have c0 : w.cell? ⟨g, 1, none⟩ = some (.slice A m c) := by rw [h.head.cell]; rfl
  obtain ⟨A1, c1, W1, hrun1, hrow1, hb1, hs1⟩ := fresh_bytes (W := w.drew) (b := b) (o := ob) (c := cb) hx (fun j u hu => hB j u hu)
  have hb1' : Below w.heap.size w W1 := ((Below.refl w.heap.size w).drew).trans hb1
  have hs1' : w.heap.size < W1.heap.size := hs1
  refine ⟨c0, A1, c1, W1, hrun1, (cell_of_heap (hb1'.block g hgl) 1).trans c0, ?_⟩
  generalize hW2 : W1.alloc (.cells #[.int .i64 (i : Int), .slice A1 64 c1] 53) = W2
  have hb2 : Below W1.heap.size W1 W2 := by rw [← hW2]; exact alloc_below W1 _
  have hs2 : W2.heap.size = W1.heap.size + 1 := by rw [← hW2]; simp
  have hb : Below w.heap.size w W2 := hb1'.trans (hb2.mono (by omega))
  have hnew : Blk W2 W1.heap.size 53 #[.int .i64 (i : Int), .slice A1 64 c1] := by rw [← hW2]; exact Blk.new W1 53 _
  have hM2 : RefM W2 g O vs (.slice A m c) rs ls s.sure s := h.keep (K := fun _ _ => True) (Keep.of_below hb) fun _ _ _ => trivial
  have hrow2 : Row64 W2 (fun i => O i ∨ w.heap.size ≤ i) (.slice A1 64 c1) xs := (hrow1.keep (K := fun _ _ => True) (Keep.of_below hb2) fun _ _ _ => trivial).more fun i hi => .inr (by subst hi; exact Nat.le_refl _)
  obtain ⟨i0, hi0, hz0, hz1, hz2⟩ := info_parts info58
  obtain ⟨v', W3, hrun, hown, hgrow, _, hat⟩ := run_append_own_at (P := Try.prog) W2 0 34 34 53 i0 _ 2 32 Try.underlying34 hi0 hz0 hz1 hz2 rfl (by omega) _ _ _ hM2.own_l ⟨W1.heap.size, 0, none⟩ 1 1 [.int .i64 (i : Int), .slice A1 64 c1] rfl (fun j u hu => by
    rw [Addr.add_mid, hnew.cell, Nat.zero_add]
    simpa using hu) (fun u hu => by simp at hu; rcases hu with rfl | rfl <;> rfl) (by unfold maxLen; omega) (by omega) (Nat.zero_le _)
  obtain ⟨A', c', rfl, _, _⟩ := own_slice hown
  have hne := own_ne' hM2.own_l hM2.head (by decide)
  have hg' : W3.heap[g]? = W2.heap[g]? := hgrow.block g (by omega) (fun e => hne g e.symm rfl)
  have hhead : Blk W3 g 36 _ := hg'.trans hM2.head
  have hhead2 := hhead.set_ 1 (.slice A' (ls.length + 1) c')
  have hobl : ∀ k, (Value.slice A' (ls.length + 1) c').ownBlock = some k → (O k ∨ w.heap.size ≤ k) ∧ k ≠ g := by
    intro k hk
    rcases hat with e | e
    · exact ⟨.inl (hM2.ol k (e ▸ hk)), hne k (e ▸ hk)⟩
    · rw [e] at hk; injection hk with hk; exact ⟨.inr (by omega), by omega⟩
  have k1 : Keep (fun i o => i ≠ g ∧ ∀ k, (Value.slice A m c).ownBlock = some k → i ≠ k) W2 (W3.setCell ⟨g, 1, none⟩ (.slice A' (ls.length + 1) c')) :=
    ((Keep.refl W2).grown hgrow (fun b _ hb _ hK => hK.2 b hb rfl)).setCell (p := ⟨g, 1, none⟩) (fun _ _ hK => hK.1 rfl) _
  have krow : ∀ {O' : Nat → Prop} v x, Row64 W2 O' v x → Row64 (W3.setCell ⟨g, 1, none⟩ (.slice A' (ls.length + 1) c')) O' v x := fun v x hr => by
    refine ⟨ownsRow_keep hr.1 k1 fun i _ hi => ?_, hr.2⟩
    rcases hr.1.2 with ⟨rfl, _⟩ | ⟨b, cap, cur, rfl, _, hbb, _⟩
    · cases hi
    · simp [Value.ownBlock] at hi
      subst hi
      exact ⟨ne_of_types hM2.head hbb (by decide), fun k hk => fun e => own_ne' hM2.own_l (show Blk W2 b 5 cur from hbb) (by decide) k hk e.symm⟩
  refine ⟨(cell_of_heap (hb.block g hgl) 1).trans c0, A', ls.length + 1, c', W3, hrun, (cell_of_heap hg' 1).trans ((cell_of_heap (hb.block g hgl) 1).trans c0), hhead.frozen 1, ls ++ [(i, .slice A1 64 c1)], ⟨hhead2, ?_, ?_, h.lr, ?_, ?_, ?_, .inl h.og, fun k hk => .inl (h.os k hk), fun k hk => (hobl k hk).1, ?_⟩, ?_⟩
  · refine ownsRow_keep hM2.own_s k1 fun j _ hj => ⟨own_ne' hM2.own_s hM2.head (by decide) j hj, fun k hk e => ?_⟩
    subst e
    rcases hM2.own_s.2 with ⟨rfl, _⟩ | ⟨b, cap, cur, rfl, _, hbb, _⟩
    · cases hj
    · simp [Value.ownBlock] at hj
      subst hj
      exact own_ne' hM2.own_l (show Blk W2 b 22 cur from hbb) (by decide) b hk rfl
  · rw [cellsL_snoc, List.length_append]
    exact ownsRow_keep (K := fun i _ => i ≠ g) hown ((Keep.refl W3).setCell (p := ⟨g, 1, none⟩) (fun _ _ hK => hK rfl) _) fun j _ hj => (hobl j hj).2
  · intro j v x h1 h2
    exact (krow v x (hM2.rows j v x h1 h2)).more fun k hk => .inl hk
  · simp [h.ll]
  · intro j p x h1 h2
    rcases Nat.lt_or_ge j ls.length with hlt | hge
    · rw [List.getElem?_append_left hlt] at h1
      have h2' : s.l[j]? = some x := by
        have h2 : (s.l ++ [(i, xs)])[j]? = some x := h2
        rw [List.getElem?_append_left (by rw [← h.ll]; exact hlt)] at h2; exact h2
      exact ⟨(hM2.wrs j p x h1 h2').1, (krow _ _ (hM2.wrs j p x h1 h2').2).more fun k hk => .inl hk⟩
    · have hjl := (List.getElem?_eq_some_iff.1 h1).1
      simp at hjl
      obtain rfl : j = ls.length := by omega
      rw [List.getElem?_append_right (Nat.le_refl _), Nat.sub_self] at h1
      have h2 : (s.l ++ [(i, xs)])[ls.length]? = some x := h2
      rw [List.getElem?_append_right (by rw [h.ll]; exact Nat.le_refl _), h.ll, Nat.sub_self] at h2
      simp at h1 h2
      subst h1 h2
      exact ⟨rfl, krow _ _ hrow2⟩
  · exact ⟨h.ok.sure, (h.ok.wr hi hx).l, h.ok.many⟩
  · exact (Keep.of_below (K := Out O) hb).trans (k1.mono fun j _ _ hj => ⟨fun e => hj (e ▸ h.og), fun k hk e => hj (e ▸ h.ol k hk)⟩)
section
variable {w : World} {g : Nat} {O : Nat → Prop} {s : St}
theorem rwrite_len (h : RefAt w g O s) (i : Int) (A : Option Addr) (n c : Nat) (hne : n ≠ 64) : Calls Try.prog 26 #[ptr g, .int .i64 i, .slice A n c] w fun e w' => e = .returned (.bool false) ∧ w = w' := by
  obtain ⟨vs, vl, rs, ls, h⟩ := h
  obtain ⟨As, cs, rfl, _, _⟩ := own_slice h.own_s
  have c0 := h.head.cell 0
  simp at c0
  clear h
  have hne2 : ((n : Int) == 64) = false := by rw [Bool.eq_false_iff]; simp; omega
  have hne3 : ((n : Int) != 64) = true := by simp; omega
  by_cases hi0 : i < 0
  · go_enter Try.func26, Try.ntmps26
    go_wp2
    go_ret
    exact ⟨rfl, rfl⟩
  · by_cases hi1 : (rs.length : Int) ≤ i
    · go_enter Try.func26, Try.ntmps26
      go_wp2
      go_ret
      exact ⟨rfl, rfl⟩
    · go_enter Try.func26, Try.ntmps26
      go_wp2
      go_ret
      exact ⟨rfl, rfl⟩
theorem rwrite_no (h : RefAt w g O s) (i : Int) (A : Option Addr) (c : Nat) (hno : (i < 0 ∨ (s.n : Int) ≤ i) ∨ s.broken = true) : Calls Try.prog 26 #[ptr g, .int .i64 i, .slice A 64 c] w fun e w' => e = .returned (.bool false) ∧ w = w' := by
  have H := Lib.hid h
  obtain ⟨vs, vl, rs, ls, h⟩ := h
  obtain ⟨As, cs, rfl, _, _⟩ := own_slice h.own_s
  have c0 := h.head.cell 0
  simp at c0
  have hrn : rs.length = s.n := h.lr
  rw [hrn] at c0
  clear h hrn
  by_cases hi0 : i < 0
  · clear hno
    go_enter Try.func26, Try.ntmps26
    go_wp2
    go_ret
    exact ⟨rfl, rfl⟩
  · by_cases hi1 : (s.n : Int) ≤ i
    · clear hno
      go_enter Try.func26, Try.ntmps26
      go_wp2
      go_ret
      exact ⟨rfl, rfl⟩
    · have hb : s.broken = true := by
        rcases hno with hno | hno
        · omega
        · exact hno
      have HB := Lib.hid hb
      clear hno hb
      go_enter Try.func26, Try.ntmps26
      go_wp2_with (go_at_call 23; refine (rbroken_is H.out HB.out).mono ?_; rintro e w' ⟨rfl, rfl⟩)
      go_ret
      exact ⟨rfl, rfl⟩
theorem rwrite_end {W : World} {O' : Nat → Prop} {vs vl : Value} {rs : List Value} {ls : List (Nat × Value)} {t : List Sec} {i : Nat} {xs : List UInt8} (hi : i < s.n) (hx : xs.length = 64) (hok : s.ok) (hb : s.broken = false) (h : RefM W g O' vs vl rs ls t { s with l := s.l ++ [(i, xs)] }) :
    (s.ends = false → RefM (W.setCell ⟨g, 4, none⟩ (.int .i64 ((s.count : Int) + 1))) g O' vs vl rs ls t (s.wr i xs)) ∧
    (s.ends = true → RefM ((W.setCell ⟨g, 4, none⟩ (.int .i64 ((s.count : Int) + 1))).setCell ⟨g, 2, none⟩ (.int .i64 ((s.left : Int) - 1))) g O' vs vl rs ls t (s.wr i xs)) := by
  have k1 : Keep (fun i _ => i ≠ g) W (W.setCell ⟨g, 4, none⟩ (.int .i64 ((s.count : Int) + 1))) := (Keep.refl W).setCell (fun _ _ hk => hk rfl) _
  have k2 : Keep (fun i _ => i ≠ g) W ((W.setCell ⟨g, 4, none⟩ (.int .i64 ((s.count : Int) + 1))).setCell ⟨g, 2, none⟩ (.int .i64 ((s.left : Int) - 1))) := k1.setCell (fun _ _ hk => hk rfl) _
  refine ⟨fun he => h.set k1 ?_ rfl (hok.wr hi hx), fun he => h.set k2 ?_ rfl (hok.wr hi hx)⟩
  · have := h.head.set_ 4 (.int .i64 ((s.count : Int) + 1))
    simpa [St.wr, he] using this
  · have hl : 1 ≤ s.left := by
      simp [St.broken, he] at hb; omega
    have := (h.head.set_ 4 (.int .i64 ((s.count : Int) + 1))).set_ 2 (.int .i64 ((s.left : Int) - 1))
    have e : ((s.left - 1 : Nat) : Int) = (s.left : Int) - 1 := by omega
    simpa [St.wr, he, e] using this
def RWriteP (w : World) (g : Nat) (O : Nat → Prop) (s : St) (i : Nat) (xs : List UInt8) (e : Ending) (w' : World) : Prop :=
  e = .returned (.bool true) ∧ RefAt w' g (fun i => O i ∨ w.heap.size ≤ i) (s.wr i xs) ∧ Keep (Out O) w w'
set_option maxRecDepth 100000 in
set_option maxHeartbeats 1000000 in
theorem rwrite_ (h : RefAt w g O s) (hb : s.broken = false) (hl : s.l.length ≤ 1000000) (hc : s.count ≤ 1000000) (hleft : s.left ≤ 9223372036854775807) (i : Nat) (hi : i < s.n) (b ob cb : Nat) (xs : List UInt8) (hx : xs.length = 64) (hB : ∀ j u, (cellsB xs)[j]? = some u → w.cell? ⟨b, ob + j, none⟩ = some u) :
    Calls Try.prog 26 #[ptr g, .int .i64 (i : Int), .slice (some ⟨b, ob, none⟩) 64 cb] w (RWriteP w g O s i xs) := by
  have H := Lib.hid h
  have HB := Lib.hid hb
  obtain ⟨vs, vl, rs, ls, h⟩ := h
  obtain ⟨A, c, rfl, _, _⟩ := own_slice h.own_l
  obtain ⟨As, cs, rfl, _, _⟩ := own_slice h.own_s
  obtain ⟨m, hm⟩ : ∃ m, ls.length = m := ⟨_, rfl⟩
  have hml : m ≤ 1000000 := by rw [← hm, h.ll]; exact hl
  rw [hm] at h
  obtain ⟨h0, A1, c1, W1, ha1, h1, h2, A', m', c', W3, ha2, h3, hf3, ls', hM, hK⟩ := rwrite_mem (cb := cb) h hm hml hi hx hB
  have hn : s.n ≤ 4096 := h.ok.many
  have d0 := h.head.cell 0
  simp at d0
  have hrn : rs.length = s.n := h.lr
  rw [hrn] at d0
  have HE := Lib.hid (rwrite_end hi hx h.ok hb hM)
  have HOG := Lib.hid h.og
  have HBU := Lib.hid (fun W => build58 (i : Int) A1 64 c1 W)
  have HBS := Lib.hid (fun W => buildS38 (i : Int) A1 64 c1 W)
  have HS0 := Lib.hid h0
  have HS1 := Lib.hid h1
  have HS2 := Lib.hid h2
  have HS3 := Lib.hid h3
  have HA1 := Lib.hid ha1
  have HA2 := Lib.hid ha2
  have HK := Lib.hid hK
  have e2 := hM.head.cell 2
  have e3 := hM.head.cell 3
  have e4 := hM.head.cell 4
  have g2 := hM.head.frozen 2
  have g4 := hM.head.frozen 4
  simp only [List.getElem?_toArray, List.getElem?_cons_succ, List.getElem?_cons_zero] at e2 e3 e4
  have d1 := h3
  generalize hW4 : W3.setCell ⟨g, 1, none⟩ (.slice A' m' c') = W4 at *
  have HW4 := Lib.hid hW4
  clear h h0 h1 h2 h3 ha1 ha2 hM hK hb hx hB hm hrn hW4
  go_enter Try.func26, Try.ntmps26
  go_wp2_with (go_at_call 23; refine (rbroken_is H.out HB.out).mono ?_; rintro e w' ⟨rfl, rfl⟩)
  refine wp_region_noPanic ?_
  refine wp_region_K (k := 13) (S := fun w' => w'.cell? ⟨g, 1, none⟩ = some (.slice A m c)) (by kernel_rfl) ?_
  refine wpAnyK_takeW (i := 0) (oi := { dst := some 27, op := Op.move (Operand.tmp 0), type := 26, pos := "disk.go:192", after := #[], guard := none }) (v := ptr g) rfl (by kernel_rfl) (by kernel_rfl) (by kernel_rfl) (fun _ _ _ h => h) (by decide) HS0.out (by rfl) ?_ ?_
  · intro W; go_simp
  try simp only [Act.put, List.setIfInBounds_toArray, List.set_cons_zero, List.set_cons_succ]
  refine wpAnyK_takeW (i := 1) (oi := { dst := some 28, op := Op.move (Operand.tmp 0), type := 26, pos := "disk.go:192", after := #[], guard := none }) (v := ptr g) rfl (by kernel_rfl) (by kernel_rfl) (by kernel_rfl) (fun _ _ _ h => h) (by decide) HS0.out (by rfl) ?_ ?_
  · intro W; go_simp
  try simp only [Act.put, List.setIfInBounds_toArray, List.set_cons_zero, List.set_cons_succ]
  refine wpAnyK_takeW (i := 2) (oi := { dst := some 29, op := Op.nilCheck (Operand.tmp 28), type := 0, pos := "disk.go:192", after := #[{ on := 1, ground := Ground.data }], guard := none }) (v := ptr g) rfl (by kernel_rfl) (by kernel_rfl) (by kernel_rfl) (fun _ _ _ h => h) (by decide) HS0.out (by rfl) ?_ ?_
  · intro W; go_simp
  try simp only [Act.put, List.setIfInBounds_toArray, List.set_cons_zero, List.set_cons_succ]
  refine wpAnyK_takeW (i := 3) (oi := { dst := some 30, op := Op.fieldAddr 36 (Operand.tmp 29) 1, type := 0, pos := "disk.go:192", after := #[{ on := 2, ground := Ground.data }], guard := none }) (v := .pointer (some ⟨g, 1, none⟩)) rfl (by kernel_rfl) (by kernel_rfl) (by kernel_rfl) (fun _ _ _ h => h) (by decide) HS0.out (by rfl) ?_ ?_
  · intro W; go_simp
  try simp only [Act.put, List.setIfInBounds_toArray, List.set_cons_zero, List.set_cons_succ]
  refine wpAnyK_take (i := 4) (oi := { dst := some 31, op := Op.load 34 (Operand.tmp 30), type := 34, pos := "disk.go:192", after := #[{ on := 3, ground := Ground.data }], guard := none }) (v := .slice A m c) rfl (by kernel_rfl) (by kernel_rfl) (by kernel_rfl) (by kernel_rfl) (by kernel_rfl) (fun _ _ _ h => h) (by decide) HS0.out (by rfl) ?_ ?_
  · intro W hSw; go_simp
  try simp only [Act.put, List.setIfInBounds_toArray, List.set_cons_zero, List.set_cons_succ]
  refine wpAnyK_takeW (i := 5) (oi := { dst := some 32, op := Op.move (Operand.tmp 1), type := 3, pos := "disk.go:192", after := #[], guard := none }) (v := .int .i64 (i : Int)) rfl (by kernel_rfl) (by kernel_rfl) (by kernel_rfl) (fun _ _ _ h => h) (by decide) HS0.out (by rfl) ?_ ?_
  · intro W; go_simp
  try simp only [Act.put, List.setIfInBounds_toArray, List.set_cons_zero, List.set_cons_succ]
  refine wpAnyK_takeW (i := 6) (oi := { dst := some 33, op := Op.move (Operand.tmp 2), type := 22, pos := "disk.go:192", after := #[], guard := none }) (v := .slice (some ⟨b, ob, none⟩) 64 cb) rfl (by kernel_rfl) (by kernel_rfl) (by kernel_rfl) (fun _ _ _ h => h) (by decide) HS0.out (by rfl) ?_ ?_
  · intro W; go_simp
  try simp only [Act.put, List.setIfInBounds_toArray, List.set_cons_zero, List.set_cons_succ]
  refine wpAnyK_one (i := 7) (o := { dst := some 34, op := Op.call { callee := Callee.builtin Builtin.append, args := #[Operand.const (Value.slice none 0 0), Operand.tmp 33], argTypes := #[22, 22] }, type := 22, pos := "disk.go:192", after := #[{ on := 6, ground := Ground.data }], guard := none }) (v := _) (w' := _) (by kernel_rfl) rfl (by rfl) (exec_append rfl rfl rfl HA1.out) (HS1.out) ?_
  try simp only [Act.put, List.setIfInBounds_toArray, List.set_cons_zero, List.set_cons_succ]
  refine wpAnyK_one (i := 8) (o := { dst := some 35, op := Op.build 53 #[(0, Operand.tmp 32), (1, Operand.tmp 34)], type := 53, pos := "disk.go:192", after := #[{ on := 5, ground := Ground.data }, { on := 7, ground := Ground.data }], guard := none }) (v := _) (w' := _) (by kernel_rfl) rfl (by rfl) (exec_build2 rfl rfl rfl (HBU.out _)) (HS1.out) ?_
  try simp only [Act.put, List.setIfInBounds_toArray, List.set_cons_zero, List.set_cons_succ]
  refine wpAnyK_one (i := 9) (o := { dst := some 36, op := Op.buildSlice 34 1 #[(0, Operand.tmp 35)], type := 34, pos := "disk.go:192", after := #[{ on := 8, ground := Ground.data }], guard := none }) (v := _) (w' := _) (by kernel_rfl) rfl (by rfl) (exec_buildS1 rfl rfl (HBS.out _)) (HS2.out) ?_
  try simp only [Act.put, List.setIfInBounds_toArray, List.set_cons_zero, List.set_cons_succ]
  refine wpAnyK_one (i := 10) (o := { dst := some 37, op := Op.call { callee := Callee.builtin Builtin.append, args := #[Operand.tmp 31, Operand.tmp 36], argTypes := #[34, 34] }, type := 34, pos := "disk.go:192", after := #[{ on := 4, ground := Ground.data }, { on := 9, ground := Ground.data }, { on := 7, ground := Ground.chain }], guard := none }) (v := _) (w' := _) (by kernel_rfl) rfl (by rfl) (exec_append rfl rfl rfl HA2.out) (HS3.out) ?_
  try simp only [Act.put, List.setIfInBounds_toArray, List.set_cons_zero, List.set_cons_succ]
  refine wpAnyK_one (i := 11) (o := { dst := some 38, op := Op.nilCheck (Operand.tmp 27), type := 0, pos := "disk.go:192", after := #[{ on := 0, ground := Ground.data }, { on := 0, ground := Ground.phase }, { on := 1, ground := Ground.phase }, { on := 2, ground := Ground.phase }, { on := 3, ground := Ground.phase }, { on := 4, ground := Ground.phase }, { on := 5, ground := Ground.phase }, { on := 6, ground := Ground.phase }, { on := 7, ground := Ground.phase }, { on := 8, ground := Ground.phase }, { on := 9, ground := Ground.phase }, { on := 10, ground := Ground.phase }], guard := none }) (v := ptr g) (w' := W3) (by kernel_rfl) rfl (by rfl) (by go_simp) (HS3.out) ?_
  try simp only [Act.put, List.setIfInBounds_toArray, List.set_cons_zero, List.set_cons_succ]
  refine wpAnyK_one (i := 12) (o := { dst := some 39, op := Op.fieldAddr 36 (Operand.tmp 38) 1, type := 0, pos := "disk.go:192", after := #[{ on := 11, ground := Ground.data }, { on := 0, ground := Ground.phase }, { on := 1, ground := Ground.phase }, { on := 2, ground := Ground.phase }, { on := 3, ground := Ground.phase }, { on := 4, ground := Ground.phase }, { on := 5, ground := Ground.phase }, { on := 6, ground := Ground.phase }, { on := 7, ground := Ground.phase }, { on := 8, ground := Ground.phase }, { on := 9, ground := Ground.phase }, { on := 10, ground := Ground.phase }], guard := none }) (v := .pointer (some ⟨g, 1, none⟩)) (w' := W3) (by kernel_rfl) rfl (by rfl) (by go_simp) (HS3.out) ?_
  try simp only [Act.put, List.setIfInBounds_toArray, List.set_cons_zero, List.set_cons_succ]
  refine wpAnyK_store (i := 13) (o := { dst := none, op := Op.store 34 (Operand.tmp 39) (Operand.tmp 37), type := 0, pos := "disk.go:192", after := #[{ on := 12, ground := Ground.data }, { on := 10, ground := Ground.data }, { on := 10, ground := Ground.chain }, { on := 0, ground := Ground.phase }, { on := 1, ground := Ground.phase }, { on := 2, ground := Ground.phase }, { on := 3, ground := Ground.phase }, { on := 4, ground := Ground.phase }, { on := 5, ground := Ground.phase }, { on := 6, ground := Ground.phase }, { on := 7, ground := Ground.phase }, { on := 8, ground := Ground.phase }, { on := 9, ground := Ground.phase }, { on := 10, ground := Ground.phase }], guard := none }) (w' := W3.setCell ⟨g, 1, none⟩ (.slice A' m' c')) (by kernel_rfl) rfl (by rfl) (by go_simp) (by kernel_rfl) ?_
  try simp only [Act.put]
  refine wpAnyK_done (by kernel_rfl) ?_ _
  refine NoPanic.normal ?_
  rw [HW4.out]
  go_wp2
  · have he : s.ends = true := by assumption
    go_ret
    exact ⟨rfl, ⟨_, _, _, _, HE.out.2 he⟩, (HK.out.setCell (p := ⟨g, 4, none⟩) (fun _ _ hk => hk HOG.out) _).setCell (p := ⟨g, 2, none⟩) (fun _ _ hk => hk HOG.out) _⟩
  · have he : s.ends = false := by assumption
    go_ret
    exact ⟨rfl, ⟨_, _, _, _, HE.out.1 he⟩, HK.out.setCell (p := ⟨g, 4, none⟩) (fun _ _ hk => hk HOG.out) _⟩
end
end Go.Proofs.Ytfccghbhkgnmlaa
