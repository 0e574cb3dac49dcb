/- What NewDisk of the document answers. -/
import Derived.Test.YtfccghbhkgnmlaaRefSmall
import Derived.Test.YtfccghbhkgnmlaaWrite
namespace Go.Proofs.Ytfccghbhkgnmlaa
open Go.RowKit
theorem buildS37 (A : Option Addr) (n c : Nat) (W : World) : (Instr.buildSlice 33 1 #[(0, .slice A n c)]).run Try.prog W = .ok (.slice (some ⟨W.heap.size, 0, none⟩) 1 1) (W.alloc (.cells #[.slice A n c] 22)) := by
  obtain ⟨i0, hi, hz0, hz1, hz2⟩ := info_parts info32
  simp only [Instr.buildSlice, Sem.run_bind, run_underlying Try.underlying33]
  simp [zeroValue, typeInfo, sizeOf, hi, hz0, hz1, Value.cells, newRow, Instr.fill, Array.range_succ, Array.range_zero']
theorem row_made (W : World) (O : Nat → Prop) (hO : O W.heap.size) : Row64 (W.alloc (.cells (cellsB (zeros 64)).toArray 5)) O (.slice (some ⟨W.heap.size, 0, none⟩) 64 64) (zeros 64) :=
  ⟨⟨by rw [cellsB_length, zeros_length], .inr ⟨W.heap.size, 64, _, rfl, Nat.zero_le _, Blk.new W 5 _, Nat.le_refl _, by unfold maxLen; omega, by rw [List.size_toArray, cellsB_length, zeros_length], by
    rw [List.toList_toArray, List.take_of_length_le (by rw [cellsB_length, zeros_length]; omega)]⟩⟩, fun k hk => by
    simp [Value.ownBlock] at hk; subst hk; exact hO⟩
theorem new_step {wr : World} {g B : Nat} {A : Option Addr} {c j : Nat} {vl : Value} {rs : List Value} (hj : j + 1 ≤ 4096) (hB : B ≤ wr.heap.size) (h : RefM wr g (Hi B) (.slice A j c) vl rs [] (St.new j).sure (St.new j)) :
    wr.drew.cell? ⟨g, 0, none⟩ = some (.slice A j c) ∧ (wr.drew.alloc (.cells (cellsB (zeros 64)).toArray 5)).cell? ⟨g, 0, none⟩ = some (.slice A j c) ∧
    ((wr.drew.alloc (.cells (cellsB (zeros 64)).toArray 5)).alloc (.cells #[.slice (some ⟨wr.heap.size, 0, none⟩) 64 64] 22)).cell? ⟨g, 0, none⟩ = some (.slice A j c) ∧
    ∃ A' c' W', (Builtin.append_ #[33, 33] 33 #[.slice A j c, .slice (some ⟨(wr.drew.alloc (.cells (cellsB (zeros 64)).toArray 5)).heap.size, 0, none⟩) 1 1]).run Try.prog ((wr.drew.alloc (.cells (cellsB (zeros 64)).toArray 5)).alloc (.cells #[.slice (some ⟨wr.heap.size, 0, none⟩) 64 64] 22)) = .ok (.slice A' (j + 1) c') W' ∧
      W'.cell? ⟨g, 0, none⟩ = some (.slice A j c) ∧ W'.frozen? ⟨g, 0, none⟩ = false ∧ (∃ rs', RefM (W'.setCell ⟨g, 0, none⟩ (.slice A' (j + 1) c')) g (Hi B) (.slice A' (j + 1) c') vl rs' [] (St.new (j + 1)).sure (St.new (j + 1))) ∧
      Keep (fun i _ => i < B) wr (W'.setCell ⟨g, 0, none⟩ (.slice A' (j + 1) c')) ∧ B ≤ (W'.setCell ⟨g, 0, none⟩ (.slice A' (j + 1) c')).heap.size := by
  have hgl := h.head.lt
  have c0 : wr.cell? ⟨g, 0, none⟩ = some (.slice A j c) := by rw [h.head.cell]; rfl
  have hrl : rs.length = j := by rw [h.lr]; simp [St.new]
  generalize hW1 : wr.drew.alloc (.cells (cellsB (zeros 64)).toArray 5) = W1
  have hb1 : Below wr.heap.size wr W1 := by rw [← hW1]; exact ((Below.refl wr.heap.size wr).drew).alloc (Nat.le_refl _) _
  have hs1 : W1.heap.size = wr.heap.size + 1 := by rw [← hW1]; simp
  have hrow1 : Row64 W1 (Hi B) (.slice (some ⟨wr.heap.size, 0, none⟩) 64 64) (zeros 64) := by rw [← hW1]; exact row_made wr.drew _ hB
  generalize hW2 : W1.alloc (.cells #[.slice (some ⟨wr.heap.size, 0, none⟩) 64 64] 22) = W2
  have hb2 : Below W1.heap.size W1 W2 := by rw [← hW2]; exact alloc_below W1 _
  have hs2 : W2.heap.size = wr.heap.size + 2 := by rw [← hW2]; simp [hs1]
  have hb : Below wr.heap.size wr W2 := hb1.trans (hb2.mono (by omega))
  have hnew : Blk W2 W1.heap.size 22 #[.slice (some ⟨wr.heap.size, 0, none⟩) 64 64] := by rw [← hW2]; exact Blk.new W1 22 _
  have hM2 : RefM W2 g (Hi B) (.slice A j c) vl rs [] (St.new j).sure (St.new j) := h.keep (K := fun _ _ => True) (Keep.of_below hb) fun _ _ _ => trivial
  have hrow2 : Row64 W2 (Hi B) (.slice (some ⟨wr.heap.size, 0, none⟩) 64 64) (zeros 64) := hrow1.keep (K := fun _ _ => True) (Keep.of_below hb2) fun _ _ _ => trivial
  obtain ⟨i0, hi0, hz0, hz1, hz2⟩ := info_parts info32
  obtain ⟨v', W', hrun, hown, hgrow, _, hat⟩ := run_append_own_at (P := Try.prog) W2 0 33 33 22 i0 _ 1 24 Try.underlying33 hi0 hz0 hz1 hz2 rfl (by omega) _ _ _ hM2.own_s ⟨W1.heap.size, 0, none⟩ 1 1 [.slice (some ⟨wr.heap.size, 0, none⟩) 64 64] rfl (fun i u hu => by
    rw [Addr.add_mid, hnew.cell, Nat.zero_add]
    simpa using hu) (fun u hu => by simp at hu; subst hu; rfl) (by unfold maxLen; omega) (by omega) (Nat.zero_le _)
  rw [hrl] at hown
  obtain ⟨A', c', rfl, _, _⟩ := own_slice hown
  have hne := own_ne' hM2.own_s hM2.head (by decide)
  have hg' : W'.heap[g]? = W2.heap[g]? := hgrow.block g (by omega) (fun e => hne g e.symm rfl)
  have hhead : Blk W' g 36 _ := hg'.trans hM2.head
  have hhead2 := hhead.set_ 0 (.slice A' (j + 1) c')
  have hobl : ∀ k, (Value.slice A' (j + 1) c').ownBlock = some k → B ≤ k ∧ k ≠ g := by
    intro k hk
    rcases hat with e | e
    · exact ⟨hM2.os k (e ▸ hk), hne k (e ▸ hk)⟩
    · rw [e] at hk; injection hk with hk; exact ⟨by omega, by omega⟩
  have k1 : Keep (fun i o => i ≠ g ∧ ∀ k, (Value.slice A j c).ownBlock = some k → i ≠ k) W2 (W'.setCell ⟨g, 0, none⟩ (.slice A' (j + 1) c')) :=
    ((Keep.refl W2).grown hgrow (fun b _ hb _ hK => hK.2 b hb rfl)).setCell (p := ⟨g, 0, none⟩) (fun _ _ hK => hK.1 rfl) _
  have krow : ∀ v x, Row64 W2 (Hi B) v x → Row64 (W'.setCell ⟨g, 0, none⟩ (.slice A' (j + 1) c')) (Hi B) v x := fun v x hr => by
    refine ⟨ownsRow_keep hr.1 k1 fun i _ hi => ?_, hr.2⟩
    rcases hr.1.2 with ⟨rfl, _⟩ | ⟨b, cap, cur, rfl, _, hbb, _⟩
    · cases hi
    · simp [Value.ownBlock] at hi
      subst hi
      exact ⟨ne_of_types hM2.head hbb (by decide), fun k hk => fun e => own_ne' hM2.own_s (show Blk W2 b 5 cur from hbb) (by decide) k hk e.symm⟩
  have hsz : W2.heap.size ≤ W'.heap.size := hgrow.size
  refine ⟨c0, ?_, ?_, A', c', W', hrun, ?_, hhead.frozen 0, ⟨rs ++ [.slice (some ⟨wr.heap.size, 0, none⟩) 64 64], ⟨hhead2, ?_, ?_, ?_, ?_, rfl, (fun i p x h1 => by simp at h1), h.og, fun k hk => (hobl k hk).1, hM2.ol, St.ok.new hj⟩⟩, ?_, ?_⟩
  · exact (cell_of_heap (hb1.block g hgl) 0).trans c0
  · exact (cell_of_heap (hb.block g hgl) 0).trans c0
  · exact (cell_of_heap hg' 0).trans ((cell_of_heap (hb.block g hgl) 0).trans c0)
  · have : (rs ++ [Value.slice (some ⟨wr.heap.size, 0, none⟩) 64 64]).length = j + 1 := by simp [hrl]
    rw [this]
    exact ownsRow_keep (K := fun i _ => i ≠ g) hown ((Keep.refl W').setCell (p := ⟨g, 0, none⟩) (fun _ _ hK => hK rfl) _) fun i _ hi => (hobl i hi).2
  · refine ownsRow_keep hM2.own_l k1 fun i _ hi => ⟨own_ne' hM2.own_l hM2.head (by decide) i hi, fun k hk e => ?_⟩
    subst e
    have h1 := hM2.own_l.2
    have h2 := hM2.own_s.2
    rcases h1 with ⟨rfl, _⟩ | ⟨b, cap, cur, rfl, _, hbb, _⟩
    · cases hi
    · simp [Value.ownBlock] at hi
      subst hi
      exact own_ne' hM2.own_s (show Blk W2 b 53 cur from hbb) (by decide) b hk rfl
  · simp [St.new, hrl]
  · intro i v x h1 h2
    rcases Nat.lt_or_ge i j with hlt | hge
    · rw [List.getElem?_append_left (by omega)] at h1
      refine krow v x (hM2.rows i v x h1 ?_)
      simp only [St.new, List.getElem?_replicate] at h2 ⊢
      rw [if_pos (by omega)] at h2
      rw [if_pos hlt]; exact h2
    · have hl := (List.getElem?_eq_some_iff.1 h1).1
      simp at hl
      obtain rfl : i = j := by omega
      rw [List.getElem?_append_right (by omega), hrl, Nat.sub_self] at h1
      simp at h1
      subst h1
      simp only [St.new, List.getElem?_replicate] at h2
      rw [if_pos (by omega)] at h2
      injection h2 with h2
      subst h2
      exact krow _ _ hrow2
  · exact (Keep.of_below (K := fun i _ => i < B) hb).trans (k1.mono fun i _ _ hi => ⟨fun e => by have := h.og; simp only [Hi] at this; omega, fun k hk e => by have := hM2.os k hk; simp only [Hi] at this; omega⟩)
  · simp [World.setCell]; omega
def NewRel (w : World) (g k m : Nat) (i : Value) (wr : World) : Prop :=
  ∃ j, j + k = m ∧ i = .int .i64 ((m - j : Nat) : Int) ∧ w.heap.size ≤ wr.heap.size ∧ Keep (fun i _ => i < w.heap.size) w wr ∧ ∃ A c vl rs, RefM wr g (Hi w.heap.size) (.slice A j c) vl rs [] (St.new j).sure (St.new j)
def NewRP (w : World) (n : Nat) (e : Ending) (w' : World) : Prop := e = .returned (ptr w.heap.size) ∧ RefAt w' w.heap.size (Hi w.heap.size) (St.new n) ∧ Below w.heap.size w w' ∧ w.heap.size < w'.heap.size
set_option maxRecDepth 100000 in
set_option maxHeartbeats 1000000 in
theorem rnew_ (w : World) (n : Int) : Calls Try.prog 8 #[.int .i64 n] w (NewRP w (cutN n)) := by
  have hcut : cutI n 0 4096 = (cutN n : Int) := by unfold cutI cutN; split <;> (try split) <;> omega
  have hm : cutN n ≤ 4096 := by unfold cutN; omega
  have HC := Lib.hid hcut
  clear hcut
  generalize cutN n = m at *
  go_enter Try.func8, Try.ntmps8
  go_wp2_with fail
  refine (cut_ n 0 4096 _).mono ?_
  rintro e w1 ⟨rfl, rfl⟩
  rw [HC.out]
  clear HC
  go_wp2
  go_loopg [4] m (fun k i wr => NewRel w w.heap.size k m i wr)
  case atStart =>
    refine ⟨0, by omega, by simp, by simp, (Keep.refl w).alloc _, none, 0, .slice none 0 0, [], ⟨Blk.new w 36 _, World.ownsRow_nil _ _ _ _, World.ownsRow_nil _ _ _ _, rfl, (fun i v x h1 => by simp at h1), rfl, (fun i p x h1 => by simp at h1), Nat.le_refl _, (fun k hk => by cases hk), (fun k hk => by cases hk), St.ok.new (by omega)⟩⟩
  case round =>
    obtain ⟨j, hj, rfl, hBs, hkw, A, c, vl, rs, hM⟩ := hrel
    have HJ := Lib.hid hj
    have HKW := Lib.hid hkw
    have HM := Lib.hid hM
    by_cases hlt : j < m
    · obtain ⟨h0, h1, h2, A', c', W', hap, h3, hf, hM', hk', hs'⟩ := new_step (by omega) hBs hM
      have HS0 := Lib.hid h0
      have HS1 := Lib.hid h1
      have HS2 := Lib.hid h2
      have HS3 := Lib.hid h3
      have HAP := Lib.hid hap
      have HM' := Lib.hid hM'
      have HK' := Lib.hid hk'
      have HBS := Lib.hid (fun W => buildS37 (some ⟨wr.heap.size, 0, none⟩) 64 64 W)
      have hmj : 1 ≤ m - j := by omega
      have hm1 : ((m - j : Nat) : Int) = (m : Int) - (j : Int) := by omega
      rw [hm1]
      have d0 := h3
      clear h0 h1 h2 hap h3 hM' hk' hM hkw hj hm1
      go_wp2
      refine wp_region_noPanic ?_
      refine wp_region_K (k := 10) (S := fun w' => w'.cell? ⟨w.heap.size, 0, none⟩ = some (.slice A j c)) (by kernel_rfl) ?_
      refine wpAnyK_takeW (i := 0) (oi := { dst := some 13, op := Op.move (Operand.tmp 3), type := 26, pos := "disk.go:162", after := #[], guard := none }) (v := ptr w.heap.size) rfl (by kernel_rfl) (by kernel_rfl) (by kernel_rfl) (fun _ _ _ h => h) (by decide) HS0.out (by rfl) ?_ ?_
      · intro W; go_simp
      try simp only [Act.put, List.setIfInBounds_toArray, List.set_cons_zero, List.set_cons_succ]
      refine wpAnyK_takeW (i := 1) (oi := { dst := some 14, op := Op.move (Operand.tmp 3), type := 26, pos := "disk.go:162", after := #[], guard := none }) (v := ptr w.heap.size) rfl (by kernel_rfl) (by kernel_rfl) (by kernel_rfl) (fun _ _ _ h => h) (by decide) HS0.out (by rfl) ?_ ?_
      · intro W; go_simp
      try simp only [Act.put, List.setIfInBounds_toArray, List.set_cons_zero, List.set_cons_succ]
      refine wpAnyK_takeW (i := 2) (oi := { dst := some 15, op := Op.nilCheck (Operand.tmp 14), type := 0, pos := "disk.go:162", after := #[{ on := 1, ground := Ground.data }], guard := none }) (v := ptr w.heap.size) rfl (by kernel_rfl) (by kernel_rfl) (by kernel_rfl) (fun _ _ _ h => h) (by decide) HS0.out (by rfl) ?_ ?_
      · intro W; go_simp
      try simp only [Act.put, List.setIfInBounds_toArray, List.set_cons_zero, List.set_cons_succ]
      refine wpAnyK_takeW (i := 3) (oi := { dst := some 16, op := Op.fieldAddr 36 (Operand.tmp 15) 0, type := 0, pos := "disk.go:162", after := #[{ on := 2, ground := Ground.data }], guard := none }) (v := .pointer (some ⟨w.heap.size, 0, none⟩)) rfl (by kernel_rfl) (by kernel_rfl) (by kernel_rfl) (fun _ _ _ h => h) (by decide) HS0.out (by rfl) ?_ ?_
      · intro W; go_simp
      try simp only [Act.put, List.setIfInBounds_toArray, List.set_cons_zero, List.set_cons_succ]
      refine wpAnyK_take (i := 4) (oi := { dst := some 17, op := Op.load 33 (Operand.tmp 16), type := 33, pos := "disk.go:162", after := #[{ on := 3, ground := Ground.data }], guard := none }) (v := .slice A j c) rfl (by kernel_rfl) (by kernel_rfl) (by kernel_rfl) (by kernel_rfl) (by kernel_rfl) (fun _ _ _ h => h) (by decide) HS0.out (by rfl) ?_ ?_
      · intro W hSw; go_simp
      try simp only [Act.put, List.setIfInBounds_toArray, List.set_cons_zero, List.set_cons_succ]
      refine wpAnyK_one (i := 5) (o := { dst := some 18, op := Op.makeSlice 22 (Operand.const (Value.int IntKind.i64 64)) (Operand.const (Value.int IntKind.i64 64)), type := 22, pos := "disk.go:162", after := #[], guard := none }) (v := .slice (some ⟨wr.heap.size, 0, none⟩) 64 64) (w' := wr.drew.alloc (.cells (cellsB (zeros 64)).toArray 5)) (by kernel_rfl) rfl (by rfl) (exec_value rfl (make64 _)) (HS1.out) ?_
      try simp only [Act.put, List.setIfInBounds_toArray, List.set_cons_zero, List.set_cons_succ]
      refine wpAnyK_one (i := 6) (o := { dst := some 19, op := Op.buildSlice 33 1 #[(0, Operand.tmp 18)], type := 33, pos := "disk.go:162", after := #[{ on := 5, ground := Ground.data }], guard := none }) (v := _) (w' := _) (by kernel_rfl) rfl (by rfl) (exec_buildS1 rfl rfl (HBS.out _)) (HS2.out) ?_
      try simp only [Act.put, List.setIfInBounds_toArray, List.set_cons_zero, List.set_cons_succ]
      refine wpAnyK_one (i := 7) (o := { dst := some 20, op := Op.call { callee := Callee.builtin Builtin.append, args := #[Operand.tmp 17, Operand.tmp 19], argTypes := #[33, 33] }, type := 33, pos := "disk.go:162", after := #[{ on := 4, ground := Ground.data }, { on := 6, ground := Ground.data }], guard := none }) (v := _) (w' := _) (by kernel_rfl) rfl (by rfl) (exec_append rfl rfl rfl HAP.out) (HS3.out) ?_
      try simp only [Act.put, List.setIfInBounds_toArray, List.set_cons_zero, List.set_cons_succ]
      refine wpAnyK_one (i := 8) (o := { dst := some 21, op := Op.nilCheck (Operand.tmp 13), type := 0, pos := "disk.go:162", after := #[{ on := 0, ground := Ground.data }, { on := 0, ground := Ground.phase }, { on := 1, ground := Ground.phase }, { on := 2, ground := Ground.phase }, { on := 3, ground := Ground.phase }, { on := 4, ground := Ground.phase }, { on := 5, ground := Ground.phase }, { on := 6, ground := Ground.phase }, { on := 7, ground := Ground.phase }], guard := none }) (v := ptr w.heap.size) (w' := W') (by kernel_rfl) rfl (by rfl) (by go_simp) (HS3.out) ?_
      try simp only [Act.put, List.setIfInBounds_toArray, List.set_cons_zero, List.set_cons_succ]
      refine wpAnyK_one (i := 9) (o := { dst := some 22, op := Op.fieldAddr 36 (Operand.tmp 21) 0, type := 0, pos := "disk.go:162", after := #[{ on := 8, ground := Ground.data }, { on := 0, ground := Ground.phase }, { on := 1, ground := Ground.phase }, { on := 2, ground := Ground.phase }, { on := 3, ground := Ground.phase }, { on := 4, ground := Ground.phase }, { on := 5, ground := Ground.phase }, { on := 6, ground := Ground.phase }, { on := 7, ground := Ground.phase }], guard := none }) (v := .pointer (some ⟨w.heap.size, 0, none⟩)) (w' := W') (by kernel_rfl) rfl (by rfl) (by go_simp) (HS3.out) ?_
      try simp only [Act.put, List.setIfInBounds_toArray, List.set_cons_zero, List.set_cons_succ]
      refine wpAnyK_store (i := 10) (o := { dst := none, op := Op.store 33 (Operand.tmp 22) (Operand.tmp 20), type := 0, pos := "disk.go:162", after := #[{ on := 9, ground := Ground.data }, { on := 7, ground := Ground.data }, { on := 7, ground := Ground.chain }, { on := 0, ground := Ground.phase }, { on := 1, ground := Ground.phase }, { on := 2, ground := Ground.phase }, { on := 3, ground := Ground.phase }, { on := 4, ground := Ground.phase }, { on := 5, ground := Ground.phase }, { on := 6, ground := Ground.phase }, { on := 7, ground := Ground.phase }], guard := none }) (w' := W'.setCell ⟨w.heap.size, 0, none⟩ (.slice A' (j + 1) c')) (by kernel_rfl) rfl (by rfl) (by go_simp) (by kernel_rfl) ?_
      try simp only [Act.put]
      refine wpAnyK_done (by kernel_rfl) ?_ _
      refine NoPanic.normal ?_
      go_wp2
      go_roundg (m - (j + 1))
      case measure => have := HJ.out; omega
      case rel =>
        obtain ⟨rs', hr'⟩ := HM'.out
        exact ⟨j + 1, by omega, by go_num, hs', HKW.out.trans HK'.out, A', c', vl, rs', hr'⟩
    · obtain rfl : j = m := by omega
      have hz : ((j - j : Nat) : Int) = 0 := by omega
      rw [hz]
      clear hj hM hkw hz hlt
      go_wp2
      go_ret
      exact ⟨rfl, ⟨_, _, _, _, HM.out⟩, below_of_keep HKW.out (Nat.le_refl _), HM.out.head.lt⟩
end Go.Proofs.Ytfccghbhkgnmlaa
