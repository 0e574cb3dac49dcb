/- MessageTells, walked. -/
import Derived.Test.YtppmpgggjokgdaaMsB
import Derived.Test.YtppmpgggjokgdaaOrderH
set_option maxRecDepth 4000
namespace Go.Proofs.Ytppmpgggjokgdaa
open Go Go.RowKit
theorem exec_valM {P : Program} {o : Oper} {a : Act} {x : Sem Value} {w w' : World} {v : Value} (h : execOp a.eval o = (do pure (.value (← x)))) (hx : x.run P w = .ok v w') : (execOp a.eval o).run P w = .ok (.value v) w' := by
  rw [h]; simp [hx]
theorem rb_made {w : World} {g n : Nat} {xs : List UInt8} (h : Blk w g 5 (cellsB xs).toArray) (hn : xs.length = n) : RB w (Nat.succ g) (some ⟨g, 0, none⟩) n xs := by
  subst hn
  exact blk_rb h (Nat.lt_succ_self _)
set_option maxHeartbeats 2000000 in
theorem messageTells (m : Mg) (hm : m.fits) (limit : Int) (w : World) : Calls Try.prog 3 #[m.val, .int .i64 limit] w fun e w' => e = .returned (.bool true) ∧ Below w.heap.size w w' := by
  obtain ⟨i, p, r, cl, c, b⟩ := m
  have H0 := Lib.hid (LB.first w ⟨i, p, r, cl, c, b⟩)
  by_cases hc : 200 < (c.size : Int)
  · go_enter Try.func3, Try.ntmps3
    go_wp2_with fail
    refine (alive_ _).mono ?_
    rintro e w1 ⟨rfl, hb1⟩
    have H1 := Lib.hid (H0.out.next hb1)
    have q4 := H1.out.box.cell 4
    clear hb1
    go_wp2_with fail
    go_ret
    exact ⟨rfl, H1.out.bel⟩
  by_cases hb : 300 < (b.size : Int)
  · go_enter Try.func3, Try.ntmps3
    go_wp2_with fail
    refine (alive_ _).mono ?_
    rintro e w1 ⟨rfl, hb1⟩
    have H1 := Lib.hid (H0.out.next hb1)
    have q4 := H1.out.box.cell 4
    have q5 := H1.out.box.cell 5
    clear hb1
    go_wp2_with fail
    go_ret
    exact ⟨rfl, H1.out.bel⟩
  have hmb := mbytes_ ⟨i, p, r, cl, c, b⟩ (by show c.size ≤ 9000; omega) (by show b.size ≤ 9000; omega)
  have hrb := msgBytes_ ⟨i, p, r, cl, c, b⟩ (by show c.size ≤ 9000; omega) (by show b.size ≤ 9000; omega)
  have htr := tried_ ⟨i, p, r, cl, c, b⟩ hm limit
  have hrt := rtried_ ⟨i, p, r, cl, c, b⟩ hm limit
  obtain ⟨z0, hz0⟩ : ∃ z, Mg.right ⟨i, p, r, cl, c, b⟩ = z := ⟨_, rfl⟩
  have HRT := Lib.hid hz0
  generalize Mg.bytes ⟨i, p, r, cl, c, b⟩ = z at *
  simp only [Mg.tried] at htr hrt
  generalize more1 r = y at *
  generalize triedB r limit = d at *
  have HMB := Lib.hid hmb
  have HRB := Lib.hid hrb
  have HTR := Lib.hid htr
  have HTD := Lib.hid hrt
  clear hmb hrb htr hrt hm hz0
  go_enter Try.func3, Try.ntmps3
  go_wp2_with fail
  refine (alive_ _).mono ?_
  rintro e w1 ⟨rfl, hb1⟩
  have H1 := Lib.hid (H0.out.next hb1)
  obtain ⟨q0, q1, q2, q3, q4, q5⟩ := six_of H1.out.box
  simp only at q0 q1 q2 q3 q4 q5
  clear hb1 H0
  go_wp2_with fail
  refine (HTR.out _).mono ?_
  rintro e w2 ⟨rfl, hb2⟩
  have H2 := Lib.hid (H1.out.next hb2)
  have h2a := alloc_below w2 (.cells #[.int .i64 i, .int .i64 p, .int .i64 y, .bool false, .string c, .string b] 23)
  have HXA2 := Lib.hid (Blk.new w2 23 #[.int .i64 i, .int .i64 p, .int .i64 y, .bool false, .string c, .string b])
  have H3 := Lib.hid (H2.out.next h2a)
  clear hb2 H1 q0 q1 q2 q3 q4 q5 h2a
  have hq := H3.out.box
  obtain ⟨q0, q1, q2, q3, q4, q5⟩ := six_of hq
  simp only at q0 q1 q2 q3 q4 q5
  clear hq
  go_wp2_with fail
  generalize hga : w2.heap.size = ga at *
  clear hga
  generalize w2.alloc (.cells #[.int .i64 i, .int .i64 p, .int .i64 y, .bool false, .string c, .string b] 23) = wA at *
  refine (HTD.out _).mono ?_
  rintro e w3 ⟨rfl, hb3⟩
  have H3' := Lib.hid (H3.out.next hb3)
  have HXA3 := Lib.hid (HXA2.out.below hb3 HXA2.out.lt)
  have h3a := alloc_below w3 (.cells #[.int .i64 i, .int .i64 p, .int .i64 y, .bool false, .string c, .string b] 23)
  have HXB := Lib.hid (Blk.new w3 23 #[.int .i64 i, .int .i64 p, .int .i64 y, .bool false, .string c, .string b])
  have HXA := Lib.hid (HXA3.out.below h3a HXA3.out.lt)
  have H4 := Lib.hid (H3'.out.next h3a)
  clear hb3 H3 H2 HXA2 HXA3 H3' h3a q0 q1 q2 q3 q4 q5
  go_wp2_with fail
  generalize hgb : w3.heap.size = gb at *
  clear hgb
  generalize w3.alloc (.cells #[.int .i64 i, .int .i64 p, .int .i64 y, .bool false, .string c, .string b] 23) = w4 at *
  have HX := Lib.hid H4.out.box
  have HD4 := Lib.hid ((Below.refl w4.heap.size w4).drew)
  have HU4 : Hid (∀ W, Below w4.heap.size w4 W → Below w4.heap.size w4 W) := fun _ h => h
  have HE4 := Lib.hid H4.out.bel
  clear H4

  refine wp_region_noPanic ?_
  refine wp_region_held_drew (S := fun W => Below w4.heap.size w4 W) (by kernel_rfl) ((Below.refl _ w4).drew) (fun _ => ?_)
  refine wpAnyH_take (i := 0) (oi := { dst := some 38, op := Op.load 23 (Operand.tmp 2), type := 23, pos := "law.go:26", after := #[], guard := none }) (v := .agg #[.int .i64 i, .int .i64 p, .int .i64 r, .bool cl, .string c, .string b]) rfl (by kernel_rfl) (by kernel_rfl) (by kernel_rfl) (fun _ _ _ h => h) (Or.inl ⟨by rfl, ?_⟩) ((Below.refl _ w4).drew) ?_
  · intro W hSw; obtain ⟨d0, d1, d2, d3, d4, d5⟩ := six_of (m := ⟨i, p, r, cl, c, b⟩) (HX.out.below (HU4.out W hSw) HX.out.lt); simp only at d0 d1 d2 d3 d4 d5; clear hSw; go_simp
  try simp only [Act.put, List.setIfInBounds_toArray, List.set_cons_zero, List.set_cons_succ]
  refine wpAnyH_take (i := 2) (oi := { dst := some 40, op := Op.load 23 (Operand.tmp 2), type := 23, pos := "law.go:26", after := #[], guard := none }) (v := .agg #[.int .i64 i, .int .i64 p, .int .i64 r, .bool cl, .string c, .string b]) rfl (by kernel_rfl) (by kernel_rfl) (by kernel_rfl) (fun _ _ _ h => h) (Or.inl ⟨by rfl, ?_⟩) ((Below.refl _ w4).drew) ?_
  · intro W hSw; obtain ⟨d0, d1, d2, d3, d4, d5⟩ := six_of (m := ⟨i, p, r, cl, c, b⟩) (HX.out.below (HU4.out W hSw) HX.out.lt); simp only at d0 d1 d2 d3 d4 d5; clear hSw; go_simp
  try simp only [Act.put, List.setIfInBounds_toArray, List.set_cons_zero, List.set_cons_succ]
  refine wpAnyH_1 (i := 1) (by kernel_rfl) (wpOp_call (o := { dst := some 39, op := Op.call { callee := Callee.value (Operand.func 10), args := #[Operand.tmp 38], argTypes := #[23] }, type := 4, pos := "law.go:26", after := #[{ on := 0, ground := Ground.data }], guard := none }) (f := 10) rfl (by rfl) (by go_simp) ((right_ ⟨i, p, r, cl, c, b⟩ _).mono ?_))
  rintro e w5 ⟨rfl, hb5⟩
  have HB5 := Lib.hid (HD4.out.trans hb5)
  have HU5 : Hid (∀ W, Below w5.heap.size w5 W → Below w4.heap.size w4 W) := fun W h => HU4.out W (HB5.out.trans (h.mono HB5.out.size))
  rw [HRT.out]
  clear hb5
  refine ⟨_, rfl, HB5.out, ?_⟩
  try simp only [Act.put, List.setIfInBounds_toArray, List.set_cons_zero, List.set_cons_succ]
  refine wpAnyH_more (S' := fun W => Below w5.heap.size w5 W) (fun W h => HB5.out.trans (h.mono HB5.out.size)) _ _ _ _ ?_
  refine wpAnyH_1 (i := 3) (by kernel_rfl) (wpOp_call (o := { dst := some 41, op := Op.call { callee := Callee.value (Operand.func 11), args := #[Operand.tmp 40], argTypes := #[23] }, type := 4, pos := "law.go:26", after := #[{ on := 2, ground := Ground.data }, { on := 1, ground := Ground.chain }], guard := none }) (f := 11) rfl (by rfl) (by go_simp) ((rright_ ⟨i, p, r, cl, c, b⟩ _).mono ?_))
  rintro e w6 ⟨rfl, hb6⟩
  have HB6 := Lib.hid (hb6)
  have HU6 : Hid (∀ W, Below w6.heap.size w6 W → Below w4.heap.size w4 W) := fun W h => HU5.out W (HB6.out.trans (h.mono HB6.out.size))
  rw [HRT.out]
  clear hb6
  refine ⟨_, rfl, HB6.out, ?_⟩
  try simp only [Act.put, List.setIfInBounds_toArray, List.set_cons_zero, List.set_cons_succ]
  refine wpAnyH_more (S' := fun W => Below w6.heap.size w6 W) (fun W h => HB6.out.trans (h.mono HB6.out.size)) _ _ _ _ ?_
  refine wpAnyH_take (i := 4) (oi := { dst := some 42, op := Op.binOp BinOp.eql 4 (Operand.tmp 39) (Operand.tmp 41) 4, type := 4, pos := "law.go:26", after := #[{ on := 1, ground := Ground.data }, { on := 3, ground := Ground.data }], guard := none }) (v := .bool true) rfl (by kernel_rfl) (by kernel_rfl) (by kernel_rfl) (fun _ _ _ h => h) (Or.inl ⟨by rfl, ?_⟩) (Below.refl _ _) ?_
  · intro W hSw; clear hSw; go_simp
  try simp only [Act.put, List.setIfInBounds_toArray, List.set_cons_zero, List.set_cons_succ]
  refine wpAnyH_take (i := 5) (oi := { dst := some 43, op := Op.move (Operand.tmp 42), type := 4, pos := "law.go:26", after := #[{ on := 4, ground := Ground.data }, { on := 3, ground := Ground.chain }], guard := none }) (v := .bool true) rfl (by kernel_rfl) (by kernel_rfl) (by kernel_rfl) (fun _ _ _ h => h) (Or.inl ⟨by rfl, ?_⟩) (Below.refl _ _) ?_
  · intro W hSw; clear hSw; go_simp
  try simp only [Act.put, List.setIfInBounds_toArray, List.set_cons_zero, List.set_cons_succ]
  refine wpAnyH_take (i := 6) (oi := { dst := some 44, op := Op.load 23 (Operand.tmp 2), type := 23, pos := "law.go:26", after := #[{ on := 5, ground := Ground.guard }], guard := some (5, true) }) (v := .agg #[.int .i64 i, .int .i64 p, .int .i64 r, .bool cl, .string c, .string b]) rfl (by kernel_rfl) (by kernel_rfl) (by kernel_rfl) (fun _ _ _ h => h) (Or.inl ⟨by rfl, ?_⟩) (Below.refl _ _) ?_
  · intro W hSw; obtain ⟨d0, d1, d2, d3, d4, d5⟩ := six_of (m := ⟨i, p, r, cl, c, b⟩) (HX.out.below (HU6.out W hSw) HX.out.lt); simp only at d0 d1 d2 d3 d4 d5; clear hSw; go_simp
  try simp only [Act.put, List.setIfInBounds_toArray, List.set_cons_zero, List.set_cons_succ]
  refine wpAnyH_take (i := 9) (oi := { dst := some 47, op := Op.load 23 (Operand.tmp 2), type := 23, pos := "law.go:26", after := #[{ on := 5, ground := Ground.guard }], guard := some (5, true) }) (v := .agg #[.int .i64 i, .int .i64 p, .int .i64 r, .bool cl, .string c, .string b]) rfl (by kernel_rfl) (by kernel_rfl) (by kernel_rfl) (fun _ _ _ h => h) (Or.inl ⟨by rfl, ?_⟩) (Below.refl _ _) ?_
  · intro W hSw; obtain ⟨d0, d1, d2, d3, d4, d5⟩ := six_of (m := ⟨i, p, r, cl, c, b⟩) (HX.out.below (HU6.out W hSw) HX.out.lt); simp only at d0 d1 d2 d3 d4 d5; clear hSw; go_simp
  try simp only [Act.put, List.setIfInBounds_toArray, List.set_cons_zero, List.set_cons_succ]
  refine wpAnyH_1 (i := 7) (by kernel_rfl) (wpOp_call (o := { dst := some 45, op := Op.call { callee := Callee.value (Operand.func 12), args := #[Operand.tmp 44], argTypes := #[23] }, type := 28, pos := "law.go:26", after := #[{ on := 6, ground := Ground.data }, { on := 5, ground := Ground.chain }, { on := 5, ground := Ground.guard }], guard := some (5, true) }) (f := 12) rfl (by rfl) (by go_simp) ((HMB.out _).mono ?_))
  rintro e w7 ⟨g7, rfl, hx7, _, hb7⟩
  have HB7 := Lib.hid (hb7)
  have HU7 : Hid (∀ W, Below w7.heap.size w7 W → Below w4.heap.size w4 W) := fun W h => HU6.out W (HB7.out.trans (h.mono HB7.out.size))
  have HX7 := Lib.hid hx7
  clear hx7
  clear hb7
  refine ⟨_, rfl, HB7.out, ?_⟩
  try simp only [Act.put, List.setIfInBounds_toArray, List.set_cons_zero, List.set_cons_succ]
  refine wpAnyH_more (S' := fun W => Below w7.heap.size w7 W) (fun W h => HB7.out.trans (h.mono HB7.out.size)) _ _ _ _ ?_
  refine wpAnyH_take (i := 8) (oi := { dst := some 46, op := Op.convert 28 9 (Operand.tmp 45), type := 9, pos := "law.go:26", after := #[{ on := 7, ground := Ground.data }, { on := 5, ground := Ground.guard }], guard := some (5, true) }) (v := .string ⟨z.toArray⟩) rfl (by kernel_rfl) (by kernel_rfl) (by kernel_rfl) (fun _ _ _ h => h) (Or.inl ⟨by rfl, ?_⟩) (Below.refl _ _) ?_
  · intro W hSw; exact exec_valM rfl (convert_row z W _ (Nat.succ g7) z.length z.length ((rb_made HX7.out rfl).below (hSw.mono (Nat.succ_le_of_lt HX7.out.lt))))
  try simp only [Act.put, List.setIfInBounds_toArray, List.set_cons_zero, List.set_cons_succ]
  refine wpAnyH_1 (i := 10) (by kernel_rfl) (wpOp_call (o := { dst := some 48, op := Op.call { callee := Callee.value (Operand.func 13), args := #[Operand.tmp 47], argTypes := #[23] }, type := 28, pos := "law.go:26", after := #[{ on := 9, ground := Ground.data }, { on := 7, ground := Ground.chain }, { on := 5, ground := Ground.guard }], guard := some (5, true) }) (f := 13) rfl (by rfl) (by go_simp) ((HRB.out _).mono ?_))
  rintro e w8 ⟨A8, c8, rfl, hr8, _, _, hb8⟩
  have HB8 := Lib.hid (hb8)
  have HU8 : Hid (∀ W, Below w8.heap.size w8 W → Below w4.heap.size w4 W) := fun W h => HU7.out W (HB8.out.trans (h.mono HB8.out.size))
  have HR8 := Lib.hid hr8
  clear hr8
  clear hb8
  refine ⟨_, rfl, HB8.out, ?_⟩
  try simp only [Act.put, List.setIfInBounds_toArray, List.set_cons_zero, List.set_cons_succ]
  refine wpAnyH_more (S' := fun W => Below w8.heap.size w8 W) (fun W h => HB8.out.trans (h.mono HB8.out.size)) _ _ _ _ ?_
  refine wpAnyH_take (i := 11) (oi := { dst := some 49, op := Op.convert 28 9 (Operand.tmp 48), type := 9, pos := "law.go:26", after := #[{ on := 10, ground := Ground.data }, { on := 5, ground := Ground.guard }], guard := some (5, true) }) (v := .string ⟨z.toArray⟩) rfl (by kernel_rfl) (by kernel_rfl) (by kernel_rfl) (fun _ _ _ h => h) (Or.inl ⟨by rfl, ?_⟩) (Below.refl _ _) ?_
  · intro W hSw; exact exec_valM rfl (convert_row z W _ _ z.length c8 (HR8.out.below hSw))
  try simp only [Act.put, List.setIfInBounds_toArray, List.set_cons_zero, List.set_cons_succ]
  refine wpAnyH_take (i := 12) (oi := { dst := some 50, op := Op.binOp BinOp.eql 9 (Operand.tmp 46) (Operand.tmp 49) 9, type := 4, pos := "law.go:26", after := #[{ on := 8, ground := Ground.data }, { on := 11, ground := Ground.data }, { on := 5, ground := Ground.guard }], guard := some (5, true) }) (v := .bool true) rfl (by kernel_rfl) (by kernel_rfl) (by kernel_rfl) (fun _ _ _ h => h) (Or.inl ⟨by rfl, ?_⟩) (Below.refl _ _) ?_
  · intro W hSw; clear hSw; go_simp
  try simp only [Act.put, List.setIfInBounds_toArray, List.set_cons_zero, List.set_cons_succ]
  refine wpAnyH_take (i := 13) (oi := { dst := some 51, op := Op.pick (Operand.tmp 43) (Operand.tmp 50) (Operand.const (Value.bool false)), type := 4, pos := "law.go:26", after := #[{ on := 5, ground := Ground.data }, { on := 12, ground := Ground.data }], guard := none }) (v := .bool true) rfl (by kernel_rfl) (by kernel_rfl) (by kernel_rfl) (fun _ _ _ h => h) (Or.inl ⟨by rfl, ?_⟩) (Below.refl _ _) ?_
  · intro W hSw; clear hSw; go_simp
  try simp only [Act.put, List.setIfInBounds_toArray, List.set_cons_zero, List.set_cons_succ]
  refine wpAnyH_take (i := 14) (oi := { dst := some 52, op := Op.move (Operand.tmp 51), type := 4, pos := "law.go:26", after := #[{ on := 13, ground := Ground.data }, { on := 10, ground := Ground.chain }], guard := none }) (v := .bool true) rfl (by kernel_rfl) (by kernel_rfl) (by kernel_rfl) (fun _ _ _ h => h) (Or.inl ⟨by rfl, ?_⟩) (Below.refl _ _) ?_
  · intro W hSw; clear hSw; go_simp
  try simp only [Act.put, List.setIfInBounds_toArray, List.set_cons_zero, List.set_cons_succ]
  refine wpAnyH_take (i := 15) (oi := { dst := some 53, op := Op.load 23 (Operand.tmp 6), type := 23, pos := "law.go:26", after := #[{ on := 14, ground := Ground.guard }], guard := some (14, true) }) (v := .agg #[.int .i64 i, .int .i64 p, .int .i64 y, .bool false, .string c, .string b]) rfl (by kernel_rfl) (by kernel_rfl) (by kernel_rfl) (fun _ _ _ h => h) (Or.inl ⟨by rfl, ?_⟩) (Below.refl _ _) ?_
  · intro W hSw; obtain ⟨d0, d1, d2, d3, d4, d5⟩ := six_of (m := ⟨i, p, y, false, c, b⟩) (HXA.out.below (HU8.out W hSw) HXA.out.lt); simp only at d0 d1 d2 d3 d4 d5; clear hSw; go_simp
  try simp only [Act.put, List.setIfInBounds_toArray, List.set_cons_zero, List.set_cons_succ]
  refine wpAnyH_take (i := 16) (oi := { dst := some 54, op := Op.load 23 (Operand.tmp 8), type := 23, pos := "law.go:26", after := #[{ on := 14, ground := Ground.guard }], guard := some (14, true) }) (v := .agg #[.int .i64 i, .int .i64 p, .int .i64 y, .bool false, .string c, .string b]) rfl (by kernel_rfl) (by kernel_rfl) (by kernel_rfl) (fun _ _ _ h => h) (Or.inl ⟨by rfl, ?_⟩) (Below.refl _ _) ?_
  · intro W hSw; obtain ⟨d0, d1, d2, d3, d4, d5⟩ := six_of (m := ⟨i, p, y, false, c, b⟩) (HXB.out.below (HU8.out W hSw) HXB.out.lt); simp only at d0 d1 d2 d3 d4 d5; clear hSw; go_simp
  try simp only [Act.put, List.setIfInBounds_toArray, List.set_cons_zero, List.set_cons_succ]
  refine wpAnyH_take (i := 17) (oi := { dst := some 55, op := Op.binOp BinOp.eql 23 (Operand.tmp 53) (Operand.tmp 54) 23, type := 4, pos := "law.go:26", after := #[{ on := 15, ground := Ground.data }, { on := 16, ground := Ground.data }, { on := 14, ground := Ground.guard }], guard := some (14, true) }) (v := .bool true) rfl (by kernel_rfl) (by kernel_rfl) (by kernel_rfl) (fun _ _ _ h => h) (Or.inl ⟨by rfl, ?_⟩) (Below.refl _ _) ?_
  · intro W hSw; clear hSw; go_simp
  try simp only [Act.put, List.setIfInBounds_toArray, List.set_cons_zero, List.set_cons_succ]
  refine wpAnyH_take (i := 18) (oi := { dst := some 56, op := Op.pick (Operand.tmp 52) (Operand.tmp 55) (Operand.const (Value.bool false)), type := 4, pos := "law.go:26", after := #[{ on := 14, ground := Ground.data }, { on := 17, ground := Ground.data }], guard := none }) (v := .bool true) rfl (by kernel_rfl) (by kernel_rfl) (by kernel_rfl) (fun _ _ _ h => h) (Or.inl ⟨by rfl, ?_⟩) (Below.refl _ _) ?_
  · intro W hSw; clear hSw; go_simp
  try simp only [Act.put, List.setIfInBounds_toArray, List.set_cons_zero, List.set_cons_succ]
  refine wpAnyH_take (i := 19) (oi := { dst := some 57, op := Op.move (Operand.tmp 56), type := 4, pos := "law.go:26", after := #[{ on := 18, ground := Ground.data }, { on := 14, ground := Ground.chain }], guard := none }) (v := .bool true) rfl (by kernel_rfl) (by kernel_rfl) (by kernel_rfl) (fun _ _ _ h => h) (Or.inl ⟨by rfl, ?_⟩) (Below.refl _ _) ?_
  · intro W hSw; clear hSw; go_simp
  try simp only [Act.put, List.setIfInBounds_toArray, List.set_cons_zero, List.set_cons_succ]
  refine wpAnyH_take (i := 20) (oi := { dst := some 58, op := Op.move (Operand.tmp 7), type := 4, pos := "law.go:26", after := #[{ on := 19, ground := Ground.guard }], guard := some (19, true) }) (v := .bool d) rfl (by kernel_rfl) (by kernel_rfl) (by kernel_rfl) (fun _ _ _ h => h) (Or.inl ⟨by rfl, ?_⟩) (Below.refl _ _) ?_
  · intro W hSw; clear hSw; go_simp
  try simp only [Act.put, List.setIfInBounds_toArray, List.set_cons_zero, List.set_cons_succ]
  refine wpAnyH_take (i := 21) (oi := { dst := some 59, op := Op.move (Operand.tmp 9), type := 4, pos := "law.go:26", after := #[{ on := 19, ground := Ground.guard }], guard := some (19, true) }) (v := .bool d) rfl (by kernel_rfl) (by kernel_rfl) (by kernel_rfl) (fun _ _ _ h => h) (Or.inl ⟨by rfl, ?_⟩) (Below.refl _ _) ?_
  · intro W hSw; clear hSw; go_simp
  try simp only [Act.put, List.setIfInBounds_toArray, List.set_cons_zero, List.set_cons_succ]
  refine wpAnyH_take (i := 22) (oi := { dst := some 60, op := Op.binOp BinOp.eql 4 (Operand.tmp 58) (Operand.tmp 59) 4, type := 4, pos := "law.go:26", after := #[{ on := 20, ground := Ground.data }, { on := 21, ground := Ground.data }, { on := 19, ground := Ground.guard }], guard := some (19, true) }) (v := .bool true) rfl (by kernel_rfl) (by kernel_rfl) (by kernel_rfl) (fun _ _ _ h => h) (Or.inl ⟨by rfl, ?_⟩) (Below.refl _ _) ?_
  · intro W hSw; clear hSw; go_simp
  try simp only [Act.put, List.setIfInBounds_toArray, List.set_cons_zero, List.set_cons_succ]
  refine wpAnyH_take (i := 23) (oi := { dst := some 61, op := Op.pick (Operand.tmp 57) (Operand.tmp 60) (Operand.const (Value.bool false)), type := 4, pos := "law.go:26", after := #[{ on := 19, ground := Ground.data }, { on := 22, ground := Ground.data }], guard := none }) (v := .bool true) rfl (by kernel_rfl) (by kernel_rfl) (by kernel_rfl) (fun _ _ _ h => h) (Or.inl ⟨by rfl, ?_⟩) (Below.refl _ _) ?_
  · intro W hSw; clear hSw; go_simp
  try simp only [Act.put, List.setIfInBounds_toArray, List.set_cons_zero, List.set_cons_succ]
  refine wpAnyH_take (i := 24) (oi := { dst := some 4, op := Op.assign (Operand.tmp 61), type := 4, pos := "law.go:26", after := #[{ on := 23, ground := Ground.data }, { on := 19, ground := Ground.chain }, { on := 0, ground := Ground.phase }, { on := 1, ground := Ground.phase }, { on := 2, ground := Ground.phase }, { on := 3, ground := Ground.phase }, { on := 4, ground := Ground.phase }, { on := 5, ground := Ground.phase }, { on := 6, ground := Ground.phase }, { on := 7, ground := Ground.phase }, { on := 8, ground := Ground.phase }, { on := 9, ground := Ground.phase }, { on := 10, ground := Ground.phase }, { on := 11, ground := Ground.phase }, { on := 12, ground := Ground.phase }, { on := 13, ground := Ground.phase }, { on := 14, ground := Ground.phase }, { on := 15, ground := Ground.phase }, { on := 16, ground := Ground.phase }, { on := 17, ground := Ground.phase }, { on := 18, ground := Ground.phase }, { on := 19, ground := Ground.phase }, { on := 20, ground := Ground.phase }, { on := 21, ground := Ground.phase }, { on := 22, ground := Ground.phase }, { on := 23, ground := Ground.phase }], guard := none }) (v := .bool true) rfl (by kernel_rfl) (by kernel_rfl) (by kernel_rfl) (fun _ _ _ h => h) (Or.inl ⟨by rfl, ?_⟩) (Below.refl _ _) ?_
  · intro W hSw; clear hSw; go_simp
  try simp only [Act.put, List.setIfInBounds_toArray, List.set_cons_zero, List.set_cons_succ]
  refine wpAnyH_done (by kernel_rfl) ?_ _
  refine NoPanic.normal ?_
  go_wp2_with fail
  go_ret
  exact ⟨rfl, HE4.out.trans ((HU8.out _ (Below.refl _ _)).mono HE4.out.size)⟩
end Go.Proofs.Ytppmpgggjokgdaa
