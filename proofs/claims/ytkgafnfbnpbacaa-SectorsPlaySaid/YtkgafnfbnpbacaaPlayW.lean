/- The law on any row of calls, walked. -/
import Derived.Test.YtkgafnfbnpbacaaActs
import Derived.Test.YtkgafnfbnpbacaaOrderH
import Derived.Test.YtkgafnfbnpbacaaSureP
namespace Go.Proofs.Ytkgafnfbnpbacaa
open Go.RowKit
/-- the other disk -/
def Other (so : St) (j : Nat) : Prop := so.l.length ≤ j ∧ so.count ≤ j ∧ so.left = 0 ∧ so.ends = false
theorem Other.tw {so : St} {j : Nat} (h : Other so j) (i : Int) (x : List UInt8) : Other (so.tw i x) (j + 1) := by
  obtain ⟨h1, h2, h3, h4⟩ := h
  unfold St.tw
  split
  · exact ⟨by show (so.l ++ _).length ≤ _; simp; omega, by show so.count + 1 ≤ _; omega, by show (if so.ends then _ else _) = _; rw [h4]; exact h3, h4⟩
  · exact ⟨by omega, by omega, h3, h4⟩
def PlayRel (w : World) (B gd go gr n k : Nat) (i : Value) (wr : World) : Prop :=
  ∃ (j : Nat) (s so r : St), j + k = n ∧ i = .int .i64 (j : Int) ∧ Sh wr (fun i => i < B) gd go gr s so r ∧ Same j s r ∧ Other so j ∧ Keep (fun i _ => i < B) w wr
theorem sh_new {w1 w2 w3 w4 : World} {n : Nat} (h1 : DiskAt w2 (w1.heap.size + 1) (fun i => w1.heap.size ≤ i) (St.new n)) (b1 : Below w1.heap.size w1 w2) (h2 : DiskAt w3 (w2.heap.size + 1) (fun i => w2.heap.size ≤ i) (St.new 5)) (b2 : Below w2.heap.size w2 w3)
    (h3 : RefAt w4 w3.heap.size (Hi w3.heap.size) (St.new n)) (b3 : Below w3.heap.size w3 w4) : Sh w4 (fun i => i < w1.heap.size) (w1.heap.size + 1) (w2.heap.size + 1) w3.heap.size (St.new n) (St.new 5) (St.new n) := by
  have z1 := b1.size
  have z2 := b2.size
  have z3 := b3.size
  exact ⟨_, _, _, ⟨(h1.cut.below b2).below b3, h2.cut.below b3, h3.cut, fun i a b => by have := a.2; have := b.1; omega, fun i a b => by have := a.2; have := b.1; simp only [Hi] at *; omega, fun i a b => by have := a.2; have := b.1; simp only [Hi] at *; omega,
    fun i a => by have := a.2; omega, fun i a => by have := a.2; omega, fun i a => a.2, fun i a b => by have := b.1; omega, fun i a b => by have := b.1; omega, fun i a b => by have := b.1; simp only [Hi] at *; omega, fun i a => by omega⟩⟩
theorem pWriteR' {w : World} {F : Nat → Prop} {gd go gr : Nat} {s so r : St} (h : Sh w F gd go gr s so r) (hl : r.l.length ≤ 1000000) (hc : r.count ≤ 1000000) (hle : r.left ≤ 9223372036854775807) (i : Int) {b n : Nat} {x : List UInt8} (hx : x.length = n) (hB : Blk w b 5 (cellsB x).toArray) {q : Bool} (hq : r.can i x = q) :
    Calls Try.prog 12 #[ptr gr, .int .i64 i, .slice (some ⟨b, 0, none⟩) n n] w fun e w' => e = .returned (.bool q) ∧ Sh w' F gd go gr s so (r.tw i x) ∧ Keep (KF F) w w' := by
  subst hq
  exact pWriteR h hl hc hle i hx hB
theorem pSyncR' {w : World} {F : Nat → Prop} {gd go gr : Nat} {s so r : St} (h : Sh w F gd go gr s so r) {q : Bool} (hq : r.broken = q) : Calls Try.prog 14 #[ptr gr] w fun e w' => e = .returned (.bool (!q)) ∧ Sh w' F gd go gr s so r.ts ∧ Keep (KF F) w w' := by
  subst hq
  exact pSyncR h
def EndRel (w : World) (B gd go gr : Nat) (s so r : St) (k : Nat) (i : Value) (wq : World) : Prop :=
  ∃ q : Nat, q + k = s.n ∧ i = .int .i64 (q : Int) ∧ Sh wq (fun i => i < B) gd go gr s so r ∧ Keep (fun i _ => i < B) w wq
/-- while the bytes that were handed in are turned -/
def InRel (w : World) (B gd go gr ga gb m : Nat) (C : Array Value) (s so r : St) (k : Nat) (i : Value) (wq : World) : Prop :=
  ∃ q cs, q + k = m ∧ i = .int .i64 (q : Int) ∧ cs.size = m ∧ Blk wq gb 5 cs ∧ Sh wq (fun i => (i < B ∨ i = ga) ∨ i = gb) gd go gr s so r ∧ Blk wq ga 30 C ∧ Keep (fun i _ => i < B) w wq
theorem tail_start {wz : World} {gr ga : Nat} {C : Array Value} {y n : Value} (hg : Blk wz ga 30 C) (hy : C[1]? = some y) (hc : wz.cell? ⟨gr, 4, none⟩ = some n) :
    wz.drew.cell? ⟨gr, 4, none⟩ = some n ∧ wz.drew.cell? ⟨ga, 1, none⟩ = some y := ⟨hc, (hg.cell 1).trans hy⟩
theorem tail_keep {w w' : World} {gr ga : Nat} {y n : Value} (h : w.cell? ⟨gr, 4, none⟩ = some n ∧ w.cell? ⟨ga, 1, none⟩ = some y) (hb : Below w.heap.size w w') : w'.cell? ⟨gr, 4, none⟩ = some n ∧ w'.cell? ⟨ga, 1, none⟩ = some y :=
  ⟨(hb.cell (p := ⟨gr, 4, none⟩) (World.block_lt_of_cell? w _ h.1)).trans h.1, (hb.cell (p := ⟨ga, 1, none⟩) (World.block_lt_of_cell? w _ h.2)).trans h.2⟩
set_option maxRecDepth 100000 in
set_option maxHeartbeats 4000000 in
theorem sectorsPlay (n : Int) (L : Option Addr) (len cap : Nat) (ac : Nat → Ac) (w : World) (hac : ActsAt w L len ac) (hok : ∀ i, i < len → (ac i).ok w) (hlc : len ≤ cap) :
    Calls Try.prog 3 #[.int .i64 n, .slice L len cap] w fun e w' => e = .returned (.bool true) ∧ Below w.heap.size w w' := by
  by_cases hin : n ≤ 200 ∧ len ≤ 100
  · obtain ⟨b1, b2⟩ := hin
    have HAC := Lib.hid hac
    have HOK := Lib.hid hok
    clear hac hok
    go_enter Try.func3, Try.ntmps3
    go_wp2_with fail
    refine (alive w).mono ?_
    rintro e w1 ⟨rfl, hb1⟩
    have HB1 := Lib.hid hb1
    clear hb1
    go_wp2_with fail
    refine (new_ w1 n).mono ?_
    rintro e w2 ⟨rfl, hd2, hb2, hz2⟩
    have HD2 := Lib.hid hd2
    have HB2 := Lib.hid hb2
    clear hd2 hb2 hz2
    go_wp2_with fail
    refine (new_ w2 5).mono ?_
    rintro e w3 ⟨rfl, hd3, hb3, hz3⟩
    have HD3 := Lib.hid hd3
    have HB3 := Lib.hid hb3
    clear hd3 hb3 hz3
    go_wp2_with fail
    refine (rnew_ w3 n).mono ?_
    rintro e w4 ⟨rfl, hr4, hb4, hz4⟩
    have HSH := Lib.hid (sh_new HD2.out HB2.out HD3.out HB3.out hr4 hb4)
    have HK4 := Lib.hid (((Keep.of_below (K := fun i _ => i < w1.heap.size) HB2.out).trans (Keep.of_below HB3.out)).trans (Keep.of_below hb4))
    clear hr4 hb4 hz4
    go_wp2_with fail
    go_loopg [9] len (fun k i wr => PlayRel w1 w1.heap.size (w1.heap.size + 1) (w2.heap.size + 1) w3.heap.size len k i wr)
    case atStart => exact ⟨0, _, _, _, by omega, rfl, HSH.out, Same.new _, ⟨Nat.le_refl _, Nat.le_refl _, rfl, rfl⟩, HK4.out⟩
    case round =>
      obtain ⟨j, s, so, r, hj, rfl, hsh, hsame, hoth, hkw⟩ := hrel
      have HJ := Lib.hid hj
      have HSH1 := Lib.hid hsh
      have HSAME := Lib.hid hsame
      have HOTH := Lib.hid hoth
      have HKW := Lib.hid hkw
      clear hj hsh hsame hoth hkw HSH HK4
      by_cases hlt : j < len
      · obtain ⟨lb, lo, rfl, hlb, e0, e1, e2, e3, e4, e5⟩ := HAC.out j hlt
        obtain ⟨hn63, hc256, hbo, hknc, hkcm, hknil⟩ := HOK.out j hlt
        have hlb1 : lb < w1.heap.size := Nat.lt_of_lt_of_le hlb HB1.out.size
        have hcl : ∀ o, wr.cell? ⟨lb, o, none⟩ = w.cell? ⟨lb, o, none⟩ := fun o => (cell_keep HKW.out hlb1 (fun _ => hlb1) o).trans (cell_of_heap (HB1.out.block lb hlb) o)
        rw [← hcl] at e0 e1 e2 e3 e4 e5
        clear hcl
        have HBO := Lib.hid hbo
        generalize ac j = x at *
        obtain ⟨way, at_, xn, c, bad, KA, kn, kc, ks⟩ := x
        simp only at e0 e1 e2 e3 e4 e5 hn63 hc256 hknc hkcm hknil
        unfold maxLen at hkcm
        clear hbo
        have HSH0 := Lib.hid (HSH1.out.alloc (.cells #[.int .i64 way, .int .i64 at_, .int .i64 xn, .int .u8 (c : Int), .bool bad, .slice KA kn kc] 30))
        have HG0 := Lib.hid (Blk.new wr 30 #[.int .i64 way, .int .i64 at_, .int .i64 xn, .int .u8 (c : Int), .bool bad, .slice KA kn kc])
        have HK0 := Lib.hid (HKW.out.alloc (.cells #[.int .i64 way, .int .i64 at_, .int .i64 xn, .int .u8 (c : Int), .bool bad, .slice KA kn kc] 30))
        go_wp2_with fail
        generalize hW0 : wr.alloc (.cells #[.int .i64 way, .int .i64 at_, .int .i64 xn, .int .u8 (c : Int), .bool bad, .slice KA kn kc] 30) = W0 at *
        refine (fill_f 9 9 rfl (by omega) W0).mono ?_
        rintro e w4b ⟨rfl, rfl⟩
        clear hW0
        go_wp2_with fail
        refine (pWriteO (HSH0.out.below (alloc_below W0 (.cells (cellsB (filled 9 false)).toArray 5))) (by have := HOTH.out.1; omega) (by have := HOTH.out.2.1; omega) (by rw [HOTH.out.2.2.1]; omega) (j : Int) (filled_length 9 false) (Blk.new W0 5 _)).mono ?_
        rintro e w5 ⟨rfl, hsh5, hk5⟩
        have HSH5 := Lib.hid hsh5
        have HG5 := Lib.hid ((HG0.out.alloc (.cells (cellsB (filled 9 false)).toArray 5)).keep hk5 (.inr rfl))
        have HK5 := Lib.hid ((HK0.out.alloc (.cells (cellsB (filled 9 false)).toArray 5)).trans (hk5.mono fun i _ _ hi => .inl hi))
        have HOZ := Lib.hid (HOTH.out.tw (j : Int) (filled 9 false))
        generalize so.tw (j : Int) (filled 9 false) = so1 at *
        clear hsh5 hk5 HSH0 HG0 HK0 HSH1 HOTH HKW e0 e1 e2 e3 e4 e5
        generalize wr.heap.size = ga at *
        have d0 := HG5.out.cell 0
        have d1 := HG5.out.cell 1
        have d2 := HG5.out.cell 2
        have d3 := HG5.out.cell 3
        have d4 := HG5.out.cell 4
        have d5 := HG5.out.cell 5
        simp only [List.getElem?_toArray, List.getElem?_cons_succ, List.getElem?_cons_zero] at d0 d1 d2 d3 d4 d5
        by_cases h0 : way = 0
        · subst h0
          have HW6e := Lib.hid (Blk.new w5 5 (cellsB (filled c bad)).toArray)
          have HSHa := Lib.hid (HSH5.out.alloc (.cells (cellsB (filled c bad)).toArray 5))
          have HGa := Lib.hid (HG5.out.alloc (.cells (cellsB (filled c bad)).toArray 5))
          have HKa := Lib.hid (HK5.out.alloc (.cells (cellsB (filled c bad)).toArray 5))
          go_wp2_with fail
          refine (fill_ c bad hc256 w5).mono ?_
          rintro e w6 ⟨rfl, hw6⟩
          generalize hW6 : w5.alloc (.cells (cellsB (filled c bad)).toArray 5) = W6 at *
          subst hw6
          have HSH6 := HSHa
          have HG6 := HGa
          have HK6 := HKa
          have HB6 := HW6e
          have HS6 := Lib.hid (show W6.drew.cell? ⟨ga, 1, none⟩ = some (.int .i64 at_) from by have := HG6.out.cell 1; simpa using this)
          clear HSHa HGa HKa HW6e hW6
          have hfn : fillN bad ≤ 64 := by unfold fillN; split <;> omega
          go_wp2_with fail
          refine wp_region_noPanic ?_
          refine wp_region_held_drew (S := fun w' => w'.cell? ⟨ga, 1, none⟩ = some (.int .i64 at_)) (by kernel_rfl) HS6.out (fun _ => ?_)
          refine wpAnyH_take (i := 0) (oi := { dst := some 61, op := Op.move (Operand.tmp 6), type := 24, pos := "law.go:58", after := #[], guard := none }) (v := ptr (w1.heap.size + 1)) rfl (by kernel_rfl) (by kernel_rfl) (by kernel_rfl) (fun _ _ _ h => h) (Or.inl ⟨by rfl, ?_⟩) HS6.out ?_
          · intro W hSw; (skip); go_simp
          try simp only [Act.put, List.setIfInBounds_toArray, List.set_cons_zero, List.set_cons_succ]
          refine wpAnyH_take (i := 1) (oi := { dst := some 62, op := Op.fieldAddr 30 (Operand.tmp 10) 1, type := 0, pos := "law.go:58", after := #[], guard := none }) (v := .pointer (some ⟨ga, 1, none⟩)) rfl (by kernel_rfl) (by kernel_rfl) (by kernel_rfl) (fun _ _ _ h => h) (Or.inl ⟨by rfl, ?_⟩) HS6.out ?_
          · intro W hSw; (skip); go_simp
          try simp only [Act.put, List.setIfInBounds_toArray, List.set_cons_zero, List.set_cons_succ]
          refine wpAnyH_take (i := 2) (oi := { dst := some 63, op := Op.load 3 (Operand.tmp 62), type := 3, pos := "law.go:58", after := #[{ on := 1, ground := Ground.data }], guard := none }) (v := .int .i64 at_) rfl (by kernel_rfl) (by kernel_rfl) (by kernel_rfl) (fun _ _ _ h => h) (Or.inl ⟨by rfl, ?_⟩) HS6.out ?_
          · intro W hSw; (skip); go_simp
          try simp only [Act.put, List.setIfInBounds_toArray, List.set_cons_zero, List.set_cons_succ]
          refine wpAnyH_take (i := 3) (oi := { dst := some 64, op := Op.move (Operand.tmp 11), type := 32, pos := "law.go:58", after := #[], guard := none }) (v := .slice (some ⟨w5.heap.size, 0, none⟩) (fillN bad) (fillN bad)) rfl (by kernel_rfl) (by kernel_rfl) (by kernel_rfl) (fun _ _ _ h => h) (Or.inl ⟨by rfl, ?_⟩) HS6.out ?_
          · intro W hSw; (skip); go_simp
          try simp only [Act.put, List.setIfInBounds_toArray, List.set_cons_zero, List.set_cons_succ]
          refine wpAnyH_take (i := 5) (oi := { dst := some 66, op := Op.move (Operand.tmp 8), type := 26, pos := "law.go:58", after := #[], guard := none }) (v := ptr w3.heap.size) rfl (by kernel_rfl) (by kernel_rfl) (by kernel_rfl) (fun _ _ _ h => h) (Or.inl ⟨by rfl, ?_⟩) HS6.out ?_
          · intro W hSw; (skip); go_simp
          try simp only [Act.put, List.setIfInBounds_toArray, List.set_cons_zero, List.set_cons_succ]
          refine wpAnyH_take (i := 6) (oi := { dst := some 67, op := Op.fieldAddr 30 (Operand.tmp 10) 1, type := 0, pos := "law.go:58", after := #[], guard := none }) (v := .pointer (some ⟨ga, 1, none⟩)) rfl (by kernel_rfl) (by kernel_rfl) (by kernel_rfl) (fun _ _ _ h => h) (Or.inl ⟨by rfl, ?_⟩) HS6.out ?_
          · intro W hSw; (skip); go_simp
          try simp only [Act.put, List.setIfInBounds_toArray, List.set_cons_zero, List.set_cons_succ]
          refine wpAnyH_take (i := 7) (oi := { dst := some 68, op := Op.load 3 (Operand.tmp 67), type := 3, pos := "law.go:58", after := #[{ on := 6, ground := Ground.data }], guard := none }) (v := .int .i64 at_) rfl (by kernel_rfl) (by kernel_rfl) (by kernel_rfl) (fun _ _ _ h => h) (Or.inl ⟨by rfl, ?_⟩) HS6.out ?_
          · intro W hSw; (skip); go_simp
          try simp only [Act.put, List.setIfInBounds_toArray, List.set_cons_zero, List.set_cons_succ]
          refine wpAnyH_take (i := 8) (oi := { dst := some 69, op := Op.move (Operand.tmp 11), type := 32, pos := "law.go:58", after := #[], guard := none }) (v := .slice (some ⟨w5.heap.size, 0, none⟩) (fillN bad) (fillN bad)) rfl (by kernel_rfl) (by kernel_rfl) (by kernel_rfl) (fun _ _ _ h => h) (Or.inl ⟨by rfl, ?_⟩) HS6.out ?_
          · intro W hSw; (skip); go_simp
          try simp only [Act.put, List.setIfInBounds_toArray, List.set_cons_zero, List.set_cons_succ]
          refine wpAnyH_1 (i := 4) (by kernel_rfl) (wpOp_call (o := { dst := some 65, op := Op.call { callee := Callee.value (Operand.func 10), args := #[Operand.tmp 61, Operand.tmp 63, Operand.tmp 64], argTypes := #[24, 3, 32] }, type := 4, pos := "law.go:58", after := #[{ on := 0, ground := Ground.data }, { on := 2, ground := Ground.data }, { on := 3, ground := Ground.data }], guard := none }) (f := 10) rfl (by rfl) (by go_simp) ((pWriteD HSH6.out.drew (by have := HSAME.out.len; omega) (by have := HSAME.out.cnt; omega) HSAME.out.ls at_ (filled_length c bad) (show Blk W6.drew w5.heap.size 5 (cellsB (filled c bad)).toArray from HB6.out)).mono ?_))
          rintro e w7 ⟨rfl, hsh7, hk7⟩
          have HSH7 := Lib.hid hsh7
          have HK7 := Lib.hid hk7
          have HG7 := Lib.hid (HG6.out.drew.keep HK7.out (.inl (.inr rfl)))
          have HB7 := Lib.hid (HB6.out.drew.keep HK7.out (.inr rfl))
          have HS7 := Lib.hid (show w7.cell? ⟨ga, 1, none⟩ = some (.int .i64 at_) by rw [HG7.out.cell]; rfl)
          clear hsh7 hk7
          refine ⟨_, rfl, HS7.out, ?_⟩
          try simp only [Act.put, List.setIfInBounds_toArray, List.set_cons_zero, List.set_cons_succ]
          refine wpAnyH_1 (i := 9) (by kernel_rfl) (wpOp_call (o := { dst := some 70, op := Op.call { callee := Callee.value (Operand.func 12), args := #[Operand.tmp 66, Operand.tmp 68, Operand.tmp 69], argTypes := #[26, 3, 32] }, type := 4, pos := "law.go:58", after := #[{ on := 5, ground := Ground.data }, { on := 7, ground := Ground.data }, { on := 8, ground := Ground.data }, { on := 4, ground := Ground.chain }], guard := none }) (f := 12) rfl (by rfl) (by go_simp) ((pWriteR' HSH7.out (by rw [← HSAME.out.l]; have := HSAME.out.len; omega) (by rw [← HSAME.out.count]; have := HSAME.out.cnt; omega) HSAME.out.lr at_ (filled_length c bad) HB7.out (HSAME.out.can (by omega) at_ (filled c bad)).symm).mono ?_))
          rintro e w8 ⟨rfl, hsh8, hk8⟩
          have HSH8 := Lib.hid hsh8
          have HK8 := Lib.hid (HK7.out.trans hk8)
          have HG8 := Lib.hid (HG7.out.keep hk8 (.inl (.inr rfl)))
          have HB8 := Lib.hid (HB7.out.keep hk8 (.inr rfl))
          have HS8 := Lib.hid (show w8.cell? ⟨ga, 1, none⟩ = some (.int .i64 at_) by rw [HG8.out.cell]; rfl)
          clear hsh8 hk8
          refine ⟨_, rfl, HS8.out, ?_⟩
          try simp only [Act.put, List.setIfInBounds_toArray, List.set_cons_zero, List.set_cons_succ]
          refine wpAnyH_take (i := 10) (oi := { dst := some 71, op := Op.binOp BinOp.neq 4 (Operand.tmp 65) (Operand.tmp 70) 4, type := 4, pos := "law.go:58", after := #[{ on := 4, ground := Ground.data }, { on := 9, ground := Ground.data }], guard := none }) (v := .bool false) rfl (by kernel_rfl) (by kernel_rfl) (by kernel_rfl) (fun _ _ _ h => h) (Or.inl ⟨by rfl, ?_⟩) HS8.out ?_
          · intro W hSw; (skip); go_simp
          try simp only [Act.put, List.setIfInBounds_toArray, List.set_cons_zero, List.set_cons_succ]
          refine wpAnyH_done (by kernel_rfl) ?_ _
          refine NoPanic.normal ?_
          go_wp2_with fail
          go_loopg [12] (fillN bad) (fun k i wq => InRel w1 w1.heap.size (w1.heap.size + 1) (w2.heap.size + 1) w3.heap.size ga w5.heap.size (fillN bad) #[.int .i64 0, .int .i64 at_, .int .i64 xn, .int .u8 (c : Int), .bool bad, .slice KA kn kc] (s.tw at_ (filled c bad)) so1 (r.tw at_ (filled c bad)) k i wq)
          case atStart => exact ⟨0, _, by omega, rfl, by rw [List.size_toArray, cellsB_length, filled_length], HB8.out, HSH8.out, HG8.out, (HK6.out.drew).trans (HK8.out.mono fun i _ _ hi => .inl (.inl hi))⟩
          case round =>
            obtain ⟨m, cs, hm, rfl, hcs, hbq, hshq, hgq, hkq⟩ := hrel
            have HMq := Lib.hid hm
            have HCS := Lib.hid hcs
            have HBq := Lib.hid hbq
            have HSHq := Lib.hid hshq
            have HGq := Lib.hid hgq
            have HKq := Lib.hid hkq
            clear hm hcs hbq hshq hgq hkq HSH6 HSH7 HSH8 HG6 HG7 HG8 HB6 HB7 HB8 HK6 HK7 HK8 HS6 HS7 HS8
            by_cases hmf : m < fillN bad
            · obtain ⟨u, hu⟩ : ∃ u, cs[m]? = some u := ⟨_, Array.getElem?_eq_getElem (by rw [HCS.out]; exact hmf)⟩
              have hcu : wr.cell? ⟨w5.heap.size, m, none⟩ = some u := by rw [HBq.out.cell]; exact hu
              have hfu := HBq.out.frozen m
              have hgne : ga ≠ w5.heap.size := fun e => ne_of_types HBq.out HGq.out (by decide) e
              clear hu
              go_wp2
              go_roundg (fillN bad - (m + 1))
              case measure => have := HMq.out; omega
              case rel => exact ⟨m + 1, _, by omega, by go_num, by simpa using HCS.out, HBq.out.set_ m _, HSHq.out.setF (.inr rfl) m _, HGq.out.far hgne _, HKq.out.setCell (p := ⟨w5.heap.size, m, none⟩) (fun _ _ hK => by have := HK5.out.size; have h2 : w5.heap.size < w1.heap.size := hK; omega) _⟩
            · have hcl : True := trivial
              clear hcl
              generalize hs1 : s.tw at_ (filled c bad) = s1 at *
              generalize hr1 : r.tw at_ (filled c bad) = r1 at *
              have HSZ := Lib.hid (HSAME.out.tw (by omega) at_ (filled c bad))
              rw [hs1, hr1] at HSZ
              have HSHZ := Lib.hid (HSHq.out.less (F' := fun i => i < w1.heap.size ∨ i = ga) fun i hi => .inl hi)
              have HGZ := HGq
              have HKZ := HKq
              clear hs1 hr1 HSHq HGq HKq HBq HMq HCS d0 d1 d2 d3 d4 d5
              generalize wr = wz at *
              go_wp2_with fail
              have HCZ := Lib.hid (show wz.cell? ⟨w3.heap.size, 4, none⟩ = some (.int .i64 (s1.count : Int)) by rw [pCount HSHZ.out, HSZ.out.count])
              have HST := Lib.hid (tail_start HGZ.out rfl HCZ.out)
              refine wp_region_noPanic ?_
              refine wp_region_held_drew (S := fun w' => w'.cell? ⟨w3.heap.size, 4, none⟩ = some (.int .i64 (s1.count : Int)) ∧ w'.cell? ⟨ga, 1, none⟩ = some (.int .i64 at_)) (by kernel_rfl) HST.out (fun _ => ?_)
              refine wpAnyH_take (i := 0) (oi := { dst := some 113, op := Op.move (Operand.tmp 6), type := 24, pos := "law.go:79", after := #[], guard := none }) (v := ptr (w1.heap.size + 1)) rfl (by kernel_rfl) (by kernel_rfl) (by kernel_rfl) (fun _ _ _ h => h) (Or.inl ⟨by rfl, ?_⟩) HST.out ?_
              · intro W hSw; (obtain ⟨q0, q1⟩ := hSw); go_simp
              try simp only [Act.put, List.setIfInBounds_toArray, List.set_cons_zero, List.set_cons_succ]
              refine wpAnyH_take (i := 2) (oi := { dst := some 115, op := Op.move (Operand.tmp 8), type := 26, pos := "law.go:79", after := #[], guard := none }) (v := ptr w3.heap.size) rfl (by kernel_rfl) (by kernel_rfl) (by kernel_rfl) (fun _ _ _ h => h) (Or.inl ⟨by rfl, ?_⟩) HST.out ?_
              · intro W hSw; (obtain ⟨q0, q1⟩ := hSw); go_simp
              try simp only [Act.put, List.setIfInBounds_toArray, List.set_cons_zero, List.set_cons_succ]
              refine wpAnyH_take (i := 3) (oi := { dst := some 116, op := Op.nilCheck (Operand.tmp 115), type := 0, pos := "law.go:79", after := #[{ on := 2, ground := Ground.data }], guard := none }) (v := ptr w3.heap.size) rfl (by kernel_rfl) (by kernel_rfl) (by kernel_rfl) (fun _ _ _ h => h) (Or.inl ⟨by rfl, ?_⟩) HST.out ?_
              · intro W hSw; (obtain ⟨q0, q1⟩ := hSw); go_simp
              try simp only [Act.put, List.setIfInBounds_toArray, List.set_cons_zero, List.set_cons_succ]
              refine wpAnyH_take (i := 4) (oi := { dst := some 117, op := Op.fieldAddr 40 (Operand.tmp 116) 4, type := 0, pos := "law.go:79", after := #[{ on := 3, ground := Ground.data }], guard := none }) (v := .pointer (some ⟨w3.heap.size, 4, none⟩)) rfl (by kernel_rfl) (by kernel_rfl) (by kernel_rfl) (fun _ _ _ h => h) (Or.inl ⟨by rfl, ?_⟩) HST.out ?_
              · intro W hSw; (obtain ⟨q0, q1⟩ := hSw); go_simp
              try simp only [Act.put, List.setIfInBounds_toArray, List.set_cons_zero, List.set_cons_succ]
              refine wpAnyH_take (i := 5) (oi := { dst := some 118, op := Op.load 3 (Operand.tmp 117), type := 3, pos := "law.go:79", after := #[{ on := 4, ground := Ground.data }], guard := none }) (v := .int .i64 (s1.count : Int)) rfl (by kernel_rfl) (by kernel_rfl) (by kernel_rfl) (fun _ _ _ h => h) (Or.inl ⟨by rfl, ?_⟩) HST.out ?_
              · intro W hSw; (obtain ⟨q0, q1⟩ := hSw); go_simp
              try simp only [Act.put, List.setIfInBounds_toArray, List.set_cons_zero, List.set_cons_succ]
              refine wpAnyH_1 (i := 1) (by kernel_rfl) (wpOp_call (o := { dst := some 114, op := Op.call { callee := Callee.value (Operand.func 19), args := #[Operand.tmp 113], argTypes := #[24] }, type := 3, pos := "law.go:79", after := #[{ on := 0, ground := Ground.data }], guard := none }) (f := 19) rfl (by rfl) (by go_simp) ((pWrites HSHZ.out.drew).mono ?_))
              rintro e _ ⟨rfl, rfl⟩
              refine ⟨_, rfl, HST.out, ?_⟩
              try simp only [Act.put, List.setIfInBounds_toArray, List.set_cons_zero, List.set_cons_succ]
              refine wpAnyH_take (i := 6) (oi := { dst := some 119, op := Op.binOp BinOp.neq 3 (Operand.tmp 114) (Operand.tmp 118) 3, type := 4, pos := "law.go:79", after := #[{ on := 1, ground := Ground.data }, { on := 5, ground := Ground.data }], guard := none }) (v := .bool false) rfl (by kernel_rfl) (by kernel_rfl) (by kernel_rfl) (fun _ _ _ h => h) (Or.inl ⟨by rfl, ?_⟩) HST.out ?_
              · intro W hSw; (obtain ⟨q0, q1⟩ := hSw); go_simp
              try simp only [Act.put, List.setIfInBounds_toArray, List.set_cons_zero, List.set_cons_succ]
              refine wpAnyH_take (i := 7) (oi := { dst := some 120, op := Op.move (Operand.tmp 119), type := 4, pos := "law.go:79", after := #[{ on := 6, ground := Ground.data }, { on := 1, ground := Ground.chain }], guard := none }) (v := .bool false) rfl (by kernel_rfl) (by kernel_rfl) (by kernel_rfl) (fun _ _ _ h => h) (Or.inl ⟨by rfl, ?_⟩) HST.out ?_
              · intro W hSw; (obtain ⟨q0, q1⟩ := hSw); go_simp
              try simp only [Act.put, List.setIfInBounds_toArray, List.set_cons_zero, List.set_cons_succ]
              refine wpAnyH_take (i := 8) (oi := { dst := some 121, op := Op.move (Operand.tmp 6), type := 24, pos := "law.go:79", after := #[{ on := 7, ground := Ground.guard }], guard := some (7, false) }) (v := ptr (w1.heap.size + 1)) rfl (by kernel_rfl) (by kernel_rfl) (by kernel_rfl) (fun _ _ _ h => h) (Or.inl ⟨by rfl, ?_⟩) HST.out ?_
              · intro W hSw; (obtain ⟨q0, q1⟩ := hSw); go_simp
              try simp only [Act.put, List.setIfInBounds_toArray, List.set_cons_zero, List.set_cons_succ]
              refine wpAnyH_take (i := 10) (oi := { dst := some 123, op := Op.move (Operand.tmp 8), type := 26, pos := "law.go:79", after := #[{ on := 7, ground := Ground.guard }], guard := some (7, false) }) (v := ptr w3.heap.size) rfl (by kernel_rfl) (by kernel_rfl) (by kernel_rfl) (fun _ _ _ h => h) (Or.inl ⟨by rfl, ?_⟩) HST.out ?_
              · intro W hSw; (obtain ⟨q0, q1⟩ := hSw); go_simp
              try simp only [Act.put, List.setIfInBounds_toArray, List.set_cons_zero, List.set_cons_succ]
              refine wpAnyH_1 (i := 9) (by kernel_rfl) (wpOp_call (o := { dst := some 122, op := Op.call { callee := Callee.value (Operand.func 20), args := #[Operand.tmp 121], argTypes := #[24] }, type := 3, pos := "law.go:79", after := #[{ on := 8, ground := Ground.data }, { on := 7, ground := Ground.chain }, { on := 7, ground := Ground.guard }], guard := some (7, false) }) (f := 20) rfl (by rfl) (by go_simp) ((pLenD HSHZ.out.drew).mono ?_))
              rintro e _ ⟨rfl, rfl⟩
              refine ⟨_, rfl, HST.out, ?_⟩
              try simp only [Act.put, List.setIfInBounds_toArray, List.set_cons_zero, List.set_cons_succ]
              refine wpAnyH_1 (i := 11) (by kernel_rfl) (wpOp_call (o := { dst := some 124, op := Op.call { callee := Callee.value (Operand.func 21), args := #[Operand.tmp 123], argTypes := #[26] }, type := 3, pos := "law.go:79", after := #[{ on := 10, ground := Ground.data }, { on := 9, ground := Ground.chain }, { on := 7, ground := Ground.guard }], guard := some (7, false) }) (f := 21) rfl (by rfl) (by go_simp) ((pLenR HSHZ.out.drew HSZ.out.n.symm).mono ?_))
              rintro e _ ⟨rfl, rfl⟩
              refine ⟨_, rfl, HST.out, ?_⟩
              try simp only [Act.put, List.setIfInBounds_toArray, List.set_cons_zero, List.set_cons_succ]
              refine wpAnyH_take (i := 12) (oi := { dst := some 125, op := Op.binOp BinOp.neq 3 (Operand.tmp 122) (Operand.tmp 124) 3, type := 4, pos := "law.go:79", after := #[{ on := 9, ground := Ground.data }, { on := 11, ground := Ground.data }, { on := 7, ground := Ground.guard }], guard := some (7, false) }) (v := .bool false) rfl (by kernel_rfl) (by kernel_rfl) (by kernel_rfl) (fun _ _ _ h => h) (Or.inl ⟨by rfl, ?_⟩) HST.out ?_
              · intro W hSw; (obtain ⟨q0, q1⟩ := hSw); go_simp
              try simp only [Act.put, List.setIfInBounds_toArray, List.set_cons_zero, List.set_cons_succ]
              refine wpAnyH_take (i := 13) (oi := { dst := some 126, op := Op.pick (Operand.tmp 120) (Operand.const (Value.bool true)) (Operand.tmp 125), type := 4, pos := "law.go:79", after := #[{ on := 7, ground := Ground.data }, { on := 12, ground := Ground.data }], guard := none }) (v := .bool false) rfl (by kernel_rfl) (by kernel_rfl) (by kernel_rfl) (fun _ _ _ h => h) (Or.inl ⟨by rfl, ?_⟩) HST.out ?_
              · intro W hSw; (obtain ⟨q0, q1⟩ := hSw); go_simp
              try simp only [Act.put, List.setIfInBounds_toArray, List.set_cons_zero, List.set_cons_succ]
              refine wpAnyH_take (i := 14) (oi := { dst := some 127, op := Op.move (Operand.tmp 126), type := 4, pos := "law.go:79", after := #[{ on := 13, ground := Ground.data }, { on := 11, ground := Ground.chain }], guard := none }) (v := .bool false) rfl (by kernel_rfl) (by kernel_rfl) (by kernel_rfl) (fun _ _ _ h => h) (Or.inl ⟨by rfl, ?_⟩) HST.out ?_
              · intro W hSw; (obtain ⟨q0, q1⟩ := hSw); go_simp
              try simp only [Act.put, List.setIfInBounds_toArray, List.set_cons_zero, List.set_cons_succ]
              refine wpAnyH_take (i := 15) (oi := { dst := some 128, op := Op.move (Operand.tmp 6), type := 24, pos := "law.go:79", after := #[{ on := 14, ground := Ground.guard }], guard := some (14, false) }) (v := ptr (w1.heap.size + 1)) rfl (by kernel_rfl) (by kernel_rfl) (by kernel_rfl) (fun _ _ _ h => h) (Or.inl ⟨by rfl, ?_⟩) HST.out ?_
              · intro W hSw; (obtain ⟨q0, q1⟩ := hSw); go_simp
              try simp only [Act.put, List.setIfInBounds_toArray, List.set_cons_zero, List.set_cons_succ]
              refine wpAnyH_take (i := 16) (oi := { dst := some 129, op := Op.fieldAddr 30 (Operand.tmp 10) 1, type := 0, pos := "law.go:79", after := #[{ on := 14, ground := Ground.guard }], guard := some (14, false) }) (v := .pointer (some ⟨ga, 1, none⟩)) rfl (by kernel_rfl) (by kernel_rfl) (by kernel_rfl) (fun _ _ _ h => h) (Or.inl ⟨by rfl, ?_⟩) HST.out ?_
              · intro W hSw; (obtain ⟨q0, q1⟩ := hSw); go_simp
              try simp only [Act.put, List.setIfInBounds_toArray, List.set_cons_zero, List.set_cons_succ]
              refine wpAnyH_take (i := 17) (oi := { dst := some 130, op := Op.load 3 (Operand.tmp 129), type := 3, pos := "law.go:79", after := #[{ on := 16, ground := Ground.data }, { on := 14, ground := Ground.guard }], guard := some (14, false) }) (v := .int .i64 at_) rfl (by kernel_rfl) (by kernel_rfl) (by kernel_rfl) (fun _ _ _ h => h) (Or.inl ⟨by rfl, ?_⟩) HST.out ?_
              · intro W hSw; (obtain ⟨q0, q1⟩ := hSw); go_simp
              try simp only [Act.put, List.setIfInBounds_toArray, List.set_cons_zero, List.set_cons_succ]
              refine wpAnyH_take (i := 20) (oi := { dst := some 133, op := Op.move (Operand.tmp 8), type := 26, pos := "law.go:79", after := #[{ on := 14, ground := Ground.guard }], guard := some (14, false) }) (v := ptr w3.heap.size) rfl (by kernel_rfl) (by kernel_rfl) (by kernel_rfl) (fun _ _ _ h => h) (Or.inl ⟨by rfl, ?_⟩) HST.out ?_
              · intro W hSw; (obtain ⟨q0, q1⟩ := hSw); go_simp
              try simp only [Act.put, List.setIfInBounds_toArray, List.set_cons_zero, List.set_cons_succ]
              refine wpAnyH_take (i := 21) (oi := { dst := some 134, op := Op.fieldAddr 30 (Operand.tmp 10) 1, type := 0, pos := "law.go:79", after := #[{ on := 14, ground := Ground.guard }], guard := some (14, false) }) (v := .pointer (some ⟨ga, 1, none⟩)) rfl (by kernel_rfl) (by kernel_rfl) (by kernel_rfl) (fun _ _ _ h => h) (Or.inl ⟨by rfl, ?_⟩) HST.out ?_
              · intro W hSw; (obtain ⟨q0, q1⟩ := hSw); go_simp
              try simp only [Act.put, List.setIfInBounds_toArray, List.set_cons_zero, List.set_cons_succ]
              refine wpAnyH_take (i := 22) (oi := { dst := some 135, op := Op.load 3 (Operand.tmp 134), type := 3, pos := "law.go:79", after := #[{ on := 21, ground := Ground.data }, { on := 14, ground := Ground.guard }], guard := some (14, false) }) (v := .int .i64 at_) rfl (by kernel_rfl) (by kernel_rfl) (by kernel_rfl) (fun _ _ _ h => h) (Or.inl ⟨by rfl, ?_⟩) HST.out ?_
              · intro W hSw; (obtain ⟨q0, q1⟩ := hSw); go_simp
              try simp only [Act.put, List.setIfInBounds_toArray, List.set_cons_zero, List.set_cons_succ]
              refine wpAnyH_1 (i := 18) (by kernel_rfl) (wpOp_call (o := { dst := some 131, op := Op.call { callee := Callee.value (Operand.func 22), args := #[Operand.tmp 128, Operand.tmp 130], argTypes := #[24, 3] }, type := 32, pos := "law.go:79", after := #[{ on := 15, ground := Ground.data }, { on := 17, ground := Ground.data }, { on := 14, ground := Ground.chain }, { on := 14, ground := Ground.guard }], guard := some (14, false) }) (f := 22) rfl (by rfl) (by go_simp) ((pReadD HSHZ.out.drew at_).mono ?_))
              rintro e w7 ⟨A7, n7, c7, rfl, hcv7, hbel7⟩
              have HS7 := Lib.hid (tail_keep HST.out hbel7)
              have HCV := Lib.hid hcv7
              have HBL7 := Lib.hid hbel7
              clear hcv7 hbel7
              refine ⟨_, rfl, HS7.out, ?_⟩
              try simp only [Act.put, List.setIfInBounds_toArray, List.set_cons_zero, List.set_cons_succ]
              refine wpAnyH_2 (i := 19) (j := 23) (by kernel_rfl) ?_ ?_
              · refine wpOp_value (o := { dst := some 132, op := Op.convert 32 9 (Operand.tmp 131), type := 9, pos := "law.go:79", after := #[{ on := 18, ground := Ground.data }, { on := 14, ground := Ground.guard }], guard := some (14, false) }) (v := .string (s1.str at_)) (w' := w7) rfl (by rfl) (exec_value rfl (HCV.out w7 (Below.refl _ _))) ⟨HS7.out, ?_⟩
                try simp only [Act.put, List.setIfInBounds_toArray, List.set_cons_zero, List.set_cons_succ]
                refine wpAnyH_1 (i := 23) (by kernel_rfl) ?_
                refine wpOp_call (o := { dst := some 136, op := Op.call { callee := Callee.value (Operand.func 23), args := #[Operand.tmp 133, Operand.tmp 135], argTypes := #[26, 3] }, type := 32, pos := "law.go:79", after := #[{ on := 20, ground := Ground.data }, { on := 22, ground := Ground.data }, { on := 18, ground := Ground.chain }, { on := 14, ground := Ground.guard }], guard := some (14, false) }) (f := 23) rfl (by rfl) (by go_simp) ((pReadR (HSHZ.out.drew.below HBL7.out) at_ (by rw [← HSZ.out.l]; have := HSZ.out.len; omega) (HSZ.out.str at_).symm).mono ?_)
                rintro e w8 ⟨A8, n8, c8, rfl, hcv8, hbel8⟩
                have HS8 := Lib.hid (tail_keep HS7.out hbel8)
                have HCV8 := Lib.hid hcv8
                have HBL8 := Lib.hid hbel8
                clear hcv8 hbel8
                refine ⟨_, rfl, HS8.out, ?_⟩
                try simp only [Act.put, List.setIfInBounds_toArray, List.set_cons_zero, List.set_cons_succ]
                refine wpAnyH_1 (i := 24) (by kernel_rfl) ?_
                refine wpOp_value (o := { dst := some 137, op := Op.convert 32 9 (Operand.tmp 136), type := 9, pos := "law.go:79", after := #[{ on := 23, ground := Ground.data }, { on := 14, ground := Ground.guard }], guard := some (14, false) }) (v := .string (s1.str at_)) (w' := w8) rfl (by rfl) (exec_value rfl (HCV8.out)) ⟨HS8.out, ?_⟩
                try simp only [Act.put, List.setIfInBounds_toArray, List.set_cons_zero, List.set_cons_succ]
                refine wpAnyH_take (i := 25) (oi := { dst := some 138, op := Op.binOp BinOp.neq 9 (Operand.tmp 132) (Operand.tmp 137) 9, type := 4, pos := "law.go:79", after := #[{ on := 19, ground := Ground.data }, { on := 24, ground := Ground.data }, { on := 14, ground := Ground.guard }], guard := some (14, false) }) (v := .bool false) rfl (by kernel_rfl) (by kernel_rfl) (by kernel_rfl) (fun _ _ _ h => h) (Or.inl ⟨by rfl, ?_⟩) HS8.out ?_
                · intro W hSw; (obtain ⟨q0, q1⟩ := hSw); go_simp
                try simp only [Act.put, List.setIfInBounds_toArray, List.set_cons_zero, List.set_cons_succ]
                refine wpAnyH_take (i := 26) (oi := { dst := some 139, op := Op.pick (Operand.tmp 127) (Operand.const (Value.bool true)) (Operand.tmp 138), type := 4, pos := "law.go:79", after := #[{ on := 14, ground := Ground.data }, { on := 25, ground := Ground.data }], guard := none }) (v := .bool false) rfl (by kernel_rfl) (by kernel_rfl) (by kernel_rfl) (fun _ _ _ h => h) (Or.inl ⟨by rfl, ?_⟩) HS8.out ?_
                · intro W hSw; (obtain ⟨q0, q1⟩ := hSw); go_simp
                try simp only [Act.put, List.setIfInBounds_toArray, List.set_cons_zero, List.set_cons_succ]
                refine wpAnyH_done (by kernel_rfl) ?_ _
                refine NoPanic.normal ?_
                go_wp2
                go_roundg (len - (j + 1))
                case measure => have := HJ.out; omega
                case rel => exact ⟨j + 1, s1, so1, r1, by omega, by go_num, ((HSHZ.out.drew.below HBL7.out).below HBL8.out).less (fun i hi => .inl hi), HSZ.out, HOZ.out, ((HKZ.out.drew).trans (Keep.of_below HBL7.out)).trans (Keep.of_below HBL8.out)⟩
              · refine wpOp_call (o := { dst := some 136, op := Op.call { callee := Callee.value (Operand.func 23), args := #[Operand.tmp 133, Operand.tmp 135], argTypes := #[26, 3] }, type := 32, pos := "law.go:79", after := #[{ on := 20, ground := Ground.data }, { on := 22, ground := Ground.data }, { on := 18, ground := Ground.chain }, { on := 14, ground := Ground.guard }], guard := some (14, false) }) (f := 23) rfl (by rfl) (by go_simp) ((pReadR (HSHZ.out.drew.below HBL7.out) at_ (by rw [← HSZ.out.l]; have := HSZ.out.len; omega) (HSZ.out.str at_).symm).mono ?_)
                rintro e w8 ⟨A8, n8, c8, rfl, hcv8, hbel8⟩
                have HS8 := Lib.hid (tail_keep HS7.out hbel8)
                have HCV8 := Lib.hid hcv8
                have HBL8 := Lib.hid hbel8
                clear hcv8 hbel8
                refine ⟨_, rfl, HS8.out, ?_⟩
                try simp only [Act.put, List.setIfInBounds_toArray, List.set_cons_zero, List.set_cons_succ]
                refine wpAnyH_2 (i := 19) (j := 24) (by kernel_rfl) ?_ ?_
                · refine wpOp_value (o := { dst := some 132, op := Op.convert 32 9 (Operand.tmp 131), type := 9, pos := "law.go:79", after := #[{ on := 18, ground := Ground.data }, { on := 14, ground := Ground.guard }], guard := some (14, false) }) (v := .string (s1.str at_)) (w' := w8) rfl (by rfl) (exec_value rfl (HCV.out w8 HBL8.out)) ⟨HS8.out, ?_⟩
                  try simp only [Act.put, List.setIfInBounds_toArray, List.set_cons_zero, List.set_cons_succ]
                  refine wpAnyH_1 (i := 24) (by kernel_rfl) ?_
                  refine wpOp_value (o := { dst := some 137, op := Op.convert 32 9 (Operand.tmp 136), type := 9, pos := "law.go:79", after := #[{ on := 23, ground := Ground.data }, { on := 14, ground := Ground.guard }], guard := some (14, false) }) (v := .string (s1.str at_)) (w' := w8) rfl (by rfl) (exec_value rfl (HCV8.out)) ⟨HS8.out, ?_⟩
                  try simp only [Act.put, List.setIfInBounds_toArray, List.set_cons_zero, List.set_cons_succ]
                  refine wpAnyH_take (i := 25) (oi := { dst := some 138, op := Op.binOp BinOp.neq 9 (Operand.tmp 132) (Operand.tmp 137) 9, type := 4, pos := "law.go:79", after := #[{ on := 19, ground := Ground.data }, { on := 24, ground := Ground.data }, { on := 14, ground := Ground.guard }], guard := some (14, false) }) (v := .bool false) rfl (by kernel_rfl) (by kernel_rfl) (by kernel_rfl) (fun _ _ _ h => h) (Or.inl ⟨by rfl, ?_⟩) HS8.out ?_
                  · intro W hSw; (obtain ⟨q0, q1⟩ := hSw); go_simp
                  try simp only [Act.put, List.setIfInBounds_toArray, List.set_cons_zero, List.set_cons_succ]
                  refine wpAnyH_take (i := 26) (oi := { dst := some 139, op := Op.pick (Operand.tmp 127) (Operand.const (Value.bool true)) (Operand.tmp 138), type := 4, pos := "law.go:79", after := #[{ on := 14, ground := Ground.data }, { on := 25, ground := Ground.data }], guard := none }) (v := .bool false) rfl (by kernel_rfl) (by kernel_rfl) (by kernel_rfl) (fun _ _ _ h => h) (Or.inl ⟨by rfl, ?_⟩) HS8.out ?_
                  · intro W hSw; (obtain ⟨q0, q1⟩ := hSw); go_simp
                  try simp only [Act.put, List.setIfInBounds_toArray, List.set_cons_zero, List.set_cons_succ]
                  refine wpAnyH_done (by kernel_rfl) ?_ _
                  refine NoPanic.normal ?_
                  go_wp2
                  go_roundg (len - (j + 1))
                  case measure => have := HJ.out; omega
                  case rel => exact ⟨j + 1, s1, so1, r1, by omega, by go_num, ((HSHZ.out.drew.below HBL7.out).below HBL8.out).less (fun i hi => .inl hi), HSZ.out, HOZ.out, ((HKZ.out.drew).trans (Keep.of_below HBL7.out)).trans (Keep.of_below HBL8.out)⟩
                · refine wpOp_value (o := { dst := some 137, op := Op.convert 32 9 (Operand.tmp 136), type := 9, pos := "law.go:79", after := #[{ on := 23, ground := Ground.data }, { on := 14, ground := Ground.guard }], guard := some (14, false) }) (v := .string (s1.str at_)) (w' := w8) rfl (by rfl) (exec_value rfl (HCV8.out)) ⟨HS8.out, ?_⟩
                  try simp only [Act.put, List.setIfInBounds_toArray, List.set_cons_zero, List.set_cons_succ]
                  refine wpAnyH_1 (i := 19) (by kernel_rfl) ?_
                  refine wpOp_value (o := { dst := some 132, op := Op.convert 32 9 (Operand.tmp 131), type := 9, pos := "law.go:79", after := #[{ on := 18, ground := Ground.data }, { on := 14, ground := Ground.guard }], guard := some (14, false) }) (v := .string (s1.str at_)) (w' := w8) rfl (by rfl) (exec_value rfl (HCV.out w8 HBL8.out)) ⟨HS8.out, ?_⟩
                  try simp only [Act.put, List.setIfInBounds_toArray, List.set_cons_zero, List.set_cons_succ]
                  refine wpAnyH_take (i := 25) (oi := { dst := some 138, op := Op.binOp BinOp.neq 9 (Operand.tmp 132) (Operand.tmp 137) 9, type := 4, pos := "law.go:79", after := #[{ on := 19, ground := Ground.data }, { on := 24, ground := Ground.data }, { on := 14, ground := Ground.guard }], guard := some (14, false) }) (v := .bool false) rfl (by kernel_rfl) (by kernel_rfl) (by kernel_rfl) (fun _ _ _ h => h) (Or.inl ⟨by rfl, ?_⟩) HS8.out ?_
                  · intro W hSw; (obtain ⟨q0, q1⟩ := hSw); go_simp
                  try simp only [Act.put, List.setIfInBounds_toArray, List.set_cons_zero, List.set_cons_succ]
                  refine wpAnyH_take (i := 26) (oi := { dst := some 139, op := Op.pick (Operand.tmp 127) (Operand.const (Value.bool true)) (Operand.tmp 138), type := 4, pos := "law.go:79", after := #[{ on := 14, ground := Ground.data }, { on := 25, ground := Ground.data }], guard := none }) (v := .bool false) rfl (by kernel_rfl) (by kernel_rfl) (by kernel_rfl) (fun _ _ _ h => h) (Or.inl ⟨by rfl, ?_⟩) HS8.out ?_
                  · intro W hSw; (obtain ⟨q0, q1⟩ := hSw); go_simp
                  try simp only [Act.put, List.setIfInBounds_toArray, List.set_cons_zero, List.set_cons_succ]
                  refine wpAnyH_done (by kernel_rfl) ?_ _
                  refine NoPanic.normal ?_
                  go_wp2
                  go_roundg (len - (j + 1))
                  case measure => have := HJ.out; omega
                  case rel => exact ⟨j + 1, s1, so1, r1, by omega, by go_num, ((HSHZ.out.drew.below HBL7.out).below HBL8.out).less (fun i hi => .inl hi), HSZ.out, HOZ.out, ((HKZ.out.drew).trans (Keep.of_below HBL7.out)).trans (Keep.of_below HBL8.out)⟩

        · have t0 : (way == 0) = false := by rw [beq_eq_false_iff_ne]; exact h0
          by_cases h1 : way = 1
          · subst h1
            clear h0 t0
            go_wp2_with fail
            refine (pSyncD HSH5.out).mono ?_
            rintro e w6 ⟨rfl, hsh6, hk6⟩
            have HSH6 := Lib.hid hsh6
            have HG6 := Lib.hid (HG5.out.keep hk6 (.inr rfl))
            have HK6 := Lib.hid (HK5.out.trans (hk6.mono fun i _ _ hi => .inl hi))
            clear hsh6 hk6
            go_wp2_with fail
            refine (pSyncR' HSH6.out (HSAME.out.broken (by omega)).symm).mono ?_
            rintro e wz ⟨rfl, hsh7, hk7⟩
            have HSHZ := Lib.hid hsh7
            have HGZ := Lib.hid (HG6.out.keep hk7 (.inr rfl))
            have HKZ := Lib.hid (HK6.out.trans (hk7.mono fun i _ _ hi => .inl hi))
            clear hsh7 hk7 HSH6 HG6 HK6 d0 d1 d2 d3 d4 d5
            generalize hs1 : s.ts = s1 at *
            generalize hr1 : r.ts = r1 at *
            have HSZ := Lib.hid (HSAME.out.ts (by omega))
            rw [hs1, hr1] at HSZ
            clear hs1 hr1
            go_wp2_with fail
            have HCZ := Lib.hid (show wz.cell? ⟨w3.heap.size, 4, none⟩ = some (.int .i64 (s1.count : Int)) by rw [pCount HSHZ.out, HSZ.out.count])
            have HST := Lib.hid (tail_start HGZ.out rfl HCZ.out)
            refine wp_region_noPanic ?_
            refine wp_region_held_drew (S := fun w' => w'.cell? ⟨w3.heap.size, 4, none⟩ = some (.int .i64 (s1.count : Int)) ∧ w'.cell? ⟨ga, 1, none⟩ = some (.int .i64 at_)) (by kernel_rfl) HST.out (fun _ => ?_)
            refine wpAnyH_take (i := 0) (oi := { dst := some 113, op := Op.move (Operand.tmp 6), type := 24, pos := "law.go:79", after := #[], guard := none }) (v := ptr (w1.heap.size + 1)) rfl (by kernel_rfl) (by kernel_rfl) (by kernel_rfl) (fun _ _ _ h => h) (Or.inl ⟨by rfl, ?_⟩) HST.out ?_
            · intro W hSw; (obtain ⟨q0, q1⟩ := hSw); go_simp
            try simp only [Act.put, List.setIfInBounds_toArray, List.set_cons_zero, List.set_cons_succ]
            refine wpAnyH_take (i := 2) (oi := { dst := some 115, op := Op.move (Operand.tmp 8), type := 26, pos := "law.go:79", after := #[], guard := none }) (v := ptr w3.heap.size) rfl (by kernel_rfl) (by kernel_rfl) (by kernel_rfl) (fun _ _ _ h => h) (Or.inl ⟨by rfl, ?_⟩) HST.out ?_
            · intro W hSw; (obtain ⟨q0, q1⟩ := hSw); go_simp
            try simp only [Act.put, List.setIfInBounds_toArray, List.set_cons_zero, List.set_cons_succ]
            refine wpAnyH_take (i := 3) (oi := { dst := some 116, op := Op.nilCheck (Operand.tmp 115), type := 0, pos := "law.go:79", after := #[{ on := 2, ground := Ground.data }], guard := none }) (v := ptr w3.heap.size) rfl (by kernel_rfl) (by kernel_rfl) (by kernel_rfl) (fun _ _ _ h => h) (Or.inl ⟨by rfl, ?_⟩) HST.out ?_
            · intro W hSw; (obtain ⟨q0, q1⟩ := hSw); go_simp
            try simp only [Act.put, List.setIfInBounds_toArray, List.set_cons_zero, List.set_cons_succ]
            refine wpAnyH_take (i := 4) (oi := { dst := some 117, op := Op.fieldAddr 40 (Operand.tmp 116) 4, type := 0, pos := "law.go:79", after := #[{ on := 3, ground := Ground.data }], guard := none }) (v := .pointer (some ⟨w3.heap.size, 4, none⟩)) rfl (by kernel_rfl) (by kernel_rfl) (by kernel_rfl) (fun _ _ _ h => h) (Or.inl ⟨by rfl, ?_⟩) HST.out ?_
            · intro W hSw; (obtain ⟨q0, q1⟩ := hSw); go_simp
            try simp only [Act.put, List.setIfInBounds_toArray, List.set_cons_zero, List.set_cons_succ]
            refine wpAnyH_take (i := 5) (oi := { dst := some 118, op := Op.load 3 (Operand.tmp 117), type := 3, pos := "law.go:79", after := #[{ on := 4, ground := Ground.data }], guard := none }) (v := .int .i64 (s1.count : Int)) rfl (by kernel_rfl) (by kernel_rfl) (by kernel_rfl) (fun _ _ _ h => h) (Or.inl ⟨by rfl, ?_⟩) HST.out ?_
            · intro W hSw; (obtain ⟨q0, q1⟩ := hSw); go_simp
            try simp only [Act.put, List.setIfInBounds_toArray, List.set_cons_zero, List.set_cons_succ]
            refine wpAnyH_1 (i := 1) (by kernel_rfl) (wpOp_call (o := { dst := some 114, op := Op.call { callee := Callee.value (Operand.func 19), args := #[Operand.tmp 113], argTypes := #[24] }, type := 3, pos := "law.go:79", after := #[{ on := 0, ground := Ground.data }], guard := none }) (f := 19) rfl (by rfl) (by go_simp) ((pWrites HSHZ.out.drew).mono ?_))
            rintro e _ ⟨rfl, rfl⟩
            refine ⟨_, rfl, HST.out, ?_⟩
            try simp only [Act.put, List.setIfInBounds_toArray, List.set_cons_zero, List.set_cons_succ]
            refine wpAnyH_take (i := 6) (oi := { dst := some 119, op := Op.binOp BinOp.neq 3 (Operand.tmp 114) (Operand.tmp 118) 3, type := 4, pos := "law.go:79", after := #[{ on := 1, ground := Ground.data }, { on := 5, ground := Ground.data }], guard := none }) (v := .bool false) rfl (by kernel_rfl) (by kernel_rfl) (by kernel_rfl) (fun _ _ _ h => h) (Or.inl ⟨by rfl, ?_⟩) HST.out ?_
            · intro W hSw; (obtain ⟨q0, q1⟩ := hSw); go_simp
            try simp only [Act.put, List.setIfInBounds_toArray, List.set_cons_zero, List.set_cons_succ]
            refine wpAnyH_take (i := 7) (oi := { dst := some 120, op := Op.move (Operand.tmp 119), type := 4, pos := "law.go:79", after := #[{ on := 6, ground := Ground.data }, { on := 1, ground := Ground.chain }], guard := none }) (v := .bool false) rfl (by kernel_rfl) (by kernel_rfl) (by kernel_rfl) (fun _ _ _ h => h) (Or.inl ⟨by rfl, ?_⟩) HST.out ?_
            · intro W hSw; (obtain ⟨q0, q1⟩ := hSw); go_simp
            try simp only [Act.put, List.setIfInBounds_toArray, List.set_cons_zero, List.set_cons_succ]
            refine wpAnyH_take (i := 8) (oi := { dst := some 121, op := Op.move (Operand.tmp 6), type := 24, pos := "law.go:79", after := #[{ on := 7, ground := Ground.guard }], guard := some (7, false) }) (v := ptr (w1.heap.size + 1)) rfl (by kernel_rfl) (by kernel_rfl) (by kernel_rfl) (fun _ _ _ h => h) (Or.inl ⟨by rfl, ?_⟩) HST.out ?_
            · intro W hSw; (obtain ⟨q0, q1⟩ := hSw); go_simp
            try simp only [Act.put, List.setIfInBounds_toArray, List.set_cons_zero, List.set_cons_succ]
            refine wpAnyH_take (i := 10) (oi := { dst := some 123, op := Op.move (Operand.tmp 8), type := 26, pos := "law.go:79", after := #[{ on := 7, ground := Ground.guard }], guard := some (7, false) }) (v := ptr w3.heap.size) rfl (by kernel_rfl) (by kernel_rfl) (by kernel_rfl) (fun _ _ _ h => h) (Or.inl ⟨by rfl, ?_⟩) HST.out ?_
            · intro W hSw; (obtain ⟨q0, q1⟩ := hSw); go_simp
            try simp only [Act.put, List.setIfInBounds_toArray, List.set_cons_zero, List.set_cons_succ]
            refine wpAnyH_1 (i := 9) (by kernel_rfl) (wpOp_call (o := { dst := some 122, op := Op.call { callee := Callee.value (Operand.func 20), args := #[Operand.tmp 121], argTypes := #[24] }, type := 3, pos := "law.go:79", after := #[{ on := 8, ground := Ground.data }, { on := 7, ground := Ground.chain }, { on := 7, ground := Ground.guard }], guard := some (7, false) }) (f := 20) rfl (by rfl) (by go_simp) ((pLenD HSHZ.out.drew).mono ?_))
            rintro e _ ⟨rfl, rfl⟩
            refine ⟨_, rfl, HST.out, ?_⟩
            try simp only [Act.put, List.setIfInBounds_toArray, List.set_cons_zero, List.set_cons_succ]
            refine wpAnyH_1 (i := 11) (by kernel_rfl) (wpOp_call (o := { dst := some 124, op := Op.call { callee := Callee.value (Operand.func 21), args := #[Operand.tmp 123], argTypes := #[26] }, type := 3, pos := "law.go:79", after := #[{ on := 10, ground := Ground.data }, { on := 9, ground := Ground.chain }, { on := 7, ground := Ground.guard }], guard := some (7, false) }) (f := 21) rfl (by rfl) (by go_simp) ((pLenR HSHZ.out.drew HSZ.out.n.symm).mono ?_))
            rintro e _ ⟨rfl, rfl⟩
            refine ⟨_, rfl, HST.out, ?_⟩
            try simp only [Act.put, List.setIfInBounds_toArray, List.set_cons_zero, List.set_cons_succ]
            refine wpAnyH_take (i := 12) (oi := { dst := some 125, op := Op.binOp BinOp.neq 3 (Operand.tmp 122) (Operand.tmp 124) 3, type := 4, pos := "law.go:79", after := #[{ on := 9, ground := Ground.data }, { on := 11, ground := Ground.data }, { on := 7, ground := Ground.guard }], guard := some (7, false) }) (v := .bool false) rfl (by kernel_rfl) (by kernel_rfl) (by kernel_rfl) (fun _ _ _ h => h) (Or.inl ⟨by rfl, ?_⟩) HST.out ?_
            · intro W hSw; (obtain ⟨q0, q1⟩ := hSw); go_simp
            try simp only [Act.put, List.setIfInBounds_toArray, List.set_cons_zero, List.set_cons_succ]
            refine wpAnyH_take (i := 13) (oi := { dst := some 126, op := Op.pick (Operand.tmp 120) (Operand.const (Value.bool true)) (Operand.tmp 125), type := 4, pos := "law.go:79", after := #[{ on := 7, ground := Ground.data }, { on := 12, ground := Ground.data }], guard := none }) (v := .bool false) rfl (by kernel_rfl) (by kernel_rfl) (by kernel_rfl) (fun _ _ _ h => h) (Or.inl ⟨by rfl, ?_⟩) HST.out ?_
            · intro W hSw; (obtain ⟨q0, q1⟩ := hSw); go_simp
            try simp only [Act.put, List.setIfInBounds_toArray, List.set_cons_zero, List.set_cons_succ]
            refine wpAnyH_take (i := 14) (oi := { dst := some 127, op := Op.move (Operand.tmp 126), type := 4, pos := "law.go:79", after := #[{ on := 13, ground := Ground.data }, { on := 11, ground := Ground.chain }], guard := none }) (v := .bool false) rfl (by kernel_rfl) (by kernel_rfl) (by kernel_rfl) (fun _ _ _ h => h) (Or.inl ⟨by rfl, ?_⟩) HST.out ?_
            · intro W hSw; (obtain ⟨q0, q1⟩ := hSw); go_simp
            try simp only [Act.put, List.setIfInBounds_toArray, List.set_cons_zero, List.set_cons_succ]
            refine wpAnyH_take (i := 15) (oi := { dst := some 128, op := Op.move (Operand.tmp 6), type := 24, pos := "law.go:79", after := #[{ on := 14, ground := Ground.guard }], guard := some (14, false) }) (v := ptr (w1.heap.size + 1)) rfl (by kernel_rfl) (by kernel_rfl) (by kernel_rfl) (fun _ _ _ h => h) (Or.inl ⟨by rfl, ?_⟩) HST.out ?_
            · intro W hSw; (obtain ⟨q0, q1⟩ := hSw); go_simp
            try simp only [Act.put, List.setIfInBounds_toArray, List.set_cons_zero, List.set_cons_succ]
            refine wpAnyH_take (i := 16) (oi := { dst := some 129, op := Op.fieldAddr 30 (Operand.tmp 10) 1, type := 0, pos := "law.go:79", after := #[{ on := 14, ground := Ground.guard }], guard := some (14, false) }) (v := .pointer (some ⟨ga, 1, none⟩)) rfl (by kernel_rfl) (by kernel_rfl) (by kernel_rfl) (fun _ _ _ h => h) (Or.inl ⟨by rfl, ?_⟩) HST.out ?_
            · intro W hSw; (obtain ⟨q0, q1⟩ := hSw); go_simp
            try simp only [Act.put, List.setIfInBounds_toArray, List.set_cons_zero, List.set_cons_succ]
            refine wpAnyH_take (i := 17) (oi := { dst := some 130, op := Op.load 3 (Operand.tmp 129), type := 3, pos := "law.go:79", after := #[{ on := 16, ground := Ground.data }, { on := 14, ground := Ground.guard }], guard := some (14, false) }) (v := .int .i64 at_) rfl (by kernel_rfl) (by kernel_rfl) (by kernel_rfl) (fun _ _ _ h => h) (Or.inl ⟨by rfl, ?_⟩) HST.out ?_
            · intro W hSw; (obtain ⟨q0, q1⟩ := hSw); go_simp
            try simp only [Act.put, List.setIfInBounds_toArray, List.set_cons_zero, List.set_cons_succ]
            refine wpAnyH_take (i := 20) (oi := { dst := some 133, op := Op.move (Operand.tmp 8), type := 26, pos := "law.go:79", after := #[{ on := 14, ground := Ground.guard }], guard := some (14, false) }) (v := ptr w3.heap.size) rfl (by kernel_rfl) (by kernel_rfl) (by kernel_rfl) (fun _ _ _ h => h) (Or.inl ⟨by rfl, ?_⟩) HST.out ?_
            · intro W hSw; (obtain ⟨q0, q1⟩ := hSw); go_simp
            try simp only [Act.put, List.setIfInBounds_toArray, List.set_cons_zero, List.set_cons_succ]
            refine wpAnyH_take (i := 21) (oi := { dst := some 134, op := Op.fieldAddr 30 (Operand.tmp 10) 1, type := 0, pos := "law.go:79", after := #[{ on := 14, ground := Ground.guard }], guard := some (14, false) }) (v := .pointer (some ⟨ga, 1, none⟩)) rfl (by kernel_rfl) (by kernel_rfl) (by kernel_rfl) (fun _ _ _ h => h) (Or.inl ⟨by rfl, ?_⟩) HST.out ?_
            · intro W hSw; (obtain ⟨q0, q1⟩ := hSw); go_simp
            try simp only [Act.put, List.setIfInBounds_toArray, List.set_cons_zero, List.set_cons_succ]
            refine wpAnyH_take (i := 22) (oi := { dst := some 135, op := Op.load 3 (Operand.tmp 134), type := 3, pos := "law.go:79", after := #[{ on := 21, ground := Ground.data }, { on := 14, ground := Ground.guard }], guard := some (14, false) }) (v := .int .i64 at_) rfl (by kernel_rfl) (by kernel_rfl) (by kernel_rfl) (fun _ _ _ h => h) (Or.inl ⟨by rfl, ?_⟩) HST.out ?_
            · intro W hSw; (obtain ⟨q0, q1⟩ := hSw); go_simp
            try simp only [Act.put, List.setIfInBounds_toArray, List.set_cons_zero, List.set_cons_succ]
            refine wpAnyH_1 (i := 18) (by kernel_rfl) (wpOp_call (o := { dst := some 131, op := Op.call { callee := Callee.value (Operand.func 22), args := #[Operand.tmp 128, Operand.tmp 130], argTypes := #[24, 3] }, type := 32, pos := "law.go:79", after := #[{ on := 15, ground := Ground.data }, { on := 17, ground := Ground.data }, { on := 14, ground := Ground.chain }, { on := 14, ground := Ground.guard }], guard := some (14, false) }) (f := 22) rfl (by rfl) (by go_simp) ((pReadD HSHZ.out.drew at_).mono ?_))
            rintro e w7 ⟨A7, n7, c7, rfl, hcv7, hbel7⟩
            have HS7 := Lib.hid (tail_keep HST.out hbel7)
            have HCV := Lib.hid hcv7
            have HBL7 := Lib.hid hbel7
            clear hcv7 hbel7
            refine ⟨_, rfl, HS7.out, ?_⟩
            try simp only [Act.put, List.setIfInBounds_toArray, List.set_cons_zero, List.set_cons_succ]
            refine wpAnyH_2 (i := 19) (j := 23) (by kernel_rfl) ?_ ?_
            · refine wpOp_value (o := { dst := some 132, op := Op.convert 32 9 (Operand.tmp 131), type := 9, pos := "law.go:79", after := #[{ on := 18, ground := Ground.data }, { on := 14, ground := Ground.guard }], guard := some (14, false) }) (v := .string (s1.str at_)) (w' := w7) rfl (by rfl) (exec_value rfl (HCV.out w7 (Below.refl _ _))) ⟨HS7.out, ?_⟩
              try simp only [Act.put, List.setIfInBounds_toArray, List.set_cons_zero, List.set_cons_succ]
              refine wpAnyH_1 (i := 23) (by kernel_rfl) ?_
              refine wpOp_call (o := { dst := some 136, op := Op.call { callee := Callee.value (Operand.func 23), args := #[Operand.tmp 133, Operand.tmp 135], argTypes := #[26, 3] }, type := 32, pos := "law.go:79", after := #[{ on := 20, ground := Ground.data }, { on := 22, ground := Ground.data }, { on := 18, ground := Ground.chain }, { on := 14, ground := Ground.guard }], guard := some (14, false) }) (f := 23) rfl (by rfl) (by go_simp) ((pReadR (HSHZ.out.drew.below HBL7.out) at_ (by rw [← HSZ.out.l]; have := HSZ.out.len; omega) (HSZ.out.str at_).symm).mono ?_)
              rintro e w8 ⟨A8, n8, c8, rfl, hcv8, hbel8⟩
              have HS8 := Lib.hid (tail_keep HS7.out hbel8)
              have HCV8 := Lib.hid hcv8
              have HBL8 := Lib.hid hbel8
              clear hcv8 hbel8
              refine ⟨_, rfl, HS8.out, ?_⟩
              try simp only [Act.put, List.setIfInBounds_toArray, List.set_cons_zero, List.set_cons_succ]
              refine wpAnyH_1 (i := 24) (by kernel_rfl) ?_
              refine wpOp_value (o := { dst := some 137, op := Op.convert 32 9 (Operand.tmp 136), type := 9, pos := "law.go:79", after := #[{ on := 23, ground := Ground.data }, { on := 14, ground := Ground.guard }], guard := some (14, false) }) (v := .string (s1.str at_)) (w' := w8) rfl (by rfl) (exec_value rfl (HCV8.out)) ⟨HS8.out, ?_⟩
              try simp only [Act.put, List.setIfInBounds_toArray, List.set_cons_zero, List.set_cons_succ]
              refine wpAnyH_take (i := 25) (oi := { dst := some 138, op := Op.binOp BinOp.neq 9 (Operand.tmp 132) (Operand.tmp 137) 9, type := 4, pos := "law.go:79", after := #[{ on := 19, ground := Ground.data }, { on := 24, ground := Ground.data }, { on := 14, ground := Ground.guard }], guard := some (14, false) }) (v := .bool false) rfl (by kernel_rfl) (by kernel_rfl) (by kernel_rfl) (fun _ _ _ h => h) (Or.inl ⟨by rfl, ?_⟩) HS8.out ?_
              · intro W hSw; (obtain ⟨q0, q1⟩ := hSw); go_simp
              try simp only [Act.put, List.setIfInBounds_toArray, List.set_cons_zero, List.set_cons_succ]
              refine wpAnyH_take (i := 26) (oi := { dst := some 139, op := Op.pick (Operand.tmp 127) (Operand.const (Value.bool true)) (Operand.tmp 138), type := 4, pos := "law.go:79", after := #[{ on := 14, ground := Ground.data }, { on := 25, ground := Ground.data }], guard := none }) (v := .bool false) rfl (by kernel_rfl) (by kernel_rfl) (by kernel_rfl) (fun _ _ _ h => h) (Or.inl ⟨by rfl, ?_⟩) HS8.out ?_
              · intro W hSw; (obtain ⟨q0, q1⟩ := hSw); go_simp
              try simp only [Act.put, List.setIfInBounds_toArray, List.set_cons_zero, List.set_cons_succ]
              refine wpAnyH_done (by kernel_rfl) ?_ _
              refine NoPanic.normal ?_
              go_wp2
              go_roundg (len - (j + 1))
              case measure => have := HJ.out; omega
              case rel => exact ⟨j + 1, s1, so1, r1, by omega, by go_num, ((HSHZ.out.drew.below HBL7.out).below HBL8.out).less (fun i hi => .inl hi), HSZ.out, HOZ.out, ((HKZ.out.drew).trans (Keep.of_below HBL7.out)).trans (Keep.of_below HBL8.out)⟩
            · refine wpOp_call (o := { dst := some 136, op := Op.call { callee := Callee.value (Operand.func 23), args := #[Operand.tmp 133, Operand.tmp 135], argTypes := #[26, 3] }, type := 32, pos := "law.go:79", after := #[{ on := 20, ground := Ground.data }, { on := 22, ground := Ground.data }, { on := 18, ground := Ground.chain }, { on := 14, ground := Ground.guard }], guard := some (14, false) }) (f := 23) rfl (by rfl) (by go_simp) ((pReadR (HSHZ.out.drew.below HBL7.out) at_ (by rw [← HSZ.out.l]; have := HSZ.out.len; omega) (HSZ.out.str at_).symm).mono ?_)
              rintro e w8 ⟨A8, n8, c8, rfl, hcv8, hbel8⟩
              have HS8 := Lib.hid (tail_keep HS7.out hbel8)
              have HCV8 := Lib.hid hcv8
              have HBL8 := Lib.hid hbel8
              clear hcv8 hbel8
              refine ⟨_, rfl, HS8.out, ?_⟩
              try simp only [Act.put, List.setIfInBounds_toArray, List.set_cons_zero, List.set_cons_succ]
              refine wpAnyH_2 (i := 19) (j := 24) (by kernel_rfl) ?_ ?_
              · refine wpOp_value (o := { dst := some 132, op := Op.convert 32 9 (Operand.tmp 131), type := 9, pos := "law.go:79", after := #[{ on := 18, ground := Ground.data }, { on := 14, ground := Ground.guard }], guard := some (14, false) }) (v := .string (s1.str at_)) (w' := w8) rfl (by rfl) (exec_value rfl (HCV.out w8 HBL8.out)) ⟨HS8.out, ?_⟩
                try simp only [Act.put, List.setIfInBounds_toArray, List.set_cons_zero, List.set_cons_succ]
                refine wpAnyH_1 (i := 24) (by kernel_rfl) ?_
                refine wpOp_value (o := { dst := some 137, op := Op.convert 32 9 (Operand.tmp 136), type := 9, pos := "law.go:79", after := #[{ on := 23, ground := Ground.data }, { on := 14, ground := Ground.guard }], guard := some (14, false) }) (v := .string (s1.str at_)) (w' := w8) rfl (by rfl) (exec_value rfl (HCV8.out)) ⟨HS8.out, ?_⟩
                try simp only [Act.put, List.setIfInBounds_toArray, List.set_cons_zero, List.set_cons_succ]
                refine wpAnyH_take (i := 25) (oi := { dst := some 138, op := Op.binOp BinOp.neq 9 (Operand.tmp 132) (Operand.tmp 137) 9, type := 4, pos := "law.go:79", after := #[{ on := 19, ground := Ground.data }, { on := 24, ground := Ground.data }, { on := 14, ground := Ground.guard }], guard := some (14, false) }) (v := .bool false) rfl (by kernel_rfl) (by kernel_rfl) (by kernel_rfl) (fun _ _ _ h => h) (Or.inl ⟨by rfl, ?_⟩) HS8.out ?_
                · intro W hSw; (obtain ⟨q0, q1⟩ := hSw); go_simp
                try simp only [Act.put, List.setIfInBounds_toArray, List.set_cons_zero, List.set_cons_succ]
                refine wpAnyH_take (i := 26) (oi := { dst := some 139, op := Op.pick (Operand.tmp 127) (Operand.const (Value.bool true)) (Operand.tmp 138), type := 4, pos := "law.go:79", after := #[{ on := 14, ground := Ground.data }, { on := 25, ground := Ground.data }], guard := none }) (v := .bool false) rfl (by kernel_rfl) (by kernel_rfl) (by kernel_rfl) (fun _ _ _ h => h) (Or.inl ⟨by rfl, ?_⟩) HS8.out ?_
                · intro W hSw; (obtain ⟨q0, q1⟩ := hSw); go_simp
                try simp only [Act.put, List.setIfInBounds_toArray, List.set_cons_zero, List.set_cons_succ]
                refine wpAnyH_done (by kernel_rfl) ?_ _
                refine NoPanic.normal ?_
                go_wp2
                go_roundg (len - (j + 1))
                case measure => have := HJ.out; omega
                case rel => exact ⟨j + 1, s1, so1, r1, by omega, by go_num, ((HSHZ.out.drew.below HBL7.out).below HBL8.out).less (fun i hi => .inl hi), HSZ.out, HOZ.out, ((HKZ.out.drew).trans (Keep.of_below HBL7.out)).trans (Keep.of_below HBL8.out)⟩
              · refine wpOp_value (o := { dst := some 137, op := Op.convert 32 9 (Operand.tmp 136), type := 9, pos := "law.go:79", after := #[{ on := 23, ground := Ground.data }, { on := 14, ground := Ground.guard }], guard := some (14, false) }) (v := .string (s1.str at_)) (w' := w8) rfl (by rfl) (exec_value rfl (HCV8.out)) ⟨HS8.out, ?_⟩
                try simp only [Act.put, List.setIfInBounds_toArray, List.set_cons_zero, List.set_cons_succ]
                refine wpAnyH_1 (i := 19) (by kernel_rfl) ?_
                refine wpOp_value (o := { dst := some 132, op := Op.convert 32 9 (Operand.tmp 131), type := 9, pos := "law.go:79", after := #[{ on := 18, ground := Ground.data }, { on := 14, ground := Ground.guard }], guard := some (14, false) }) (v := .string (s1.str at_)) (w' := w8) rfl (by rfl) (exec_value rfl (HCV.out w8 HBL8.out)) ⟨HS8.out, ?_⟩
                try simp only [Act.put, List.setIfInBounds_toArray, List.set_cons_zero, List.set_cons_succ]
                refine wpAnyH_take (i := 25) (oi := { dst := some 138, op := Op.binOp BinOp.neq 9 (Operand.tmp 132) (Operand.tmp 137) 9, type := 4, pos := "law.go:79", after := #[{ on := 19, ground := Ground.data }, { on := 24, ground := Ground.data }, { on := 14, ground := Ground.guard }], guard := some (14, false) }) (v := .bool false) rfl (by kernel_rfl) (by kernel_rfl) (by kernel_rfl) (fun _ _ _ h => h) (Or.inl ⟨by rfl, ?_⟩) HS8.out ?_
                · intro W hSw; (obtain ⟨q0, q1⟩ := hSw); go_simp
                try simp only [Act.put, List.setIfInBounds_toArray, List.set_cons_zero, List.set_cons_succ]
                refine wpAnyH_take (i := 26) (oi := { dst := some 139, op := Op.pick (Operand.tmp 127) (Operand.const (Value.bool true)) (Operand.tmp 138), type := 4, pos := "law.go:79", after := #[{ on := 14, ground := Ground.data }, { on := 25, ground := Ground.data }], guard := none }) (v := .bool false) rfl (by kernel_rfl) (by kernel_rfl) (by kernel_rfl) (fun _ _ _ h => h) (Or.inl ⟨by rfl, ?_⟩) HS8.out ?_
                · intro W hSw; (obtain ⟨q0, q1⟩ := hSw); go_simp
                try simp only [Act.put, List.setIfInBounds_toArray, List.set_cons_zero, List.set_cons_succ]
                refine wpAnyH_done (by kernel_rfl) ?_ _
                refine NoPanic.normal ?_
                go_wp2
                go_roundg (len - (j + 1))
                case measure => have := HJ.out; omega
                case rel => exact ⟨j + 1, s1, so1, r1, by omega, by go_num, ((HSHZ.out.drew.below HBL7.out).below HBL8.out).less (fun i hi => .inl hi), HSZ.out, HOZ.out, ((HKZ.out.drew).trans (Keep.of_below HBL7.out)).trans (Keep.of_below HBL8.out)⟩
          · have t1 : (way == 1) = false := by rw [beq_eq_false_iff_ne]; exact h1
            by_cases h2 : way = 2
            · subst h2
              clear h0 t0 h1 t1
              by_cases hkn : 200 < kn
              · have HBw := Lib.hid (HB1.out.trans ((below_of_keep HK5.out (Nat.le_refl _)).mono HB1.out.size))
                go_wp2
                go_ret
                exact ⟨rfl, HBw.out⟩
              · have hB5 : Bools w5 (fun i => i < w.heap.size) KA kn ks := HBO.out.keep (Keep.of_below ((HB1.out.trans ((below_of_keep HK5.out (Nat.le_refl _)).mono HB1.out.size)).mono (Nat.le_refl _)))
                obtain ⟨A6, c6, W6, hap, hbo6, hbel6⟩ := fresh_bools (c := kc) hB5 (by omega) hknil
                have HB5 := Lib.hid hB5
                have HAP := Lib.hid hap
                have HBO6 := Lib.hid hbo6
                have HBE6 := Lib.hid hbel6
                clear hB5 hap hbo6 hbel6
                go_wp2_with (refine wpList_value (o := ⟨some 97, _, _, _, _, _⟩) rfl (exec_append rfl rfl rfl HAP.out) ?_)
                refine (pCrashN HSH5.out HBE6.out (by have := HSAME.out.len; omega) A6 kn c6 ks HBO6.out (by omega)).mono ?_
                rintro e w7 ⟨rfl, hsh7, hk7⟩
                have HSH7 := Lib.hid hsh7
                have HG7 := Lib.hid (HG5.out.keep hk7 (.inr rfl))
                have HK7 := Lib.hid (HK5.out.trans (hk7.mono fun i _ _ hi => .inl hi))
                have HB7 := Lib.hid ((HB5.out.more (K' := fun i => i < w1.heap.size ∨ i = ga) fun i _ hi => .inl (by have := HB1.out.size; omega)).keep hk7)
                have p5 := HG7.out.cell 5
                simp only [List.getElem?_toArray, List.getElem?_cons_succ, List.getElem?_cons_zero] at p5
                clear hsh7 hk7
                go_wp2_with fail
                refine (pCrashR HSH7.out KA kn kc ks HB7.out (by omega)).mono ?_
                rintro e wz ⟨rfl, hsh8, hk8⟩
                have HSHZ := Lib.hid hsh8
                have HGZ := Lib.hid (HG7.out.keep hk8 (.inr rfl))
                have HKZ := Lib.hid (HK7.out.trans (hk8.mono fun i _ _ hi => .inl hi))
                clear hsh8 hk8 HSH7 HG7 HK7 HB7 p5 d0 d1 d2 d3 d4 d5
                generalize hs1 : s.crash (stays ks) = s1 at *
                generalize hr1 : r.rcrash (stays ks) = r1 at *
                have HSZ := Lib.hid (HSAME.out.crash (stays ks))
                rw [hs1, hr1] at HSZ
                clear hs1 hr1
                go_wp2_with fail
                have HCZ := Lib.hid (show wz.cell? ⟨w3.heap.size, 4, none⟩ = some (.int .i64 (s1.count : Int)) by rw [pCount HSHZ.out, HSZ.out.count])
                have HST := Lib.hid (tail_start HGZ.out rfl HCZ.out)
                refine wp_region_noPanic ?_
                refine wp_region_held_drew (S := fun w' => w'.cell? ⟨w3.heap.size, 4, none⟩ = some (.int .i64 (s1.count : Int)) ∧ w'.cell? ⟨ga, 1, none⟩ = some (.int .i64 at_)) (by kernel_rfl) HST.out (fun _ => ?_)
                refine wpAnyH_take (i := 0) (oi := { dst := some 113, op := Op.move (Operand.tmp 6), type := 24, pos := "law.go:79", after := #[], guard := none }) (v := ptr (w1.heap.size + 1)) rfl (by kernel_rfl) (by kernel_rfl) (by kernel_rfl) (fun _ _ _ h => h) (Or.inl ⟨by rfl, ?_⟩) HST.out ?_
                · intro W hSw; (obtain ⟨q0, q1⟩ := hSw); go_simp
                try simp only [Act.put, List.setIfInBounds_toArray, List.set_cons_zero, List.set_cons_succ]
                refine wpAnyH_take (i := 2) (oi := { dst := some 115, op := Op.move (Operand.tmp 8), type := 26, pos := "law.go:79", after := #[], guard := none }) (v := ptr w3.heap.size) rfl (by kernel_rfl) (by kernel_rfl) (by kernel_rfl) (fun _ _ _ h => h) (Or.inl ⟨by rfl, ?_⟩) HST.out ?_
                · intro W hSw; (obtain ⟨q0, q1⟩ := hSw); go_simp
                try simp only [Act.put, List.setIfInBounds_toArray, List.set_cons_zero, List.set_cons_succ]
                refine wpAnyH_take (i := 3) (oi := { dst := some 116, op := Op.nilCheck (Operand.tmp 115), type := 0, pos := "law.go:79", after := #[{ on := 2, ground := Ground.data }], guard := none }) (v := ptr w3.heap.size) rfl (by kernel_rfl) (by kernel_rfl) (by kernel_rfl) (fun _ _ _ h => h) (Or.inl ⟨by rfl, ?_⟩) HST.out ?_
                · intro W hSw; (obtain ⟨q0, q1⟩ := hSw); go_simp
                try simp only [Act.put, List.setIfInBounds_toArray, List.set_cons_zero, List.set_cons_succ]
                refine wpAnyH_take (i := 4) (oi := { dst := some 117, op := Op.fieldAddr 40 (Operand.tmp 116) 4, type := 0, pos := "law.go:79", after := #[{ on := 3, ground := Ground.data }], guard := none }) (v := .pointer (some ⟨w3.heap.size, 4, none⟩)) rfl (by kernel_rfl) (by kernel_rfl) (by kernel_rfl) (fun _ _ _ h => h) (Or.inl ⟨by rfl, ?_⟩) HST.out ?_
                · intro W hSw; (obtain ⟨q0, q1⟩ := hSw); go_simp
                try simp only [Act.put, List.setIfInBounds_toArray, List.set_cons_zero, List.set_cons_succ]
                refine wpAnyH_take (i := 5) (oi := { dst := some 118, op := Op.load 3 (Operand.tmp 117), type := 3, pos := "law.go:79", after := #[{ on := 4, ground := Ground.data }], guard := none }) (v := .int .i64 (s1.count : Int)) rfl (by kernel_rfl) (by kernel_rfl) (by kernel_rfl) (fun _ _ _ h => h) (Or.inl ⟨by rfl, ?_⟩) HST.out ?_
                · intro W hSw; (obtain ⟨q0, q1⟩ := hSw); go_simp
                try simp only [Act.put, List.setIfInBounds_toArray, List.set_cons_zero, List.set_cons_succ]
                refine wpAnyH_1 (i := 1) (by kernel_rfl) (wpOp_call (o := { dst := some 114, op := Op.call { callee := Callee.value (Operand.func 19), args := #[Operand.tmp 113], argTypes := #[24] }, type := 3, pos := "law.go:79", after := #[{ on := 0, ground := Ground.data }], guard := none }) (f := 19) rfl (by rfl) (by go_simp) ((pWrites HSHZ.out.drew).mono ?_))
                rintro e _ ⟨rfl, rfl⟩
                refine ⟨_, rfl, HST.out, ?_⟩
                try simp only [Act.put, List.setIfInBounds_toArray, List.set_cons_zero, List.set_cons_succ]
                refine wpAnyH_take (i := 6) (oi := { dst := some 119, op := Op.binOp BinOp.neq 3 (Operand.tmp 114) (Operand.tmp 118) 3, type := 4, pos := "law.go:79", after := #[{ on := 1, ground := Ground.data }, { on := 5, ground := Ground.data }], guard := none }) (v := .bool false) rfl (by kernel_rfl) (by kernel_rfl) (by kernel_rfl) (fun _ _ _ h => h) (Or.inl ⟨by rfl, ?_⟩) HST.out ?_
                · intro W hSw; (obtain ⟨q0, q1⟩ := hSw); go_simp
                try simp only [Act.put, List.setIfInBounds_toArray, List.set_cons_zero, List.set_cons_succ]
                refine wpAnyH_take (i := 7) (oi := { dst := some 120, op := Op.move (Operand.tmp 119), type := 4, pos := "law.go:79", after := #[{ on := 6, ground := Ground.data }, { on := 1, ground := Ground.chain }], guard := none }) (v := .bool false) rfl (by kernel_rfl) (by kernel_rfl) (by kernel_rfl) (fun _ _ _ h => h) (Or.inl ⟨by rfl, ?_⟩) HST.out ?_
                · intro W hSw; (obtain ⟨q0, q1⟩ := hSw); go_simp
                try simp only [Act.put, List.setIfInBounds_toArray, List.set_cons_zero, List.set_cons_succ]
                refine wpAnyH_take (i := 8) (oi := { dst := some 121, op := Op.move (Operand.tmp 6), type := 24, pos := "law.go:79", after := #[{ on := 7, ground := Ground.guard }], guard := some (7, false) }) (v := ptr (w1.heap.size + 1)) rfl (by kernel_rfl) (by kernel_rfl) (by kernel_rfl) (fun _ _ _ h => h) (Or.inl ⟨by rfl, ?_⟩) HST.out ?_
                · intro W hSw; (obtain ⟨q0, q1⟩ := hSw); go_simp
                try simp only [Act.put, List.setIfInBounds_toArray, List.set_cons_zero, List.set_cons_succ]
                refine wpAnyH_take (i := 10) (oi := { dst := some 123, op := Op.move (Operand.tmp 8), type := 26, pos := "law.go:79", after := #[{ on := 7, ground := Ground.guard }], guard := some (7, false) }) (v := ptr w3.heap.size) rfl (by kernel_rfl) (by kernel_rfl) (by kernel_rfl) (fun _ _ _ h => h) (Or.inl ⟨by rfl, ?_⟩) HST.out ?_
                · intro W hSw; (obtain ⟨q0, q1⟩ := hSw); go_simp
                try simp only [Act.put, List.setIfInBounds_toArray, List.set_cons_zero, List.set_cons_succ]
                refine wpAnyH_1 (i := 9) (by kernel_rfl) (wpOp_call (o := { dst := some 122, op := Op.call { callee := Callee.value (Operand.func 20), args := #[Operand.tmp 121], argTypes := #[24] }, type := 3, pos := "law.go:79", after := #[{ on := 8, ground := Ground.data }, { on := 7, ground := Ground.chain }, { on := 7, ground := Ground.guard }], guard := some (7, false) }) (f := 20) rfl (by rfl) (by go_simp) ((pLenD HSHZ.out.drew).mono ?_))
                rintro e _ ⟨rfl, rfl⟩
                refine ⟨_, rfl, HST.out, ?_⟩
                try simp only [Act.put, List.setIfInBounds_toArray, List.set_cons_zero, List.set_cons_succ]
                refine wpAnyH_1 (i := 11) (by kernel_rfl) (wpOp_call (o := { dst := some 124, op := Op.call { callee := Callee.value (Operand.func 21), args := #[Operand.tmp 123], argTypes := #[26] }, type := 3, pos := "law.go:79", after := #[{ on := 10, ground := Ground.data }, { on := 9, ground := Ground.chain }, { on := 7, ground := Ground.guard }], guard := some (7, false) }) (f := 21) rfl (by rfl) (by go_simp) ((pLenR HSHZ.out.drew HSZ.out.n.symm).mono ?_))
                rintro e _ ⟨rfl, rfl⟩
                refine ⟨_, rfl, HST.out, ?_⟩
                try simp only [Act.put, List.setIfInBounds_toArray, List.set_cons_zero, List.set_cons_succ]
                refine wpAnyH_take (i := 12) (oi := { dst := some 125, op := Op.binOp BinOp.neq 3 (Operand.tmp 122) (Operand.tmp 124) 3, type := 4, pos := "law.go:79", after := #[{ on := 9, ground := Ground.data }, { on := 11, ground := Ground.data }, { on := 7, ground := Ground.guard }], guard := some (7, false) }) (v := .bool false) rfl (by kernel_rfl) (by kernel_rfl) (by kernel_rfl) (fun _ _ _ h => h) (Or.inl ⟨by rfl, ?_⟩) HST.out ?_
                · intro W hSw; (obtain ⟨q0, q1⟩ := hSw); go_simp
                try simp only [Act.put, List.setIfInBounds_toArray, List.set_cons_zero, List.set_cons_succ]
                refine wpAnyH_take (i := 13) (oi := { dst := some 126, op := Op.pick (Operand.tmp 120) (Operand.const (Value.bool true)) (Operand.tmp 125), type := 4, pos := "law.go:79", after := #[{ on := 7, ground := Ground.data }, { on := 12, ground := Ground.data }], guard := none }) (v := .bool false) rfl (by kernel_rfl) (by kernel_rfl) (by kernel_rfl) (fun _ _ _ h => h) (Or.inl ⟨by rfl, ?_⟩) HST.out ?_
                · intro W hSw; (obtain ⟨q0, q1⟩ := hSw); go_simp
                try simp only [Act.put, List.setIfInBounds_toArray, List.set_cons_zero, List.set_cons_succ]
                refine wpAnyH_take (i := 14) (oi := { dst := some 127, op := Op.move (Operand.tmp 126), type := 4, pos := "law.go:79", after := #[{ on := 13, ground := Ground.data }, { on := 11, ground := Ground.chain }], guard := none }) (v := .bool false) rfl (by kernel_rfl) (by kernel_rfl) (by kernel_rfl) (fun _ _ _ h => h) (Or.inl ⟨by rfl, ?_⟩) HST.out ?_
                · intro W hSw; (obtain ⟨q0, q1⟩ := hSw); go_simp
                try simp only [Act.put, List.setIfInBounds_toArray, List.set_cons_zero, List.set_cons_succ]
                refine wpAnyH_take (i := 15) (oi := { dst := some 128, op := Op.move (Operand.tmp 6), type := 24, pos := "law.go:79", after := #[{ on := 14, ground := Ground.guard }], guard := some (14, false) }) (v := ptr (w1.heap.size + 1)) rfl (by kernel_rfl) (by kernel_rfl) (by kernel_rfl) (fun _ _ _ h => h) (Or.inl ⟨by rfl, ?_⟩) HST.out ?_
                · intro W hSw; (obtain ⟨q0, q1⟩ := hSw); go_simp
                try simp only [Act.put, List.setIfInBounds_toArray, List.set_cons_zero, List.set_cons_succ]
                refine wpAnyH_take (i := 16) (oi := { dst := some 129, op := Op.fieldAddr 30 (Operand.tmp 10) 1, type := 0, pos := "law.go:79", after := #[{ on := 14, ground := Ground.guard }], guard := some (14, false) }) (v := .pointer (some ⟨ga, 1, none⟩)) rfl (by kernel_rfl) (by kernel_rfl) (by kernel_rfl) (fun _ _ _ h => h) (Or.inl ⟨by rfl, ?_⟩) HST.out ?_
                · intro W hSw; (obtain ⟨q0, q1⟩ := hSw); go_simp
                try simp only [Act.put, List.setIfInBounds_toArray, List.set_cons_zero, List.set_cons_succ]
                refine wpAnyH_take (i := 17) (oi := { dst := some 130, op := Op.load 3 (Operand.tmp 129), type := 3, pos := "law.go:79", after := #[{ on := 16, ground := Ground.data }, { on := 14, ground := Ground.guard }], guard := some (14, false) }) (v := .int .i64 at_) rfl (by kernel_rfl) (by kernel_rfl) (by kernel_rfl) (fun _ _ _ h => h) (Or.inl ⟨by rfl, ?_⟩) HST.out ?_
                · intro W hSw; (obtain ⟨q0, q1⟩ := hSw); go_simp
                try simp only [Act.put, List.setIfInBounds_toArray, List.set_cons_zero, List.set_cons_succ]
                refine wpAnyH_take (i := 20) (oi := { dst := some 133, op := Op.move (Operand.tmp 8), type := 26, pos := "law.go:79", after := #[{ on := 14, ground := Ground.guard }], guard := some (14, false) }) (v := ptr w3.heap.size) rfl (by kernel_rfl) (by kernel_rfl) (by kernel_rfl) (fun _ _ _ h => h) (Or.inl ⟨by rfl, ?_⟩) HST.out ?_
                · intro W hSw; (obtain ⟨q0, q1⟩ := hSw); go_simp
                try simp only [Act.put, List.setIfInBounds_toArray, List.set_cons_zero, List.set_cons_succ]
                refine wpAnyH_take (i := 21) (oi := { dst := some 134, op := Op.fieldAddr 30 (Operand.tmp 10) 1, type := 0, pos := "law.go:79", after := #[{ on := 14, ground := Ground.guard }], guard := some (14, false) }) (v := .pointer (some ⟨ga, 1, none⟩)) rfl (by kernel_rfl) (by kernel_rfl) (by kernel_rfl) (fun _ _ _ h => h) (Or.inl ⟨by rfl, ?_⟩) HST.out ?_
                · intro W hSw; (obtain ⟨q0, q1⟩ := hSw); go_simp
                try simp only [Act.put, List.setIfInBounds_toArray, List.set_cons_zero, List.set_cons_succ]
                refine wpAnyH_take (i := 22) (oi := { dst := some 135, op := Op.load 3 (Operand.tmp 134), type := 3, pos := "law.go:79", after := #[{ on := 21, ground := Ground.data }, { on := 14, ground := Ground.guard }], guard := some (14, false) }) (v := .int .i64 at_) rfl (by kernel_rfl) (by kernel_rfl) (by kernel_rfl) (fun _ _ _ h => h) (Or.inl ⟨by rfl, ?_⟩) HST.out ?_
                · intro W hSw; (obtain ⟨q0, q1⟩ := hSw); go_simp
                try simp only [Act.put, List.setIfInBounds_toArray, List.set_cons_zero, List.set_cons_succ]
                refine wpAnyH_1 (i := 18) (by kernel_rfl) (wpOp_call (o := { dst := some 131, op := Op.call { callee := Callee.value (Operand.func 22), args := #[Operand.tmp 128, Operand.tmp 130], argTypes := #[24, 3] }, type := 32, pos := "law.go:79", after := #[{ on := 15, ground := Ground.data }, { on := 17, ground := Ground.data }, { on := 14, ground := Ground.chain }, { on := 14, ground := Ground.guard }], guard := some (14, false) }) (f := 22) rfl (by rfl) (by go_simp) ((pReadD HSHZ.out.drew at_).mono ?_))
                rintro e w7 ⟨A7, n7, c7, rfl, hcv7, hbel7⟩
                have HS7 := Lib.hid (tail_keep HST.out hbel7)
                have HCV := Lib.hid hcv7
                have HBL7 := Lib.hid hbel7
                clear hcv7 hbel7
                refine ⟨_, rfl, HS7.out, ?_⟩
                try simp only [Act.put, List.setIfInBounds_toArray, List.set_cons_zero, List.set_cons_succ]
                refine wpAnyH_2 (i := 19) (j := 23) (by kernel_rfl) ?_ ?_
                · refine wpOp_value (o := { dst := some 132, op := Op.convert 32 9 (Operand.tmp 131), type := 9, pos := "law.go:79", after := #[{ on := 18, ground := Ground.data }, { on := 14, ground := Ground.guard }], guard := some (14, false) }) (v := .string (s1.str at_)) (w' := w7) rfl (by rfl) (exec_value rfl (HCV.out w7 (Below.refl _ _))) ⟨HS7.out, ?_⟩
                  try simp only [Act.put, List.setIfInBounds_toArray, List.set_cons_zero, List.set_cons_succ]
                  refine wpAnyH_1 (i := 23) (by kernel_rfl) ?_
                  refine wpOp_call (o := { dst := some 136, op := Op.call { callee := Callee.value (Operand.func 23), args := #[Operand.tmp 133, Operand.tmp 135], argTypes := #[26, 3] }, type := 32, pos := "law.go:79", after := #[{ on := 20, ground := Ground.data }, { on := 22, ground := Ground.data }, { on := 18, ground := Ground.chain }, { on := 14, ground := Ground.guard }], guard := some (14, false) }) (f := 23) rfl (by rfl) (by go_simp) ((pReadR (HSHZ.out.drew.below HBL7.out) at_ (by rw [← HSZ.out.l]; have := HSZ.out.len; omega) (HSZ.out.str at_).symm).mono ?_)
                  rintro e w8 ⟨A8, n8, c8, rfl, hcv8, hbel8⟩
                  have HS8 := Lib.hid (tail_keep HS7.out hbel8)
                  have HCV8 := Lib.hid hcv8
                  have HBL8 := Lib.hid hbel8
                  clear hcv8 hbel8
                  refine ⟨_, rfl, HS8.out, ?_⟩
                  try simp only [Act.put, List.setIfInBounds_toArray, List.set_cons_zero, List.set_cons_succ]
                  refine wpAnyH_1 (i := 24) (by kernel_rfl) ?_
                  refine wpOp_value (o := { dst := some 137, op := Op.convert 32 9 (Operand.tmp 136), type := 9, pos := "law.go:79", after := #[{ on := 23, ground := Ground.data }, { on := 14, ground := Ground.guard }], guard := some (14, false) }) (v := .string (s1.str at_)) (w' := w8) rfl (by rfl) (exec_value rfl (HCV8.out)) ⟨HS8.out, ?_⟩
                  try simp only [Act.put, List.setIfInBounds_toArray, List.set_cons_zero, List.set_cons_succ]
                  refine wpAnyH_take (i := 25) (oi := { dst := some 138, op := Op.binOp BinOp.neq 9 (Operand.tmp 132) (Operand.tmp 137) 9, type := 4, pos := "law.go:79", after := #[{ on := 19, ground := Ground.data }, { on := 24, ground := Ground.data }, { on := 14, ground := Ground.guard }], guard := some (14, false) }) (v := .bool false) rfl (by kernel_rfl) (by kernel_rfl) (by kernel_rfl) (fun _ _ _ h => h) (Or.inl ⟨by rfl, ?_⟩) HS8.out ?_
                  · intro W hSw; (obtain ⟨q0, q1⟩ := hSw); go_simp
                  try simp only [Act.put, List.setIfInBounds_toArray, List.set_cons_zero, List.set_cons_succ]
                  refine wpAnyH_take (i := 26) (oi := { dst := some 139, op := Op.pick (Operand.tmp 127) (Operand.const (Value.bool true)) (Operand.tmp 138), type := 4, pos := "law.go:79", after := #[{ on := 14, ground := Ground.data }, { on := 25, ground := Ground.data }], guard := none }) (v := .bool false) rfl (by kernel_rfl) (by kernel_rfl) (by kernel_rfl) (fun _ _ _ h => h) (Or.inl ⟨by rfl, ?_⟩) HS8.out ?_
                  · intro W hSw; (obtain ⟨q0, q1⟩ := hSw); go_simp
                  try simp only [Act.put, List.setIfInBounds_toArray, List.set_cons_zero, List.set_cons_succ]
                  refine wpAnyH_done (by kernel_rfl) ?_ _
                  refine NoPanic.normal ?_
                  go_wp2
                  go_roundg (len - (j + 1))
                  case measure => have := HJ.out; omega
                  case rel => exact ⟨j + 1, s1, so1, r1, by omega, by go_num, ((HSHZ.out.drew.below HBL7.out).below HBL8.out).less (fun i hi => .inl hi), HSZ.out, HOZ.out, ((HKZ.out.drew).trans (Keep.of_below HBL7.out)).trans (Keep.of_below HBL8.out)⟩
                · refine wpOp_call (o := { dst := some 136, op := Op.call { callee := Callee.value (Operand.func 23), args := #[Operand.tmp 133, Operand.tmp 135], argTypes := #[26, 3] }, type := 32, pos := "law.go:79", after := #[{ on := 20, ground := Ground.data }, { on := 22, ground := Ground.data }, { on := 18, ground := Ground.chain }, { on := 14, ground := Ground.guard }], guard := some (14, false) }) (f := 23) rfl (by rfl) (by go_simp) ((pReadR (HSHZ.out.drew.below HBL7.out) at_ (by rw [← HSZ.out.l]; have := HSZ.out.len; omega) (HSZ.out.str at_).symm).mono ?_)
                  rintro e w8 ⟨A8, n8, c8, rfl, hcv8, hbel8⟩
                  have HS8 := Lib.hid (tail_keep HS7.out hbel8)
                  have HCV8 := Lib.hid hcv8
                  have HBL8 := Lib.hid hbel8
                  clear hcv8 hbel8
                  refine ⟨_, rfl, HS8.out, ?_⟩
                  try simp only [Act.put, List.setIfInBounds_toArray, List.set_cons_zero, List.set_cons_succ]
                  refine wpAnyH_2 (i := 19) (j := 24) (by kernel_rfl) ?_ ?_
                  · refine wpOp_value (o := { dst := some 132, op := Op.convert 32 9 (Operand.tmp 131), type := 9, pos := "law.go:79", after := #[{ on := 18, ground := Ground.data }, { on := 14, ground := Ground.guard }], guard := some (14, false) }) (v := .string (s1.str at_)) (w' := w8) rfl (by rfl) (exec_value rfl (HCV.out w8 HBL8.out)) ⟨HS8.out, ?_⟩
                    try simp only [Act.put, List.setIfInBounds_toArray, List.set_cons_zero, List.set_cons_succ]
                    refine wpAnyH_1 (i := 24) (by kernel_rfl) ?_
                    refine wpOp_value (o := { dst := some 137, op := Op.convert 32 9 (Operand.tmp 136), type := 9, pos := "law.go:79", after := #[{ on := 23, ground := Ground.data }, { on := 14, ground := Ground.guard }], guard := some (14, false) }) (v := .string (s1.str at_)) (w' := w8) rfl (by rfl) (exec_value rfl (HCV8.out)) ⟨HS8.out, ?_⟩
                    try simp only [Act.put, List.setIfInBounds_toArray, List.set_cons_zero, List.set_cons_succ]
                    refine wpAnyH_take (i := 25) (oi := { dst := some 138, op := Op.binOp BinOp.neq 9 (Operand.tmp 132) (Operand.tmp 137) 9, type := 4, pos := "law.go:79", after := #[{ on := 19, ground := Ground.data }, { on := 24, ground := Ground.data }, { on := 14, ground := Ground.guard }], guard := some (14, false) }) (v := .bool false) rfl (by kernel_rfl) (by kernel_rfl) (by kernel_rfl) (fun _ _ _ h => h) (Or.inl ⟨by rfl, ?_⟩) HS8.out ?_
                    · intro W hSw; (obtain ⟨q0, q1⟩ := hSw); go_simp
                    try simp only [Act.put, List.setIfInBounds_toArray, List.set_cons_zero, List.set_cons_succ]
                    refine wpAnyH_take (i := 26) (oi := { dst := some 139, op := Op.pick (Operand.tmp 127) (Operand.const (Value.bool true)) (Operand.tmp 138), type := 4, pos := "law.go:79", after := #[{ on := 14, ground := Ground.data }, { on := 25, ground := Ground.data }], guard := none }) (v := .bool false) rfl (by kernel_rfl) (by kernel_rfl) (by kernel_rfl) (fun _ _ _ h => h) (Or.inl ⟨by rfl, ?_⟩) HS8.out ?_
                    · intro W hSw; (obtain ⟨q0, q1⟩ := hSw); go_simp
                    try simp only [Act.put, List.setIfInBounds_toArray, List.set_cons_zero, List.set_cons_succ]
                    refine wpAnyH_done (by kernel_rfl) ?_ _
                    refine NoPanic.normal ?_
                    go_wp2
                    go_roundg (len - (j + 1))
                    case measure => have := HJ.out; omega
                    case rel => exact ⟨j + 1, s1, so1, r1, by omega, by go_num, ((HSHZ.out.drew.below HBL7.out).below HBL8.out).less (fun i hi => .inl hi), HSZ.out, HOZ.out, ((HKZ.out.drew).trans (Keep.of_below HBL7.out)).trans (Keep.of_below HBL8.out)⟩
                  · refine wpOp_value (o := { dst := some 137, op := Op.convert 32 9 (Operand.tmp 136), type := 9, pos := "law.go:79", after := #[{ on := 23, ground := Ground.data }, { on := 14, ground := Ground.guard }], guard := some (14, false) }) (v := .string (s1.str at_)) (w' := w8) rfl (by rfl) (exec_value rfl (HCV8.out)) ⟨HS8.out, ?_⟩
                    try simp only [Act.put, List.setIfInBounds_toArray, List.set_cons_zero, List.set_cons_succ]
                    refine wpAnyH_1 (i := 19) (by kernel_rfl) ?_
                    refine wpOp_value (o := { dst := some 132, op := Op.convert 32 9 (Operand.tmp 131), type := 9, pos := "law.go:79", after := #[{ on := 18, ground := Ground.data }, { on := 14, ground := Ground.guard }], guard := some (14, false) }) (v := .string (s1.str at_)) (w' := w8) rfl (by rfl) (exec_value rfl (HCV.out w8 HBL8.out)) ⟨HS8.out, ?_⟩
                    try simp only [Act.put, List.setIfInBounds_toArray, List.set_cons_zero, List.set_cons_succ]
                    refine wpAnyH_take (i := 25) (oi := { dst := some 138, op := Op.binOp BinOp.neq 9 (Operand.tmp 132) (Operand.tmp 137) 9, type := 4, pos := "law.go:79", after := #[{ on := 19, ground := Ground.data }, { on := 24, ground := Ground.data }, { on := 14, ground := Ground.guard }], guard := some (14, false) }) (v := .bool false) rfl (by kernel_rfl) (by kernel_rfl) (by kernel_rfl) (fun _ _ _ h => h) (Or.inl ⟨by rfl, ?_⟩) HS8.out ?_
                    · intro W hSw; (obtain ⟨q0, q1⟩ := hSw); go_simp
                    try simp only [Act.put, List.setIfInBounds_toArray, List.set_cons_zero, List.set_cons_succ]
                    refine wpAnyH_take (i := 26) (oi := { dst := some 139, op := Op.pick (Operand.tmp 127) (Operand.const (Value.bool true)) (Operand.tmp 138), type := 4, pos := "law.go:79", after := #[{ on := 14, ground := Ground.data }, { on := 25, ground := Ground.data }], guard := none }) (v := .bool false) rfl (by kernel_rfl) (by kernel_rfl) (by kernel_rfl) (fun _ _ _ h => h) (Or.inl ⟨by rfl, ?_⟩) HS8.out ?_
                    · intro W hSw; (obtain ⟨q0, q1⟩ := hSw); go_simp
                    try simp only [Act.put, List.setIfInBounds_toArray, List.set_cons_zero, List.set_cons_succ]
                    refine wpAnyH_done (by kernel_rfl) ?_ _
                    refine NoPanic.normal ?_
                    go_wp2
                    go_roundg (len - (j + 1))
                    case measure => have := HJ.out; omega
                    case rel => exact ⟨j + 1, s1, so1, r1, by omega, by go_num, ((HSHZ.out.drew.below HBL7.out).below HBL8.out).less (fun i hi => .inl hi), HSZ.out, HOZ.out, ((HKZ.out.drew).trans (Keep.of_below HBL7.out)).trans (Keep.of_below HBL8.out)⟩
            · have t2 : (way == 2) = false := by rw [beq_eq_false_iff_ne]; exact h2
              by_cases h3 : way = 3
              · subst h3
                clear h0 t0 h1 t1 h2 t2
                go_wp2_with fail
                refine (pBreakD HSH5.out xn).mono ?_
                rintro e w6 ⟨rfl, hsh6, hk6⟩
                have HSH6 := Lib.hid hsh6
                have HG6 := Lib.hid (HG5.out.keep hk6 (.inr rfl))
                have HK6 := Lib.hid (HK5.out.trans (hk6.mono fun i _ _ hi => .inl hi))
                have p2 := HG6.out.cell 2
                simp only [List.getElem?_toArray, List.getElem?_cons_succ, List.getElem?_cons_zero] at p2
                clear hsh6 hk6
                go_wp2_with fail
                refine (pBreakR HSH6.out xn).mono ?_
                rintro e wz ⟨rfl, hsh7, hk7⟩
                have HSHZ := Lib.hid hsh7
                have HGZ := Lib.hid (HG6.out.keep hk7 (.inr rfl))
                have HKZ := Lib.hid (HK6.out.trans (hk7.mono fun i _ _ hi => .inl hi))
                clear hsh7 hk7 HSH6 HG6 HK6 p2 d0 d1 d2 d3 d4 d5
                generalize hs1 : s.tb xn.toNat = s1 at *
                generalize hr1 : r.tb (cutI xn 0 1073741824).toNat = r1 at *
                have HSZ := Lib.hid (HSAME.out.tb (by omega) hn63)
                rw [hs1, hr1] at HSZ
                clear hs1 hr1
                go_wp2_with fail
                have HCZ := Lib.hid (show wz.cell? ⟨w3.heap.size, 4, none⟩ = some (.int .i64 (s1.count : Int)) by rw [pCount HSHZ.out, HSZ.out.count])
                have HST := Lib.hid (tail_start HGZ.out rfl HCZ.out)
                refine wp_region_noPanic ?_
                refine wp_region_held_drew (S := fun w' => w'.cell? ⟨w3.heap.size, 4, none⟩ = some (.int .i64 (s1.count : Int)) ∧ w'.cell? ⟨ga, 1, none⟩ = some (.int .i64 at_)) (by kernel_rfl) HST.out (fun _ => ?_)
                refine wpAnyH_take (i := 0) (oi := { dst := some 113, op := Op.move (Operand.tmp 6), type := 24, pos := "law.go:79", after := #[], guard := none }) (v := ptr (w1.heap.size + 1)) rfl (by kernel_rfl) (by kernel_rfl) (by kernel_rfl) (fun _ _ _ h => h) (Or.inl ⟨by rfl, ?_⟩) HST.out ?_
                · intro W hSw; (obtain ⟨q0, q1⟩ := hSw); go_simp
                try simp only [Act.put, List.setIfInBounds_toArray, List.set_cons_zero, List.set_cons_succ]
                refine wpAnyH_take (i := 2) (oi := { dst := some 115, op := Op.move (Operand.tmp 8), type := 26, pos := "law.go:79", after := #[], guard := none }) (v := ptr w3.heap.size) rfl (by kernel_rfl) (by kernel_rfl) (by kernel_rfl) (fun _ _ _ h => h) (Or.inl ⟨by rfl, ?_⟩) HST.out ?_
                · intro W hSw; (obtain ⟨q0, q1⟩ := hSw); go_simp
                try simp only [Act.put, List.setIfInBounds_toArray, List.set_cons_zero, List.set_cons_succ]
                refine wpAnyH_take (i := 3) (oi := { dst := some 116, op := Op.nilCheck (Operand.tmp 115), type := 0, pos := "law.go:79", after := #[{ on := 2, ground := Ground.data }], guard := none }) (v := ptr w3.heap.size) rfl (by kernel_rfl) (by kernel_rfl) (by kernel_rfl) (fun _ _ _ h => h) (Or.inl ⟨by rfl, ?_⟩) HST.out ?_
                · intro W hSw; (obtain ⟨q0, q1⟩ := hSw); go_simp
                try simp only [Act.put, List.setIfInBounds_toArray, List.set_cons_zero, List.set_cons_succ]
                refine wpAnyH_take (i := 4) (oi := { dst := some 117, op := Op.fieldAddr 40 (Operand.tmp 116) 4, type := 0, pos := "law.go:79", after := #[{ on := 3, ground := Ground.data }], guard := none }) (v := .pointer (some ⟨w3.heap.size, 4, none⟩)) rfl (by kernel_rfl) (by kernel_rfl) (by kernel_rfl) (fun _ _ _ h => h) (Or.inl ⟨by rfl, ?_⟩) HST.out ?_
                · intro W hSw; (obtain ⟨q0, q1⟩ := hSw); go_simp
                try simp only [Act.put, List.setIfInBounds_toArray, List.set_cons_zero, List.set_cons_succ]
                refine wpAnyH_take (i := 5) (oi := { dst := some 118, op := Op.load 3 (Operand.tmp 117), type := 3, pos := "law.go:79", after := #[{ on := 4, ground := Ground.data }], guard := none }) (v := .int .i64 (s1.count : Int)) rfl (by kernel_rfl) (by kernel_rfl) (by kernel_rfl) (fun _ _ _ h => h) (Or.inl ⟨by rfl, ?_⟩) HST.out ?_
                · intro W hSw; (obtain ⟨q0, q1⟩ := hSw); go_simp
                try simp only [Act.put, List.setIfInBounds_toArray, List.set_cons_zero, List.set_cons_succ]
                refine wpAnyH_1 (i := 1) (by kernel_rfl) (wpOp_call (o := { dst := some 114, op := Op.call { callee := Callee.value (Operand.func 19), args := #[Operand.tmp 113], argTypes := #[24] }, type := 3, pos := "law.go:79", after := #[{ on := 0, ground := Ground.data }], guard := none }) (f := 19) rfl (by rfl) (by go_simp) ((pWrites HSHZ.out.drew).mono ?_))
                rintro e _ ⟨rfl, rfl⟩
                refine ⟨_, rfl, HST.out, ?_⟩
                try simp only [Act.put, List.setIfInBounds_toArray, List.set_cons_zero, List.set_cons_succ]
                refine wpAnyH_take (i := 6) (oi := { dst := some 119, op := Op.binOp BinOp.neq 3 (Operand.tmp 114) (Operand.tmp 118) 3, type := 4, pos := "law.go:79", after := #[{ on := 1, ground := Ground.data }, { on := 5, ground := Ground.data }], guard := none }) (v := .bool false) rfl (by kernel_rfl) (by kernel_rfl) (by kernel_rfl) (fun _ _ _ h => h) (Or.inl ⟨by rfl, ?_⟩) HST.out ?_
                · intro W hSw; (obtain ⟨q0, q1⟩ := hSw); go_simp
                try simp only [Act.put, List.setIfInBounds_toArray, List.set_cons_zero, List.set_cons_succ]
                refine wpAnyH_take (i := 7) (oi := { dst := some 120, op := Op.move (Operand.tmp 119), type := 4, pos := "law.go:79", after := #[{ on := 6, ground := Ground.data }, { on := 1, ground := Ground.chain }], guard := none }) (v := .bool false) rfl (by kernel_rfl) (by kernel_rfl) (by kernel_rfl) (fun _ _ _ h => h) (Or.inl ⟨by rfl, ?_⟩) HST.out ?_
                · intro W hSw; (obtain ⟨q0, q1⟩ := hSw); go_simp
                try simp only [Act.put, List.setIfInBounds_toArray, List.set_cons_zero, List.set_cons_succ]
                refine wpAnyH_take (i := 8) (oi := { dst := some 121, op := Op.move (Operand.tmp 6), type := 24, pos := "law.go:79", after := #[{ on := 7, ground := Ground.guard }], guard := some (7, false) }) (v := ptr (w1.heap.size + 1)) rfl (by kernel_rfl) (by kernel_rfl) (by kernel_rfl) (fun _ _ _ h => h) (Or.inl ⟨by rfl, ?_⟩) HST.out ?_
                · intro W hSw; (obtain ⟨q0, q1⟩ := hSw); go_simp
                try simp only [Act.put, List.setIfInBounds_toArray, List.set_cons_zero, List.set_cons_succ]
                refine wpAnyH_take (i := 10) (oi := { dst := some 123, op := Op.move (Operand.tmp 8), type := 26, pos := "law.go:79", after := #[{ on := 7, ground := Ground.guard }], guard := some (7, false) }) (v := ptr w3.heap.size) rfl (by kernel_rfl) (by kernel_rfl) (by kernel_rfl) (fun _ _ _ h => h) (Or.inl ⟨by rfl, ?_⟩) HST.out ?_
                · intro W hSw; (obtain ⟨q0, q1⟩ := hSw); go_simp
                try simp only [Act.put, List.setIfInBounds_toArray, List.set_cons_zero, List.set_cons_succ]
                refine wpAnyH_1 (i := 9) (by kernel_rfl) (wpOp_call (o := { dst := some 122, op := Op.call { callee := Callee.value (Operand.func 20), args := #[Operand.tmp 121], argTypes := #[24] }, type := 3, pos := "law.go:79", after := #[{ on := 8, ground := Ground.data }, { on := 7, ground := Ground.chain }, { on := 7, ground := Ground.guard }], guard := some (7, false) }) (f := 20) rfl (by rfl) (by go_simp) ((pLenD HSHZ.out.drew).mono ?_))
                rintro e _ ⟨rfl, rfl⟩
                refine ⟨_, rfl, HST.out, ?_⟩
                try simp only [Act.put, List.setIfInBounds_toArray, List.set_cons_zero, List.set_cons_succ]
                refine wpAnyH_1 (i := 11) (by kernel_rfl) (wpOp_call (o := { dst := some 124, op := Op.call { callee := Callee.value (Operand.func 21), args := #[Operand.tmp 123], argTypes := #[26] }, type := 3, pos := "law.go:79", after := #[{ on := 10, ground := Ground.data }, { on := 9, ground := Ground.chain }, { on := 7, ground := Ground.guard }], guard := some (7, false) }) (f := 21) rfl (by rfl) (by go_simp) ((pLenR HSHZ.out.drew HSZ.out.n.symm).mono ?_))
                rintro e _ ⟨rfl, rfl⟩
                refine ⟨_, rfl, HST.out, ?_⟩
                try simp only [Act.put, List.setIfInBounds_toArray, List.set_cons_zero, List.set_cons_succ]
                refine wpAnyH_take (i := 12) (oi := { dst := some 125, op := Op.binOp BinOp.neq 3 (Operand.tmp 122) (Operand.tmp 124) 3, type := 4, pos := "law.go:79", after := #[{ on := 9, ground := Ground.data }, { on := 11, ground := Ground.data }, { on := 7, ground := Ground.guard }], guard := some (7, false) }) (v := .bool false) rfl (by kernel_rfl) (by kernel_rfl) (by kernel_rfl) (fun _ _ _ h => h) (Or.inl ⟨by rfl, ?_⟩) HST.out ?_
                · intro W hSw; (obtain ⟨q0, q1⟩ := hSw); go_simp
                try simp only [Act.put, List.setIfInBounds_toArray, List.set_cons_zero, List.set_cons_succ]
                refine wpAnyH_take (i := 13) (oi := { dst := some 126, op := Op.pick (Operand.tmp 120) (Operand.const (Value.bool true)) (Operand.tmp 125), type := 4, pos := "law.go:79", after := #[{ on := 7, ground := Ground.data }, { on := 12, ground := Ground.data }], guard := none }) (v := .bool false) rfl (by kernel_rfl) (by kernel_rfl) (by kernel_rfl) (fun _ _ _ h => h) (Or.inl ⟨by rfl, ?_⟩) HST.out ?_
                · intro W hSw; (obtain ⟨q0, q1⟩ := hSw); go_simp
                try simp only [Act.put, List.setIfInBounds_toArray, List.set_cons_zero, List.set_cons_succ]
                refine wpAnyH_take (i := 14) (oi := { dst := some 127, op := Op.move (Operand.tmp 126), type := 4, pos := "law.go:79", after := #[{ on := 13, ground := Ground.data }, { on := 11, ground := Ground.chain }], guard := none }) (v := .bool false) rfl (by kernel_rfl) (by kernel_rfl) (by kernel_rfl) (fun _ _ _ h => h) (Or.inl ⟨by rfl, ?_⟩) HST.out ?_
                · intro W hSw; (obtain ⟨q0, q1⟩ := hSw); go_simp
                try simp only [Act.put, List.setIfInBounds_toArray, List.set_cons_zero, List.set_cons_succ]
                refine wpAnyH_take (i := 15) (oi := { dst := some 128, op := Op.move (Operand.tmp 6), type := 24, pos := "law.go:79", after := #[{ on := 14, ground := Ground.guard }], guard := some (14, false) }) (v := ptr (w1.heap.size + 1)) rfl (by kernel_rfl) (by kernel_rfl) (by kernel_rfl) (fun _ _ _ h => h) (Or.inl ⟨by rfl, ?_⟩) HST.out ?_
                · intro W hSw; (obtain ⟨q0, q1⟩ := hSw); go_simp
                try simp only [Act.put, List.setIfInBounds_toArray, List.set_cons_zero, List.set_cons_succ]
                refine wpAnyH_take (i := 16) (oi := { dst := some 129, op := Op.fieldAddr 30 (Operand.tmp 10) 1, type := 0, pos := "law.go:79", after := #[{ on := 14, ground := Ground.guard }], guard := some (14, false) }) (v := .pointer (some ⟨ga, 1, none⟩)) rfl (by kernel_rfl) (by kernel_rfl) (by kernel_rfl) (fun _ _ _ h => h) (Or.inl ⟨by rfl, ?_⟩) HST.out ?_
                · intro W hSw; (obtain ⟨q0, q1⟩ := hSw); go_simp
                try simp only [Act.put, List.setIfInBounds_toArray, List.set_cons_zero, List.set_cons_succ]
                refine wpAnyH_take (i := 17) (oi := { dst := some 130, op := Op.load 3 (Operand.tmp 129), type := 3, pos := "law.go:79", after := #[{ on := 16, ground := Ground.data }, { on := 14, ground := Ground.guard }], guard := some (14, false) }) (v := .int .i64 at_) rfl (by kernel_rfl) (by kernel_rfl) (by kernel_rfl) (fun _ _ _ h => h) (Or.inl ⟨by rfl, ?_⟩) HST.out ?_
                · intro W hSw; (obtain ⟨q0, q1⟩ := hSw); go_simp
                try simp only [Act.put, List.setIfInBounds_toArray, List.set_cons_zero, List.set_cons_succ]
                refine wpAnyH_take (i := 20) (oi := { dst := some 133, op := Op.move (Operand.tmp 8), type := 26, pos := "law.go:79", after := #[{ on := 14, ground := Ground.guard }], guard := some (14, false) }) (v := ptr w3.heap.size) rfl (by kernel_rfl) (by kernel_rfl) (by kernel_rfl) (fun _ _ _ h => h) (Or.inl ⟨by rfl, ?_⟩) HST.out ?_
                · intro W hSw; (obtain ⟨q0, q1⟩ := hSw); go_simp
                try simp only [Act.put, List.setIfInBounds_toArray, List.set_cons_zero, List.set_cons_succ]
                refine wpAnyH_take (i := 21) (oi := { dst := some 134, op := Op.fieldAddr 30 (Operand.tmp 10) 1, type := 0, pos := "law.go:79", after := #[{ on := 14, ground := Ground.guard }], guard := some (14, false) }) (v := .pointer (some ⟨ga, 1, none⟩)) rfl (by kernel_rfl) (by kernel_rfl) (by kernel_rfl) (fun _ _ _ h => h) (Or.inl ⟨by rfl, ?_⟩) HST.out ?_
                · intro W hSw; (obtain ⟨q0, q1⟩ := hSw); go_simp
                try simp only [Act.put, List.setIfInBounds_toArray, List.set_cons_zero, List.set_cons_succ]
                refine wpAnyH_take (i := 22) (oi := { dst := some 135, op := Op.load 3 (Operand.tmp 134), type := 3, pos := "law.go:79", after := #[{ on := 21, ground := Ground.data }, { on := 14, ground := Ground.guard }], guard := some (14, false) }) (v := .int .i64 at_) rfl (by kernel_rfl) (by kernel_rfl) (by kernel_rfl) (fun _ _ _ h => h) (Or.inl ⟨by rfl, ?_⟩) HST.out ?_
                · intro W hSw; (obtain ⟨q0, q1⟩ := hSw); go_simp
                try simp only [Act.put, List.setIfInBounds_toArray, List.set_cons_zero, List.set_cons_succ]
                refine wpAnyH_1 (i := 18) (by kernel_rfl) (wpOp_call (o := { dst := some 131, op := Op.call { callee := Callee.value (Operand.func 22), args := #[Operand.tmp 128, Operand.tmp 130], argTypes := #[24, 3] }, type := 32, pos := "law.go:79", after := #[{ on := 15, ground := Ground.data }, { on := 17, ground := Ground.data }, { on := 14, ground := Ground.chain }, { on := 14, ground := Ground.guard }], guard := some (14, false) }) (f := 22) rfl (by rfl) (by go_simp) ((pReadD HSHZ.out.drew at_).mono ?_))
                rintro e w7 ⟨A7, n7, c7, rfl, hcv7, hbel7⟩
                have HS7 := Lib.hid (tail_keep HST.out hbel7)
                have HCV := Lib.hid hcv7
                have HBL7 := Lib.hid hbel7
                clear hcv7 hbel7
                refine ⟨_, rfl, HS7.out, ?_⟩
                try simp only [Act.put, List.setIfInBounds_toArray, List.set_cons_zero, List.set_cons_succ]
                refine wpAnyH_2 (i := 19) (j := 23) (by kernel_rfl) ?_ ?_
                · refine wpOp_value (o := { dst := some 132, op := Op.convert 32 9 (Operand.tmp 131), type := 9, pos := "law.go:79", after := #[{ on := 18, ground := Ground.data }, { on := 14, ground := Ground.guard }], guard := some (14, false) }) (v := .string (s1.str at_)) (w' := w7) rfl (by rfl) (exec_value rfl (HCV.out w7 (Below.refl _ _))) ⟨HS7.out, ?_⟩
                  try simp only [Act.put, List.setIfInBounds_toArray, List.set_cons_zero, List.set_cons_succ]
                  refine wpAnyH_1 (i := 23) (by kernel_rfl) ?_
                  refine wpOp_call (o := { dst := some 136, op := Op.call { callee := Callee.value (Operand.func 23), args := #[Operand.tmp 133, Operand.tmp 135], argTypes := #[26, 3] }, type := 32, pos := "law.go:79", after := #[{ on := 20, ground := Ground.data }, { on := 22, ground := Ground.data }, { on := 18, ground := Ground.chain }, { on := 14, ground := Ground.guard }], guard := some (14, false) }) (f := 23) rfl (by rfl) (by go_simp) ((pReadR (HSHZ.out.drew.below HBL7.out) at_ (by rw [← HSZ.out.l]; have := HSZ.out.len; omega) (HSZ.out.str at_).symm).mono ?_)
                  rintro e w8 ⟨A8, n8, c8, rfl, hcv8, hbel8⟩
                  have HS8 := Lib.hid (tail_keep HS7.out hbel8)
                  have HCV8 := Lib.hid hcv8
                  have HBL8 := Lib.hid hbel8
                  clear hcv8 hbel8
                  refine ⟨_, rfl, HS8.out, ?_⟩
                  try simp only [Act.put, List.setIfInBounds_toArray, List.set_cons_zero, List.set_cons_succ]
                  refine wpAnyH_1 (i := 24) (by kernel_rfl) ?_
                  refine wpOp_value (o := { dst := some 137, op := Op.convert 32 9 (Operand.tmp 136), type := 9, pos := "law.go:79", after := #[{ on := 23, ground := Ground.data }, { on := 14, ground := Ground.guard }], guard := some (14, false) }) (v := .string (s1.str at_)) (w' := w8) rfl (by rfl) (exec_value rfl (HCV8.out)) ⟨HS8.out, ?_⟩
                  try simp only [Act.put, List.setIfInBounds_toArray, List.set_cons_zero, List.set_cons_succ]
                  refine wpAnyH_take (i := 25) (oi := { dst := some 138, op := Op.binOp BinOp.neq 9 (Operand.tmp 132) (Operand.tmp 137) 9, type := 4, pos := "law.go:79", after := #[{ on := 19, ground := Ground.data }, { on := 24, ground := Ground.data }, { on := 14, ground := Ground.guard }], guard := some (14, false) }) (v := .bool false) rfl (by kernel_rfl) (by kernel_rfl) (by kernel_rfl) (fun _ _ _ h => h) (Or.inl ⟨by rfl, ?_⟩) HS8.out ?_
                  · intro W hSw; (obtain ⟨q0, q1⟩ := hSw); go_simp
                  try simp only [Act.put, List.setIfInBounds_toArray, List.set_cons_zero, List.set_cons_succ]
                  refine wpAnyH_take (i := 26) (oi := { dst := some 139, op := Op.pick (Operand.tmp 127) (Operand.const (Value.bool true)) (Operand.tmp 138), type := 4, pos := "law.go:79", after := #[{ on := 14, ground := Ground.data }, { on := 25, ground := Ground.data }], guard := none }) (v := .bool false) rfl (by kernel_rfl) (by kernel_rfl) (by kernel_rfl) (fun _ _ _ h => h) (Or.inl ⟨by rfl, ?_⟩) HS8.out ?_
                  · intro W hSw; (obtain ⟨q0, q1⟩ := hSw); go_simp
                  try simp only [Act.put, List.setIfInBounds_toArray, List.set_cons_zero, List.set_cons_succ]
                  refine wpAnyH_done (by kernel_rfl) ?_ _
                  refine NoPanic.normal ?_
                  go_wp2
                  go_roundg (len - (j + 1))
                  case measure => have := HJ.out; omega
                  case rel => exact ⟨j + 1, s1, so1, r1, by omega, by go_num, ((HSHZ.out.drew.below HBL7.out).below HBL8.out).less (fun i hi => .inl hi), HSZ.out, HOZ.out, ((HKZ.out.drew).trans (Keep.of_below HBL7.out)).trans (Keep.of_below HBL8.out)⟩
                · refine wpOp_call (o := { dst := some 136, op := Op.call { callee := Callee.value (Operand.func 23), args := #[Operand.tmp 133, Operand.tmp 135], argTypes := #[26, 3] }, type := 32, pos := "law.go:79", after := #[{ on := 20, ground := Ground.data }, { on := 22, ground := Ground.data }, { on := 18, ground := Ground.chain }, { on := 14, ground := Ground.guard }], guard := some (14, false) }) (f := 23) rfl (by rfl) (by go_simp) ((pReadR (HSHZ.out.drew.below HBL7.out) at_ (by rw [← HSZ.out.l]; have := HSZ.out.len; omega) (HSZ.out.str at_).symm).mono ?_)
                  rintro e w8 ⟨A8, n8, c8, rfl, hcv8, hbel8⟩
                  have HS8 := Lib.hid (tail_keep HS7.out hbel8)
                  have HCV8 := Lib.hid hcv8
                  have HBL8 := Lib.hid hbel8
                  clear hcv8 hbel8
                  refine ⟨_, rfl, HS8.out, ?_⟩
                  try simp only [Act.put, List.setIfInBounds_toArray, List.set_cons_zero, List.set_cons_succ]
                  refine wpAnyH_2 (i := 19) (j := 24) (by kernel_rfl) ?_ ?_
                  · refine wpOp_value (o := { dst := some 132, op := Op.convert 32 9 (Operand.tmp 131), type := 9, pos := "law.go:79", after := #[{ on := 18, ground := Ground.data }, { on := 14, ground := Ground.guard }], guard := some (14, false) }) (v := .string (s1.str at_)) (w' := w8) rfl (by rfl) (exec_value rfl (HCV.out w8 HBL8.out)) ⟨HS8.out, ?_⟩
                    try simp only [Act.put, List.setIfInBounds_toArray, List.set_cons_zero, List.set_cons_succ]
                    refine wpAnyH_1 (i := 24) (by kernel_rfl) ?_
                    refine wpOp_value (o := { dst := some 137, op := Op.convert 32 9 (Operand.tmp 136), type := 9, pos := "law.go:79", after := #[{ on := 23, ground := Ground.data }, { on := 14, ground := Ground.guard }], guard := some (14, false) }) (v := .string (s1.str at_)) (w' := w8) rfl (by rfl) (exec_value rfl (HCV8.out)) ⟨HS8.out, ?_⟩
                    try simp only [Act.put, List.setIfInBounds_toArray, List.set_cons_zero, List.set_cons_succ]
                    refine wpAnyH_take (i := 25) (oi := { dst := some 138, op := Op.binOp BinOp.neq 9 (Operand.tmp 132) (Operand.tmp 137) 9, type := 4, pos := "law.go:79", after := #[{ on := 19, ground := Ground.data }, { on := 24, ground := Ground.data }, { on := 14, ground := Ground.guard }], guard := some (14, false) }) (v := .bool false) rfl (by kernel_rfl) (by kernel_rfl) (by kernel_rfl) (fun _ _ _ h => h) (Or.inl ⟨by rfl, ?_⟩) HS8.out ?_
                    · intro W hSw; (obtain ⟨q0, q1⟩ := hSw); go_simp
                    try simp only [Act.put, List.setIfInBounds_toArray, List.set_cons_zero, List.set_cons_succ]
                    refine wpAnyH_take (i := 26) (oi := { dst := some 139, op := Op.pick (Operand.tmp 127) (Operand.const (Value.bool true)) (Operand.tmp 138), type := 4, pos := "law.go:79", after := #[{ on := 14, ground := Ground.data }, { on := 25, ground := Ground.data }], guard := none }) (v := .bool false) rfl (by kernel_rfl) (by kernel_rfl) (by kernel_rfl) (fun _ _ _ h => h) (Or.inl ⟨by rfl, ?_⟩) HS8.out ?_
                    · intro W hSw; (obtain ⟨q0, q1⟩ := hSw); go_simp
                    try simp only [Act.put, List.setIfInBounds_toArray, List.set_cons_zero, List.set_cons_succ]
                    refine wpAnyH_done (by kernel_rfl) ?_ _
                    refine NoPanic.normal ?_
                    go_wp2
                    go_roundg (len - (j + 1))
                    case measure => have := HJ.out; omega
                    case rel => exact ⟨j + 1, s1, so1, r1, by omega, by go_num, ((HSHZ.out.drew.below HBL7.out).below HBL8.out).less (fun i hi => .inl hi), HSZ.out, HOZ.out, ((HKZ.out.drew).trans (Keep.of_below HBL7.out)).trans (Keep.of_below HBL8.out)⟩
                  · refine wpOp_value (o := { dst := some 137, op := Op.convert 32 9 (Operand.tmp 136), type := 9, pos := "law.go:79", after := #[{ on := 23, ground := Ground.data }, { on := 14, ground := Ground.guard }], guard := some (14, false) }) (v := .string (s1.str at_)) (w' := w8) rfl (by rfl) (exec_value rfl (HCV8.out)) ⟨HS8.out, ?_⟩
                    try simp only [Act.put, List.setIfInBounds_toArray, List.set_cons_zero, List.set_cons_succ]
                    refine wpAnyH_1 (i := 19) (by kernel_rfl) ?_
                    refine wpOp_value (o := { dst := some 132, op := Op.convert 32 9 (Operand.tmp 131), type := 9, pos := "law.go:79", after := #[{ on := 18, ground := Ground.data }, { on := 14, ground := Ground.guard }], guard := some (14, false) }) (v := .string (s1.str at_)) (w' := w8) rfl (by rfl) (exec_value rfl (HCV.out w8 HBL8.out)) ⟨HS8.out, ?_⟩
                    try simp only [Act.put, List.setIfInBounds_toArray, List.set_cons_zero, List.set_cons_succ]
                    refine wpAnyH_take (i := 25) (oi := { dst := some 138, op := Op.binOp BinOp.neq 9 (Operand.tmp 132) (Operand.tmp 137) 9, type := 4, pos := "law.go:79", after := #[{ on := 19, ground := Ground.data }, { on := 24, ground := Ground.data }, { on := 14, ground := Ground.guard }], guard := some (14, false) }) (v := .bool false) rfl (by kernel_rfl) (by kernel_rfl) (by kernel_rfl) (fun _ _ _ h => h) (Or.inl ⟨by rfl, ?_⟩) HS8.out ?_
                    · intro W hSw; (obtain ⟨q0, q1⟩ := hSw); go_simp
                    try simp only [Act.put, List.setIfInBounds_toArray, List.set_cons_zero, List.set_cons_succ]
                    refine wpAnyH_take (i := 26) (oi := { dst := some 139, op := Op.pick (Operand.tmp 127) (Operand.const (Value.bool true)) (Operand.tmp 138), type := 4, pos := "law.go:79", after := #[{ on := 14, ground := Ground.data }, { on := 25, ground := Ground.data }], guard := none }) (v := .bool false) rfl (by kernel_rfl) (by kernel_rfl) (by kernel_rfl) (fun _ _ _ h => h) (Or.inl ⟨by rfl, ?_⟩) HS8.out ?_
                    · intro W hSw; (obtain ⟨q0, q1⟩ := hSw); go_simp
                    try simp only [Act.put, List.setIfInBounds_toArray, List.set_cons_zero, List.set_cons_succ]
                    refine wpAnyH_done (by kernel_rfl) ?_ _
                    refine NoPanic.normal ?_
                    go_wp2
                    go_roundg (len - (j + 1))
                    case measure => have := HJ.out; omega
                    case rel => exact ⟨j + 1, s1, so1, r1, by omega, by go_num, ((HSHZ.out.drew.below HBL7.out).below HBL8.out).less (fun i hi => .inl hi), HSZ.out, HOZ.out, ((HKZ.out.drew).trans (Keep.of_below HBL7.out)).trans (Keep.of_below HBL8.out)⟩
              · have t3 : (way == 3) = false := by rw [beq_eq_false_iff_ne]; exact h3
                have HSHZ := HSH5
                have HGZ := HG5
                have HKZ := HK5
                clear HSH5 HG5 HK5
                have HSZ := Lib.hid (HSAME.out.more (Nat.le_succ j))
                generalize w5 = wz at *
                generalize s = s1 at *
                generalize r = r1 at *
                go_wp2_with fail
                have HCZ := Lib.hid (show wz.cell? ⟨w3.heap.size, 4, none⟩ = some (.int .i64 (s1.count : Int)) by rw [pCount HSHZ.out, HSZ.out.count])
                have HST := Lib.hid (tail_start HGZ.out rfl HCZ.out)
                refine wp_region_noPanic ?_
                refine wp_region_held_drew (S := fun w' => w'.cell? ⟨w3.heap.size, 4, none⟩ = some (.int .i64 (s1.count : Int)) ∧ w'.cell? ⟨ga, 1, none⟩ = some (.int .i64 at_)) (by kernel_rfl) HST.out (fun _ => ?_)
                refine wpAnyH_take (i := 0) (oi := { dst := some 113, op := Op.move (Operand.tmp 6), type := 24, pos := "law.go:79", after := #[], guard := none }) (v := ptr (w1.heap.size + 1)) rfl (by kernel_rfl) (by kernel_rfl) (by kernel_rfl) (fun _ _ _ h => h) (Or.inl ⟨by rfl, ?_⟩) HST.out ?_
                · intro W hSw; (obtain ⟨q0, q1⟩ := hSw); go_simp
                try simp only [Act.put, List.setIfInBounds_toArray, List.set_cons_zero, List.set_cons_succ]
                refine wpAnyH_take (i := 2) (oi := { dst := some 115, op := Op.move (Operand.tmp 8), type := 26, pos := "law.go:79", after := #[], guard := none }) (v := ptr w3.heap.size) rfl (by kernel_rfl) (by kernel_rfl) (by kernel_rfl) (fun _ _ _ h => h) (Or.inl ⟨by rfl, ?_⟩) HST.out ?_
                · intro W hSw; (obtain ⟨q0, q1⟩ := hSw); go_simp
                try simp only [Act.put, List.setIfInBounds_toArray, List.set_cons_zero, List.set_cons_succ]
                refine wpAnyH_take (i := 3) (oi := { dst := some 116, op := Op.nilCheck (Operand.tmp 115), type := 0, pos := "law.go:79", after := #[{ on := 2, ground := Ground.data }], guard := none }) (v := ptr w3.heap.size) rfl (by kernel_rfl) (by kernel_rfl) (by kernel_rfl) (fun _ _ _ h => h) (Or.inl ⟨by rfl, ?_⟩) HST.out ?_
                · intro W hSw; (obtain ⟨q0, q1⟩ := hSw); go_simp
                try simp only [Act.put, List.setIfInBounds_toArray, List.set_cons_zero, List.set_cons_succ]
                refine wpAnyH_take (i := 4) (oi := { dst := some 117, op := Op.fieldAddr 40 (Operand.tmp 116) 4, type := 0, pos := "law.go:79", after := #[{ on := 3, ground := Ground.data }], guard := none }) (v := .pointer (some ⟨w3.heap.size, 4, none⟩)) rfl (by kernel_rfl) (by kernel_rfl) (by kernel_rfl) (fun _ _ _ h => h) (Or.inl ⟨by rfl, ?_⟩) HST.out ?_
                · intro W hSw; (obtain ⟨q0, q1⟩ := hSw); go_simp
                try simp only [Act.put, List.setIfInBounds_toArray, List.set_cons_zero, List.set_cons_succ]
                refine wpAnyH_take (i := 5) (oi := { dst := some 118, op := Op.load 3 (Operand.tmp 117), type := 3, pos := "law.go:79", after := #[{ on := 4, ground := Ground.data }], guard := none }) (v := .int .i64 (s1.count : Int)) rfl (by kernel_rfl) (by kernel_rfl) (by kernel_rfl) (fun _ _ _ h => h) (Or.inl ⟨by rfl, ?_⟩) HST.out ?_
                · intro W hSw; (obtain ⟨q0, q1⟩ := hSw); go_simp
                try simp only [Act.put, List.setIfInBounds_toArray, List.set_cons_zero, List.set_cons_succ]
                refine wpAnyH_1 (i := 1) (by kernel_rfl) (wpOp_call (o := { dst := some 114, op := Op.call { callee := Callee.value (Operand.func 19), args := #[Operand.tmp 113], argTypes := #[24] }, type := 3, pos := "law.go:79", after := #[{ on := 0, ground := Ground.data }], guard := none }) (f := 19) rfl (by rfl) (by go_simp) ((pWrites HSHZ.out.drew).mono ?_))
                rintro e _ ⟨rfl, rfl⟩
                refine ⟨_, rfl, HST.out, ?_⟩
                try simp only [Act.put, List.setIfInBounds_toArray, List.set_cons_zero, List.set_cons_succ]
                refine wpAnyH_take (i := 6) (oi := { dst := some 119, op := Op.binOp BinOp.neq 3 (Operand.tmp 114) (Operand.tmp 118) 3, type := 4, pos := "law.go:79", after := #[{ on := 1, ground := Ground.data }, { on := 5, ground := Ground.data }], guard := none }) (v := .bool false) rfl (by kernel_rfl) (by kernel_rfl) (by kernel_rfl) (fun _ _ _ h => h) (Or.inl ⟨by rfl, ?_⟩) HST.out ?_
                · intro W hSw; (obtain ⟨q0, q1⟩ := hSw); go_simp
                try simp only [Act.put, List.setIfInBounds_toArray, List.set_cons_zero, List.set_cons_succ]
                refine wpAnyH_take (i := 7) (oi := { dst := some 120, op := Op.move (Operand.tmp 119), type := 4, pos := "law.go:79", after := #[{ on := 6, ground := Ground.data }, { on := 1, ground := Ground.chain }], guard := none }) (v := .bool false) rfl (by kernel_rfl) (by kernel_rfl) (by kernel_rfl) (fun _ _ _ h => h) (Or.inl ⟨by rfl, ?_⟩) HST.out ?_
                · intro W hSw; (obtain ⟨q0, q1⟩ := hSw); go_simp
                try simp only [Act.put, List.setIfInBounds_toArray, List.set_cons_zero, List.set_cons_succ]
                refine wpAnyH_take (i := 8) (oi := { dst := some 121, op := Op.move (Operand.tmp 6), type := 24, pos := "law.go:79", after := #[{ on := 7, ground := Ground.guard }], guard := some (7, false) }) (v := ptr (w1.heap.size + 1)) rfl (by kernel_rfl) (by kernel_rfl) (by kernel_rfl) (fun _ _ _ h => h) (Or.inl ⟨by rfl, ?_⟩) HST.out ?_
                · intro W hSw; (obtain ⟨q0, q1⟩ := hSw); go_simp
                try simp only [Act.put, List.setIfInBounds_toArray, List.set_cons_zero, List.set_cons_succ]
                refine wpAnyH_take (i := 10) (oi := { dst := some 123, op := Op.move (Operand.tmp 8), type := 26, pos := "law.go:79", after := #[{ on := 7, ground := Ground.guard }], guard := some (7, false) }) (v := ptr w3.heap.size) rfl (by kernel_rfl) (by kernel_rfl) (by kernel_rfl) (fun _ _ _ h => h) (Or.inl ⟨by rfl, ?_⟩) HST.out ?_
                · intro W hSw; (obtain ⟨q0, q1⟩ := hSw); go_simp
                try simp only [Act.put, List.setIfInBounds_toArray, List.set_cons_zero, List.set_cons_succ]
                refine wpAnyH_1 (i := 9) (by kernel_rfl) (wpOp_call (o := { dst := some 122, op := Op.call { callee := Callee.value (Operand.func 20), args := #[Operand.tmp 121], argTypes := #[24] }, type := 3, pos := "law.go:79", after := #[{ on := 8, ground := Ground.data }, { on := 7, ground := Ground.chain }, { on := 7, ground := Ground.guard }], guard := some (7, false) }) (f := 20) rfl (by rfl) (by go_simp) ((pLenD HSHZ.out.drew).mono ?_))
                rintro e _ ⟨rfl, rfl⟩
                refine ⟨_, rfl, HST.out, ?_⟩
                try simp only [Act.put, List.setIfInBounds_toArray, List.set_cons_zero, List.set_cons_succ]
                refine wpAnyH_1 (i := 11) (by kernel_rfl) (wpOp_call (o := { dst := some 124, op := Op.call { callee := Callee.value (Operand.func 21), args := #[Operand.tmp 123], argTypes := #[26] }, type := 3, pos := "law.go:79", after := #[{ on := 10, ground := Ground.data }, { on := 9, ground := Ground.chain }, { on := 7, ground := Ground.guard }], guard := some (7, false) }) (f := 21) rfl (by rfl) (by go_simp) ((pLenR HSHZ.out.drew HSZ.out.n.symm).mono ?_))
                rintro e _ ⟨rfl, rfl⟩
                refine ⟨_, rfl, HST.out, ?_⟩
                try simp only [Act.put, List.setIfInBounds_toArray, List.set_cons_zero, List.set_cons_succ]
                refine wpAnyH_take (i := 12) (oi := { dst := some 125, op := Op.binOp BinOp.neq 3 (Operand.tmp 122) (Operand.tmp 124) 3, type := 4, pos := "law.go:79", after := #[{ on := 9, ground := Ground.data }, { on := 11, ground := Ground.data }, { on := 7, ground := Ground.guard }], guard := some (7, false) }) (v := .bool false) rfl (by kernel_rfl) (by kernel_rfl) (by kernel_rfl) (fun _ _ _ h => h) (Or.inl ⟨by rfl, ?_⟩) HST.out ?_
                · intro W hSw; (obtain ⟨q0, q1⟩ := hSw); go_simp
                try simp only [Act.put, List.setIfInBounds_toArray, List.set_cons_zero, List.set_cons_succ]
                refine wpAnyH_take (i := 13) (oi := { dst := some 126, op := Op.pick (Operand.tmp 120) (Operand.const (Value.bool true)) (Operand.tmp 125), type := 4, pos := "law.go:79", after := #[{ on := 7, ground := Ground.data }, { on := 12, ground := Ground.data }], guard := none }) (v := .bool false) rfl (by kernel_rfl) (by kernel_rfl) (by kernel_rfl) (fun _ _ _ h => h) (Or.inl ⟨by rfl, ?_⟩) HST.out ?_
                · intro W hSw; (obtain ⟨q0, q1⟩ := hSw); go_simp
                try simp only [Act.put, List.setIfInBounds_toArray, List.set_cons_zero, List.set_cons_succ]
                refine wpAnyH_take (i := 14) (oi := { dst := some 127, op := Op.move (Operand.tmp 126), type := 4, pos := "law.go:79", after := #[{ on := 13, ground := Ground.data }, { on := 11, ground := Ground.chain }], guard := none }) (v := .bool false) rfl (by kernel_rfl) (by kernel_rfl) (by kernel_rfl) (fun _ _ _ h => h) (Or.inl ⟨by rfl, ?_⟩) HST.out ?_
                · intro W hSw; (obtain ⟨q0, q1⟩ := hSw); go_simp
                try simp only [Act.put, List.setIfInBounds_toArray, List.set_cons_zero, List.set_cons_succ]
                refine wpAnyH_take (i := 15) (oi := { dst := some 128, op := Op.move (Operand.tmp 6), type := 24, pos := "law.go:79", after := #[{ on := 14, ground := Ground.guard }], guard := some (14, false) }) (v := ptr (w1.heap.size + 1)) rfl (by kernel_rfl) (by kernel_rfl) (by kernel_rfl) (fun _ _ _ h => h) (Or.inl ⟨by rfl, ?_⟩) HST.out ?_
                · intro W hSw; (obtain ⟨q0, q1⟩ := hSw); go_simp
                try simp only [Act.put, List.setIfInBounds_toArray, List.set_cons_zero, List.set_cons_succ]
                refine wpAnyH_take (i := 16) (oi := { dst := some 129, op := Op.fieldAddr 30 (Operand.tmp 10) 1, type := 0, pos := "law.go:79", after := #[{ on := 14, ground := Ground.guard }], guard := some (14, false) }) (v := .pointer (some ⟨ga, 1, none⟩)) rfl (by kernel_rfl) (by kernel_rfl) (by kernel_rfl) (fun _ _ _ h => h) (Or.inl ⟨by rfl, ?_⟩) HST.out ?_
                · intro W hSw; (obtain ⟨q0, q1⟩ := hSw); go_simp
                try simp only [Act.put, List.setIfInBounds_toArray, List.set_cons_zero, List.set_cons_succ]
                refine wpAnyH_take (i := 17) (oi := { dst := some 130, op := Op.load 3 (Operand.tmp 129), type := 3, pos := "law.go:79", after := #[{ on := 16, ground := Ground.data }, { on := 14, ground := Ground.guard }], guard := some (14, false) }) (v := .int .i64 at_) rfl (by kernel_rfl) (by kernel_rfl) (by kernel_rfl) (fun _ _ _ h => h) (Or.inl ⟨by rfl, ?_⟩) HST.out ?_
                · intro W hSw; (obtain ⟨q0, q1⟩ := hSw); go_simp
                try simp only [Act.put, List.setIfInBounds_toArray, List.set_cons_zero, List.set_cons_succ]
                refine wpAnyH_take (i := 20) (oi := { dst := some 133, op := Op.move (Operand.tmp 8), type := 26, pos := "law.go:79", after := #[{ on := 14, ground := Ground.guard }], guard := some (14, false) }) (v := ptr w3.heap.size) rfl (by kernel_rfl) (by kernel_rfl) (by kernel_rfl) (fun _ _ _ h => h) (Or.inl ⟨by rfl, ?_⟩) HST.out ?_
                · intro W hSw; (obtain ⟨q0, q1⟩ := hSw); go_simp
                try simp only [Act.put, List.setIfInBounds_toArray, List.set_cons_zero, List.set_cons_succ]
                refine wpAnyH_take (i := 21) (oi := { dst := some 134, op := Op.fieldAddr 30 (Operand.tmp 10) 1, type := 0, pos := "law.go:79", after := #[{ on := 14, ground := Ground.guard }], guard := some (14, false) }) (v := .pointer (some ⟨ga, 1, none⟩)) rfl (by kernel_rfl) (by kernel_rfl) (by kernel_rfl) (fun _ _ _ h => h) (Or.inl ⟨by rfl, ?_⟩) HST.out ?_
                · intro W hSw; (obtain ⟨q0, q1⟩ := hSw); go_simp
                try simp only [Act.put, List.setIfInBounds_toArray, List.set_cons_zero, List.set_cons_succ]
                refine wpAnyH_take (i := 22) (oi := { dst := some 135, op := Op.load 3 (Operand.tmp 134), type := 3, pos := "law.go:79", after := #[{ on := 21, ground := Ground.data }, { on := 14, ground := Ground.guard }], guard := some (14, false) }) (v := .int .i64 at_) rfl (by kernel_rfl) (by kernel_rfl) (by kernel_rfl) (fun _ _ _ h => h) (Or.inl ⟨by rfl, ?_⟩) HST.out ?_
                · intro W hSw; (obtain ⟨q0, q1⟩ := hSw); go_simp
                try simp only [Act.put, List.setIfInBounds_toArray, List.set_cons_zero, List.set_cons_succ]
                refine wpAnyH_1 (i := 18) (by kernel_rfl) (wpOp_call (o := { dst := some 131, op := Op.call { callee := Callee.value (Operand.func 22), args := #[Operand.tmp 128, Operand.tmp 130], argTypes := #[24, 3] }, type := 32, pos := "law.go:79", after := #[{ on := 15, ground := Ground.data }, { on := 17, ground := Ground.data }, { on := 14, ground := Ground.chain }, { on := 14, ground := Ground.guard }], guard := some (14, false) }) (f := 22) rfl (by rfl) (by go_simp) ((pReadD HSHZ.out.drew at_).mono ?_))
                rintro e w7 ⟨A7, n7, c7, rfl, hcv7, hbel7⟩
                have HS7 := Lib.hid (tail_keep HST.out hbel7)
                have HCV := Lib.hid hcv7
                have HBL7 := Lib.hid hbel7
                clear hcv7 hbel7
                refine ⟨_, rfl, HS7.out, ?_⟩
                try simp only [Act.put, List.setIfInBounds_toArray, List.set_cons_zero, List.set_cons_succ]
                refine wpAnyH_2 (i := 19) (j := 23) (by kernel_rfl) ?_ ?_
                · refine wpOp_value (o := { dst := some 132, op := Op.convert 32 9 (Operand.tmp 131), type := 9, pos := "law.go:79", after := #[{ on := 18, ground := Ground.data }, { on := 14, ground := Ground.guard }], guard := some (14, false) }) (v := .string (s1.str at_)) (w' := w7) rfl (by rfl) (exec_value rfl (HCV.out w7 (Below.refl _ _))) ⟨HS7.out, ?_⟩
                  try simp only [Act.put, List.setIfInBounds_toArray, List.set_cons_zero, List.set_cons_succ]
                  refine wpAnyH_1 (i := 23) (by kernel_rfl) ?_
                  refine wpOp_call (o := { dst := some 136, op := Op.call { callee := Callee.value (Operand.func 23), args := #[Operand.tmp 133, Operand.tmp 135], argTypes := #[26, 3] }, type := 32, pos := "law.go:79", after := #[{ on := 20, ground := Ground.data }, { on := 22, ground := Ground.data }, { on := 18, ground := Ground.chain }, { on := 14, ground := Ground.guard }], guard := some (14, false) }) (f := 23) rfl (by rfl) (by go_simp) ((pReadR (HSHZ.out.drew.below HBL7.out) at_ (by rw [← HSZ.out.l]; have := HSZ.out.len; omega) (HSZ.out.str at_).symm).mono ?_)
                  rintro e w8 ⟨A8, n8, c8, rfl, hcv8, hbel8⟩
                  have HS8 := Lib.hid (tail_keep HS7.out hbel8)
                  have HCV8 := Lib.hid hcv8
                  have HBL8 := Lib.hid hbel8
                  clear hcv8 hbel8
                  refine ⟨_, rfl, HS8.out, ?_⟩
                  try simp only [Act.put, List.setIfInBounds_toArray, List.set_cons_zero, List.set_cons_succ]
                  refine wpAnyH_1 (i := 24) (by kernel_rfl) ?_
                  refine wpOp_value (o := { dst := some 137, op := Op.convert 32 9 (Operand.tmp 136), type := 9, pos := "law.go:79", after := #[{ on := 23, ground := Ground.data }, { on := 14, ground := Ground.guard }], guard := some (14, false) }) (v := .string (s1.str at_)) (w' := w8) rfl (by rfl) (exec_value rfl (HCV8.out)) ⟨HS8.out, ?_⟩
                  try simp only [Act.put, List.setIfInBounds_toArray, List.set_cons_zero, List.set_cons_succ]
                  refine wpAnyH_take (i := 25) (oi := { dst := some 138, op := Op.binOp BinOp.neq 9 (Operand.tmp 132) (Operand.tmp 137) 9, type := 4, pos := "law.go:79", after := #[{ on := 19, ground := Ground.data }, { on := 24, ground := Ground.data }, { on := 14, ground := Ground.guard }], guard := some (14, false) }) (v := .bool false) rfl (by kernel_rfl) (by kernel_rfl) (by kernel_rfl) (fun _ _ _ h => h) (Or.inl ⟨by rfl, ?_⟩) HS8.out ?_
                  · intro W hSw; (obtain ⟨q0, q1⟩ := hSw); go_simp
                  try simp only [Act.put, List.setIfInBounds_toArray, List.set_cons_zero, List.set_cons_succ]
                  refine wpAnyH_take (i := 26) (oi := { dst := some 139, op := Op.pick (Operand.tmp 127) (Operand.const (Value.bool true)) (Operand.tmp 138), type := 4, pos := "law.go:79", after := #[{ on := 14, ground := Ground.data }, { on := 25, ground := Ground.data }], guard := none }) (v := .bool false) rfl (by kernel_rfl) (by kernel_rfl) (by kernel_rfl) (fun _ _ _ h => h) (Or.inl ⟨by rfl, ?_⟩) HS8.out ?_
                  · intro W hSw; (obtain ⟨q0, q1⟩ := hSw); go_simp
                  try simp only [Act.put, List.setIfInBounds_toArray, List.set_cons_zero, List.set_cons_succ]
                  refine wpAnyH_done (by kernel_rfl) ?_ _
                  refine NoPanic.normal ?_
                  go_wp2
                  go_roundg (len - (j + 1))
                  case measure => have := HJ.out; omega
                  case rel => exact ⟨j + 1, s1, so1, r1, by omega, by go_num, ((HSHZ.out.drew.below HBL7.out).below HBL8.out).less (fun i hi => .inl hi), HSZ.out, HOZ.out, ((HKZ.out.drew).trans (Keep.of_below HBL7.out)).trans (Keep.of_below HBL8.out)⟩
                · refine wpOp_call (o := { dst := some 136, op := Op.call { callee := Callee.value (Operand.func 23), args := #[Operand.tmp 133, Operand.tmp 135], argTypes := #[26, 3] }, type := 32, pos := "law.go:79", after := #[{ on := 20, ground := Ground.data }, { on := 22, ground := Ground.data }, { on := 18, ground := Ground.chain }, { on := 14, ground := Ground.guard }], guard := some (14, false) }) (f := 23) rfl (by rfl) (by go_simp) ((pReadR (HSHZ.out.drew.below HBL7.out) at_ (by rw [← HSZ.out.l]; have := HSZ.out.len; omega) (HSZ.out.str at_).symm).mono ?_)
                  rintro e w8 ⟨A8, n8, c8, rfl, hcv8, hbel8⟩
                  have HS8 := Lib.hid (tail_keep HS7.out hbel8)
                  have HCV8 := Lib.hid hcv8
                  have HBL8 := Lib.hid hbel8
                  clear hcv8 hbel8
                  refine ⟨_, rfl, HS8.out, ?_⟩
                  try simp only [Act.put, List.setIfInBounds_toArray, List.set_cons_zero, List.set_cons_succ]
                  refine wpAnyH_2 (i := 19) (j := 24) (by kernel_rfl) ?_ ?_
                  · refine wpOp_value (o := { dst := some 132, op := Op.convert 32 9 (Operand.tmp 131), type := 9, pos := "law.go:79", after := #[{ on := 18, ground := Ground.data }, { on := 14, ground := Ground.guard }], guard := some (14, false) }) (v := .string (s1.str at_)) (w' := w8) rfl (by rfl) (exec_value rfl (HCV.out w8 HBL8.out)) ⟨HS8.out, ?_⟩
                    try simp only [Act.put, List.setIfInBounds_toArray, List.set_cons_zero, List.set_cons_succ]
                    refine wpAnyH_1 (i := 24) (by kernel_rfl) ?_
                    refine wpOp_value (o := { dst := some 137, op := Op.convert 32 9 (Operand.tmp 136), type := 9, pos := "law.go:79", after := #[{ on := 23, ground := Ground.data }, { on := 14, ground := Ground.guard }], guard := some (14, false) }) (v := .string (s1.str at_)) (w' := w8) rfl (by rfl) (exec_value rfl (HCV8.out)) ⟨HS8.out, ?_⟩
                    try simp only [Act.put, List.setIfInBounds_toArray, List.set_cons_zero, List.set_cons_succ]
                    refine wpAnyH_take (i := 25) (oi := { dst := some 138, op := Op.binOp BinOp.neq 9 (Operand.tmp 132) (Operand.tmp 137) 9, type := 4, pos := "law.go:79", after := #[{ on := 19, ground := Ground.data }, { on := 24, ground := Ground.data }, { on := 14, ground := Ground.guard }], guard := some (14, false) }) (v := .bool false) rfl (by kernel_rfl) (by kernel_rfl) (by kernel_rfl) (fun _ _ _ h => h) (Or.inl ⟨by rfl, ?_⟩) HS8.out ?_
                    · intro W hSw; (obtain ⟨q0, q1⟩ := hSw); go_simp
                    try simp only [Act.put, List.setIfInBounds_toArray, List.set_cons_zero, List.set_cons_succ]
                    refine wpAnyH_take (i := 26) (oi := { dst := some 139, op := Op.pick (Operand.tmp 127) (Operand.const (Value.bool true)) (Operand.tmp 138), type := 4, pos := "law.go:79", after := #[{ on := 14, ground := Ground.data }, { on := 25, ground := Ground.data }], guard := none }) (v := .bool false) rfl (by kernel_rfl) (by kernel_rfl) (by kernel_rfl) (fun _ _ _ h => h) (Or.inl ⟨by rfl, ?_⟩) HS8.out ?_
                    · intro W hSw; (obtain ⟨q0, q1⟩ := hSw); go_simp
                    try simp only [Act.put, List.setIfInBounds_toArray, List.set_cons_zero, List.set_cons_succ]
                    refine wpAnyH_done (by kernel_rfl) ?_ _
                    refine NoPanic.normal ?_
                    go_wp2
                    go_roundg (len - (j + 1))
                    case measure => have := HJ.out; omega
                    case rel => exact ⟨j + 1, s1, so1, r1, by omega, by go_num, ((HSHZ.out.drew.below HBL7.out).below HBL8.out).less (fun i hi => .inl hi), HSZ.out, HOZ.out, ((HKZ.out.drew).trans (Keep.of_below HBL7.out)).trans (Keep.of_below HBL8.out)⟩
                  · refine wpOp_value (o := { dst := some 137, op := Op.convert 32 9 (Operand.tmp 136), type := 9, pos := "law.go:79", after := #[{ on := 23, ground := Ground.data }, { on := 14, ground := Ground.guard }], guard := some (14, false) }) (v := .string (s1.str at_)) (w' := w8) rfl (by rfl) (exec_value rfl (HCV8.out)) ⟨HS8.out, ?_⟩
                    try simp only [Act.put, List.setIfInBounds_toArray, List.set_cons_zero, List.set_cons_succ]
                    refine wpAnyH_1 (i := 19) (by kernel_rfl) ?_
                    refine wpOp_value (o := { dst := some 132, op := Op.convert 32 9 (Operand.tmp 131), type := 9, pos := "law.go:79", after := #[{ on := 18, ground := Ground.data }, { on := 14, ground := Ground.guard }], guard := some (14, false) }) (v := .string (s1.str at_)) (w' := w8) rfl (by rfl) (exec_value rfl (HCV.out w8 HBL8.out)) ⟨HS8.out, ?_⟩
                    try simp only [Act.put, List.setIfInBounds_toArray, List.set_cons_zero, List.set_cons_succ]
                    refine wpAnyH_take (i := 25) (oi := { dst := some 138, op := Op.binOp BinOp.neq 9 (Operand.tmp 132) (Operand.tmp 137) 9, type := 4, pos := "law.go:79", after := #[{ on := 19, ground := Ground.data }, { on := 24, ground := Ground.data }, { on := 14, ground := Ground.guard }], guard := some (14, false) }) (v := .bool false) rfl (by kernel_rfl) (by kernel_rfl) (by kernel_rfl) (fun _ _ _ h => h) (Or.inl ⟨by rfl, ?_⟩) HS8.out ?_
                    · intro W hSw; (obtain ⟨q0, q1⟩ := hSw); go_simp
                    try simp only [Act.put, List.setIfInBounds_toArray, List.set_cons_zero, List.set_cons_succ]
                    refine wpAnyH_take (i := 26) (oi := { dst := some 139, op := Op.pick (Operand.tmp 127) (Operand.const (Value.bool true)) (Operand.tmp 138), type := 4, pos := "law.go:79", after := #[{ on := 14, ground := Ground.data }, { on := 25, ground := Ground.data }], guard := none }) (v := .bool false) rfl (by kernel_rfl) (by kernel_rfl) (by kernel_rfl) (fun _ _ _ h => h) (Or.inl ⟨by rfl, ?_⟩) HS8.out ?_
                    · intro W hSw; (obtain ⟨q0, q1⟩ := hSw); go_simp
                    try simp only [Act.put, List.setIfInBounds_toArray, List.set_cons_zero, List.set_cons_succ]
                    refine wpAnyH_done (by kernel_rfl) ?_ _
                    refine NoPanic.normal ?_
                    go_wp2
                    go_roundg (len - (j + 1))
                    case measure => have := HJ.out; omega
                    case rel => exact ⟨j + 1, s1, so1, r1, by omega, by go_num, ((HSHZ.out.drew.below HBL7.out).below HBL8.out).less (fun i hi => .inl hi), HSZ.out, HOZ.out, ((HKZ.out.drew).trans (Keep.of_below HBL7.out)).trans (Keep.of_below HBL8.out)⟩
      · obtain rfl : j = len := by have := HJ.out; omega
        clear hlt
        have hsn : s.n ≤ 4096 := by
          obtain ⟨_, _, _, hm⟩ := HSH1.out
          obtain ⟨_, _, hd⟩ := hm.d
          exact hd.ok.many
        go_wp2_with fail
        go_loopg [13] s.n (fun k i wq => EndRel w1 w1.heap.size (w1.heap.size + 1) (w2.heap.size + 1) w3.heap.size s so r k i wq)
        case atStart => exact ⟨0, by omega, rfl, HSH1.out, HKW.out⟩
        case round =>
          obtain ⟨q, hq, rfl, hshq, hkq⟩ := hrel
          have HQ := Lib.hid hq
          have HSHQ := Lib.hid hshq
          have HKQ := Lib.hid hkq
          clear hq hshq hkq HSH1 HKW
          go_wp2_with fail
          refine (pLenR HSHQ.out HSAME.out.n.symm).mono ?_
          rintro e w6 ⟨rfl, rfl⟩
          by_cases hqn : q < s.n
          · go_wp2_with fail
            refine wp_region_noPanic ?_
            refine wp_region_held_drew (S := fun _ => True) (by kernel_rfl) trivial (fun _ => ?_)
            refine wpAnyH_take (i := 0) (oi := { dst := some 146, op := Op.move (Operand.tmp 6), type := 24, pos := "law.go:84", after := #[], guard := none }) (v := ptr (w1.heap.size + 1)) rfl (by kernel_rfl) (by kernel_rfl) (by kernel_rfl) (fun _ _ _ h => h) (Or.inl ⟨by rfl, ?_⟩) trivial ?_
            · intro W hSw; (skip); go_simp
            try simp only [Act.put, List.setIfInBounds_toArray, List.set_cons_zero, List.set_cons_succ]
            refine wpAnyH_take (i := 1) (oi := { dst := some 147, op := Op.move (Operand.tmp 13), type := 3, pos := "law.go:84", after := #[], guard := none }) (v := .int .i64 (q : Int)) rfl (by kernel_rfl) (by kernel_rfl) (by kernel_rfl) (fun _ _ _ h => h) (Or.inl ⟨by rfl, ?_⟩) trivial ?_
            · intro W hSw; (skip); go_simp
            try simp only [Act.put, List.setIfInBounds_toArray, List.set_cons_zero, List.set_cons_succ]
            refine wpAnyH_take (i := 4) (oi := { dst := some 150, op := Op.move (Operand.tmp 8), type := 26, pos := "law.go:84", after := #[], guard := none }) (v := ptr w3.heap.size) rfl (by kernel_rfl) (by kernel_rfl) (by kernel_rfl) (fun _ _ _ h => h) (Or.inl ⟨by rfl, ?_⟩) trivial ?_
            · intro W hSw; (skip); go_simp
            try simp only [Act.put, List.setIfInBounds_toArray, List.set_cons_zero, List.set_cons_succ]
            refine wpAnyH_take (i := 5) (oi := { dst := some 151, op := Op.move (Operand.tmp 13), type := 3, pos := "law.go:84", after := #[], guard := none }) (v := .int .i64 (q : Int)) rfl (by kernel_rfl) (by kernel_rfl) (by kernel_rfl) (fun _ _ _ h => h) (Or.inl ⟨by rfl, ?_⟩) trivial ?_
            · intro W hSw; (skip); go_simp
            try simp only [Act.put, List.setIfInBounds_toArray, List.set_cons_zero, List.set_cons_succ]
            refine wpAnyH_1 (i := 2) (by kernel_rfl) (wpOp_call (o := { dst := some 148, op := Op.call { callee := Callee.value (Operand.func 22), args := #[Operand.tmp 146, Operand.tmp 147], argTypes := #[24, 3] }, type := 32, pos := "law.go:84", after := #[{ on := 0, ground := Ground.data }, { on := 1, ground := Ground.data }], guard := none }) (f := 22) rfl (by rfl) (by go_simp) ((pReadD HSHQ.out.drew (q : Int)).mono ?_))
            rintro e w7 ⟨A7, n7, c7, rfl, hcv7, hbel7⟩
            have HCV := Lib.hid hcv7
            have HBL7 := Lib.hid hbel7
            clear hcv7 hbel7
            refine ⟨_, rfl, trivial, ?_⟩
            try simp only [Act.put, List.setIfInBounds_toArray, List.set_cons_zero, List.set_cons_succ]
            refine wpAnyH_2 (i := 3) (j := 6) (by kernel_rfl) ?_ ?_
            · refine wpOp_value (o := { dst := some 149, op := Op.convert 32 9 (Operand.tmp 148), type := 9, pos := "law.go:84", after := #[{ on := 2, ground := Ground.data }], guard := none }) (v := .string (s.str (q : Int))) (w' := w7) rfl (by rfl) (exec_value rfl (HCV.out w7 (Below.refl _ _))) ⟨trivial, ?_⟩
              try simp only [Act.put, List.setIfInBounds_toArray, List.set_cons_zero, List.set_cons_succ]
              refine wpAnyH_1 (i := 6) (by kernel_rfl) ?_
              refine wpOp_call (o := { dst := some 152, op := Op.call { callee := Callee.value (Operand.func 23), args := #[Operand.tmp 150, Operand.tmp 151], argTypes := #[26, 3] }, type := 32, pos := "law.go:84", after := #[{ on := 4, ground := Ground.data }, { on := 5, ground := Ground.data }, { on := 2, ground := Ground.chain }], guard := none }) (f := 23) rfl (by rfl) (by go_simp) ((pReadR (HSHQ.out.drew.below HBL7.out) (q : Int) (by rw [← HSAME.out.l]; have := HSAME.out.len; omega) (HSAME.out.str (q : Int)).symm).mono ?_)
              rintro e w8 ⟨A8, n8, c8, rfl, hcv8, hbel8⟩
              have HCV8 := Lib.hid hcv8
              have HBL8 := Lib.hid hbel8
              clear hcv8 hbel8
              refine ⟨_, rfl, trivial, ?_⟩
              try simp only [Act.put, List.setIfInBounds_toArray, List.set_cons_zero, List.set_cons_succ]
              refine wpAnyH_1 (i := 7) (by kernel_rfl) ?_
              refine wpOp_value (o := { dst := some 153, op := Op.convert 32 9 (Operand.tmp 152), type := 9, pos := "law.go:84", after := #[{ on := 6, ground := Ground.data }], guard := none }) (v := .string (s.str (q : Int))) (w' := w8) rfl (by rfl) (exec_value rfl (HCV8.out)) ⟨trivial, ?_⟩
              try simp only [Act.put, List.setIfInBounds_toArray, List.set_cons_zero, List.set_cons_succ]
              refine wpAnyH_take (i := 8) (oi := { dst := some 154, op := Op.binOp BinOp.neq 9 (Operand.tmp 149) (Operand.tmp 153) 9, type := 4, pos := "law.go:84", after := #[{ on := 3, ground := Ground.data }, { on := 7, ground := Ground.data }], guard := none }) (v := .bool false) rfl (by kernel_rfl) (by kernel_rfl) (by kernel_rfl) (fun _ _ _ h => h) (Or.inl ⟨by rfl, ?_⟩) trivial ?_
              · intro W hSw; (skip); go_simp
              try simp only [Act.put, List.setIfInBounds_toArray, List.set_cons_zero, List.set_cons_succ]
              refine wpAnyH_done (by kernel_rfl) ?_ _
              refine NoPanic.normal ?_
              go_wp2
              go_roundg (s.n - (q + 1))
              case measure => have := HQ.out; omega
              case rel => exact ⟨q + 1, by omega, by go_num, (HSHQ.out.drew.below HBL7.out).below HBL8.out, ((HKQ.out.drew).trans (Keep.of_below HBL7.out)).trans (Keep.of_below HBL8.out)⟩
            · refine wpOp_call (o := { dst := some 152, op := Op.call { callee := Callee.value (Operand.func 23), args := #[Operand.tmp 150, Operand.tmp 151], argTypes := #[26, 3] }, type := 32, pos := "law.go:84", after := #[{ on := 4, ground := Ground.data }, { on := 5, ground := Ground.data }, { on := 2, ground := Ground.chain }], guard := none }) (f := 23) rfl (by rfl) (by go_simp) ((pReadR (HSHQ.out.drew.below HBL7.out) (q : Int) (by rw [← HSAME.out.l]; have := HSAME.out.len; omega) (HSAME.out.str (q : Int)).symm).mono ?_)
              rintro e w8 ⟨A8, n8, c8, rfl, hcv8, hbel8⟩
              have HCV8 := Lib.hid hcv8
              have HBL8 := Lib.hid hbel8
              clear hcv8 hbel8
              refine ⟨_, rfl, trivial, ?_⟩
              try simp only [Act.put, List.setIfInBounds_toArray, List.set_cons_zero, List.set_cons_succ]
              refine wpAnyH_2 (i := 3) (j := 7) (by kernel_rfl) ?_ ?_
              · refine wpOp_value (o := { dst := some 149, op := Op.convert 32 9 (Operand.tmp 148), type := 9, pos := "law.go:84", after := #[{ on := 2, ground := Ground.data }], guard := none }) (v := .string (s.str (q : Int))) (w' := w8) rfl (by rfl) (exec_value rfl (HCV.out w8 HBL8.out)) ⟨trivial, ?_⟩
                try simp only [Act.put, List.setIfInBounds_toArray, List.set_cons_zero, List.set_cons_succ]
                refine wpAnyH_1 (i := 7) (by kernel_rfl) ?_
                refine wpOp_value (o := { dst := some 153, op := Op.convert 32 9 (Operand.tmp 152), type := 9, pos := "law.go:84", after := #[{ on := 6, ground := Ground.data }], guard := none }) (v := .string (s.str (q : Int))) (w' := w8) rfl (by rfl) (exec_value rfl (HCV8.out)) ⟨trivial, ?_⟩
                try simp only [Act.put, List.setIfInBounds_toArray, List.set_cons_zero, List.set_cons_succ]
                refine wpAnyH_take (i := 8) (oi := { dst := some 154, op := Op.binOp BinOp.neq 9 (Operand.tmp 149) (Operand.tmp 153) 9, type := 4, pos := "law.go:84", after := #[{ on := 3, ground := Ground.data }, { on := 7, ground := Ground.data }], guard := none }) (v := .bool false) rfl (by kernel_rfl) (by kernel_rfl) (by kernel_rfl) (fun _ _ _ h => h) (Or.inl ⟨by rfl, ?_⟩) trivial ?_
                · intro W hSw; (skip); go_simp
                try simp only [Act.put, List.setIfInBounds_toArray, List.set_cons_zero, List.set_cons_succ]
                refine wpAnyH_done (by kernel_rfl) ?_ _
                refine NoPanic.normal ?_
                go_wp2
                go_roundg (s.n - (q + 1))
                case measure => have := HQ.out; omega
                case rel => exact ⟨q + 1, by omega, by go_num, (HSHQ.out.drew.below HBL7.out).below HBL8.out, ((HKQ.out.drew).trans (Keep.of_below HBL7.out)).trans (Keep.of_below HBL8.out)⟩
              · refine wpOp_value (o := { dst := some 153, op := Op.convert 32 9 (Operand.tmp 152), type := 9, pos := "law.go:84", after := #[{ on := 6, ground := Ground.data }], guard := none }) (v := .string (s.str (q : Int))) (w' := w8) rfl (by rfl) (exec_value rfl (HCV8.out)) ⟨trivial, ?_⟩
                try simp only [Act.put, List.setIfInBounds_toArray, List.set_cons_zero, List.set_cons_succ]
                refine wpAnyH_1 (i := 3) (by kernel_rfl) ?_
                refine wpOp_value (o := { dst := some 149, op := Op.convert 32 9 (Operand.tmp 148), type := 9, pos := "law.go:84", after := #[{ on := 2, ground := Ground.data }], guard := none }) (v := .string (s.str (q : Int))) (w' := w8) rfl (by rfl) (exec_value rfl (HCV.out w8 HBL8.out)) ⟨trivial, ?_⟩
                try simp only [Act.put, List.setIfInBounds_toArray, List.set_cons_zero, List.set_cons_succ]
                refine wpAnyH_take (i := 8) (oi := { dst := some 154, op := Op.binOp BinOp.neq 9 (Operand.tmp 149) (Operand.tmp 153) 9, type := 4, pos := "law.go:84", after := #[{ on := 3, ground := Ground.data }, { on := 7, ground := Ground.data }], guard := none }) (v := .bool false) rfl (by kernel_rfl) (by kernel_rfl) (by kernel_rfl) (fun _ _ _ h => h) (Or.inl ⟨by rfl, ?_⟩) trivial ?_
                · intro W hSw; (skip); go_simp
                try simp only [Act.put, List.setIfInBounds_toArray, List.set_cons_zero, List.set_cons_succ]
                refine wpAnyH_done (by kernel_rfl) ?_ _
                refine NoPanic.normal ?_
                go_wp2
                go_roundg (s.n - (q + 1))
                case measure => have := HQ.out; omega
                case rel => exact ⟨q + 1, by omega, by go_num, (HSHQ.out.drew.below HBL7.out).below HBL8.out, ((HKQ.out.drew).trans (Keep.of_below HBL7.out)).trans (Keep.of_below HBL8.out)⟩
          · have HBw := Lib.hid (HB1.out.trans ((below_of_keep HKQ.out (Nat.le_refl _)).mono HB1.out.size))
            go_wp2
            go_ret
            exact ⟨rfl, HBw.out⟩
  · have hor : 200 < n ∨ (¬ 200 < n ∧ 100 < len) := by omega
    clear hin hac hok
    rcases hor with h1 | ⟨h1, h2⟩
    all_goals
      go_enter Try.func3, Try.ntmps3
      go_wp2_with (go_at_call 7; refine (alive _).mono ?_; rintro e w' ⟨rfl, hb⟩)
      go_ret
      exact ⟨rfl, hb⟩
end Go.Proofs.Ytkgafnfbnpbacaa
