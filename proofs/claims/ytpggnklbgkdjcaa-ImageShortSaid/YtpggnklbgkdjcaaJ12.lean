/- The document's RisesMsgs. -/
import Derived.Test.YtpggnklbgkdjcaaJ05
import Derived.Test.YtpggnklbgkdjcaaJ10
import Derived.Deep.RegionHeld3
import Derived.Deep.DeepCutAuto
import Derived.Deep.RegionWith
import Derived.Test.YtpggnklbgkdjcaaJ11
import Derived.BigQuiet
set_option maxRecDepth 4000
namespace Go.Proofs.Ytpggnklbgkdjcaa
open Go.RowKit
/-- a fact that the walk must not look through -/
structure ShutU (p : Prop) : Prop where out : p
/-- the j-th message is behind the one ahead of it, and its number stands nowhere ahead -/
def upD (l : List Mg) (j : Nat) : Bool := match l[j]? with
  | some m => !((decide (0 < j) && match l[j - 1]? with
    | some p => decide (0 ≤ cmpG p m)
    | none => false) || decide (idxI (isM m.id) l < (j : Int)))
  | none => true
def risesD (l : List Mg) : Bool := (List.range l.length).all (upD l)
theorem upD_all {l : List Mg} {j : Nat} (h : ∀ i, i < j → upD l i = true) (hj : l.length ≤ j) : risesD l = true := by
  unfold risesD
  rw [List.all_eq_true]
  exact fun i hi => h i (by have := List.mem_range.1 hi; omega)
theorem upD_not {l : List Mg} {j : Nat} (h : upD l j = false) (hj : j < l.length) : risesD l = false := by
  unfold risesD
  rw [List.all_eq_false]
  exact ⟨j, List.mem_range.2 hj, by simp [h]⟩
/-- each number stands once -/
theorem rises_one {l : List Mg} (h : risesD l = true) {i j : Nat} (hi : i < l.length) (hij : j < i) : l[j].id ≠ l[i].id := fun e => by
  have hu := List.all_eq_true.1 h i (List.mem_range.2 hi)
  unfold upD at hu
  rw [List.getElem?_eq_getElem hi] at hu
  simp only [Bool.not_eq_true', Bool.or_eq_false_iff, decide_eq_false_iff_not] at hu
  apply hu.2
  have hj : j < l.length := by omega
  have hp : isM l[i].id l[j] = true := by unfold isM; rw [e]; exact beq_self_eq_true _
  have hle : l.findIdx (isM l[i].id) ≤ j := by
    rcases Nat.lt_or_ge j (l.findIdx (isM l[i].id)) with h1 | h1
    · have := List.not_of_lt_findIdx h1
      rw [hp] at this
      simp at this
    · exact h1
  unfold idxI
  rw [if_pos (by omega)]
  omega
def RiseD (w : World) (l : List Mg) (k : Nat) (i : Value) (wr : World) : Prop :=
  ∃ j, j + k = l.length ∧ i = .int .i64 (j : Int) ∧ (∀ q, q < j → upD l q = true) ∧ Below w.heap.size w wr
theorem rmsgs_b (a b : Mg) (w : World) : Calls Try.prog 44 #[a.val, b.val] w fun e w' => e = .returned (.int .i64 (cmpG a b)) ∧ Below w.heap.size w w' := by
  refine (rmsgs_ a b w).mono ?_
  rintro e w' ⟨rfl, rfl⟩
  have k := alloc_below w (.cells a.cells 55)
  exact ⟨rfl, k.alloc k.size _⟩
set_option maxHeartbeats 2000000 in
theorem rrises_m {w : World} {K : Nat → Prop} {A : Option Addr} {n c : Nat} {l : List Mg} (h : Lst w K eM A l) (hl : l.length = n) (hn : n ≤ 10000) :
    Calls Try.prog 26 #[.slice A n c] w fun e w' => e = .returned (.bool (risesD l)) ∧ Below w.heap.size w w' := by
  have H := Lib.hid h
  have HL := Lib.hid hl
  clear h hl
  go_enter Try.func26, Try.ntmps26
  go_wp2_with fail
  go_loopg [3] n (fun k i wr => RiseD w l k i wr)
  case atStart => exact ⟨0, by rw [HL.out]; omega, rfl, fun q hq => absurd hq (Nat.not_lt_zero q), Below.refl _ _⟩
  case round =>
    obtain ⟨j, hj, rfl, hu, hb⟩ := hrel
    have HJ := Lib.hid hj
    have HU := Lib.hid hu
    have HB := Lib.hid hb
    clear hj hu hb
    by_cases hlt : j < n
    · have hx : j < l.length := by rw [HL.out]; exact hlt
      have hlj : decide ((j : Int) < (n : Int)) = true := decide_eq_true (by omega)
      have hljn : decide (j < n) = true := decide_eq_true hlt
      obtain ⟨b, o, rfl, hb, c0, c1, c2, c3, c4, c5⟩ := (H.out.below HB.out).atM hx
      have hfd := fun W (hb : Below wr.heap.size wr W) => rfind_m (c := c) ((H.out.below HB.out).below hb) HL.out (by omega) l[j].id
      have hup : upD l j = !((decide (0 < j) && match l[j - 1]? with
          | some p => decide (0 ≤ cmpG p l[j])
          | none => false) || decide (idxI (isM l[j].id) l < (j : Int))) := by
        unfold upD; rw [List.getElem?_eq_getElem hx]
      obtain ⟨x, hxx⟩ : ∃ x, l[j] = x := ⟨_, rfl⟩
      rw [hxx] at c0 c1 c2 c3 c4 c5 hup
      simp only [hxx] at hfd
      obtain ⟨x0, x1, x2, x3, x4, x5⟩ := x
      simp only at c0 c1 c2 c3 c4 c5 hup hfd
      generalize idxI (isM x0) l = z2 at *
      have HUP := Lib.hid hup
      have HFD := ShutU.mk hfd
      clear hup hfd hxx hb
      go_upto_region 4 with fail
      go_cut [35] (fun v wx => v = .bool (!upD l j) ∧ Below wr.heap.size wr wx)
      case first =>
        rcases Nat.eq_zero_or_pos j with hj0 | hj0
        · have hg : decide ((0 : Int) < (j : Int)) = false := decide_eq_false (by omega)
          have hgn : decide (0 < j) = false := decide_eq_false (by omega)
          have hup2 : upD l j = !decide (z2 < (j : Int)) := by rw [HUP.out, hgn]; simp
          have HUP2 := ShutU.mk hup2
          have HB4 := Lib.hid (Below.refl wr.heap.size wr).drew
          clear HUP hup2 c1 c2 c3 c4 c5 hj0
          go_quiet ((go_at_call 45; exact Calls.quiet_of_same ((HFD.out _ (below_drewN (Below.refl _ _) _)).mono fun _ _ h => ⟨h.1, h.2.symm⟩)))
          go_wp2_with fail
          go_meet
          exact ⟨by rw [HUP2.out, Bool.not_not], below_drewN (Below.refl _ _) _⟩
        · obtain ⟨i, hi⟩ : ∃ i, j = i + 1 := ⟨j - 1, by omega⟩
          have hil : i < l.length := by omega
          have hin : i < n := by omega
          have hin2 : (i : Int) < (n : Int) := by omega
          have hin3 : (i : Int) ≤ (n : Int) := by omega
          have hin0 : (0 : Int) ≤ (i : Int) := by omega
          have hwj : IntKind.i64.wrap ((j : Int) - 1) = (i : Int) := by rw [IntKind.wrap_i64]; omega
          have hg : decide ((0 : Int) < (j : Int)) = true := decide_eq_true (by omega)
          have hgn : decide (0 < j) = true := decide_eq_true hj0
          obtain ⟨hyb, y0', y1', y2', y3', y4', y5'⟩ := (H.out.below HB.out).atMs hil
          have hup3 : upD l j = !(decide (0 ≤ cmpG l[i] ⟨x0, x1, x2, x3, x4, x5⟩) || decide (z2 < (j : Int))) := by
            rw [HUP.out, hgn, show j - 1 = i by omega, List.getElem?_eq_getElem hil, Bool.true_and]
          obtain ⟨y, hy⟩ : ∃ y, l[i] = y := ⟨_, rfl⟩
          rw [hy] at y0' y1' y2' y3' y4' y5' hup3
          obtain ⟨y0, y1, y2, y3, y4, y5⟩ := y
          simp only at y0' y1' y2' y3' y4' y5'
          have hcall := fun W => rmsgs_b ⟨y0, y1, y2, y3, y4, y5⟩ ⟨x0, x1, x2, x3, x4, x5⟩ W
          generalize cmpG ⟨y0, y1, y2, y3, y4, y5⟩ ⟨x0, x1, x2, x3, x4, x5⟩ = z at *
          simp only [Mg.val, Mg.cells] at hcall
          have HC := ShutU.mk hcall
          have hsb : ∀ W, Below wr.heap.size wr W → (fun W : World => W.cell? ⟨b, o + j * 6, none⟩ = some (.int .i64 x0) ∧ W.cell? ⟨b, o + j * 6 + 1, none⟩ = some (.int .i64 x1) ∧ W.cell? ⟨b, o + j * 6 + 2, none⟩ = some (.int .i64 x2) ∧ W.cell? ⟨b, o + j * 6 + 3, none⟩ = some (.bool x3) ∧ W.cell? ⟨b, o + j * 6 + 4, none⟩ = some (.string x4) ∧ W.cell? ⟨b, o + j * 6 + 5, none⟩ = some (.string x5) ∧ W.cell? ⟨b, o + i * 6, none⟩ = some (.int .i64 y0) ∧ W.cell? ⟨b, o + i * 6 + 1, none⟩ = some (.int .i64 y1) ∧ W.cell? ⟨b, o + i * 6 + 2, none⟩ = some (.int .i64 y2) ∧ W.cell? ⟨b, o + i * 6 + 3, none⟩ = some (.bool y3) ∧ W.cell? ⟨b, o + i * 6 + 4, none⟩ = some (.string y4) ∧ W.cell? ⟨b, o + i * 6 + 5, none⟩ = some (.string y5)) W := fun W hb => ⟨(cell_of_heap (hb.block _ hyb) _).trans c0, (cell_of_heap (hb.block _ hyb) _).trans c1, (cell_of_heap (hb.block _ hyb) _).trans c2, (cell_of_heap (hb.block _ hyb) _).trans c3, (cell_of_heap (hb.block _ hyb) _).trans c4, (cell_of_heap (hb.block _ hyb) _).trans c5, (cell_of_heap (hb.block _ hyb) _).trans y0', (cell_of_heap (hb.block _ hyb) _).trans y1', (cell_of_heap (hb.block _ hyb) _).trans y2', (cell_of_heap (hb.block _ hyb) _).trans y3', (cell_of_heap (hb.block _ hyb) _).trans y4', (cell_of_heap (hb.block _ hyb) _).trans y5'⟩
          have HSB := ShutU.mk hsb
          have HB4 := Lib.hid (Below.refl wr.heap.size wr).drew
          have hS4 : ShutU ((fun W : World => W.cell? ⟨b, o + j * 6, none⟩ = some (.int .i64 x0) ∧ W.cell? ⟨b, o + j * 6 + 1, none⟩ = some (.int .i64 x1) ∧ W.cell? ⟨b, o + j * 6 + 2, none⟩ = some (.int .i64 x2) ∧ W.cell? ⟨b, o + j * 6 + 3, none⟩ = some (.bool x3) ∧ W.cell? ⟨b, o + j * 6 + 4, none⟩ = some (.string x4) ∧ W.cell? ⟨b, o + j * 6 + 5, none⟩ = some (.string x5) ∧ W.cell? ⟨b, o + i * 6, none⟩ = some (.int .i64 y0) ∧ W.cell? ⟨b, o + i * 6 + 1, none⟩ = some (.int .i64 y1) ∧ W.cell? ⟨b, o + i * 6 + 2, none⟩ = some (.int .i64 y2) ∧ W.cell? ⟨b, o + i * 6 + 3, none⟩ = some (.bool y3) ∧ W.cell? ⟨b, o + i * 6 + 4, none⟩ = some (.string y4) ∧ W.cell? ⟨b, o + i * 6 + 5, none⟩ = some (.string y5)) wr.drew) := ⟨hsb _ HB4.out⟩
          have HUP3 := ShutU.mk hup3
          clear HUP hcall hsb hup3 hy hi hyb hj0 hil
          by_cases hz : 0 ≤ z
          · have gz : decide (0 ≤ z) = true := decide_eq_true hz
            have hup4 : upD l j = false := by rw [HUP3.out, gz]; rfl
            have HUP4 := ShutU.mk hup4
            clear hup4 HUP3
            refine wp_region_noPanic ?_
            refine wp_region_held_drew (S := fun W => Below wr.heap.size wr W) (by kernel_rfl) HB4.out (fun _ => ?_)
            refine wpAnyH_take (i := 0) (oi := { dst := some 10, op := Op.move (Operand.tmp 3), type := 3, pos := "states.go:128", after := #[], guard := none }) (v := .int .i64 (j : Int)) rfl (by kernel_rfl) (by kernel_rfl) (by kernel_rfl) (fun _ _ _ h => h) (Or.inl ⟨by rfl, ?_⟩) HB4.out ?_
            · intro W hSw; clear hSw; go_simp
            try simp only [Act.put, List.setIfInBounds_toArray, List.set_cons_zero, List.set_cons_succ]
            refine wpAnyH_take (i := 1) (oi := { dst := some 11, op := Op.binOp BinOp.gtr 3 (Operand.tmp 10) (Operand.const (Value.int IntKind.i64 0)) 3, type := 4, pos := "states.go:128", after := #[{ on := 0, ground := Ground.data }], guard := none }) (v := .bool true) rfl (by kernel_rfl) (by kernel_rfl) (by kernel_rfl) (fun _ _ _ h => h) (Or.inl ⟨by rfl, ?_⟩) HB4.out ?_
            · intro W hSw; clear hSw; go_simp
            try simp only [Act.put, List.setIfInBounds_toArray, List.set_cons_zero, List.set_cons_succ]
            refine wpAnyH_take (i := 2) (oi := { dst := some 12, op := Op.move (Operand.tmp 11), type := 4, pos := "states.go:128", after := #[{ on := 1, ground := Ground.data }], guard := none }) (v := .bool true) rfl (by kernel_rfl) (by kernel_rfl) (by kernel_rfl) (fun _ _ _ h => h) (Or.inl ⟨by rfl, ?_⟩) HB4.out ?_
            · intro W hSw; clear hSw; go_simp
            try simp only [Act.put, List.setIfInBounds_toArray, List.set_cons_zero, List.set_cons_succ]
            refine wpAnyH_take (i := 3) (oi := { dst := some 13, op := Op.move (Operand.tmp 0), type := 37, pos := "states.go:128", after := #[{ on := 2, ground := Ground.guard }], guard := some (2, true) }) (v := .slice (some ⟨b, o, none⟩) n c) rfl (by kernel_rfl) (by kernel_rfl) (by kernel_rfl) (fun _ _ _ h => h) (Or.inl ⟨by rfl, ?_⟩) HB4.out ?_
            · intro W hSw; clear hSw; go_simp
            try simp only [Act.put, List.setIfInBounds_toArray, List.set_cons_zero, List.set_cons_succ]
            refine wpAnyH_take (i := 4) (oi := { dst := some 14, op := Op.move (Operand.tmp 3), type := 3, pos := "states.go:128", after := #[{ on := 2, ground := Ground.guard }], guard := some (2, true) }) (v := .int .i64 (j : Int)) rfl (by kernel_rfl) (by kernel_rfl) (by kernel_rfl) (fun _ _ _ h => h) (Or.inl ⟨by rfl, ?_⟩) HB4.out ?_
            · intro W hSw; clear hSw; go_simp
            try simp only [Act.put, List.setIfInBounds_toArray, List.set_cons_zero, List.set_cons_succ]
            refine wpAnyH_take (i := 5) (oi := { dst := some 15, op := Op.binOp BinOp.sub 3 (Operand.tmp 14) (Operand.const (Value.int IntKind.i64 1)) 3, type := 3, pos := "states.go:128", after := #[{ on := 4, ground := Ground.data }, { on := 2, ground := Ground.guard }], guard := some (2, true) }) (v := .int .i64 (i : Int)) rfl (by kernel_rfl) (by kernel_rfl) (by kernel_rfl) (fun _ _ _ h => h) (Or.inl ⟨by rfl, ?_⟩) HB4.out ?_
            · intro W hSw; clear hSw; go_simp; first | done | exact hwj
            try simp only [Act.put, List.setIfInBounds_toArray, List.set_cons_zero, List.set_cons_succ]
            refine wpAnyH_take (i := 6) (oi := { dst := some 16, op := Op.indexAddr 37 (Operand.tmp 13) (Operand.tmp 15), type := 0, pos := "states.go:128", after := #[{ on := 3, ground := Ground.data }, { on := 5, ground := Ground.data }, { on := 2, ground := Ground.guard }], guard := some (2, true) }) (v := .pointer (some ⟨b, o + i * 6, none⟩)) rfl (by kernel_rfl) (by kernel_rfl) (by kernel_rfl) (fun _ _ _ h => h) (Or.inl ⟨by rfl, ?_⟩) HB4.out ?_
            · intro W hSw; clear hSw; go_simp
            try simp only [Act.put, List.setIfInBounds_toArray, List.set_cons_zero, List.set_cons_succ]
            refine wpAnyH_take (i := 7) (oi := { dst := some 17, op := Op.load 55 (Operand.tmp 16), type := 55, pos := "states.go:128", after := #[{ on := 6, ground := Ground.data }, { on := 2, ground := Ground.guard }], guard := some (2, true) }) (v := .agg #[.int .i64 y0, .int .i64 y1, .int .i64 y2, .bool y3, .string y4, .string y5]) rfl (by kernel_rfl) (by kernel_rfl) (by kernel_rfl) (fun _ _ _ h => h) (Or.inl ⟨by rfl, ?_⟩) HB4.out ?_
            · intro W hSw; obtain ⟨q0, q1, q2, q3, q4, q5, p0, p1, p2, p3, p4, p5⟩ := HSB.out W hSw; clear hSw; go_simp
            try simp only [Act.put, List.setIfInBounds_toArray, List.set_cons_zero, List.set_cons_succ]
            refine wpAnyH_take (i := 8) (oi := { dst := some 18, op := Op.move (Operand.tmp 0), type := 37, pos := "states.go:128", after := #[{ on := 2, ground := Ground.guard }], guard := some (2, true) }) (v := .slice (some ⟨b, o, none⟩) n c) rfl (by kernel_rfl) (by kernel_rfl) (by kernel_rfl) (fun _ _ _ h => h) (Or.inl ⟨by rfl, ?_⟩) HB4.out ?_
            · intro W hSw; clear hSw; go_simp
            try simp only [Act.put, List.setIfInBounds_toArray, List.set_cons_zero, List.set_cons_succ]
            refine wpAnyH_take (i := 9) (oi := { dst := some 19, op := Op.move (Operand.tmp 3), type := 3, pos := "states.go:128", after := #[{ on := 2, ground := Ground.guard }], guard := some (2, true) }) (v := .int .i64 (j : Int)) rfl (by kernel_rfl) (by kernel_rfl) (by kernel_rfl) (fun _ _ _ h => h) (Or.inl ⟨by rfl, ?_⟩) HB4.out ?_
            · intro W hSw; clear hSw; go_simp
            try simp only [Act.put, List.setIfInBounds_toArray, List.set_cons_zero, List.set_cons_succ]
            refine wpAnyH_take (i := 10) (oi := { dst := some 20, op := Op.indexAddr 37 (Operand.tmp 18) (Operand.tmp 19), type := 0, pos := "states.go:128", after := #[{ on := 8, ground := Ground.data }, { on := 9, ground := Ground.data }, { on := 2, ground := Ground.guard }], guard := some (2, true) }) (v := .pointer (some ⟨b, o + j * 6, none⟩)) rfl (by kernel_rfl) (by kernel_rfl) (by kernel_rfl) (fun _ _ _ h => h) (Or.inl ⟨by rfl, ?_⟩) HB4.out ?_
            · intro W hSw; clear hSw; go_simp
            try simp only [Act.put, List.setIfInBounds_toArray, List.set_cons_zero, List.set_cons_succ]
            refine wpAnyH_take (i := 11) (oi := { dst := some 21, op := Op.load 55 (Operand.tmp 20), type := 55, pos := "states.go:128", after := #[{ on := 10, ground := Ground.data }, { on := 2, ground := Ground.guard }], guard := some (2, true) }) (v := .agg #[.int .i64 x0, .int .i64 x1, .int .i64 x2, .bool x3, .string x4, .string x5]) rfl (by kernel_rfl) (by kernel_rfl) (by kernel_rfl) (fun _ _ _ h => h) (Or.inl ⟨by rfl, ?_⟩) HB4.out ?_
            · intro W hSw; obtain ⟨q0, q1, q2, q3, q4, q5, p0, p1, p2, p3, p4, p5⟩ := HSB.out W hSw; clear hSw; go_simp
            try simp only [Act.put, List.setIfInBounds_toArray, List.set_cons_zero, List.set_cons_succ]
            refine wpAnyH_1 (i := 12) (by kernel_rfl) (wpOp_call (o := { dst := some 22, op := Op.call { callee := Callee.value (Operand.func 44), args := #[Operand.tmp 17, Operand.tmp 21], argTypes := #[55, 55] }, type := 3, pos := "states.go:128", after := #[{ on := 7, ground := Ground.data }, { on := 11, ground := Ground.data }, { on := 2, ground := Ground.chain }, { on := 2, ground := Ground.guard }], guard := some (2, true) }) (f := 44) rfl (by rfl) (by go_simp) ((HC.out _).mono ?_))
            rintro e w1 ⟨rfl, hb⟩
            have HB5 := Lib.hid (HB4.out.trans (hb.mono HB4.out.size))
            clear hb
            refine ⟨_, rfl, HB5.out, ?_⟩
            try simp only [Act.put, List.setIfInBounds_toArray, List.set_cons_zero, List.set_cons_succ]
            refine wpAnyH_take (i := 13) (oi := { dst := some 23, op := Op.binOp BinOp.geq 3 (Operand.tmp 22) (Operand.const (Value.int IntKind.i64 0)) 3, type := 4, pos := "states.go:128", after := #[{ on := 12, ground := Ground.data }, { on := 2, ground := Ground.guard }], guard := some (2, true) }) (v := .bool true) rfl (by kernel_rfl) (by kernel_rfl) (by kernel_rfl) (fun _ _ _ h => h) (Or.inl ⟨by rfl, ?_⟩) HB5.out ?_
            · intro W hSw; clear hSw; go_simp
            try simp only [Act.put, List.setIfInBounds_toArray, List.set_cons_zero, List.set_cons_succ]
            refine wpAnyH_take (i := 14) (oi := { dst := some 24, op := Op.pick (Operand.tmp 12) (Operand.tmp 23) (Operand.const (Value.bool false)), type := 4, pos := "states.go:128", after := #[{ on := 2, ground := Ground.data }, { on := 13, ground := Ground.data }], guard := none }) (v := .bool true) rfl (by kernel_rfl) (by kernel_rfl) (by kernel_rfl) (fun _ _ _ h => h) (Or.inl ⟨by rfl, ?_⟩) HB5.out ?_
            · intro W hSw; clear hSw; go_simp
            try simp only [Act.put, List.setIfInBounds_toArray, List.set_cons_zero, List.set_cons_succ]
            refine wpAnyH_take (i := 15) (oi := { dst := some 25, op := Op.move (Operand.tmp 24), type := 4, pos := "states.go:128", after := #[{ on := 14, ground := Ground.data }, { on := 12, ground := Ground.chain }], guard := none }) (v := .bool true) rfl (by kernel_rfl) (by kernel_rfl) (by kernel_rfl) (fun _ _ _ h => h) (Or.inl ⟨by rfl, ?_⟩) HB5.out ?_
            · intro W hSw; clear hSw; go_simp
            try simp only [Act.put, List.setIfInBounds_toArray, List.set_cons_zero, List.set_cons_succ]
            refine wpAnyH_take (i := 16) (oi := { dst := some 26, op := Op.move (Operand.tmp 0), type := 37, pos := "states.go:128", after := #[{ on := 15, ground := Ground.guard }], guard := some (15, false) }) (v := undef) rfl (by kernel_rfl) (by kernel_rfl) (by kernel_rfl) (fun _ _ _ h => h) (Or.inr ⟨by rfl, rfl⟩) HB5.out ?_
            try simp only [Act.put, List.setIfInBounds_toArray, List.set_cons_zero, List.set_cons_succ]
            refine wpAnyH_take (i := 17) (oi := { dst := some 27, op := Op.move (Operand.tmp 0), type := 37, pos := "states.go:128", after := #[{ on := 15, ground := Ground.guard }], guard := some (15, false) }) (v := undef) rfl (by kernel_rfl) (by kernel_rfl) (by kernel_rfl) (fun _ _ _ h => h) (Or.inr ⟨by rfl, rfl⟩) HB5.out ?_
            try simp only [Act.put, List.setIfInBounds_toArray, List.set_cons_zero, List.set_cons_succ]
            refine wpAnyH_take (i := 18) (oi := { dst := some 28, op := Op.move (Operand.tmp 3), type := 3, pos := "states.go:128", after := #[{ on := 15, ground := Ground.guard }], guard := some (15, false) }) (v := undef) rfl (by kernel_rfl) (by kernel_rfl) (by kernel_rfl) (fun _ _ _ h => h) (Or.inr ⟨by rfl, rfl⟩) HB5.out ?_
            try simp only [Act.put, List.setIfInBounds_toArray, List.set_cons_zero, List.set_cons_succ]
            refine wpAnyH_take (i := 19) (oi := { dst := some 29, op := Op.indexAddr 37 (Operand.tmp 27) (Operand.tmp 28), type := 0, pos := "states.go:128", after := #[{ on := 17, ground := Ground.data }, { on := 18, ground := Ground.data }, { on := 15, ground := Ground.guard }], guard := some (15, false) }) (v := undef) rfl (by kernel_rfl) (by kernel_rfl) (by kernel_rfl) (fun _ _ _ h => h) (Or.inr ⟨by rfl, rfl⟩) HB5.out ?_
            try simp only [Act.put, List.setIfInBounds_toArray, List.set_cons_zero, List.set_cons_succ]
            refine wpAnyH_take (i := 20) (oi := { dst := some 30, op := Op.fieldAddr 55 (Operand.tmp 29) 0, type := 0, pos := "states.go:128", after := #[{ on := 19, ground := Ground.data }, { on := 15, ground := Ground.guard }], guard := some (15, false) }) (v := undef) rfl (by kernel_rfl) (by kernel_rfl) (by kernel_rfl) (fun _ _ _ h => h) (Or.inr ⟨by rfl, rfl⟩) HB5.out ?_
            try simp only [Act.put, List.setIfInBounds_toArray, List.set_cons_zero, List.set_cons_succ]
            refine wpAnyH_take (i := 21) (oi := { dst := some 31, op := Op.load 3 (Operand.tmp 30), type := 3, pos := "states.go:128", after := #[{ on := 20, ground := Ground.data }, { on := 15, ground := Ground.guard }], guard := some (15, false) }) (v := undef) rfl (by kernel_rfl) (by kernel_rfl) (by kernel_rfl) (fun _ _ _ h => h) (Or.inr ⟨by rfl, rfl⟩) HB5.out ?_
            try simp only [Act.put, List.setIfInBounds_toArray, List.set_cons_zero, List.set_cons_succ]
            refine wpAnyH_take (i := 22) (oi := { dst := some 32, op := Op.call { callee := Callee.value (Operand.func 45), args := #[Operand.tmp 26, Operand.tmp 31], argTypes := #[37, 3] }, type := 3, pos := "states.go:128", after := #[{ on := 16, ground := Ground.data }, { on := 21, ground := Ground.data }, { on := 15, ground := Ground.chain }, { on := 15, ground := Ground.guard }], guard := some (15, false) }) (v := undef) rfl (by kernel_rfl) (by kernel_rfl) (by kernel_rfl) (fun _ _ _ h => h) (Or.inr ⟨by rfl, rfl⟩) HB5.out ?_
            try simp only [Act.put, List.setIfInBounds_toArray, List.set_cons_zero, List.set_cons_succ]
            refine wpAnyH_take (i := 23) (oi := { dst := some 33, op := Op.move (Operand.tmp 3), type := 3, pos := "states.go:128", after := #[{ on := 15, ground := Ground.guard }], guard := some (15, false) }) (v := undef) rfl (by kernel_rfl) (by kernel_rfl) (by kernel_rfl) (fun _ _ _ h => h) (Or.inr ⟨by rfl, rfl⟩) HB5.out ?_
            try simp only [Act.put, List.setIfInBounds_toArray, List.set_cons_zero, List.set_cons_succ]
            refine wpAnyH_take (i := 24) (oi := { dst := some 34, op := Op.binOp BinOp.lss 3 (Operand.tmp 32) (Operand.tmp 33) 3, type := 4, pos := "states.go:128", after := #[{ on := 22, ground := Ground.data }, { on := 23, ground := Ground.data }, { on := 15, ground := Ground.guard }], guard := some (15, false) }) (v := undef) rfl (by kernel_rfl) (by kernel_rfl) (by kernel_rfl) (fun _ _ _ h => h) (Or.inr ⟨by rfl, rfl⟩) HB5.out ?_
            try simp only [Act.put, List.setIfInBounds_toArray, List.set_cons_zero, List.set_cons_succ]
            refine wpAnyH_take (i := 25) (oi := { dst := some 35, op := Op.pick (Operand.tmp 25) (Operand.const (Value.bool true)) (Operand.tmp 34), type := 4, pos := "states.go:128", after := #[{ on := 15, ground := Ground.data }, { on := 24, ground := Ground.data }], guard := none }) (v := .bool true) rfl (by kernel_rfl) (by kernel_rfl) (by kernel_rfl) (fun _ _ _ h => h) (Or.inl ⟨by rfl, ?_⟩) HB5.out ?_
            · intro W hSw; clear hSw; go_simp
            try simp only [Act.put, List.setIfInBounds_toArray, List.set_cons_zero, List.set_cons_succ]
            refine wpAnyH_done (by kernel_rfl) ?_ _
            refine NoPanic.normal ?_
            go_wp2_with fail
            go_meet
            exact ⟨by rw [HUP4.out]; rfl, HB5.out⟩
          · have gz : decide (0 ≤ z) = false := decide_eq_false hz
            have hup4 : upD l j = !decide (z2 < (j : Int)) := by rw [HUP3.out, gz, Bool.false_or]
            have HUP4 := ShutU.mk hup4
            clear hup4 HUP3 hz c0 c1 c2 c3 c4 c5 y0' y1' y2' y3' y4' y5'
            go_region_held3 (fun W : World => W.cell? ⟨b, o + j * 6, none⟩ = some (.int .i64 x0) ∧ W.cell? ⟨b, o + j * 6 + 1, none⟩ = some (.int .i64 x1) ∧ W.cell? ⟨b, o + j * 6 + 2, none⟩ = some (.int .i64 x2) ∧ W.cell? ⟨b, o + j * 6 + 3, none⟩ = some (.bool x3) ∧ W.cell? ⟨b, o + j * 6 + 4, none⟩ = some (.string x4) ∧ W.cell? ⟨b, o + j * 6 + 5, none⟩ = some (.string x5) ∧ W.cell? ⟨b, o + i * 6, none⟩ = some (.int .i64 y0) ∧ W.cell? ⟨b, o + i * 6 + 1, none⟩ = some (.int .i64 y1) ∧ W.cell? ⟨b, o + i * 6 + 2, none⟩ = some (.int .i64 y2) ∧ W.cell? ⟨b, o + i * 6 + 3, none⟩ = some (.bool y3) ∧ W.cell? ⟨b, o + i * 6 + 4, none⟩ = some (.string y4) ∧ W.cell? ⟨b, o + i * 6 + 5, none⟩ = some (.string y5))
              (first | with_reducible exact hS4.out | with_reducible exact hS5.out)
              (first | (go_at_call 44; refine (HC.out _).mono ?_; rintro e w1 ⟨rfl, hb⟩; have HB5 := Lib.hid (HB4.out.trans (hb.mono HB4.out.size)); have hS5 : ShutU ((fun W : World => W.cell? ⟨b, o + j * 6, none⟩ = some (.int .i64 x0) ∧ W.cell? ⟨b, o + j * 6 + 1, none⟩ = some (.int .i64 x1) ∧ W.cell? ⟨b, o + j * 6 + 2, none⟩ = some (.int .i64 x2) ∧ W.cell? ⟨b, o + j * 6 + 3, none⟩ = some (.bool x3) ∧ W.cell? ⟨b, o + j * 6 + 4, none⟩ = some (.string x4) ∧ W.cell? ⟨b, o + j * 6 + 5, none⟩ = some (.string x5) ∧ W.cell? ⟨b, o + i * 6, none⟩ = some (.int .i64 y0) ∧ W.cell? ⟨b, o + i * 6 + 1, none⟩ = some (.int .i64 y1) ∧ W.cell? ⟨b, o + i * 6 + 2, none⟩ = some (.int .i64 y2) ∧ W.cell? ⟨b, o + i * 6 + 3, none⟩ = some (.bool y3) ∧ W.cell? ⟨b, o + i * 6 + 4, none⟩ = some (.string y4) ∧ W.cell? ⟨b, o + i * 6 + 5, none⟩ = some (.string y5)) w1) := ⟨HSB.out _ HB5.out⟩; clear hb) | (go_at_call 45; refine (HFD.out _ HB5.out).mono ?_; rintro e w2 ⟨rfl, rfl⟩))
            go_wp2_with fail
            go_meet
            exact ⟨by rw [HUP4.out, Bool.not_not], HB5.out⟩
      case rest =>
        obtain ⟨rfl, hbx⟩ := hcut
        have HBX := Lib.hid (HB.out.trans (hbx.mono HB.out.size))
        clear hbx HUP HFD c0 c1 c2 c3 c4 c5
        cases hup : upD l j
        · have hr := upD_not hup hx
          have HR := Lib.hid hr
          clear hr hup
          simp only [Bool.not_false]
          go_wp2_with fail
          go_ret
          exact ⟨by rw [HR.out]; rfl, HBX.out⟩
        · have hnext : ∀ q, q < j + 1 → upD l q = true := fun q hq => by
            rcases Nat.lt_or_ge q j with h5 | h5
            · exact HU.out q h5
            · obtain rfl : q = j := by omega
              exact hup
          have HN := Lib.hid hnext
          clear hnext hup
          simp only [Bool.not_true]
          go_wp2_with fail
          go_roundg (n - (j + 1))
          case measure => have := HJ.out; have := HL.out; omega
          case rel => exact ⟨j + 1, by have := HJ.out; have := HL.out; omega, by go_num, HN.out, HBX.out⟩
    · have hlj : decide ((j : Int) < (n : Int)) = false := decide_eq_false (by omega)
      have hljn : decide (j < n) = false := decide_eq_false hlt
      have hr : risesD l = true := upD_all HU.out (by have := HL.out; omega)
      have HR := Lib.hid hr
      clear hr
      go_wp2_with fail
      go_ret
      exact ⟨by rw [HR.out]; rfl, HB.out⟩
end Go.Proofs.Ytpggnklbgkdjcaa
