/- StateMakes walked (tools/r19_makes.py writes it). -/
import Derived.Test.YtdjmjckmbclhiaaJ19
import Derived.Test.YtdjmjckmbclhiaaJ16
import Derived.Deep.RegionHeld3
import Derived.Deep.DeepCutAuto
import Derived.Deep.RegionWith
import Derived.Lib.Strings
set_option maxRecDepth 4000
namespace Go.Proofs.Ytdjmjckmbclhiaa
open Go.RowKit
/-- objects by letters, the truths of which there are, and the state that holds them -/
structure MkIn (w : World) (P H : Nat) (ls : List Nat) (cs : Array Value) (s : Sv) (xs : List Oc) (wr : World) : Prop where
  bel : Below w.heap.size w wr
  ris : Ris ls
  len : ls.length ≤ 20
  marks : Mk26 cs ls
  had : Blk wr H 48 cs
  st : HeldS P 1 s xs wr
  obs : obsOf xs = ls.map tabO
  ge : w.heap.size ≤ P
  ge2 : w.heap.size ≤ H
  ne : P ≠ H
def MkR (w : World) (P H : Nat) (n k : Nat) (cnt i : Value) (wr : World) : Prop :=
  ∃ j ls cs s xs, j + k = n ∧ i = .int .i64 (j : Int) ∧ cnt = .int .i64 (ls.length : Int) ∧ MkIn w P H ls cs s xs wr
def SeeR (w : World) (P H : Nat) (ls : List Nat) (cs : Array Value) (s : Sv) (xs : List Oc) (k : Nat) (i : Value) (wr : World) : Prop :=
  ∃ j, j + k = ls.length ∧ i = .int .i64 ((j : Int) + 1) ∧ MkIn w P H ls cs s xs wr
theorem MkIn.step {w : World} {P H : Nat} {ls : List Nat} {cs : Array Value} {s : Sv} {xs : List Oc} {wr w' : World} (h : MkIn w P H ls cs s xs wr) (k : Below wr.heap.size wr w') : MkIn w P H ls cs s xs w' :=
  ⟨h.bel.trans (k.mono h.bel.size), h.ris, h.len, h.marks, h.had.below k h.had.lt, h.st.step k, h.obs, h.ge, h.ge2, h.ne⟩
structure ShutK (p : Prop) : Prop where out : p
theorem az_geq {a b : Nat} (ha : a < 26) (hb : b < 26) (h : a < b) : Op.bytesLess (azL a).toList (azL b).toList = true := by
  rw [az_list, az_list]
  have h1 : UInt8.ofNat (97 + a) < UInt8.ofNat (97 + b) := by rw [UInt8.lt_iff_toNat_lt, az_nat ha, az_nat hb]; omega
  unfold Op.bytesLess
  rw [decide_eq_true h1]; rfl
set_option maxHeartbeats 8000000 in
theorem stateMakes (A : Option Addr) (n c : Nat) (zs : List Int) (w : World) (hz : Ints w A n zs) :
    Calls Try.prog 5 #[.slice A n c] w fun e w' => e = .returned (.bool true) ∧ Below w.heap.size w w' := by
  have hz26 := zero26
  have HZ := ShutK.mk hz
  by_cases hn : 60 < n
  · have hn2 : (60 : Int) < (n : Int) := by omega
    clear hz
    go_enter Try.func5, Try.ntmps5
    go_wp2_with (go_at_call 6; refine (alive_s _).mono ?_; rintro e w1 ⟨rfl, hb1⟩)
    go_ret
    exact ⟨rfl, hb1⟩
  have hn2 : ¬ (60 : Int) < (n : Int) := by omega
  clear hz
  go_enter Try.func5, Try.ntmps5
  go_wp2_with fail
  refine (alive_s _).mono ?_
  rintro e w1 ⟨rfl, hb1⟩
  have k1 := alloc_below w1 (.cells #[.int .i64 1, .slice none 0 0] 24)
  have k2 := k1.alloc k1.size (.cells (Array.replicate 26 (.bool false)) 48)
  have hin : MkIn w w1.heap.size (w1.heap.size + 1) [] (Array.replicate 26 (.bool false)) ⟨none, 0, 0⟩ [] ((w1.alloc (.cells #[.int .i64 1, .slice none 0 0] 24)).alloc (.cells (Array.replicate 26 (.bool false)) 48)) := by
    refine ⟨hb1.trans (k2.mono hb1.size), ⟨List.Pairwise.nil, fun k hk => by cases hk⟩, Nat.zero_le _, mk26_nil, ?_, ⟨(Blk.new w1 _ _).alloc _, ⟨SlK.none_ _ _ _, fun x hx => by cases hx⟩⟩, rfl, hb1.size, Nat.le_succ_of_le hb1.size, by omega⟩
    have := Blk.new (w1.alloc (.cells #[.int .i64 1, .slice none 0 0] 24)) 48 (Array.replicate 26 (.bool false))
    rw [show (w1.alloc (.cells #[.int .i64 1, .slice none 0 0] 24)).heap.size = w1.heap.size + 1 by simp] at this
    exact this
  have HIN := ShutK.mk hin
  generalize hZZ : Array.replicate 26 (Value.bool false) = ZZ at *
  clear hin hb1 k1 k2 hZZ
  go_wp2_with fail
  generalize hPP : w1.heap.size = P at *
  generalize hHH : P + 1 = H at *
  have hPH : P ≠ H := by omega
  clear hPP hHH
  go_loopg [6, 7] n (fun k cnt i wr => MkR w P H n k cnt i wr)
  case atStart => exact ⟨0, [], ZZ, ⟨none, 0, 0⟩, [], by omega, rfl, rfl, HIN.out⟩
  case round =>
    obtain ⟨j, ls, cs, s, xs, hj, rfl, rfl, hm⟩ := hrel
    have HM := ShutK.mk hm
    have HJ := ShutK.mk hj
    clear hm hj
    by_cases hlt : j < n
    · have hjn : (j : Int) < (n : Int) := by omega
      obtain ⟨b, o, e', hbb, hx⟩ := (HZ.out.below HM.out.bel).2 (by omega)
      subst e'
      have hjz : j < zs.length := by rw [HZ.out.1]; exact hlt
      have c0 := hx j zs[j] (List.getElem?_eq_getElem hjz)
      generalize zs[j] = z at *
      obtain ⟨q0, hq0, hand⟩ := and1023 z
      obtain ⟨q, hq⟩ : ∃ q, q0 % 26 = q := ⟨_, rfl⟩
      have hq26 : q < 26 := by omega
      have hrem : (bits .and .i64 z 1023).tmod 26 = (q : Int) := by rw [hand, Int.tmod_eq_emod_of_nonneg (by omega)]; omega
      have HREM := ShutK.mk hrem
      have hap := one_az HM.out.ris HM.out.len hq26
      obtain ⟨PP, hPP⟩ : ∃ PP, applyS ⟨1, ls.map tabO⟩ [mkT q] = PP := ⟨_, rfl⟩
      rw [hPP] at hap
      have hin2 : ∀ x ∈ xs, ∃ k ∈ ls, x.o = tabO k := fun x hx => by
        have : x.o ∈ obsOf xs := List.mem_map_of_mem hx
        rw [HM.out.obs] at this
        obtain ⟨k, hk, e⟩ := List.mem_map.1 this
        exact ⟨k, hk, e.symm⟩
      have hcall : ∀ W g, Below wr.heap.size wr W → Blk W g 45 (mkT q).cells → Calls Try.prog 9 #[.agg #[.int .i64 1, .slice s.a s.n s.c], .slice (some ⟨g, 0, none⟩) 1 1] W (Applied W PP) := fun W g k hg => by
        have hl : Lst W (fun _ => True) eEf (some ⟨g, 0, none⟩) [mkT q] := fun _ => ⟨g, 0, rfl, trivial, hg.lt, fun j u hu => by rw [hg.cell, Nat.zero_add]; simpa [cellsE, eEf] using hu⟩
        have := apply_o (c2 := 1) (HM.out.st.obs.below k) (fun x hx => by obtain ⟨k, _, e⟩ := hin2 x hx; rw [e]; exact ⟨Nat.zero_le _, Nat.zero_le _, Nat.zero_le _⟩) (fun x hx => by obtain ⟨k, _, e⟩ := hin2 x hx; rw [e]; exact ⟨(fun m hm => by cases hm), fun m hm => by cases hm⟩) 1 hl rfl (by show 1 ≤ 50000; omega)
        rw [HM.out.obs, hPP] at this
        exact this
      have d0 := HM.out.st.blk.cell 0
      have d1 := HM.out.st.blk.cell 1
      have dl := HM.out.st.blk.lt
      obtain ⟨A1, n1, c1⟩ := s
      simp only [List.getElem?_toArray, List.getElem?_cons_zero, List.getElem?_cons_succ] at d0 d1
      simp only at hcall
      have haz := az_at q hq26
      have HAP := ShutK.mk hap
      have HCALL := ShutK.mk hcall
      have HMW := ShutK.mk dl
      have hqi : IntKind.i64.wrap ((q : Int) + 1) = (q : Int) + 1 := by rw [IntKind.wrap_i64]; omega
      clear hap hPP hin2 hcall hrem hand hq0 hq hbb hjz hx
      go_wp2_with fail
      rw [HREM.out]
      clear HREM c0
      have hsb : ∀ W, Below wr.heap.size wr W → (fun W : World => W.cell? ⟨P, 0, none⟩ = some (.int .i64 1) ∧ W.cell? ⟨P, 1, none⟩ = some (.slice A1 n1 c1)) W := fun W hb => ⟨(cell_of_heap (hb.block _ dl) _).trans d0, (cell_of_heap (hb.block _ dl) _).trans d1⟩
      have b1 := alloc_below wr (.cells #[.int .i64 0, .slice none 0 0] 24)
      have b2 := alloc_below wr (.cells #[.int .i64 1, .string (azL q), .string ⟨#[]⟩, .string ⟨#[]⟩, .int .i64 1, .int .i64 0, .bool false, .int .i64 0, .int .i64 0, .int .i64 0, .bool false, .string ⟨#[]⟩, .string ⟨#[]⟩] 45)
      have hS0 : ShutK ((fun W : World => W.cell? ⟨P, 0, none⟩ = some (.int .i64 1) ∧ W.cell? ⟨P, 1, none⟩ = some (.slice A1 n1 c1)) wr.drew) := ⟨hsb _ (Below.refl _ _).drew⟩
      have hS1 : ShutK ((fun W : World => W.cell? ⟨P, 0, none⟩ = some (.int .i64 1) ∧ W.cell? ⟨P, 1, none⟩ = some (.slice A1 n1 c1)) (wr.alloc (.cells #[.int .i64 0, .slice none 0 0] 24)).drew) := ⟨hsb _ b1.drew⟩
      have hS2 : ShutK ((fun W : World => W.cell? ⟨P, 0, none⟩ = some (.int .i64 1) ∧ W.cell? ⟨P, 1, none⟩ = some (.slice A1 n1 c1)) (wr.alloc (.cells #[.int .i64 1, .string (azL q), .string ⟨#[]⟩, .string ⟨#[]⟩, .int .i64 1, .int .i64 0, .bool false, .int .i64 0, .int .i64 0, .int .i64 0, .bool false, .string ⟨#[]⟩, .string ⟨#[]⟩] 45)).drew) := ⟨hsb _ b2.drew⟩
      have hS3 : ShutK ((fun W : World => W.cell? ⟨P, 0, none⟩ = some (.int .i64 1) ∧ W.cell? ⟨P, 1, none⟩ = some (.slice A1 n1 c1)) ((wr.alloc (.cells #[.int .i64 0, .slice none 0 0] 24)).alloc (.cells #[.int .i64 1, .string (azL q), .string ⟨#[]⟩, .string ⟨#[]⟩, .int .i64 1, .int .i64 0, .bool false, .int .i64 0, .int .i64 0, .int .i64 0, .bool false, .string ⟨#[]⟩, .string ⟨#[]⟩] 45)).drew) := ⟨hsb _ (b1.alloc b1.size _).drew⟩
      have hS4 : ShutK ((fun W : World => W.cell? ⟨P, 0, none⟩ = some (.int .i64 1) ∧ W.cell? ⟨P, 1, none⟩ = some (.slice A1 n1 c1)) ((wr.alloc (.cells #[.int .i64 1, .string (azL q), .string ⟨#[]⟩, .string ⟨#[]⟩, .int .i64 1, .int .i64 0, .bool false, .int .i64 0, .int .i64 0, .int .i64 0, .bool false, .string ⟨#[]⟩, .string ⟨#[]⟩] 45)).alloc (.cells #[.int .i64 0, .slice none 0 0] 24)).drew) := ⟨hsb _ (b2.alloc b2.size _).drew⟩
      have HSB := ShutK.mk hsb
      have B2 := ShutK.mk b2.drew
      have B3 := ShutK.mk (b1.alloc b1.size (.cells #[.int .i64 1, .string (azL q), .string ⟨#[]⟩, .string ⟨#[]⟩, .int .i64 1, .int .i64 0, .bool false, .int .i64 0, .int .i64 0, .int .i64 0, .bool false, .string ⟨#[]⟩, .string ⟨#[]⟩] 45)).drew
      have B4 := ShutK.mk (b2.alloc b2.size (.cells #[.int .i64 0, .slice none 0 0] 24)).drew
      have E2 := ShutK.mk (Blk.new wr 45 (#[.int .i64 1, .string (azL q), .string ⟨#[]⟩, .string ⟨#[]⟩, .int .i64 1, .int .i64 0, .bool false, .int .i64 0, .int .i64 0, .int .i64 0, .bool false, .string ⟨#[]⟩, .string ⟨#[]⟩])).drew
      have z1 : (wr.alloc (.cells #[.int .i64 0, .slice none 0 0] 24)).heap.size = wr.heap.size + 1 := by simp
      have z2 : (wr.alloc (.cells #[.int .i64 1, .string (azL q), .string ⟨#[]⟩, .string ⟨#[]⟩, .int .i64 1, .int .i64 0, .bool false, .int .i64 0, .int .i64 0, .int .i64 0, .bool false, .string ⟨#[]⟩, .string ⟨#[]⟩] 45)).heap.size = wr.heap.size + 1 := by simp
      have e3 := Blk.new (wr.alloc (.cells #[.int .i64 0, .slice none 0 0] 24)) 45 (#[.int .i64 1, .string (azL q), .string ⟨#[]⟩, .string ⟨#[]⟩, .int .i64 1, .int .i64 0, .bool false, .int .i64 0, .int .i64 0, .int .i64 0, .bool false, .string ⟨#[]⟩, .string ⟨#[]⟩])
      rw [z1] at e3
      have E3 := ShutK.mk e3.drew
      have E4 := ShutK.mk ((Blk.new wr 45 (#[.int .i64 1, .string (azL q), .string ⟨#[]⟩, .string ⟨#[]⟩, .int .i64 1, .int .i64 0, .bool false, .int .i64 0, .int .i64 0, .int .i64 0, .bool false, .string ⟨#[]⟩, .string ⟨#[]⟩])).alloc (.cells #[.int .i64 0, .slice none 0 0] 24)).drew
      have X3 := ShutK.mk ((Blk.new wr 24 #[.int .i64 0, .slice none 0 0]).alloc (.cells #[.int .i64 1, .string (azL q), .string ⟨#[]⟩, .string ⟨#[]⟩, .int .i64 1, .int .i64 0, .bool false, .int .i64 0, .int .i64 0, .int .i64 0, .bool false, .string ⟨#[]⟩, .string ⟨#[]⟩] 45)).drew
      have x4 := Blk.new (wr.alloc (.cells #[.int .i64 1, .string (azL q), .string ⟨#[]⟩, .string ⟨#[]⟩, .int .i64 1, .int .i64 0, .bool false, .int .i64 0, .int .i64 0, .int .i64 0, .bool false, .string ⟨#[]⟩, .string ⟨#[]⟩] 45)) 24 #[.int .i64 0, .slice none 0 0]
      rw [z2] at x4
      have X4 := ShutK.mk x4.drew
      clear hsb b1 b2 z1 z2 e3 x4 d0 d1
      go_cut [9, 10] (fun p v wx => ∃ X, p = .pointer (some ⟨X, 0, none⟩) ∧ v = .int .i64 PP.1 ∧ GotS wr PP X wx)
      case first =>
        refine wp_region_noPanic ?_
        refine wp_region_K (k := 12) (S := (fun W : World => W.cell? ⟨P, 0, none⟩ = some (.int .i64 1) ∧ W.cell? ⟨P, 1, none⟩ = some (.slice A1 n1 c1))) (by kernel_rfl) ?_
        refine wpAnyK_take (i := 0) (oi := { dst := some 36, op := Op.load 24 (Operand.tmp 4), type := 24, pos := "law.go:119", after := #[], guard := none }) (v := .agg #[.int .i64 1, .slice A1 n1 c1]) rfl (by kernel_rfl) (by kernel_rfl) (by kernel_rfl) (by kernel_rfl) (by kernel_rfl) (fun _ _ _ h => h) (by decide) (hS0.out) (by rfl) ?_ ?_
        · intro W9 hSw; obtain ⟨s0, s1⟩ := hSw; go_simp
        try simp only [Act.put, List.setIfInBounds_toArray, List.set_cons_zero, List.set_cons_succ]
        refine wpAnyK_takeW (i := 1) (oi := { dst := some 37, op := Op.move (Operand.tmp 8), type := 3, pos := "law.go:119", after := #[], guard := none }) (v := .int .i64 (q : Int)) rfl (by kernel_rfl) (by kernel_rfl) (by kernel_rfl) (fun _ _ _ h => h) (by decide) (hS0.out) (by rfl) ?_ ?_
        · intro W9; go_simp
        try simp only [Act.put, List.setIfInBounds_toArray, List.set_cons_zero, List.set_cons_succ]
        refine wpAnyK_takeW (i := 2) (oi := { dst := some 38, op := Op.move (Operand.tmp 8), type := 3, pos := "law.go:119", after := #[], guard := none }) (v := .int .i64 (q : Int)) rfl (by kernel_rfl) (by kernel_rfl) (by kernel_rfl) (fun _ _ _ h => h) (by decide) (hS0.out) (by rfl) ?_ ?_
        · intro W9; go_simp
        try simp only [Act.put, List.setIfInBounds_toArray, List.set_cons_zero, List.set_cons_succ]
        refine wpAnyK_takeW (i := 3) (oi := { dst := some 39, op := Op.binOp BinOp.add 3 (Operand.tmp 38) (Operand.const (Value.int IntKind.i64 1)) 3, type := 3, pos := "law.go:119", after := #[{ on := 2, ground := Ground.data }], guard := none }) (v := .int .i64 ((q : Int) + 1)) rfl (by kernel_rfl) (by kernel_rfl) (by kernel_rfl) (fun _ _ _ h => h) (by decide) (hS0.out) (by rfl) ?_ ?_
        · intro W9; go_simp
        try simp only [Act.put, List.setIfInBounds_toArray, List.set_cons_zero, List.set_cons_succ]
        refine wpAnyK_takeW (i := 4) (oi := { dst := some 40, op := Op.slice 9 (Operand.const (Value.string { data := #[97, 98, 99, 100, 101, 102, 103, 104, 105, 106, 107, 108, 109, 110, 111, 112, 113, 114, 115, 116, 117, 118, 119, 120, 121, 122] })) (some (Operand.tmp 37)) (some (Operand.tmp 39)) none, type := 9, pos := "law.go:119", after := #[{ on := 1, ground := Ground.data }, { on := 3, ground := Ground.data }], guard := none }) (v := .string (azL q)) rfl (by kernel_rfl) (by kernel_rfl) (by kernel_rfl) (fun _ _ _ h => h) (by decide) (hS0.out) (by rfl) ?_ ?_
        · intro W9; go_simp
        try simp only [Act.put, List.setIfInBounds_toArray, List.set_cons_zero, List.set_cons_succ]
        refine wpAnyK_takeW (i := 5) (oi := { dst := some 41, op := Op.build 45 #[(0, Operand.const (Value.int IntKind.i64 1)), (1, Operand.tmp 40), (4, Operand.const (Value.int IntKind.i64 1))], type := 45, pos := "law.go:119", after := #[{ on := 4, ground := Ground.data }], guard := none }) (v := .agg #[.int .i64 1, .string (azL q), .string ⟨#[]⟩, .string ⟨#[]⟩, .int .i64 1, .int .i64 0, .bool false, .int .i64 0, .int .i64 0, .int .i64 0, .bool false, .string ⟨#[]⟩, .string ⟨#[]⟩]) rfl (by kernel_rfl) (by kernel_rfl) (by kernel_rfl) (fun _ _ _ h => h) (by decide) (hS0.out) (by rfl) ?_ ?_
        · intro W9; go_simp
        try simp only [Act.put, List.setIfInBounds_toArray, List.set_cons_zero, List.set_cons_succ]
        refine wpAnyK_two (i := 6) (j := 11) (oi := { dst := some 42, op := Op.buildSlice 30 1 #[(0, Operand.tmp 41)], type := 30, pos := "law.go:119", after := #[{ on := 5, ground := Ground.data }], guard := none }) (oj := { dst := some 9, op := Op.alloc 24, type := 0, pos := "law.go:119", after := #[], guard := none }) (E := True) (F := True) (by kernel_rfl) rfl (by rfl) rfl (by rfl) ?_ ?_
        · refine if_exec (by rfl) (v := .slice (some ⟨wr.heap.size, 0, none⟩) 1 1) (w' := (wr.alloc (.cells #[.int .i64 1, .string (azL q), .string ⟨#[]⟩, .string ⟨#[]⟩, .int .i64 1, .int .i64 0, .bool false, .int .i64 0, .int .i64 0, .int .i64 0, .bool false, .string ⟨#[]⟩, .string ⟨#[]⟩] 45)).drew) (by first | (go_simp; done) | (go_simp; rfl)) ?_
          refine ⟨fun _ _ => hS2.out, ?_⟩
          try simp only [Act.put, List.setIfInBounds_toArray, List.set_cons_zero, List.set_cons_succ]
          refine wpAnyK_two (i := 7) (j := 11) (oi := { dst := some 43, op := Op.call { callee := Callee.value (Operand.func 9), args := #[Operand.tmp 36, Operand.tmp 42], argTypes := #[24, 30] }, type := 28, pos := "law.go:119", after := #[{ on := 0, ground := Ground.data }, { on := 6, ground := Ground.data }], guard := none }) (oj := { dst := some 9, op := Op.alloc 24, type := 0, pos := "law.go:119", after := #[], guard := none }) (E := True) (F := True) (by kernel_rfl) rfl (by rfl) rfl (by rfl) ?_ ?_
          · refine step_call rfl (f := 9) (by go_simp) ((HCALL.out _ _ B2.out E2.out).mono ?_)
            rintro e9 w3 ⟨⟨A3, n3, c3⟩, ys, rfl, hat, hys, hb3⟩
            have HB3 := ShutK.mk (B2.out.trans (hb3.mono B2.out.size))
            have hS5 : ShutK ((fun W : World => W.cell? ⟨P, 0, none⟩ = some (.int .i64 1) ∧ W.cell? ⟨P, 1, none⟩ = some (.slice A1 n1 c1)) w3) := ⟨HSB.out _ HB3.out⟩
            have HF3 := ShutK.mk (GotS.first HB3.out hat hys)
            have hS6 : ShutK ((fun W : World => W.cell? ⟨P, 0, none⟩ = some (.int .i64 1) ∧ W.cell? ⟨P, 1, none⟩ = some (.slice A1 n1 c1)) (w3.alloc (.cells #[.int .i64 0, .slice none 0 0] 24))) := ⟨HSB.out _ (HB3.out.alloc HB3.out.size _)⟩
            clear hb3 hat
            refine ⟨_, rfl, fun _ _ => hS5.out, ?_⟩
            try simp only [Act.put, List.setIfInBounds_toArray, List.set_cons_zero, List.set_cons_succ]
            refine wpAnyK_takeW (i := 8) (oi := { dst := some 35, op := Op.move (Operand.tmp 43), type := 28, pos := "law.go:119", after := #[{ on := 7, ground := Ground.data }], guard := none }) (v := .tuple #[.agg #[.int .i64 PP.2.next, .slice A3 n3 c3], .int .i64 PP.1]) rfl (by kernel_rfl) (by kernel_rfl) (by kernel_rfl) (fun _ _ _ h => h) (by decide) (hS5.out) (by rfl) ?_ ?_
            · intro W9; go_simp
            try simp only [Act.put, List.setIfInBounds_toArray, List.set_cons_zero, List.set_cons_succ]
            refine wpAnyK_takeW (i := 9) (oi := { dst := some 44, op := Op.extract (Operand.tmp 35) 0, type := 24, pos := "law.go:119", after := #[{ on := 8, ground := Ground.data }], guard := none }) (v := .agg #[.int .i64 PP.2.next, .slice A3 n3 c3]) rfl (by kernel_rfl) (by kernel_rfl) (by kernel_rfl) (fun _ _ _ h => h) (by decide) (hS5.out) (by rfl) ?_ ?_
            · intro W9; go_simp
            try simp only [Act.put, List.setIfInBounds_toArray, List.set_cons_zero, List.set_cons_succ]
            refine wpAnyK_takeW (i := 10) (oi := { dst := some 45, op := Op.extract (Operand.tmp 35) 1, type := 27, pos := "law.go:119", after := #[{ on := 8, ground := Ground.data }, { on := 12, ground := Ground.gcOnly Departure.lateStores }], guard := none }) (v := .int .i64 PP.1) rfl (by kernel_rfl) (by kernel_rfl) (by kernel_rfl) (fun _ _ _ h => h) (by decide) (hS5.out) (by rfl) ?_ ?_
            · intro W9; go_simp
            try simp only [Act.put, List.setIfInBounds_toArray, List.set_cons_zero, List.set_cons_succ]
            refine wpAnyK_one (i := 11) (o := { dst := some 9, op := Op.alloc 24, type := 0, pos := "law.go:119", after := #[], guard := none }) (v := .pointer (some ⟨w3.heap.size, 0, none⟩)) (w' := w3.alloc (.cells #[.int .i64 0, .slice none 0 0] 24)) (by kernel_rfl) rfl (by rfl) (by first | (go_simp; done) | (go_simp; rfl)) (hS6.out) ?_
            try simp only [Act.put, List.setIfInBounds_toArray, List.set_cons_zero, List.set_cons_succ]
            refine wpAnyK_store (i := 12) (o := { dst := none, op := Op.store 24 (Operand.tmp 9) (Operand.tmp 44), type := 0, pos := "law.go:119", after := #[{ on := 11, ground := Ground.data }, { on := 9, ground := Ground.data }, { on := 7, ground := Ground.chain }, { on := 0, ground := Ground.phase }, { on := 1, ground := Ground.phase }, { on := 2, ground := Ground.phase }, { on := 3, ground := Ground.phase }, { on := 4, ground := Ground.phase }, { on := 5, ground := Ground.phase }, { on := 6, ground := Ground.phase }, { on := 7, ground := Ground.phase }, { on := 8, ground := Ground.phase }, { on := 9, ground := Ground.phase }, { on := 10, ground := Ground.textOnly Departure.lateStores }, { on := 11, ground := Ground.phase }], guard := none }) (w' := w3.alloc (.cells #[.int .i64 PP.2.next, .slice A3 n3 c3] 24)) (by kernel_rfl) rfl (by rfl) (by first | (go_simp; done) | (go_simp; rfl)) (by kernel_rfl) ?_
            try simp only [Act.put]
            refine wpAnyK_late (i := 13) (o := { dst := some 10, op := Op.assign (Operand.tmp 45), type := 27, pos := "law.go:119", after := #[{ on := 10, ground := Ground.data }, { on := 12, ground := Ground.chain }, { on := 0, ground := Ground.phase }, { on := 1, ground := Ground.phase }, { on := 2, ground := Ground.phase }, { on := 3, ground := Ground.phase }, { on := 4, ground := Ground.phase }, { on := 5, ground := Ground.phase }, { on := 6, ground := Ground.phase }, { on := 7, ground := Ground.phase }, { on := 8, ground := Ground.phase }, { on := 9, ground := Ground.phase }, { on := 10, ground := Ground.phase }, { on := 11, ground := Ground.phase }, { on := 12, ground := Ground.phase }], guard := none }) (v := .int .i64 PP.1) (w' := w3.alloc (.cells #[.int .i64 PP.2.next, .slice A3 n3 c3] 24)) (by kernel_rfl) rfl (by rfl) (by first | (go_simp; done) | (go_simp; rfl)) (by kernel_rfl) ?_
            try simp only [Act.put, List.setIfInBounds_toArray, List.set_cons_zero, List.set_cons_succ]
            refine wpAnyK_done (by kernel_rfl) ?_ _
            refine NoPanic.normal ?_
            go_wp2_with fail
            go_meet
            exact ⟨_, rfl, rfl, HF3.out⟩
          · refine if_exec (by rfl) (v := .pointer (some ⟨wr.heap.size + 1, 0, none⟩)) (w' := ((wr.alloc (.cells #[.int .i64 1, .string (azL q), .string ⟨#[]⟩, .string ⟨#[]⟩, .int .i64 1, .int .i64 0, .bool false, .int .i64 0, .int .i64 0, .int .i64 0, .bool false, .string ⟨#[]⟩, .string ⟨#[]⟩] 45)).alloc (.cells #[.int .i64 0, .slice none 0 0] 24)).drew) (by first | (go_simp; done) | (go_simp; rfl)) ?_
            refine ⟨fun _ _ => hS4.out, ?_⟩
            try simp only [Act.put, List.setIfInBounds_toArray, List.set_cons_zero, List.set_cons_succ]
            refine wpAnyK_step (i := 7) (o := { dst := some 43, op := Op.call { callee := Callee.value (Operand.func 9), args := #[Operand.tmp 36, Operand.tmp 42], argTypes := #[24, 30] }, type := 28, pos := "law.go:119", after := #[{ on := 0, ground := Ground.data }, { on := 6, ground := Ground.data }], guard := none }) (E := True) (by kernel_rfl) rfl (by rfl) ?_
            refine step_call rfl (f := 9) (by go_simp) ((HCALL.out _ _ B4.out E4.out).mono ?_)
            rintro e9 w3 ⟨⟨A3, n3, c3⟩, ys, rfl, hat, hys, hb3⟩
            have HB3 := ShutK.mk (B4.out.trans (hb3.mono B4.out.size))
            have hS5 : ShutK ((fun W : World => W.cell? ⟨P, 0, none⟩ = some (.int .i64 1) ∧ W.cell? ⟨P, 1, none⟩ = some (.slice A1 n1 c1)) w3) := ⟨HSB.out _ HB3.out⟩
            refine ⟨_, rfl, fun _ _ => hS5.out, ?_⟩
            try simp only [Act.put, List.setIfInBounds_toArray, List.set_cons_zero, List.set_cons_succ]
            have hz3 := X4.out.below hb3 X4.out.lt
            have hle : wr.heap.size ≤ (wr.heap.size + 1) := by omega
            have HF3 := ShutK.mk (GotS.later HB3.out hz3 hle hat hys)
            have z0 := hz3.cell 0
            have z1 := hz3.cell 1
            have y0 := hz3.frozen 0
            have y1 := hz3.frozen 1
            clear hb3 hat hz3 hle
            refine wpAnyK_takeW (i := 8) (oi := { dst := some 35, op := Op.move (Operand.tmp 43), type := 28, pos := "law.go:119", after := #[{ on := 7, ground := Ground.data }], guard := none }) (v := .tuple #[.agg #[.int .i64 PP.2.next, .slice A3 n3 c3], .int .i64 PP.1]) rfl (by kernel_rfl) (by kernel_rfl) (by kernel_rfl) (fun _ _ _ h => h) (by decide) (hS5.out) (by rfl) ?_ ?_
            · intro W9; go_simp
            try simp only [Act.put, List.setIfInBounds_toArray, List.set_cons_zero, List.set_cons_succ]
            refine wpAnyK_takeW (i := 9) (oi := { dst := some 44, op := Op.extract (Operand.tmp 35) 0, type := 24, pos := "law.go:119", after := #[{ on := 8, ground := Ground.data }], guard := none }) (v := .agg #[.int .i64 PP.2.next, .slice A3 n3 c3]) rfl (by kernel_rfl) (by kernel_rfl) (by kernel_rfl) (fun _ _ _ h => h) (by decide) (hS5.out) (by rfl) ?_ ?_
            · intro W9; go_simp
            try simp only [Act.put, List.setIfInBounds_toArray, List.set_cons_zero, List.set_cons_succ]
            refine wpAnyK_takeW (i := 10) (oi := { dst := some 45, op := Op.extract (Operand.tmp 35) 1, type := 27, pos := "law.go:119", after := #[{ on := 8, ground := Ground.data }, { on := 12, ground := Ground.gcOnly Departure.lateStores }], guard := none }) (v := .int .i64 PP.1) rfl (by kernel_rfl) (by kernel_rfl) (by kernel_rfl) (fun _ _ _ h => h) (by decide) (hS5.out) (by rfl) ?_ ?_
            · intro W9; go_simp
            try simp only [Act.put, List.setIfInBounds_toArray, List.set_cons_zero, List.set_cons_succ]
            refine wpAnyK_store (i := 12) (o := { dst := none, op := Op.store 24 (Operand.tmp 9) (Operand.tmp 44), type := 0, pos := "law.go:119", after := #[{ on := 11, ground := Ground.data }, { on := 9, ground := Ground.data }, { on := 7, ground := Ground.chain }, { on := 0, ground := Ground.phase }, { on := 1, ground := Ground.phase }, { on := 2, ground := Ground.phase }, { on := 3, ground := Ground.phase }, { on := 4, ground := Ground.phase }, { on := 5, ground := Ground.phase }, { on := 6, ground := Ground.phase }, { on := 7, ground := Ground.phase }, { on := 8, ground := Ground.phase }, { on := 9, ground := Ground.phase }, { on := 10, ground := Ground.textOnly Departure.lateStores }, { on := 11, ground := Ground.phase }], guard := none }) (w' := ((w3.setCell ⟨(wr.heap.size + 1), 0, none⟩ (.int .i64 PP.2.next)).setCell ⟨(wr.heap.size + 1), 1, none⟩ (.slice A3 n3 c3))) (by kernel_rfl) rfl (by rfl) (by first | (go_simp; done) | (go_simp; rfl)) (by kernel_rfl) ?_
            try simp only [Act.put]
            refine wpAnyK_late (i := 13) (o := { dst := some 10, op := Op.assign (Operand.tmp 45), type := 27, pos := "law.go:119", after := #[{ on := 10, ground := Ground.data }, { on := 12, ground := Ground.chain }, { on := 0, ground := Ground.phase }, { on := 1, ground := Ground.phase }, { on := 2, ground := Ground.phase }, { on := 3, ground := Ground.phase }, { on := 4, ground := Ground.phase }, { on := 5, ground := Ground.phase }, { on := 6, ground := Ground.phase }, { on := 7, ground := Ground.phase }, { on := 8, ground := Ground.phase }, { on := 9, ground := Ground.phase }, { on := 10, ground := Ground.phase }, { on := 11, ground := Ground.phase }, { on := 12, ground := Ground.phase }], guard := none }) (v := .int .i64 PP.1) (w' := ((w3.setCell ⟨(wr.heap.size + 1), 0, none⟩ (.int .i64 PP.2.next)).setCell ⟨(wr.heap.size + 1), 1, none⟩ (.slice A3 n3 c3))) (by kernel_rfl) rfl (by rfl) (by first | (go_simp; done) | (go_simp; rfl)) (by kernel_rfl) ?_
            try simp only [Act.put, List.setIfInBounds_toArray, List.set_cons_zero, List.set_cons_succ]
            refine wpAnyK_done (by kernel_rfl) ?_ _
            refine NoPanic.normal ?_
            go_wp2_with fail
            go_meet
            exact ⟨_, rfl, rfl, HF3.out⟩
        · refine if_exec (by rfl) (v := .pointer (some ⟨wr.heap.size, 0, none⟩)) (w' := (wr.alloc (.cells #[.int .i64 0, .slice none 0 0] 24)).drew) (by first | (go_simp; done) | (go_simp; rfl)) ?_
          refine ⟨fun _ _ => hS1.out, ?_⟩
          try simp only [Act.put, List.setIfInBounds_toArray, List.set_cons_zero, List.set_cons_succ]
          refine wpAnyK_one (i := 6) (o := { dst := some 42, op := Op.buildSlice 30 1 #[(0, Operand.tmp 41)], type := 30, pos := "law.go:119", after := #[{ on := 5, ground := Ground.data }], guard := none }) (v := .slice (some ⟨wr.heap.size + 1, 0, none⟩) 1 1) (w' := ((wr.alloc (.cells #[.int .i64 0, .slice none 0 0] 24)).alloc (.cells #[.int .i64 1, .string (azL q), .string ⟨#[]⟩, .string ⟨#[]⟩, .int .i64 1, .int .i64 0, .bool false, .int .i64 0, .int .i64 0, .int .i64 0, .bool false, .string ⟨#[]⟩, .string ⟨#[]⟩] 45)).drew) (by kernel_rfl) rfl (by rfl) (by first | (go_simp; done) | (go_simp; rfl)) (hS3.out) ?_
          try simp only [Act.put, List.setIfInBounds_toArray, List.set_cons_zero, List.set_cons_succ]
          refine wpAnyK_step (i := 7) (o := { dst := some 43, op := Op.call { callee := Callee.value (Operand.func 9), args := #[Operand.tmp 36, Operand.tmp 42], argTypes := #[24, 30] }, type := 28, pos := "law.go:119", after := #[{ on := 0, ground := Ground.data }, { on := 6, ground := Ground.data }], guard := none }) (E := True) (by kernel_rfl) rfl (by rfl) ?_
          refine step_call rfl (f := 9) (by go_simp) ((HCALL.out _ _ B3.out E3.out).mono ?_)
          rintro e9 w3 ⟨⟨A3, n3, c3⟩, ys, rfl, hat, hys, hb3⟩
          have HB3 := ShutK.mk (B3.out.trans (hb3.mono B3.out.size))
          have hS5 : ShutK ((fun W : World => W.cell? ⟨P, 0, none⟩ = some (.int .i64 1) ∧ W.cell? ⟨P, 1, none⟩ = some (.slice A1 n1 c1)) w3) := ⟨HSB.out _ HB3.out⟩
          refine ⟨_, rfl, fun _ _ => hS5.out, ?_⟩
          try simp only [Act.put, List.setIfInBounds_toArray, List.set_cons_zero, List.set_cons_succ]
          have hz3 := X3.out.below hb3 X3.out.lt
          have hle : wr.heap.size ≤ wr.heap.size := by omega
          have HF3 := ShutK.mk (GotS.later HB3.out hz3 hle hat hys)
          have z0 := hz3.cell 0
          have z1 := hz3.cell 1
          have y0 := hz3.frozen 0
          have y1 := hz3.frozen 1
          clear hb3 hat hz3 hle
          refine wpAnyK_takeW (i := 8) (oi := { dst := some 35, op := Op.move (Operand.tmp 43), type := 28, pos := "law.go:119", after := #[{ on := 7, ground := Ground.data }], guard := none }) (v := .tuple #[.agg #[.int .i64 PP.2.next, .slice A3 n3 c3], .int .i64 PP.1]) rfl (by kernel_rfl) (by kernel_rfl) (by kernel_rfl) (fun _ _ _ h => h) (by decide) (hS5.out) (by rfl) ?_ ?_
          · intro W9; go_simp
          try simp only [Act.put, List.setIfInBounds_toArray, List.set_cons_zero, List.set_cons_succ]
          refine wpAnyK_takeW (i := 9) (oi := { dst := some 44, op := Op.extract (Operand.tmp 35) 0, type := 24, pos := "law.go:119", after := #[{ on := 8, ground := Ground.data }], guard := none }) (v := .agg #[.int .i64 PP.2.next, .slice A3 n3 c3]) rfl (by kernel_rfl) (by kernel_rfl) (by kernel_rfl) (fun _ _ _ h => h) (by decide) (hS5.out) (by rfl) ?_ ?_
          · intro W9; go_simp
          try simp only [Act.put, List.setIfInBounds_toArray, List.set_cons_zero, List.set_cons_succ]
          refine wpAnyK_takeW (i := 10) (oi := { dst := some 45, op := Op.extract (Operand.tmp 35) 1, type := 27, pos := "law.go:119", after := #[{ on := 8, ground := Ground.data }, { on := 12, ground := Ground.gcOnly Departure.lateStores }], guard := none }) (v := .int .i64 PP.1) rfl (by kernel_rfl) (by kernel_rfl) (by kernel_rfl) (fun _ _ _ h => h) (by decide) (hS5.out) (by rfl) ?_ ?_
          · intro W9; go_simp
          try simp only [Act.put, List.setIfInBounds_toArray, List.set_cons_zero, List.set_cons_succ]
          refine wpAnyK_store (i := 12) (o := { dst := none, op := Op.store 24 (Operand.tmp 9) (Operand.tmp 44), type := 0, pos := "law.go:119", after := #[{ on := 11, ground := Ground.data }, { on := 9, ground := Ground.data }, { on := 7, ground := Ground.chain }, { on := 0, ground := Ground.phase }, { on := 1, ground := Ground.phase }, { on := 2, ground := Ground.phase }, { on := 3, ground := Ground.phase }, { on := 4, ground := Ground.phase }, { on := 5, ground := Ground.phase }, { on := 6, ground := Ground.phase }, { on := 7, ground := Ground.phase }, { on := 8, ground := Ground.phase }, { on := 9, ground := Ground.phase }, { on := 10, ground := Ground.textOnly Departure.lateStores }, { on := 11, ground := Ground.phase }], guard := none }) (w' := ((w3.setCell ⟨wr.heap.size, 0, none⟩ (.int .i64 PP.2.next)).setCell ⟨wr.heap.size, 1, none⟩ (.slice A3 n3 c3))) (by kernel_rfl) rfl (by rfl) (by first | (go_simp; done) | (go_simp; rfl)) (by kernel_rfl) ?_
          try simp only [Act.put]
          refine wpAnyK_late (i := 13) (o := { dst := some 10, op := Op.assign (Operand.tmp 45), type := 27, pos := "law.go:119", after := #[{ on := 10, ground := Ground.data }, { on := 12, ground := Ground.chain }, { on := 0, ground := Ground.phase }, { on := 1, ground := Ground.phase }, { on := 2, ground := Ground.phase }, { on := 3, ground := Ground.phase }, { on := 4, ground := Ground.phase }, { on := 5, ground := Ground.phase }, { on := 6, ground := Ground.phase }, { on := 7, ground := Ground.phase }, { on := 8, ground := Ground.phase }, { on := 9, ground := Ground.phase }, { on := 10, ground := Ground.phase }, { on := 11, ground := Ground.phase }, { on := 12, ground := Ground.phase }], guard := none }) (v := .int .i64 PP.1) (w' := ((w3.setCell ⟨wr.heap.size, 0, none⟩ (.int .i64 PP.2.next)).setCell ⟨wr.heap.size, 1, none⟩ (.slice A3 n3 c3))) (by kernel_rfl) rfl (by rfl) (by first | (go_simp; done) | (go_simp; rfl)) (by kernel_rfl) ?_
          try simp only [Act.put, List.setIfInBounds_toArray, List.set_cons_zero, List.set_cons_succ]
          refine wpAnyK_done (by kernel_rfl) ?_ _
          refine NoPanic.normal ?_
          go_wp2_with fail
          go_meet
          exact ⟨_, rfl, rfl, HF3.out⟩
      case rest =>
        obtain ⟨X, rfl, rfl, ⟨A3, n3, c3⟩, ys, hst, hys, hbw, hX⟩ := hcut
        have hM := HM.out.step hbw
        have hw := HAP.out
        have hcq := hM.had.cell q
        rw [hM.marks.2 q hq26] at hcq
        have hfq := hM.had.frozen q
        have hql : (q : Int) < 26 := by omega
        have hpl := hM.st.blk.lt
        have hhl := hM.had.lt
        have HM2 := ShutK.mk hM
        have HST := ShutK.mk hst
        have HYS := ShutK.mk hys
        have hXl := hst.blk.lt
        clear hM hst hys hS0 hS1 hS2 hS3 hS4 HSB B2 B3 B4 E2 E3 E4 X3 X4 HCALL HAP dl haz HM
        by_cases hmem : q ∈ ls
        · have hwl : wantL ls q = 4 := by rw [wantL, if_pos hmem]
          rw [hwl, if_neg (by decide)] at hw
          subst hw
          rw [decide_eq_true hmem] at hcq
          clear hwl hbw
          go_wp2_with (go_at_call 11; refine (num_ _ _).mono ?_; rintro e3 w3 ⟨rfl, rfl⟩)
          go_roundg (n - (j + 1))
          case measure => have := HJ.out; omega
          case rel => exact ⟨j + 1, ls, cs, ⟨A1, n1, c1⟩, xs, by have := HJ.out; omega, by go_num, rfl, HM2.out⟩
        · rw [decide_eq_false hmem] at hcq
          by_cases hlen : ls.length = 20
          · have hwl : wantL ls q = 6 := by rw [wantL, if_neg hmem, if_pos hlen]
            rw [hwl, if_neg (by decide)] at hw
            subst hw
            have hlb : ((ls.length : Int) == 20) = true := by simp [hlen]
            have HLB := ShutK.mk hlen
            clear hwl hbw hlen
            go_wp2_with (go_at_call 11; refine (num_ _ _).mono ?_; rintro e3 w3 ⟨rfl, rfl⟩)
            go_roundg (n - (j + 1))
            case measure => have := HJ.out; omega
            case rel => exact ⟨j + 1, ls, cs, ⟨A1, n1, c1⟩, xs, by have := HJ.out; omega, by go_num, rfl, HM2.out⟩
          · have hwl : wantL ls q = 0 := by rw [wantL, if_neg hmem, if_neg hlen]
            rw [hwl, if_pos rfl] at hw
            subst hw
            have hl20 : ls.length + 1 ≤ 20 := by have := HM2.out.len; omega
            have hlb : ((ls.length : Int) == 20) = false := by
              have : ¬ (ls.length : Int) = 20 := by omega
              simpa using this
            have hHX : H ≠ X := by have := HM2.out.had; intro e; subst e; unfold Blk at this; have h2 := HST.out.blk; unfold Blk at h2; rw [this] at h2; injection h2 with h2; injection h2 with _ h2; exact absurd h2 (by decide)
            have hPX : P ≠ X := by have := HM2.out.ne; have h1 := HMW.out; omega
            have hX0 := HST.out.blk.cell 0
            have hX1 := HST.out.blk.cell 1
            have p0 := HM2.out.st.blk.cell 0
            have p1 := HM2.out.st.blk.cell 1
            have f0 := HM2.out.st.blk.frozen 0
            have f1 := HM2.out.st.blk.frozen 1
            simp only [List.getElem?_toArray, List.getElem?_cons_zero, List.getElem?_cons_succ] at hX0 hX1 p0 p1
            have hin : MkIn w P H (insL ls q) (cs.setIfInBounds q (.bool true)) ⟨A3, n3, c3⟩ ys (((wc.setCell ⟨H, q, none⟩ (.bool true)).setCell ⟨P, 0, none⟩ (.int .i64 1)).setCell ⟨P, 1, none⟩ (.slice A3 n3 c3)) := by
              have hm := HM2.out
              have hh := hm.had
              have hnh : NoStr cs := hm.marks.nostr
              have hst2 := HST.out.far hh hnh (fun e => hHX e.symm) q (.bool true)
              have hP2 := (hm.st.far hh hnh hm.ne q (.bool true)).blk
              have hh2 := hh.set_ q (.bool true)
              refine ⟨((hm.bel.setCell (p := ⟨H, q, none⟩) hm.ge2 _).setCell (p := ⟨P, 0, none⟩) hm.ge _).setCell (p := ⟨P, 1, none⟩) hm.ge _, ins_ris hm.ris hq26 hmem, by rw [ins_len]; exact hl20, hm.marks.put hq26, (hh2.far (by show H ≠ P; exact fun e => hm.ne e.symm) _).far (by show H ≠ P; exact fun e => hm.ne e.symm) _, put_state (n0 := 1) (s0 := ⟨A1, n1, c1⟩) hst2.obs hP2, HYS.out, hm.ge, hm.ge2, hm.ne⟩
            have HIN2 := ShutK.mk hin
            have HLN := ShutK.mk (ins_len ls q)
            clear hin hwl hlen hmem hbw HYS HST HM2
            go_wp2_with (go_at_call 11; refine (num_ _ _).mono ?_; rintro e3 w3 ⟨rfl, rfl⟩)
            go_roundg (n - (j + 1))
            case measure => have := HJ.out; omega
            case rel => exact ⟨j + 1, insL ls q, cs.setIfInBounds q (.bool true), ⟨A3, n3, c3⟩, ys, by have := HJ.out; omega, by go_num, by rw [HLN.out]; go_num, HIN2.out⟩
    · have hjn : ¬ (j : Int) < (n : Int) := by omega
      have p0 := HM.out.st.blk.cell 0
      have p1 := HM.out.st.blk.cell 1
      obtain ⟨A1, n1, c1⟩ := s
      simp only [List.getElem?_toArray, List.getElem?_cons_zero, List.getElem?_cons_succ] at p0 p1
      have hn1 : n1 = ls.length := by
        have h1 := HM.out.st.obs.row.len
        have h2 := congrArg List.length HM.out.obs
        simp only [obsOf, List.length_map] at h2
        exact h1.trans h2
      clear HJ HZ
      go_wp2_with fail
      go_loopg [12] ls.length (fun k i wr => SeeR w P H ls cs ⟨A1, n1, c1⟩ xs k i wr)
      case atStart => exact ⟨0, by omega, rfl, HM.out⟩
      case round =>
        obtain ⟨j2, hj2, rfl, hm2⟩ := hrel
        have HM2 := ShutK.mk hm2
        have HJ2 := ShutK.mk hj2
        have q0 := hm2.st.blk.cell 0
        have q1 := hm2.st.blk.cell 1
        simp only [List.getElem?_toArray, List.getElem?_cons_zero, List.getElem?_cons_succ] at q0 q1
        clear hm2 hj2 p0 p1
        by_cases hlt2 : j2 + 1 < n1
        · have hxl : xs.length = n1 := HM2.out.st.obs.row.len.symm
          have hx1 : j2 < xs.length := by omega
          have hx2 : j2 + 1 < xs.length := by omega
          obtain ⟨b, o, e', hbb, c0, r1, r2, r3, r4, r5⟩ := HM2.out.st.obs.row.lst.atO hx1
          obtain ⟨b2, o2, e2, hbb2, c2, t1, t2, t3, t4, t5⟩ := HM2.out.st.obs.row.lst.atO hx2
          clear r1 r2 r3 r4 r5 t1 t2 t3 t4 t5 hbb hbb2
          have e3 : (some ⟨b, o, none⟩ : Option Addr) = some ⟨b2, o2, none⟩ := e'.symm.trans e2
          injection e3 with e3
          injection e3 with e4 e5
          subst e4 e5
          have e6 : A1 = some ⟨b, o, none⟩ := e'
          have ho1 : xs[j2].o.name = azL (ls[j2]'(by omega)) := by
            have := congrArg (fun l => (l[j2]?).map (·.name)) HM2.out.obs
            simp only [obsOf, List.getElem?_map, List.getElem?_eq_getElem hx1, List.getElem?_eq_getElem (show j2 < ls.length by omega), Option.map_some, Option.some.injEq] at this
            exact this
          have ho2 : xs[j2 + 1].o.name = azL (ls[j2 + 1]'(by omega)) := by
            have := congrArg (fun l => (l[j2 + 1]?).map (·.name)) HM2.out.obs
            simp only [obsOf, List.getElem?_map, List.getElem?_eq_getElem hx2, List.getElem?_eq_getElem (show j2 + 1 < ls.length by omega), Option.map_some, Option.some.injEq] at this
            exact this
          have hup : ls[j2]'(by omega) < ls[j2 + 1]'(by omega) := List.pairwise_iff_getElem.1 HM2.out.ris.up _ _ _ _ (by omega)
          have hlt1 := HM2.out.ris.lt _ (List.getElem_mem (show j2 < ls.length by omega))
          have hlt2' := HM2.out.ris.lt _ (List.getElem_mem (show j2 + 1 < ls.length by omega))
          rw [ho1] at c0
          rw [ho2] at c2
          generalize ls[j2]'(by omega) = u1 at *
          generalize ls[j2 + 1]'(by omega) = u2 at *
          have hcmp := az_geq hlt1 hlt2' hup
          generalize azL u1 = nm1 at *
          generalize azL u2 = nm2 at *
          have h20 := HM2.out.len
          have hi1 : (j2 : Int) + 1 < (n1 : Int) := by omega
          have hi2 : (j2 : Int) < (n1 : Int) := by omega
          have hi3 : (j2 : Int) ≤ (n1 : Int) := by omega
          have hw1 : IntKind.i64.wrap ((j2 : Int) + 1 - 1) = (j2 : Int) := by rw [IntKind.wrap_i64]; omega
          subst e6
          clear ho1 ho2 hup hlt1 hlt2' e' e2 hxl hx1 hx2
          go_wp2_with fail
          go_quiet (fail)
          go_wp2_with fail
          go_roundg (ls.length - (j2 + 1))
          case measure => have := HJ2.out; omega
          case rel => exact ⟨j2 + 1, by have := HJ2.out; omega, by go_num, HM2.out.step (below_drewN (Below.refl _ _) _)⟩
        · have hjn2 : ¬ (j2 : Int) + 1 < (n1 : Int) := by omega
          subst hn1
          go_wp2_with fail
          go_ret
          exact ⟨by simp, HM2.out.bel⟩
end Go.Proofs.Ytdjmjckmbclhiaa
