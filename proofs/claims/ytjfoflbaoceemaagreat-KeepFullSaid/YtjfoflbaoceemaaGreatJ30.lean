/- . -/
import Derived.Test.YtjfoflbaoceemaaGreatJ28
import Derived.Test.YtjfoflbaoceemaaGreatJ29
import Derived.Test.YtjfoflbaoceemaaGreatJ16
import Derived.Deep.RegionHeld3
import Derived.Deep.RegionWith
import Derived.BigQuiet
set_option maxRecDepth 4000
namespace Go.Proofs.YtjfoflbaoceemaaGreat
open Go.RowKit
section
variable {B b g : Nat} {next : Int} {s : Sv} {xs : List Oc} {W W1 W2 : World} {q : Nat}
theorem OwnSt.ins (h : OwnSt B b next s xs W) (k : Below W.heap.size W W1) {v' : Value} {i : Nat} {x : Oc} (ho : Own W2 B eO 77 v' (oinsP xs i x)) (hg : W1.grownBy W2 s.val.ownBlock) (hv : v'.ownBlock = s.val.ownBlock ∨ ∃ N, v'.ownBlock = some N ∧ W1.heap.size ≤ N) (hx : ∀ W' K, OcK W' K x) :
    ∃ s' : Sv, v' = .slice s'.a s'.n s'.c ∧ W2.cell? ⟨b, 1, none⟩ = some (.slice s.a s.n s.c) ∧ W2.frozen? ⟨b, 1, none⟩ = false ∧ OwnSt B b next s' (oinsP xs i x) (W2.setCell ⟨b, 1, none⟩ (.slice s'.a s'.n s'.c)) ∧ Below B W (W2.setCell ⟨b, 1, none⟩ (.slice s'.a s'.n s'.c)) := by
  have h1 := h.below k
  have hB1 := Nat.le_trans h.size k.size
  have kg : ∀ i, i < W1.heap.size → s.val.ownBlock ≠ some i → W2.heap[i]? = W1.heap[i]? := fun i hi hne => hg.block i hi fun e => hne e.symm
  have hblk : Blk W2 b 54 #[.int .i64 next, .slice s.a s.n s.c] := (kg b h1.blk.lt h1.nb).trans h1.blk
  have hbel : Below B W W2 := (k.mono h.size).trans ((Below.refl _ _).grown hg hB1 fun g e => (own_blk h1.own e).1)
  obtain ⟨s', rfl, _⟩ := ho.k
  have hbs : b < W1.heap.size := h1.blk.lt
  have nb : s'.val.ownBlock ≠ some b := by
    rcases hv with e | ⟨N, e, hN⟩
    · rw [e]; exact h1.nb
    · rw [e]; intro e2; injection e2 with e2; omega
  have hk2 : Keep (fun i _ => i ≠ b) W2 (W2.setCell ⟨b, 1, none⟩ (.slice s'.a s'.n s'.c)) := (Keep.refl W2).setCell (fun _ _ h => h rfl) _
  refine ⟨s', rfl, hblk.cell 1, hblk.frozen 1, ⟨h.outb, ?_, own_far ho nb _, nb, fun y hy => ?_⟩, hbel.setCell (by show B ≤ b; exact h.outb) _⟩
  · have := hblk.set_ 1 (.slice s'.a s'.n s'.c)
    simpa using this
  · have hy2 : OcK W2 (fun i => i ≠ b ∧ s'.val.ownBlock ≠ some i ∧ B ≤ i) y := by
      have hm : y ∈ xs ∨ y = x := by
        unfold oinsP at hy
        rcases List.mem_append.1 hy with h | h
        · exact .inl (List.mem_of_mem_take h)
        · rcases List.mem_cons.1 h with h | h
          · exact .inr h
          · exact .inl (List.mem_of_mem_drop h)
      rcases hm with hm | rfl
      · have h3 := h1.rows y hm
        have kp : Keep (fun i _ => s.val.ownBlock ≠ some i) W1 W2 := (Keep.refl W1).grown hg fun g o e _ hn => hn e
        refine OcK.keep (w := W1) (K := fun i => (i ≠ b ∧ s.val.ownBlock ≠ some i ∧ B ≤ i) ∧ i < W1.heap.size) (h3.more fun i hi h => ⟨h, hi⟩) kp (fun i _ _ hi => hi.1.2.1) |>.more fun i _ hi => ⟨hi.1.1, ?_, hi.1.2.2⟩
        rcases hv with e | ⟨N, e, hN⟩
        · rw [e]; exact hi.1.2.1
        · rw [e]; intro e2; injection e2 with e2; have := hi.2; omega
      · exact hx _ _
    exact hy2.keep hk2 fun i _ _ hi => hi.1
theorem spot_at_o {l : List Ob} {n : ByteArray} {j : Nat} (hj : j ≤ l.length) (hb : ∀ q (_ : q < j) (hl : q < l.length), cmpS l[q].name n < 0) (he : ∀ h : j < l.length, 0 ≤ cmpS l[j].name n) : spotO l n = j := by
  unfold spotO
  rcases Nat.lt_or_ge j l.length with h | h
  · exact (List.findIdx_eq h).2 ⟨by have := he h; simp; omega, fun q hq => by have := hb q hq (by omega); simp; omega⟩
  · obtain rfl : j = l.length := by omega
    refine List.findIdx_eq_length.2 fun x hx => ?_
    obtain ⟨q, hq, rfl⟩ := List.getElem_of_mem hx
    have := hb q hq hq
    simp; omega
theorem obs_ins (xs : List Oc) (i : Nat) (x : Oc) : obsOf (oinsP xs i x) = (obsOf xs).take i ++ x.o :: (obsOf xs).drop i := by
  simp [obsOf, oinsP, List.map_take, List.map_drop]
structure MkS (B b : Nat) (next : Int) (s : Sv) (xs : List Oc) (f : Ef) (w W : World) : Prop where
  st : OwnSt B b next s xs W
  bel : Below w.heap.size w W
  box : Blk W w.heap.size 46 f.cells
section
variable {f : Ef} {w : World}
theorem MkS.step (h : MkS B b next s xs f w W) (k : Below W.heap.size W W1) : MkS B b next s xs f w W1 := ⟨h.st.below k, h.bel.trans (k.mono h.bel.size), h.box.below k h.box.lt⟩
theorem MkS.drew (h : MkS B b next s xs f w W) : MkS B b next s xs f w W.drew := h.step (Below.refl _ _).drew
theorem MkS.first (h : OwnSt B b next s xs w) (f : Ef) : MkS B b next s xs f w (w.alloc (.cells f.cells 46)) := ⟨h.below (alloc_below _ _), alloc_below _ _, Blk.new _ _ _⟩
abbrev Ld3 (b m : Nat) (next : Int) (A : Option Addr) (n c : Nat) (o : ByteArray) (W : World) : Prop := W.cell? ⟨b, 0, none⟩ = some (.int .i64 next) ∧ W.cell? ⟨b, 1, none⟩ = some (.slice A n c) ∧ W.cell? ⟨m, 1, none⟩ = some (.string o)
theorem MkS.ld3 {A : Option Addr} {n c : Nat} (h : MkS B b next ⟨A, n, c⟩ xs f w W) : Ld3 b w.heap.size next A n c f.obj W := ⟨h.st.blk.cell 0, h.st.blk.cell 1, h.box.cell 1⟩
theorem OwnSt.beside {T : TypeId} {cs : Array Value} (h : OwnSt B b next s xs W) (hg : W.grownBy W2 s.val.ownBlock) {g : Nat} (hb : Blk W g T cs) (hT : T ≠ 77) : Blk W2 g T cs :=
  (hg.block g hb.lt fun e => by
    obtain ⟨_, _, cur, hc⟩ := own_blk h.own e.symm
    unfold Blk at hb
    rw [hb] at hc
    injection hc with hc
    injection hc with _ hc
    exact hT hc).trans hb
abbrev Ld4 (b m : Nat) (A : Option Addr) (n c : Nat) (o : ByteArray) (en l : Int) (W : World) : Prop := W.cell? ⟨b, 1, none⟩ = some (.slice A n c) ∧ W.cell? ⟨m, 1, none⟩ = some (.string o) ∧ W.cell? ⟨m, 4, none⟩ = some (.int .i64 en) ∧ W.cell? ⟨m, 5, none⟩ = some (.int .i64 l)
theorem MkS.ld4 {A : Option Addr} {n c : Nat} (h : MkS B b next ⟨A, n, c⟩ xs f w W) : Ld4 b w.heap.size A n c f.obj f.n f.limit W := ⟨h.st.blk.cell 1, h.box.cell 1, h.box.cell 4, h.box.cell 5⟩
theorem MkS.ld4_ {A : Option Addr} {n c : Nat} (h : MkS B b next ⟨A, n, c⟩ xs f w W) (hg : W.grownBy W2 (Sv.val ⟨A, n, c⟩).ownBlock) : Ld4 b w.heap.size A n c f.obj f.n f.limit W2 := by
  have h1 := h.st.beside hg h.st.blk (by decide)
  have h2 := h.st.beside hg h.box (by decide)
  exact ⟨h1.cell 1, h2.cell 1, h2.cell 4, h2.cell 5⟩
end
def SpotR (B b : Nat) (next : Int) (s : Sv) (xs : List Oc) (f : Ef) (w : World) (k : Nat) (i : Value) (wr : World) : Prop :=
  ∃ j, j + k = xs.length ∧ i = .int .i64 (j : Int) ∧ (∀ q (_ : q < j) (hl : q < xs.length), cmpS xs[q].o.name f.obj < 0) ∧ MkS B b next s xs f w wr
set_option maxHeartbeats 8000000 in
theorem add_object_o (h : OwnSt B b next s xs W) (hx : xs.length ≤ 1000) (f : Ef) :
    Calls Tryz.prog 146 #[.pointer (some ⟨b, 0, none⟩), f.val_] W (Done B b W ((makeO (obsOf xs) f).1, ⟨next, (makeO (obsOf xs) f).2⟩)) := by
  have hM0 := MkS.first h f
  have hBW := h.size
  obtain ⟨A, n, c⟩ := s
  have hn : n = xs.length := h.cap.1
  have hf := fun W' (hm : MkS B b next ⟨A, n, c⟩ xs f W W') => find_o (A := A) (c := c) hm.st.row hn.symm (by omega) next f.obj
  have hz := idx_nonneg (isN f.obj) (obsOf xs)
  have hM0d := hM0.drew
  have HM0 := ShutW.mk hM0
  have HF := ShutW.mk hf
  have HN := ShutW.mk hn
  have hS0 := hM0d.ld3
  clear h hf hM0 hM0d
  have hlo : (obsOf xs).length = n := by rw [hn]; simp [obsOf]
  by_cases h1 : (obsOf xs).any (isN f.obj) = true
  · have hw : makeO (obsOf xs) f = (4, obsOf xs) := by rw [makeO, if_pos h1]
    rw [hw]
    rw [h1] at hz
    clear hw h1 hx hn hlo
    generalize idxI (isN f.obj) (obsOf xs) = z at *
    obtain ⟨k, o, ky, v, en, l, t, ⟨m0, m1, m2, m3, m4, m5⟩⟩ := f
    go_enter Tryz.func146, Tryz.ntmps146
    go_wp2_with fail
    go_region_held3 (fun W' : World => Ld3 b W.heap.size next A n c o W')
      (first | exact hS0 | exact hS1)
      ((go_at_call 148; refine (HF.out _ HM0.out.drew).mono ?_; rintro e w1 ⟨rfl, hb1⟩; have H1 := ShutW.mk (HM0.out.drew.step hb1); have hS1 := H1.out.ld3; clear hb1))
    go_wp2_with fail
    go_ret
    exact ⟨_, xs, rfl, H1.out.st, H1.out.bel.mono hBW, rfl⟩
  have hzf : decide (0 ≤ idxI (isN f.obj) (obsOf xs)) = false := by rw [hz]; simpa using h1
  clear hz
  by_cases h2 : 20 ≤ (obsOf xs).length
  · have hw : makeO (obsOf xs) f = (6, obsOf xs) := by rw [makeO, if_neg h1, if_pos h2]
    rw [hw]
    rw [hlo] at h2
    have hn20 : (20 : Int) ≤ (n : Int) := by omega
    clear hw h1 hx hn hlo
    generalize idxI (isN f.obj) (obsOf xs) = z at *
    obtain ⟨k, o, ky, v, en, l, t, ⟨m0, m1, m2, m3, m4, m5⟩⟩ := f
    go_enter Tryz.func146, Tryz.ntmps146
    go_wp2_with fail
    go_region_held3 (fun W' : World => Ld3 b W.heap.size next A n c o W')
      (first | exact hS0 | exact hS1)
      ((go_at_call 148; refine (HF.out _ HM0.out.drew).mono ?_; rintro e w1 ⟨rfl, hb1⟩; have H1 := ShutW.mk (HM0.out.drew.step hb1); have hS1 := H1.out.ld3; clear hb1))
    obtain ⟨_, e1, _⟩ := id hS1
    go_wp2_with fail
    go_ret
    exact ⟨_, xs, rfl, H1.out.st, H1.out.bel.mono hBW, rfl⟩
  · have hw : makeO (obsOf xs) f = (0, (obsOf xs).take (spotO (obsOf xs) f.obj) ++ ⟨f.obj, f.n, f.limit, [], [], []⟩ :: (obsOf xs).drop (spotO (obsOf xs) f.obj)) := by rw [makeO, if_neg h1, if_neg h2]
    rw [hw]
    rw [hlo] at h2
    have hn20 : ¬ (20 : Int) ≤ (n : Int) := by omega
    clear hw h1
    generalize idxI (isN f.obj) (obsOf xs) = z at *
    obtain ⟨k, o, ky, v, en, l, t, ⟨m0, m1, m2, m3, m4, m5⟩⟩ := f
    have HLO := ShutW.mk hlo
    clear hlo
    have hn2 : n ≤ 20 := by omega
    clear hn hx h2
    go_enter Tryz.func146, Tryz.ntmps146
    go_wp2_with fail
    go_region_held3 (fun W' : World => Ld3 b W.heap.size next A n c o W')
      (first | exact hS0 | exact hS1)
      ((go_at_call 148; refine (HF.out _ HM0.out.drew).mono ?_; rintro e w1 ⟨rfl, hb1⟩; have H1 := ShutW.mk (HM0.out.drew.step hb1); have hS1 := H1.out.ld3; clear hb1))
    obtain ⟨_, e1, _⟩ := id hS1
    go_wp2_with fail
    clear e1 hS1 hS0
    go_loopg [5] n (fun m i wr => SpotR B b next ⟨A, n, c⟩ xs ⟨k, o, ky, v, en, l, t, ⟨m0, m1, m2, m3, m4, m5⟩⟩ W m i wr)
    case atStart => exact ⟨0, by have := HN.out; omega, rfl, fun q hq => absurd hq (Nat.not_lt_zero q), H1.out⟩
    case round =>
      obtain ⟨j, hj, rfl, h1, hm⟩ := hrel
      have HJ := ShutW.mk hj
      have HB := ShutW.mk h1
      have HM := ShutW.mk hm
      obtain ⟨_, e1, e2⟩ := hm.ld3
      simp only at e2
      clear hj h1
      by_cases hlt : j < n
      · have hjx : j < xs.length := by rw [← HN.out]; exact hlt
        obtain ⟨g, e', _, _, _, hgl, _⟩ := hm.st.slot (by omega)
        simp only at e'
        subst e'
        obtain ⟨c0, r1, r2, r3, r4, r5⟩ := hm.st.cells hjx rfl
        clear r1 r2 r3 r4 r5
        have hk : ∀ w : World, Calls Tryz.prog 140 #[.string xs[j].o.name, .string o] w fun e w' => e = .returned (.int .i64 (cmpS xs[j].o.name o)) ∧ w = w' := fun w => keys_ _ _ w
        have hup : cmpS xs[j].o.name o < 0 → ∀ q (_ : q < j + 1) (hl : q < xs.length), cmpS xs[q].o.name o < 0 := fun h q hq hl => by
          rcases Nat.lt_or_ge q j with h5 | h5
          · exact HB.out q h5 hl
          · obtain rfl : q = j := by omega
            exact h
        have HUP := ShutW.mk hup
        have HK := ShutW.mk hk
        have hnm : ∀ h : j < (obsOf xs).length, (obsOf xs)[j].name = xs[j].o.name := fun h => by simp [obsOf]
        have HNM := ShutW.mk hnm
        have g1 : decide ((j : Int) < (n : Int)) = true := decide_eq_true (by omega)
        have g2 : decide (j < n) = true := decide_eq_true hlt
        generalize hzz : cmpS xs[j].o.name o = zc at *
        have HZZ := ShutW.mk hzz
        generalize hnn : xs[j].o.name = nm at *
        clear hup hk hnm hzz hnn hjx
        by_cases hc : zc < 0
        · have g3 : decide (zc < 0) = true := decide_eq_true hc
          go_wp2_with fail
          go_quiet ((go_at_call 140; exact Calls.quiet_of_same ((HK.out _).mono fun _ _ h => ⟨h.1, h.2.symm⟩)))
          go_wp2_with fail
          go_roundg (n - (j + 1))
          case measure => have := HJ.out; have := HN.out; omega
          case rel => exact ⟨j + 1, by have := HN.out; have := HJ.out; omega, by go_num, HUP.out hc, hm.step (below_drewN (Below.refl _ wr) _)⟩
        · have g3 : decide (zc < 0) = false := decide_eq_false hc
          have HE : ∀ h : j < (obsOf xs).length, 0 ≤ cmpS (obsOf xs)[j].name o := fun h => by rw [HNM.out h, HZZ.out]; omega
          go_wp2_with fail
          go_quiet ((go_at_call 140; exact Calls.quiet_of_same ((HK.out _).mono fun _ _ h => ⟨h.1, h.2.symm⟩)))
          go_wp2_with fail
          have HM5 := ShutW.mk (hm.step (below_drewN (Below.refl _ wr) nq))
          generalize wr.drewN nq = w5 at *
          have hal := alloc_below w5 (.cells (Oc.cells ⟨⟨o, en, l, [], [], []⟩, ⟨none, 0, 0⟩, ⟨none, 0, 0⟩, ⟨none, 0, 0⟩⟩) 77)
          have hst := HM5.out.st.below hal.drew
          have hins := oinsert_ (x := ⟨⟨o, en, l, [], [], []⟩, ⟨none, 0, 0⟩, ⟨none, 0, 0⟩, ⟨none, 0, 0⟩⟩) (i := j) (vb := w5.heap.size) hst.own hst.size (by have := HN.out; omega) (by have := HN.out; have := HJ.out; omega) (Blk.new w5 _ _) (fun e => by have := (own_blk HM5.out.st.own e).2.1; omega)
          have hfin := fun W2 v' (ho : Own W2 B eO 77 v' (oinsP xs j ⟨⟨o, en, l, [], [], []⟩, ⟨none, 0, 0⟩, ⟨none, 0, 0⟩, ⟨none, 0, 0⟩⟩)) hg hv => HM5.out.st.ins hal.drew ho hg hv fun W' K => ⟨SlK.none_ W' K _, SlK.none_ W' K _, SlK.none_ W' K _⟩
          have hSd : Ld4 b W.heap.size (some ⟨g, 0, none⟩) n c o en l w5.drew := HM5.out.drew.ld4
          have hMa := HM5.out.step hal.drew
          have hSa : Ld4 b W.heap.size (some ⟨g, 0, none⟩) n c o en l (w5.drew.alloc (.cells #[.string o, .int .i64 en, .int .i64 l, .slice none 0 0, .slice none 0 0, .slice none 0 0] 77)) := hMa.ld4
          have HS2 := ShutW.mk (fun w2 hg => hMa.ld4_ (W2 := w2) hg)
          have HINS := ShutW.mk hins
          have HFIN := ShutW.mk hfin
          have HSP := ShutW.mk (spot_at_o (n := o) (l := obsOf xs) (j := j) (by have := HLO.out; have := HJ.out; have := HN.out; omega) (fun q hq hl => by have := HB.out q hq (by simpa [obsOf] using hl); simpa [obsOf] using this) HE)
          clear hal hst hins hfin hMa
          go_wp2_with fail
          refine wp_region_noPanic ?_
          refine wp_region_K (k := 17) (S := Ld4 b W.heap.size (some ⟨g, 0, none⟩) n c o en l) (by kernel_rfl) ?_
          refine wpAnyK_take (i := 0) (oi := { dst := some 42, op := Op.move (Operand.tmp 0), type := 124, pos := "apply.go:103", after := #[], guard := none }) (v := .pointer (some ⟨b, 0, none⟩)) rfl (by kernel_rfl) (by kernel_rfl) (by kernel_rfl) (by kernel_rfl) (by kernel_rfl) (fun _ _ _ h => h) (by decide) (hSd) (by rfl) ?_ ?_
          · intro W9 hSw; obtain ⟨s0, s1, s2, s3⟩ := hSw; go_simp
          try simp only [Act.put, zA1, zA2, zA3]
          refine wpAnyK_take (i := 1) (oi := { dst := some 43, op := Op.move (Operand.tmp 0), type := 124, pos := "apply.go:103", after := #[], guard := none }) (v := .pointer (some ⟨b, 0, none⟩)) rfl (by kernel_rfl) (by kernel_rfl) (by kernel_rfl) (by kernel_rfl) (by kernel_rfl) (fun _ _ _ h => h) (by decide) (hSd) (by rfl) ?_ ?_
          · intro W9 hSw; obtain ⟨s0, s1, s2, s3⟩ := hSw; go_simp
          try simp only [Act.put, zA1, zA2, zA3]
          refine wpAnyK_take (i := 2) (oi := { dst := some 44, op := Op.nilCheck (Operand.tmp 43), type := 0, pos := "apply.go:103", after := #[{ on := 1, ground := Ground.data }], guard := none }) (v := .pointer (some ⟨b, 0, none⟩)) rfl (by kernel_rfl) (by kernel_rfl) (by kernel_rfl) (by kernel_rfl) (by kernel_rfl) (fun _ _ _ h => h) (by decide) (hSd) (by rfl) ?_ ?_
          · intro W9 hSw; obtain ⟨s0, s1, s2, s3⟩ := hSw; go_simp
          try simp only [Act.put, zA1, zA2, zA3]
          refine wpAnyK_take (i := 3) (oi := { dst := some 45, op := Op.fieldAddr 54 (Operand.tmp 44) 1, type := 0, pos := "apply.go:103", after := #[{ on := 2, ground := Ground.data }], guard := none }) (v := .pointer (some ⟨b, 1, none⟩)) rfl (by kernel_rfl) (by kernel_rfl) (by kernel_rfl) (by kernel_rfl) (by kernel_rfl) (fun _ _ _ h => h) (by decide) (hSd) (by rfl) ?_ ?_
          · intro W9 hSw; obtain ⟨s0, s1, s2, s3⟩ := hSw; go_simp
          try simp only [Act.put, zA1, zA2, zA3]
          refine wpAnyK_take (i := 4) (oi := { dst := some 46, op := Op.load 52 (Operand.tmp 45), type := 52, pos := "apply.go:103", after := #[{ on := 3, ground := Ground.data }], guard := none }) (v := .slice (some ⟨g, 0, none⟩) n c) rfl (by kernel_rfl) (by kernel_rfl) (by kernel_rfl) (by kernel_rfl) (by kernel_rfl) (fun _ _ _ h => h) (by decide) (hSd) (by rfl) ?_ ?_
          · intro W9 hSw; obtain ⟨s0, s1, s2, s3⟩ := hSw; go_simp
          try simp only [Act.put, zA1, zA2, zA3]
          refine wpAnyK_take (i := 5) (oi := { dst := some 47, op := Op.move (Operand.tmp 5), type := 3, pos := "apply.go:103", after := #[], guard := none }) (v := .int .i64 (j : Int)) rfl (by kernel_rfl) (by kernel_rfl) (by kernel_rfl) (by kernel_rfl) (by kernel_rfl) (fun _ _ _ h => h) (by decide) (hSd) (by rfl) ?_ ?_
          · intro W9 hSw; obtain ⟨s0, s1, s2, s3⟩ := hSw; go_simp
          try simp only [Act.put, zA1, zA2, zA3]
          refine wpAnyK_take (i := 6) (oi := { dst := some 48, op := Op.fieldAddr 46 (Operand.tmp 3) 1, type := 0, pos := "apply.go:103", after := #[], guard := none }) (v := .pointer (some ⟨W.heap.size, 1, none⟩)) rfl (by kernel_rfl) (by kernel_rfl) (by kernel_rfl) (by kernel_rfl) (by kernel_rfl) (fun _ _ _ h => h) (by decide) (hSd) (by rfl) ?_ ?_
          · intro W9 hSw; obtain ⟨s0, s1, s2, s3⟩ := hSw; go_simp
          try simp only [Act.put, zA1, zA2, zA3]
          refine wpAnyK_take (i := 7) (oi := { dst := some 49, op := Op.load 9 (Operand.tmp 48), type := 9, pos := "apply.go:103", after := #[{ on := 6, ground := Ground.data }], guard := none }) (v := .string o) rfl (by kernel_rfl) (by kernel_rfl) (by kernel_rfl) (by kernel_rfl) (by kernel_rfl) (fun _ _ _ h => h) (by decide) (hSd) (by rfl) ?_ ?_
          · intro W9 hSw; obtain ⟨s0, s1, s2, s3⟩ := hSw; go_simp
          try simp only [Act.put, zA1, zA2, zA3]
          refine wpAnyK_take (i := 8) (oi := { dst := some 50, op := Op.fieldAddr 46 (Operand.tmp 3) 4, type := 0, pos := "apply.go:103", after := #[], guard := none }) (v := .pointer (some ⟨W.heap.size, 4, none⟩)) rfl (by kernel_rfl) (by kernel_rfl) (by kernel_rfl) (by kernel_rfl) (by kernel_rfl) (fun _ _ _ h => h) (by decide) (hSd) (by rfl) ?_ ?_
          · intro W9 hSw; obtain ⟨s0, s1, s2, s3⟩ := hSw; go_simp
          try simp only [Act.put, zA1, zA2, zA3]
          refine wpAnyK_take (i := 9) (oi := { dst := some 51, op := Op.load 3 (Operand.tmp 50), type := 3, pos := "apply.go:103", after := #[{ on := 8, ground := Ground.data }], guard := none }) (v := .int .i64 en) rfl (by kernel_rfl) (by kernel_rfl) (by kernel_rfl) (by kernel_rfl) (by kernel_rfl) (fun _ _ _ h => h) (by decide) (hSd) (by rfl) ?_ ?_
          · intro W9 hSw; obtain ⟨s0, s1, s2, s3⟩ := hSw; go_simp
          try simp only [Act.put, zA1, zA2, zA3]
          refine wpAnyK_take (i := 10) (oi := { dst := some 52, op := Op.fieldAddr 46 (Operand.tmp 3) 5, type := 0, pos := "apply.go:103", after := #[], guard := none }) (v := .pointer (some ⟨W.heap.size, 5, none⟩)) rfl (by kernel_rfl) (by kernel_rfl) (by kernel_rfl) (by kernel_rfl) (by kernel_rfl) (fun _ _ _ h => h) (by decide) (hSd) (by rfl) ?_ ?_
          · intro W9 hSw; obtain ⟨s0, s1, s2, s3⟩ := hSw; go_simp
          try simp only [Act.put, zA1, zA2, zA3]
          refine wpAnyK_take (i := 11) (oi := { dst := some 53, op := Op.load 3 (Operand.tmp 52), type := 3, pos := "apply.go:103", after := #[{ on := 10, ground := Ground.data }], guard := none }) (v := .int .i64 l) rfl (by kernel_rfl) (by kernel_rfl) (by kernel_rfl) (by kernel_rfl) (by kernel_rfl) (fun _ _ _ h => h) (by decide) (hSd) (by rfl) ?_ ?_
          · intro W9 hSw; obtain ⟨s0, s1, s2, s3⟩ := hSw; go_simp
          try simp only [Act.put, zA1, zA2, zA3]
          refine wpAnyK_take (i := 12) (oi := { dst := some 54, op := Op.build 77 #[(0, Operand.tmp 49), (1, Operand.tmp 51), (2, Operand.tmp 53)], type := 77, pos := "apply.go:103", after := #[{ on := 7, ground := Ground.data }, { on := 9, ground := Ground.data }, { on := 11, ground := Ground.data }], guard := none }) (v := .agg #[.string o, .int .i64 en, .int .i64 l, .slice none 0 0, .slice none 0 0, .slice none 0 0]) rfl (by kernel_rfl) (by kernel_rfl) (by kernel_rfl) (by kernel_rfl) (by kernel_rfl) (fun _ _ _ h => h) (by decide) (hSd) (by rfl) ?_ ?_
          · intro W9 hSw; obtain ⟨s0, s1, s2, s3⟩ := hSw; go_simp
          try simp only [Act.put, zA1, zA2, zA3]
          refine wpAnyK_one (i := 13) (o := { dst := some 55, op := Op.buildSlice 52 1 #[(0, Operand.tmp 54)], type := 52, pos := "apply.go:103", after := #[{ on := 12, ground := Ground.data }], guard := none }) (v := .slice (some ⟨w5.heap.size, 0, none⟩) 1 1) (w' := w5.drew.alloc (.cells #[.string o, .int .i64 en, .int .i64 l, .slice none 0 0, .slice none 0 0, .slice none 0 0] 77)) (by kernel_rfl) rfl (by rfl) (by first | (go_simp; done) | (go_simp; rfl)) (hSa) ?_
          try simp only [Act.put, zA1, zA2, zA3]
          refine wpAnyK_step (i := 14) (o := { dst := some 56, op := Op.call { callee := Callee.value (Operand.func 198), args := #[Operand.tmp 46, Operand.tmp 47, Operand.tmp 55], argTypes := #[52, 3, 52] }, type := 52, pos := "apply.go:103", after := #[{ on := 4, ground := Ground.data }, { on := 5, ground := Ground.data }, { on := 13, ground := Ground.data }], guard := none }) (E := True) (by kernel_rfl) rfl (by rfl) ?_
          refine step_call rfl (f := 198) (by go_simp) (HINS.out.mono ?_)
          rintro e9 w2 ⟨v', rfl, ho, hg, hv⟩
          obtain ⟨⟨A1, n1, c1⟩, ev, d0, z1, hown, hbel⟩ := HFIN.out w2 v' ho hg hv
          have ev2 : v' = .slice A1 n1 c1 := ev
          clear ev
          subst ev2
          have hS2 := HS2.out w2 hg
          have d1 : w2.cell? ⟨b, 1, none⟩ = some (.slice (some ⟨g, 0, none⟩) n c) := d0
          have HOWN := ShutW.mk hown
          have HBEL := ShutW.mk hbel
          clear ho hg hv hown hbel d0
          refine ⟨_, rfl, fun _ _ => hS2, ?_⟩
          try simp only [Act.put, zA1, zA2, zA3]
          refine wpAnyK_one (i := 15) (o := { dst := some 57, op := Op.nilCheck (Operand.tmp 42), type := 0, pos := "apply.go:103", after := #[{ on := 0, ground := Ground.data }, { on := 0, ground := Ground.phase }, { on := 1, ground := Ground.phase }, { on := 2, ground := Ground.phase }, { on := 3, ground := Ground.phase }, { on := 4, ground := Ground.phase }, { on := 5, ground := Ground.phase }, { on := 6, ground := Ground.phase }, { on := 7, ground := Ground.phase }, { on := 8, ground := Ground.phase }, { on := 9, ground := Ground.phase }, { on := 10, ground := Ground.phase }, { on := 11, ground := Ground.phase }, { on := 12, ground := Ground.phase }, { on := 13, ground := Ground.phase }, { on := 14, ground := Ground.phase }], guard := none }) (v := .pointer (some ⟨b, 0, none⟩)) (w' := w2) (by kernel_rfl) rfl (by rfl) (by first | (go_simp; done) | (go_simp; rfl)) (hS2) ?_
          try simp only [Act.put, zA1, zA2, zA3]
          refine wpAnyK_one (i := 16) (o := { dst := some 58, op := Op.fieldAddr 54 (Operand.tmp 57) 1, type := 0, pos := "apply.go:103", after := #[{ on := 15, ground := Ground.data }, { on := 0, ground := Ground.phase }, { on := 1, ground := Ground.phase }, { on := 2, ground := Ground.phase }, { on := 3, ground := Ground.phase }, { on := 4, ground := Ground.phase }, { on := 5, ground := Ground.phase }, { on := 6, ground := Ground.phase }, { on := 7, ground := Ground.phase }, { on := 8, ground := Ground.phase }, { on := 9, ground := Ground.phase }, { on := 10, ground := Ground.phase }, { on := 11, ground := Ground.phase }, { on := 12, ground := Ground.phase }, { on := 13, ground := Ground.phase }, { on := 14, ground := Ground.phase }], guard := none }) (v := .pointer (some ⟨b, 1, none⟩)) (w' := w2) (by kernel_rfl) rfl (by rfl) (by first | (go_simp; done) | (go_simp; rfl)) (hS2) ?_
          try simp only [Act.put, zA1, zA2, zA3]
          refine wpAnyK_store (i := 17) (o := { dst := none, op := Op.store 52 (Operand.tmp 58) (Operand.tmp 56), type := 0, pos := "apply.go:103", after := #[{ on := 16, ground := Ground.data }, { on := 14, ground := Ground.data }, { on := 14, ground := Ground.chain }, { on := 0, ground := Ground.phase }, { on := 1, ground := Ground.phase }, { on := 2, ground := Ground.phase }, { on := 3, ground := Ground.phase }, { on := 4, ground := Ground.phase }, { on := 5, ground := Ground.phase }, { on := 6, ground := Ground.phase }, { on := 7, ground := Ground.phase }, { on := 8, ground := Ground.phase }, { on := 9, ground := Ground.phase }, { on := 10, ground := Ground.phase }, { on := 11, ground := Ground.phase }, { on := 12, ground := Ground.phase }, { on := 13, ground := Ground.phase }, { on := 14, ground := Ground.phase }], guard := none }) (w' := w2.setCell ⟨b, 1, none⟩ (.slice A1 n1 c1)) (by kernel_rfl) rfl (by rfl) (by first | (go_simp; done) | (go_simp; rfl)) (by kernel_rfl) ?_
          try simp only [Act.put]
          refine wpAnyK_done (by kernel_rfl) ?_ _
          refine NoPanic.normal ?_
          go_wp2_with fail
          go_ret
          exact ⟨⟨A1, n1, c1⟩, _, rfl, HOWN.out, (HM5.out.bel.mono hBW).trans HBEL.out, by rw [obs_ins, HSP.out]⟩
      · have g1 : decide ((j : Int) < (n : Int)) = false := decide_eq_false (by omega)
        have g2 : decide (j < n) = false := decide_eq_false hlt
        have HE : ∀ h : j < (obsOf xs).length, 0 ≤ cmpS (obsOf xs)[j].name o := fun h => by have := HLO.out; omega
        go_wp2_with fail
        go_quiet (fail)
        go_wp2_with fail
        have HM5 := ShutW.mk (hm.step (below_drewN (Below.refl _ wr) nq))
        generalize wr.drewN nq = w5 at *
        have hal := alloc_below w5 (.cells (Oc.cells ⟨⟨o, en, l, [], [], []⟩, ⟨none, 0, 0⟩, ⟨none, 0, 0⟩, ⟨none, 0, 0⟩⟩) 77)
        have hst := HM5.out.st.below hal.drew
        have hins := oinsert_ (x := ⟨⟨o, en, l, [], [], []⟩, ⟨none, 0, 0⟩, ⟨none, 0, 0⟩, ⟨none, 0, 0⟩⟩) (i := j) (vb := w5.heap.size) hst.own hst.size (by have := HN.out; omega) (by have := HN.out; have := HJ.out; omega) (Blk.new w5 _ _) (fun e => by have := (own_blk HM5.out.st.own e).2.1; omega)
        have hfin := fun W2 v' (ho : Own W2 B eO 77 v' (oinsP xs j ⟨⟨o, en, l, [], [], []⟩, ⟨none, 0, 0⟩, ⟨none, 0, 0⟩, ⟨none, 0, 0⟩⟩)) hg hv => HM5.out.st.ins hal.drew ho hg hv fun W' K => ⟨SlK.none_ W' K _, SlK.none_ W' K _, SlK.none_ W' K _⟩
        have hSd : Ld4 b W.heap.size A n c o en l w5.drew := HM5.out.drew.ld4
        have hMa := HM5.out.step hal.drew
        have hSa : Ld4 b W.heap.size A n c o en l (w5.drew.alloc (.cells #[.string o, .int .i64 en, .int .i64 l, .slice none 0 0, .slice none 0 0, .slice none 0 0] 77)) := hMa.ld4
        have HS2 := ShutW.mk (fun w2 hg => hMa.ld4_ (W2 := w2) hg)
        have HINS := ShutW.mk hins
        have HFIN := ShutW.mk hfin
        have HSP := ShutW.mk (spot_at_o (n := o) (l := obsOf xs) (j := j) (by have := HLO.out; have := HJ.out; have := HN.out; omega) (fun q hq hl => by have := HB.out q hq (by simpa [obsOf] using hl); simpa [obsOf] using this) HE)
        clear hal hst hins hfin hMa
        go_wp2_with fail
        refine wp_region_noPanic ?_
        refine wp_region_K (k := 17) (S := Ld4 b W.heap.size A n c o en l) (by kernel_rfl) ?_
        refine wpAnyK_take (i := 0) (oi := { dst := some 42, op := Op.move (Operand.tmp 0), type := 124, pos := "apply.go:103", after := #[], guard := none }) (v := .pointer (some ⟨b, 0, none⟩)) rfl (by kernel_rfl) (by kernel_rfl) (by kernel_rfl) (by kernel_rfl) (by kernel_rfl) (fun _ _ _ h => h) (by decide) (hSd) (by rfl) ?_ ?_
        · intro W9 hSw; obtain ⟨s0, s1, s2, s3⟩ := hSw; go_simp
        try simp only [Act.put, zA1, zA2, zA3]
        refine wpAnyK_take (i := 1) (oi := { dst := some 43, op := Op.move (Operand.tmp 0), type := 124, pos := "apply.go:103", after := #[], guard := none }) (v := .pointer (some ⟨b, 0, none⟩)) rfl (by kernel_rfl) (by kernel_rfl) (by kernel_rfl) (by kernel_rfl) (by kernel_rfl) (fun _ _ _ h => h) (by decide) (hSd) (by rfl) ?_ ?_
        · intro W9 hSw; obtain ⟨s0, s1, s2, s3⟩ := hSw; go_simp
        try simp only [Act.put, zA1, zA2, zA3]
        refine wpAnyK_take (i := 2) (oi := { dst := some 44, op := Op.nilCheck (Operand.tmp 43), type := 0, pos := "apply.go:103", after := #[{ on := 1, ground := Ground.data }], guard := none }) (v := .pointer (some ⟨b, 0, none⟩)) rfl (by kernel_rfl) (by kernel_rfl) (by kernel_rfl) (by kernel_rfl) (by kernel_rfl) (fun _ _ _ h => h) (by decide) (hSd) (by rfl) ?_ ?_
        · intro W9 hSw; obtain ⟨s0, s1, s2, s3⟩ := hSw; go_simp
        try simp only [Act.put, zA1, zA2, zA3]
        refine wpAnyK_take (i := 3) (oi := { dst := some 45, op := Op.fieldAddr 54 (Operand.tmp 44) 1, type := 0, pos := "apply.go:103", after := #[{ on := 2, ground := Ground.data }], guard := none }) (v := .pointer (some ⟨b, 1, none⟩)) rfl (by kernel_rfl) (by kernel_rfl) (by kernel_rfl) (by kernel_rfl) (by kernel_rfl) (fun _ _ _ h => h) (by decide) (hSd) (by rfl) ?_ ?_
        · intro W9 hSw; obtain ⟨s0, s1, s2, s3⟩ := hSw; go_simp
        try simp only [Act.put, zA1, zA2, zA3]
        refine wpAnyK_take (i := 4) (oi := { dst := some 46, op := Op.load 52 (Operand.tmp 45), type := 52, pos := "apply.go:103", after := #[{ on := 3, ground := Ground.data }], guard := none }) (v := .slice A n c) rfl (by kernel_rfl) (by kernel_rfl) (by kernel_rfl) (by kernel_rfl) (by kernel_rfl) (fun _ _ _ h => h) (by decide) (hSd) (by rfl) ?_ ?_
        · intro W9 hSw; obtain ⟨s0, s1, s2, s3⟩ := hSw; go_simp
        try simp only [Act.put, zA1, zA2, zA3]
        refine wpAnyK_take (i := 5) (oi := { dst := some 47, op := Op.move (Operand.tmp 5), type := 3, pos := "apply.go:103", after := #[], guard := none }) (v := .int .i64 (j : Int)) rfl (by kernel_rfl) (by kernel_rfl) (by kernel_rfl) (by kernel_rfl) (by kernel_rfl) (fun _ _ _ h => h) (by decide) (hSd) (by rfl) ?_ ?_
        · intro W9 hSw; obtain ⟨s0, s1, s2, s3⟩ := hSw; go_simp
        try simp only [Act.put, zA1, zA2, zA3]
        refine wpAnyK_take (i := 6) (oi := { dst := some 48, op := Op.fieldAddr 46 (Operand.tmp 3) 1, type := 0, pos := "apply.go:103", after := #[], guard := none }) (v := .pointer (some ⟨W.heap.size, 1, none⟩)) rfl (by kernel_rfl) (by kernel_rfl) (by kernel_rfl) (by kernel_rfl) (by kernel_rfl) (fun _ _ _ h => h) (by decide) (hSd) (by rfl) ?_ ?_
        · intro W9 hSw; obtain ⟨s0, s1, s2, s3⟩ := hSw; go_simp
        try simp only [Act.put, zA1, zA2, zA3]
        refine wpAnyK_take (i := 7) (oi := { dst := some 49, op := Op.load 9 (Operand.tmp 48), type := 9, pos := "apply.go:103", after := #[{ on := 6, ground := Ground.data }], guard := none }) (v := .string o) rfl (by kernel_rfl) (by kernel_rfl) (by kernel_rfl) (by kernel_rfl) (by kernel_rfl) (fun _ _ _ h => h) (by decide) (hSd) (by rfl) ?_ ?_
        · intro W9 hSw; obtain ⟨s0, s1, s2, s3⟩ := hSw; go_simp
        try simp only [Act.put, zA1, zA2, zA3]
        refine wpAnyK_take (i := 8) (oi := { dst := some 50, op := Op.fieldAddr 46 (Operand.tmp 3) 4, type := 0, pos := "apply.go:103", after := #[], guard := none }) (v := .pointer (some ⟨W.heap.size, 4, none⟩)) rfl (by kernel_rfl) (by kernel_rfl) (by kernel_rfl) (by kernel_rfl) (by kernel_rfl) (fun _ _ _ h => h) (by decide) (hSd) (by rfl) ?_ ?_
        · intro W9 hSw; obtain ⟨s0, s1, s2, s3⟩ := hSw; go_simp
        try simp only [Act.put, zA1, zA2, zA3]
        refine wpAnyK_take (i := 9) (oi := { dst := some 51, op := Op.load 3 (Operand.tmp 50), type := 3, pos := "apply.go:103", after := #[{ on := 8, ground := Ground.data }], guard := none }) (v := .int .i64 en) rfl (by kernel_rfl) (by kernel_rfl) (by kernel_rfl) (by kernel_rfl) (by kernel_rfl) (fun _ _ _ h => h) (by decide) (hSd) (by rfl) ?_ ?_
        · intro W9 hSw; obtain ⟨s0, s1, s2, s3⟩ := hSw; go_simp
        try simp only [Act.put, zA1, zA2, zA3]
        refine wpAnyK_take (i := 10) (oi := { dst := some 52, op := Op.fieldAddr 46 (Operand.tmp 3) 5, type := 0, pos := "apply.go:103", after := #[], guard := none }) (v := .pointer (some ⟨W.heap.size, 5, none⟩)) rfl (by kernel_rfl) (by kernel_rfl) (by kernel_rfl) (by kernel_rfl) (by kernel_rfl) (fun _ _ _ h => h) (by decide) (hSd) (by rfl) ?_ ?_
        · intro W9 hSw; obtain ⟨s0, s1, s2, s3⟩ := hSw; go_simp
        try simp only [Act.put, zA1, zA2, zA3]
        refine wpAnyK_take (i := 11) (oi := { dst := some 53, op := Op.load 3 (Operand.tmp 52), type := 3, pos := "apply.go:103", after := #[{ on := 10, ground := Ground.data }], guard := none }) (v := .int .i64 l) rfl (by kernel_rfl) (by kernel_rfl) (by kernel_rfl) (by kernel_rfl) (by kernel_rfl) (fun _ _ _ h => h) (by decide) (hSd) (by rfl) ?_ ?_
        · intro W9 hSw; obtain ⟨s0, s1, s2, s3⟩ := hSw; go_simp
        try simp only [Act.put, zA1, zA2, zA3]
        refine wpAnyK_take (i := 12) (oi := { dst := some 54, op := Op.build 77 #[(0, Operand.tmp 49), (1, Operand.tmp 51), (2, Operand.tmp 53)], type := 77, pos := "apply.go:103", after := #[{ on := 7, ground := Ground.data }, { on := 9, ground := Ground.data }, { on := 11, ground := Ground.data }], guard := none }) (v := .agg #[.string o, .int .i64 en, .int .i64 l, .slice none 0 0, .slice none 0 0, .slice none 0 0]) rfl (by kernel_rfl) (by kernel_rfl) (by kernel_rfl) (by kernel_rfl) (by kernel_rfl) (fun _ _ _ h => h) (by decide) (hSd) (by rfl) ?_ ?_
        · intro W9 hSw; obtain ⟨s0, s1, s2, s3⟩ := hSw; go_simp
        try simp only [Act.put, zA1, zA2, zA3]
        refine wpAnyK_one (i := 13) (o := { dst := some 55, op := Op.buildSlice 52 1 #[(0, Operand.tmp 54)], type := 52, pos := "apply.go:103", after := #[{ on := 12, ground := Ground.data }], guard := none }) (v := .slice (some ⟨w5.heap.size, 0, none⟩) 1 1) (w' := w5.drew.alloc (.cells #[.string o, .int .i64 en, .int .i64 l, .slice none 0 0, .slice none 0 0, .slice none 0 0] 77)) (by kernel_rfl) rfl (by rfl) (by first | (go_simp; done) | (go_simp; rfl)) (hSa) ?_
        try simp only [Act.put, zA1, zA2, zA3]
        refine wpAnyK_step (i := 14) (o := { dst := some 56, op := Op.call { callee := Callee.value (Operand.func 198), args := #[Operand.tmp 46, Operand.tmp 47, Operand.tmp 55], argTypes := #[52, 3, 52] }, type := 52, pos := "apply.go:103", after := #[{ on := 4, ground := Ground.data }, { on := 5, ground := Ground.data }, { on := 13, ground := Ground.data }], guard := none }) (E := True) (by kernel_rfl) rfl (by rfl) ?_
        refine step_call rfl (f := 198) (by go_simp) (HINS.out.mono ?_)
        rintro e9 w2 ⟨v', rfl, ho, hg, hv⟩
        obtain ⟨⟨A1, n1, c1⟩, ev, d0, z1, hown, hbel⟩ := HFIN.out w2 v' ho hg hv
        have ev2 : v' = .slice A1 n1 c1 := ev
        clear ev
        subst ev2
        have hS2 := HS2.out w2 hg
        have d1 : w2.cell? ⟨b, 1, none⟩ = some (.slice A n c) := d0
        have HOWN := ShutW.mk hown
        have HBEL := ShutW.mk hbel
        clear ho hg hv hown hbel d0
        refine ⟨_, rfl, fun _ _ => hS2, ?_⟩
        try simp only [Act.put, zA1, zA2, zA3]
        refine wpAnyK_one (i := 15) (o := { dst := some 57, op := Op.nilCheck (Operand.tmp 42), type := 0, pos := "apply.go:103", after := #[{ on := 0, ground := Ground.data }, { on := 0, ground := Ground.phase }, { on := 1, ground := Ground.phase }, { on := 2, ground := Ground.phase }, { on := 3, ground := Ground.phase }, { on := 4, ground := Ground.phase }, { on := 5, ground := Ground.phase }, { on := 6, ground := Ground.phase }, { on := 7, ground := Ground.phase }, { on := 8, ground := Ground.phase }, { on := 9, ground := Ground.phase }, { on := 10, ground := Ground.phase }, { on := 11, ground := Ground.phase }, { on := 12, ground := Ground.phase }, { on := 13, ground := Ground.phase }, { on := 14, ground := Ground.phase }], guard := none }) (v := .pointer (some ⟨b, 0, none⟩)) (w' := w2) (by kernel_rfl) rfl (by rfl) (by first | (go_simp; done) | (go_simp; rfl)) (hS2) ?_
        try simp only [Act.put, zA1, zA2, zA3]
        refine wpAnyK_one (i := 16) (o := { dst := some 58, op := Op.fieldAddr 54 (Operand.tmp 57) 1, type := 0, pos := "apply.go:103", after := #[{ on := 15, ground := Ground.data }, { on := 0, ground := Ground.phase }, { on := 1, ground := Ground.phase }, { on := 2, ground := Ground.phase }, { on := 3, ground := Ground.phase }, { on := 4, ground := Ground.phase }, { on := 5, ground := Ground.phase }, { on := 6, ground := Ground.phase }, { on := 7, ground := Ground.phase }, { on := 8, ground := Ground.phase }, { on := 9, ground := Ground.phase }, { on := 10, ground := Ground.phase }, { on := 11, ground := Ground.phase }, { on := 12, ground := Ground.phase }, { on := 13, ground := Ground.phase }, { on := 14, ground := Ground.phase }], guard := none }) (v := .pointer (some ⟨b, 1, none⟩)) (w' := w2) (by kernel_rfl) rfl (by rfl) (by first | (go_simp; done) | (go_simp; rfl)) (hS2) ?_
        try simp only [Act.put, zA1, zA2, zA3]
        refine wpAnyK_store (i := 17) (o := { dst := none, op := Op.store 52 (Operand.tmp 58) (Operand.tmp 56), type := 0, pos := "apply.go:103", after := #[{ on := 16, ground := Ground.data }, { on := 14, ground := Ground.data }, { on := 14, ground := Ground.chain }, { on := 0, ground := Ground.phase }, { on := 1, ground := Ground.phase }, { on := 2, ground := Ground.phase }, { on := 3, ground := Ground.phase }, { on := 4, ground := Ground.phase }, { on := 5, ground := Ground.phase }, { on := 6, ground := Ground.phase }, { on := 7, ground := Ground.phase }, { on := 8, ground := Ground.phase }, { on := 9, ground := Ground.phase }, { on := 10, ground := Ground.phase }, { on := 11, ground := Ground.phase }, { on := 12, ground := Ground.phase }, { on := 13, ground := Ground.phase }, { on := 14, ground := Ground.phase }], guard := none }) (w' := w2.setCell ⟨b, 1, none⟩ (.slice A1 n1 c1)) (by kernel_rfl) rfl (by rfl) (by first | (go_simp; done) | (go_simp; rfl)) (by kernel_rfl) ?_
        try simp only [Act.put]
        refine wpAnyK_done (by kernel_rfl) ?_ _
        refine NoPanic.normal ?_
        go_wp2_with fail
        go_ret
        exact ⟨⟨A1, n1, c1⟩, _, rfl, HOWN.out, (HM5.out.bel.mono hBW).trans HBEL.out, by rw [obs_ins, HSP.out]⟩
end
end Go.Proofs.YtjfoflbaoceemaaGreat
