/- Are two states one, the document asks: of two that are (tools/r20_sms.py writes it). Bytes of one's own: a row that grows, copied, with one byte more. -/
import Derived.Test.YtpggnklbgkdjcaaJ24
import Derived.Test.YtpggnklbgkdjcaaJ04
import Derived.Deep.RegionHeld3
import Derived.Deep.LoopGhost
import Derived.Deep.DeepCutAuto
import Derived.Test.YtpggnklbgkdjcaaJ22
set_option maxRecDepth 4000
namespace Go.Proofs.Ytpggnklbgkdjcaa
open Go.RowKit
def SmR (w : World) (c0 c1 : Array Value) (n k : Nat) (i : Value) (wr : World) : Prop := ∃ j, j + k = n ∧ i = .int .i64 (j : Int) ∧ TwoB w 24 c0 c1 wr
structure ShutW (p : Prop) : Prop where out : p
set_option maxHeartbeats 4000000 in
theorem same_state {w : World} {K K2 : Nat → Prop} {s s2 : Sv} {xs ys : List Oc} (h : ObsAt w K s xs) (h2 : ObsAt w K2 s2 ys) (he : obsOf xs = obsOf ys) (hs : ∀ x ∈ xs, x.o.short 100001) (hn : xs.length ≤ 1000000) (next : Int) :
    Calls Try.prog 12 #[.agg #[.int .i64 next, .slice s.a s.n s.c], .agg #[.int .i64 next, .slice s2.a s2.n s2.c]] w fun e w' => e = .returned (.bool true) ∧ Below w.heap.size w w' := by
  have hl : xs.length = ys.length := by have := congrArg List.length he; simpa [obsOf] using this
  obtain ⟨A, n, c⟩ := s
  obtain ⟨B, n2, c2⟩ := s2
  have hln : n = xs.length := h.row.len
  have hln2 : n2 = ys.length := h2.row.len
  obtain rfl : n2 = n := by omega
  have hT0 := TwoB.new w 24 #[.int .i64 next, .slice A n2 c] #[.int .i64 next, .slice B n2 c2]
  have HT0 := ShutW.mk hT0
  have H := ShutW.mk h
  have H2 := ShutW.mk h2
  have HE := ShutW.mk he
  have HS := ShutW.mk hs
  have HLN := ShutW.mk hln
  have HLN2 := ShutW.mk hln2
  have hn6 : n2 ≤ 1000000 := by omega
  clear h h2 he hs hln hln2 hl hn hT0
  go_enter Try.func12, Try.ntmps12
  go_wp2_with fail
  go_loopg [5] n2 (fun k i wr => SmR w #[.int .i64 next, .slice A n2 c] #[.int .i64 next, .slice B n2 c2] n2 k i wr)
  case atStart => exact ⟨0, by omega, rfl, HT0.out⟩
  case round =>
    obtain ⟨j, hj, rfl, hT⟩ := hrel
    have HJ := ShutW.mk hj
    have HT := ShutW.mk hT
    have d1 := hT.obj.cell 1
    have f1 := hT.res.cell 1
    simp only [List.getElem?_toArray, List.getElem?_cons_zero, List.getElem?_cons_succ] at d1 f1
    clear hj hT HT0
    by_cases hlt : j < n2
    · have hx : j < xs.length := by have := HLN.out; omega
      have hy : j < ys.length := by have := HLN2.out; omega
      have hjn : (j : Int) < (n2 : Int) := by omega
      have hw1 : IntKind.i64.wrap ((j : Int) + 1) = (j : Int) + 1 := by rw [IntKind.wrap_i64]; omega
      have heq : xs[j].o = ys[j].o := by
        have := congrArg (fun l => l[j]?) HE.out
        simp only [obsOf, List.getElem?_map, List.getElem?_eq_getElem hx, List.getElem?_eq_getElem hy, Option.map_some, Option.some.injEq] at this
        exact this
      obtain ⟨b, o, e1, hbs, k0, k1, k2, k3, k4, k5⟩ := (H.out.row.lst.below HT.out.below).atO hx
      obtain ⟨b2, o2, e2, hbs2, l0, l1, l2, l3, l4, l5⟩ := (H2.out.row.lst.below HT.out.below).atO hy
      have eA : A = some ⟨b, o, none⟩ := e1
      have eB : B = some ⟨b2, o2, none⟩ := e2
      subst eA eB
      have hc := fun W (k : Below w.heap.size w W) => same_obj ((H.out.all _ (List.getElem_mem hx)).below k).at_ (by rw [heq]; exact ((H2.out.all _ (List.getElem_mem hy)).below k).at_) (HS.out _ (List.getElem_mem hx))
      rw [← heq] at l0 l1 l2
      generalize xs[j].o = ob at *
      generalize xs[j].r = sr at *
      generalize xs[j].m = sm at *
      generalize xs[j].d = sd at *
      generalize ys[j].r = sr2 at *
      generalize ys[j].m = sm2 at *
      generalize ys[j].d = sd2 at *
      obtain ⟨nm, kd, lm, rs, ms, ds⟩ := ob
      obtain ⟨ra, rn, rc⟩ := sr
      obtain ⟨ma, mn, mc⟩ := sm
      obtain ⟨da, dn, dc⟩ := sd
      obtain ⟨ra2, rn2, rc2⟩ := sr2
      obtain ⟨ma2, mn2, mc2⟩ := sm2
      obtain ⟨da2, dn2, dc2⟩ := sd2
      simp only [Sv.val, Ob.val, Ob.cells] at hc
      simp only at k0 k1 k2 k3 k4 k5 l0 l1 l2 l3 l4 l5
      have HC := ShutW.mk hc
      have HBS := ShutW.mk hbs
      have HBS2 := ShutW.mk hbs2
      clear hc hbs hbs2 e1 e2 heq
      go_upto_region 6 with fail
      have hS0 : ShutW ((fun W : World => W.cell? ⟨w.heap.size, 1, none⟩ = some (.slice (some ⟨b, o, none⟩) n2 c) ∧ W.cell? ⟨w.heap.size + 1, 1, none⟩ = some (.slice (some ⟨b2, o2, none⟩) n2 c2) ∧ W.cell? ⟨b, o + j * 6, none⟩ = some (.string nm) ∧ W.cell? ⟨b, o + j * 6 + 1, none⟩ = some (.int .i64 kd) ∧ W.cell? ⟨b, o + j * 6 + 2, none⟩ = some (.int .i64 lm) ∧ W.cell? ⟨b, o + j * 6 + 3, none⟩ = some (.slice ra rn rc) ∧ W.cell? ⟨b, o + j * 6 + 4, none⟩ = some (.slice ma mn mc) ∧ W.cell? ⟨b, o + j * 6 + 5, none⟩ = some (.slice da dn dc) ∧ W.cell? ⟨b2, o2 + j * 6, none⟩ = some (.string nm) ∧ W.cell? ⟨b2, o2 + j * 6 + 1, none⟩ = some (.int .i64 kd) ∧ W.cell? ⟨b2, o2 + j * 6 + 2, none⟩ = some (.int .i64 lm) ∧ W.cell? ⟨b2, o2 + j * 6 + 3, none⟩ = some (.slice ra2 rn2 rc2) ∧ W.cell? ⟨b2, o2 + j * 6 + 4, none⟩ = some (.slice ma2 mn2 mc2) ∧ W.cell? ⟨b2, o2 + j * 6 + 5, none⟩ = some (.slice da2 dn2 dc2)) wr.drew) := ⟨d1, f1, k0, k1, k2, k3, k4, k5, l0, l1, l2, l3, l4, l5⟩
      clear d1 f1 k0 k1 k2 k3 k4 k5 l0 l1 l2 l3 l4 l5
      go_region_held3 (fun W : World => W.cell? ⟨w.heap.size, 1, none⟩ = some (.slice (some ⟨b, o, none⟩) n2 c) ∧ W.cell? ⟨w.heap.size + 1, 1, none⟩ = some (.slice (some ⟨b2, o2, none⟩) n2 c2) ∧ W.cell? ⟨b, o + j * 6, none⟩ = some (.string nm) ∧ W.cell? ⟨b, o + j * 6 + 1, none⟩ = some (.int .i64 kd) ∧ W.cell? ⟨b, o + j * 6 + 2, none⟩ = some (.int .i64 lm) ∧ W.cell? ⟨b, o + j * 6 + 3, none⟩ = some (.slice ra rn rc) ∧ W.cell? ⟨b, o + j * 6 + 4, none⟩ = some (.slice ma mn mc) ∧ W.cell? ⟨b, o + j * 6 + 5, none⟩ = some (.slice da dn dc) ∧ W.cell? ⟨b2, o2 + j * 6, none⟩ = some (.string nm) ∧ W.cell? ⟨b2, o2 + j * 6 + 1, none⟩ = some (.int .i64 kd) ∧ W.cell? ⟨b2, o2 + j * 6 + 2, none⟩ = some (.int .i64 lm) ∧ W.cell? ⟨b2, o2 + j * 6 + 3, none⟩ = some (.slice ra2 rn2 rc2) ∧ W.cell? ⟨b2, o2 + j * 6 + 4, none⟩ = some (.slice ma2 mn2 mc2) ∧ W.cell? ⟨b2, o2 + j * 6 + 5, none⟩ = some (.slice da2 dn2 dc2)) (first | with_reducible exact hS0.out | with_reducible exact hS1.out) ((go_at_call 35; refine (HC.out _ HT.out.below.drew).mono ?_; rintro e w9 ⟨rfl, hb9⟩; have HT9 := ShutW.mk (TwoB.step (W := wr.drew) ⟨HT.out.below.drew, HT.out.obj, HT.out.res⟩ hb9); have hS1 : ShutW ((fun W : World => W.cell? ⟨w.heap.size, 1, none⟩ = some (.slice (some ⟨b, o, none⟩) n2 c) ∧ W.cell? ⟨w.heap.size + 1, 1, none⟩ = some (.slice (some ⟨b2, o2, none⟩) n2 c2) ∧ W.cell? ⟨b, o + j * 6, none⟩ = some (.string nm) ∧ W.cell? ⟨b, o + j * 6 + 1, none⟩ = some (.int .i64 kd) ∧ W.cell? ⟨b, o + j * 6 + 2, none⟩ = some (.int .i64 lm) ∧ W.cell? ⟨b, o + j * 6 + 3, none⟩ = some (.slice ra rn rc) ∧ W.cell? ⟨b, o + j * 6 + 4, none⟩ = some (.slice ma mn mc) ∧ W.cell? ⟨b, o + j * 6 + 5, none⟩ = some (.slice da dn dc) ∧ W.cell? ⟨b2, o2 + j * 6, none⟩ = some (.string nm) ∧ W.cell? ⟨b2, o2 + j * 6 + 1, none⟩ = some (.int .i64 kd) ∧ W.cell? ⟨b2, o2 + j * 6 + 2, none⟩ = some (.int .i64 lm) ∧ W.cell? ⟨b2, o2 + j * 6 + 3, none⟩ = some (.slice ra2 rn2 rc2) ∧ W.cell? ⟨b2, o2 + j * 6 + 4, none⟩ = some (.slice ma2 mn2 mc2) ∧ W.cell? ⟨b2, o2 + j * 6 + 5, none⟩ = some (.slice da2 dn2 dc2)) w9) := ⟨⟨(cell_of_heap (hb9.block _ HT.out.obj.lt) _).trans hS0.out.1, (cell_of_heap (hb9.block _ HT.out.res.lt) _).trans hS0.out.2.1, (cell_of_heap (hb9.block _ HBS.out) _).trans hS0.out.2.2.1, (cell_of_heap (hb9.block _ HBS.out) _).trans hS0.out.2.2.2.1, (cell_of_heap (hb9.block _ HBS.out) _).trans hS0.out.2.2.2.2.1, (cell_of_heap (hb9.block _ HBS.out) _).trans hS0.out.2.2.2.2.2.1, (cell_of_heap (hb9.block _ HBS.out) _).trans hS0.out.2.2.2.2.2.2.1, (cell_of_heap (hb9.block _ HBS.out) _).trans hS0.out.2.2.2.2.2.2.2.1, (cell_of_heap (hb9.block _ HBS2.out) _).trans hS0.out.2.2.2.2.2.2.2.2.1, (cell_of_heap (hb9.block _ HBS2.out) _).trans hS0.out.2.2.2.2.2.2.2.2.2.1, (cell_of_heap (hb9.block _ HBS2.out) _).trans hS0.out.2.2.2.2.2.2.2.2.2.2.1, (cell_of_heap (hb9.block _ HBS2.out) _).trans hS0.out.2.2.2.2.2.2.2.2.2.2.2.1, (cell_of_heap (hb9.block _ HBS2.out) _).trans hS0.out.2.2.2.2.2.2.2.2.2.2.2.2.1, (cell_of_heap (hb9.block _ HBS2.out) _).trans hS0.out.2.2.2.2.2.2.2.2.2.2.2.2.2⟩⟩; clear hb9))
      go_wp2_with fail
      go_roundg (n2 - (j + 1))
      case measure => have := HJ.out; omega
      case rel => exact ⟨j + 1, by have := HJ.out; omega, congrArg (Value.int .i64) (by omega), HT9.out⟩
    · have hjn : ¬ (j : Int) < (n2 : Int) := by omega
      go_wp2_with fail
      go_ret
      exact ⟨rfl, HT.out.below⟩
end Go.Proofs.Ytpggnklbgkdjcaa
namespace Go.Proofs.Ytpggnklbgkdjcaa
open Go.RowKit
/-- a row of bytes of the call's own -/
abbrev OwnBy (w : World) (base : Nat) (v : Value) (bs : List UInt8) : Prop := w.ownsRow base 5 1 v bs.length (cellsB bs)
theorem ownBy_lt {w : World} {base g : Nat} {v : Value} {bs : List UInt8} (h : OwnBy w base v bs) (hg : v.ownBlock = some g) : base ≤ g ∧ g < w.heap.size := by
  rcases h.2 with ⟨rfl, _⟩ | ⟨g', cap, cur, rfl, hb, hh, _⟩
  · cases hg
  · simp only [Value.ownBlock, Option.some.injEq] at hg
    subst hg
    exact ⟨hb, lt_of_some hh⟩
theorem ownBy_below {w w' : World} {base : Nat} {v : Value} {bs : List UInt8} (h : OwnBy w base v bs) (k : Below w.heap.size w w') : OwnBy w' base v bs := by
  refine ⟨h.1, ?_⟩
  rcases h.2 with h0 | ⟨g, cap, cur, e, hb, hh, hr⟩
  · exact .inl h0
  · exact .inr ⟨g, cap, cur, e, hb, (k.block g (lt_of_some hh)).trans hh, hr⟩
theorem ownBy_blk {w : World} {base g : Nat} {bs : List UInt8} (h : Blk w g 5 (cellsB bs).toArray) (hb : base ≤ g) (hm : bs.length ≤ maxLen) : OwnBy w base (.slice (some ⟨g, 0, none⟩) bs.length bs.length) bs := by
  refine ⟨by rw [cellsB_length, Nat.mul_one], .inr ⟨g, bs.length, (cellsB bs).toArray, rfl, hb, h, Nat.le_refl _, hm, ?_, ?_⟩⟩
  · simp [cellsB]
  · rw [List.take_of_length_le (by simp [cellsB])]
/-- bytes of a block of their own behind a row of the call's own -/
theorem append_by {w w1 : World} {base : Nat} {v : Value} {ys xs : List UInt8} {g : Nat} (ho : OwnBy w base v ys) (hb : base ≤ w.heap.size) (k : Below w.heap.size w w1) (hx : Blk w1 g 5 (cellsB xs).toArray) (hl : ys.length + xs.length ≤ 1000000) :
    ∃ A n c W, (Builtin.append_ #[27, 27] 27 #[v, .slice (some ⟨g, 0, none⟩) xs.length xs.length]).run Try.prog w1 = .ok (.slice A n c) W ∧ OwnBy W base (.slice A n c) (ys ++ xs) ∧ Below base w W ∧
      (∀ i, w.heap.size ≤ i → i < w1.heap.size → W.heap[i]? = w1.heap[i]?) := by
  have ho1 := ownBy_below ho k
  obtain ⟨v', W, hap, ho', hg, _⟩ := append_rb ho1 (blk_rb hx hx.lt) xs.length hl (Nat.le_trans hb k.size)
  rw [← List.length_append] at ho'
  obtain ⟨A, c, rfl, _⟩ := own_rb ho'
  refine ⟨A, _, c, W, hap, ho', (k.mono hb).grown hg (Nat.le_trans hb k.size) fun g hg => (ownBy_lt ho1 hg).1, fun i h1 h2 => ?_⟩
  refine hg.block i h2 fun e => ?_
  have := (ownBy_lt ho e.symm).2
  omega
theorem ownBy_slice {w : World} {base : Nat} {v : Value} {bs : List UInt8} (h : OwnBy w base v bs) : ∃ A c, v = .slice A bs.length c ∧ RB w w.heap.size A bs.length bs ∧ bs.length ≤ c ∧ c ≤ maxLen ∧ (A = none → c = 0) := by
  obtain ⟨A, c, rfl, h1, h2, h3⟩ := own_rb h
  refine ⟨A, c, rfl, h1, h2, h3, fun e => ?_⟩
  subst e
  rcases h.2 with ⟨e, _⟩ | ⟨g, cap, cur, e, _⟩
  · injection e
  · injection e with e; cases e
/-- bytes copied: a row of the call's own -/
theorem copy_own {w : World} {B n c : Nat} {A : Option Addr} {xs : List UInt8} (h : RB w B A n xs) (hn : n ≤ 900000) :
    ∃ A' n' c' W', (Builtin.append_ #[27, 27] 27 #[.slice none 0 0, .slice A n c]).run Try.prog w = .ok (.slice A' n' c') W' ∧ OwnBy W' w.heap.size (.slice A' n' c') xs ∧ Below w.heap.size w W' := by
  obtain ⟨v, W, hrun, ho, hg, _⟩ := append_rb (W := w) (base := w.heap.size) (v := .slice none 0 0) (n := 0) (ys := []) ⟨rfl, .inl ⟨rfl, rfl⟩⟩ h c (by omega) (Nat.le_refl _)
  rw [List.nil_append, Nat.zero_add] at ho
  obtain ⟨A', c', rfl, hr, _, _⟩ := own_rb ho
  have hl := hr.1
  subst hl
  exact ⟨A', _, c', W, hrun, ho, (Below.refl _ _).grown hg (Nat.le_refl _) fun k hk => by simp [Value.ownBlock] at hk⟩
/-- a byte behind a row of the call's own -/
theorem append_zero {w : World} {base : Nat} {v : Value} {ys : List UInt8} (ho : OwnBy w base v ys) (hb : base ≤ w.heap.size) (hl : ys.length ≤ 900000) :
    ∃ A n c W, (Builtin.append_ #[27, 27] 27 #[v, .slice (some ⟨w.heap.size, 0, none⟩) 1 1]).run Try.prog (w.alloc (.cells #[.int .u8 0] 5)) = .ok (.slice A n c) W ∧ OwnBy W base (.slice A n c) (ys ++ [0]) ∧ Below base w W := by
  have hx : Blk (w.alloc (.cells #[.int .u8 0] 5)) w.heap.size 5 (cellsB [0]).toArray := Blk.new w 5 #[.int .u8 0]
  obtain ⟨A, n, c, W, h1, h2, h3, _⟩ := append_by ho hb (alloc_below w (.cells #[.int .u8 0] 5)) hx (by simp; omega)
  exact ⟨A, n, c, W, h1, h2, h3⟩
end Go.Proofs.Ytpggnklbgkdjcaa
