/- slices.AppendSeq: rows of a loop behind rows of one's own. -/
import Derived.Test.YtocaaebmelhhnaaSeqF
import Derived.RangeFuncBox
import Derived.Laws.AppendOwn
set_option maxRecDepth 4000
namespace Go.Proofs.Ytocaaebmelhhnaa
open Go.RowKit
attribute [local go_sem] Oper.semAt_some wide_fn wide_depth
/-- rows behind the rows of a row of one's own -/
def AllP (base : Nat) (w : World) (n : Nat) (xs : List Rw) (v : Value) (w' : World) : Prop := w'.ownsRow base 29 2 v n (cellsR xs) ∧ Below base w w'
theorem blk_own {β : Type} (B : Nat) (t : TypeId) (f : β → Array Value) : Own (fun s W => Blk W B t (f s)) := fun s X Y row hs hg hrow => by
  have hlt : B < X.heap.size := Blk.lt hs
  refine (hg.block B hlt (fun e' => ?_)).trans hs
  obtain ⟨o, ho, hc⟩ := hrow B e'.symm
  rw [show X.heap[B]? = _ from hs] at ho; cases ho; cases hc
theorem two_cells (W : World) (y1 y2 : ByteArray) : ∀ j u, (cellsR [(y1, y2)])[j]? = some u → (W.alloc (.cells #[.string y1, .string y2] 29)).cell? ((⟨W.heap.size, 0, none⟩ : Addr).add j) = some u := fun j u hu => by
  rw [add_none, (Blk.new W 29 #[.string y1, .string y2]).cell, Nat.zero_add]
  simpa [cellsR] using hu
def LoopVar (B0 : Nat) (x : Rw) (W : World) (Bx : Nat) : Prop := B0 < Bx ∧ Blk W Bx 29 #[.string x.1, .string x.2]
set_option maxHeartbeats 2000000 in
theorem appendSeq_ {w : World} {base n B1 B2 : Nat} {v : Value} {ys xs : List Rw} (ho : w.ownsRow base 29 2 v n (cellsR ys)) (hb : base ≤ w.heap.size) (hs : n + xs.length ≤ 100000) (hseq : ∀ W, Below w.heap.size w W → Seq 0 base B1 B2 xs W) :
    Calls Try.prog 26 #[v, .func (.func 33) #[] #[.pointer (some ⟨B1, 0, none⟩), .pointer (some ⟨B2, 0, none⟩)]] w fun e w' => ∃ u, e = .returned u ∧ AllP base w (n + xs.length) (ys ++ xs) u w' := by
  obtain ⟨i0, hi, hz0, hz1, hz2⟩ := info_parts infoRow
  obtain ⟨A, c, rfl, _, hl, _, _, _⟩ := own_rws ho
  have HO := Lib.hid ho
  have HS := Lib.hid hs
  have hq := hseq _ (alloc_below w (.cells #[.slice A n c] 22))
  have HQ := Lib.hid hq
  have bS := Boxed.new w 22 (.slice A n c)
  have hB0 : Below base w (w.alloc (.cells #[.slice A n c] 22)) := (Below.refl _ w).alloc hb _
  have HB0 := Lib.hid hB0
  clear ho hs hseq hq hB0
  refine callsIn_wide (n := 1).1 ?_
  refine callsIn_of_wp_marks Try.func26 rfl trivial ?_ rfl
  simp only [Try.ntmps26, List.size_toArray, List.length_cons, List.length_nil, Nat.reduceAdd, Nat.reduceSub, Array.replicate_succ, Array.replicate_zero, List.push_toArray, List.append_toArray, List.nil_append, List.cons_append]
  gi_wp2
  obtain ⟨W0, hW0⟩ : ∃ W0, w.alloc (.cells #[.slice A n c] 22) = W0 := ⟨_, rfl⟩
  have hsz : W0.heap.size = w.heap.size + 1 := by rw [← hW0]; simp
  rw [hW0] at HQ bS HB0 ⊢
  refine wpIn_rangeFunc_ownH rfl (Nat.le_refl 1) (gf := 33) (lb := #[.pointer (some ⟨B1, 0, none⟩), .pointer (some ⟨B2, 0, none⟩)]) rfl trivial (enters_of Try.func33 (by kernel_rfl) rfl)
    HQ.out belowK_t (belowK_b (Nat.le_trans hb HB0.out.size)) (Below.refl _ _) (fun _ => rfl)
    (fun pre W => (∃ u, Boxed W w.heap.size 22 u ∧ W.ownsRow base 29 2 u (n + pre.length) (cellsR (ys ++ pre)) ∧ True) ∧ Below base w W)
    (fun _ _ _ => False)
    (OwnFrom.and (Own.from (holdsRow_own base w.heap.size 22 29 2 (fun pre => n + pre.length) (fun pre => cellsR (ys ++ pre)) (fun _ _ => True)) _) (ownFrom_below hb (Nat.le_trans hb HB0.out.size)))
    (fun _ _ _ _ _ hs _ _ => hs)
    ⟨⟨_, bS, by rw [← hW0]; simpa using HO.out.alloc _, trivial⟩, HB0.out⟩
    (fun x a' W => ∃ Bx, LoopVar w.heap.size x W Bx ∧ a' = { tmps := #[.slice A n c, .func (.func 33) #[] #[.pointer (some ⟨B1, 0, none⟩), .pointer (some ⟨B2, 0, none⟩)], .pointer (some ⟨w.heap.size, 0, none⟩), undef, .slice none 0 0, .pointer (some ⟨Bx, 0, none⟩), .func (.func 33) #[] #[.pointer (some ⟨B1, 0, none⟩), .pointer (some ⟨B2, 0, none⟩)], .agg #[.string x.1, .string x.2], undef, undef, undef, undef, undef], defers := [] })
    ?hAx ?assign ?body ?done ?stop
  case hAx =>
    rintro x a' _ X Y row ⟨Bx, ⟨h1, h2⟩, rfl⟩ hg hr
    exact ⟨Bx, ⟨h1, (Own.from (blk_own Bx 29 (fun _ : Unit => #[.string x.1, .string x.2])) _) () X Y row h2 hg hr⟩, rfl⟩
  case assign =>
    rintro l pre x W K ⟨⟨u, hu, hrow, _⟩, hB⟩ hK
    gi_wp2
    exact hK _ _ ((KeepsOthers.alloc _ _).from _) ((Below.refl base W).alloc (Nat.le_trans hb hB.size) _) ⟨⟨_, hu.alloc _, hrow.alloc _, trivial⟩, hB.alloc (Nat.le_trans hb hB.size) _⟩ ⟨W.heap.size, ⟨hu.lt, Blk.new _ _ _⟩, rfl⟩
  case body =>
    rintro l pre x a' W _ _ ⟨⟨u, hu, hrow, _⟩, hB⟩ ⟨Bx, ⟨hx1, hx2⟩, rfl⟩ hlt
    obtain ⟨A1, c1, rfl, _, hl1, _, _, _⟩ := own_rws hrow
    have hc := hu.cell
    have q0 := hx2.cell 0
    have q1 := hx2.cell 1
    simp only [List.getElem?_toArray, List.getElem?_cons_succ, List.getElem?_cons_zero] at q0 q1
    have HROW := Lib.hid hrow
    have HU := Lib.hid hu
    have HB := Lib.hid hB
    have hle : n + pre.length + 1 ≤ 100000 := by have := HS.out; omega
    clear hrow hu hB hx2
    obtain ⟨y1, y2⟩ := x
    dsimp only at q0 q1
    gi_wp2_with (gi_at_builtin; refine wpListIn_append_own _ rfl _ _ 22 rfl base 29 i0 (.agg #[.string ⟨#[]⟩, .string ⟨#[]⟩]) 2 32 Try.underlying22 hi hz0 hz1 hz2 rfl (by decide) _ _ _ rfl (HROW.out.alloc _) ⟨W.heap.size, 0, none⟩ 1 1 (cellsR [(y1, y2)]) rfl rfl (two_cells _ _ _) (by simp [cellsR, Value.oneCell']) (by unfold maxLen; omega) (by omega) (by have := HB.out.size; simp; omega) ?_; intro v' w1 hown' hgrow _; obtain ⟨g', cap', rfl⟩ := ownsRow_succ hown'; obtain ⟨hv1, hv2, hr2, hk2, hb2⟩ := HU.out.appended (by decide) HROW.out (Nat.le_trans hb HB.out.size) hb hown' hgrow; have hc1 := hv1.cell; have hf1 := hv1.frozen)
    exact ⟨hk2.from _, hb2, ⟨_, hv2, by rw [List.length_append, List.length_singleton, ← Nat.add_assoc, ← List.append_assoc, cellsR_append]; exact hr2⟩, HB.out.trans hb2⟩
  case done =>
    rintro D zs W hD rfl ⟨⟨u, hu, hrow, _⟩, hB⟩ hK
    obtain ⟨A1, c1, rfl, _, hl1, _, _, _⟩ := own_rws hrow
    have hc := hu.cell
    have HROW := Lib.hid hrow
    have HB := Lib.hid hB
    clear hrow hB hu
    gi_wp2
    refine ⟨by simp, .inl ⟨_, _, rfl, run_takeDeferred hK, ?_⟩⟩
    exact ⟨_, results_tmp rfl _ _ _, _, rfl, ownsRow_putObj HROW.out _ hK rfl, HB.out.trans (belowK_b (w := w) hb W D _ _ (by omega) hK rfl rfl)⟩
  case stop =>
    rintro D c pre W _ _ h _
    exact h.elim
end Go.Proofs.Ytocaaebmelhhnaa
