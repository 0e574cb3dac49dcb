/- The library's Delete of one message, in a row of the call's own. -/
import Derived.Test.YtobbopakdaoemaaDlE
import Derived.Test.YtobbopakdaoemaaSet
import Derived.Test.YtobbopakdaoemaaMqC
import Derived.Lib.SliceRun
import Derived.Deep.RegionLaw
import Derived.Shelf.RegionOpenPlain
set_option maxRecDepth 4000
namespace Go.Proofs.Ytobbopakdaoemaa
open Go.RowKit
/-- a fact that the walk must not look through -/
structure ShutD (p : Prop) : Prop where out : p
/-- what clear stores over one message -/
def zcM : List Value := [.int .i64 0, .int .i64 0, .int .i64 0, .bool false, .string ⟨#[]⟩, .string ⟨#[]⟩]
theorem zc_at (w : World) (ty : TypeId) (b o c : Nat) (hc : ∀ j, j < 6 → (w.cell? ⟨b, o + j, none⟩).isSome = true) (hf : ∀ j, j < 6 → w.frozen? ⟨b, o + j, none⟩ = false) :
    (Builtin.clear_ #[23] ty #[.slice (some ⟨b, o, none⟩) 1 c]).run Try.prog w = .ok (.tuple #[]) (w.setCells b o zcM) := by
  have hst := run_storeCells_cells (P := Try.prog) b o zcM 0 w (by simpa [zcM] using hc) (by simpa [zcM] using hf) (by intro v hv; simp [zcM] at hv; rcases hv with rfl | rfl | rfl <;> rfl)
  simp only [Nat.add_zero] at hst
  have hz : (Builtin.zeroCells (Value.agg #[.int .i64 0, .int .i64 0, .int .i64 0, .bool false, .string ⟨#[]⟩, .string ⟨#[]⟩]).cells 1).toList = zcM := by kernel_rfl
  rw [← hz] at hst ⊢
  simp [Builtin.clear_, run_underlying Try.underlying23, Try.zeroValue34, hst]
theorem grown_setCells {w w1 : World} {g : Nat} (h : w.grownBy w1 (some g)) (o : Nat) (vs : List Value) : w.grownBy (w1.setCells g o vs) (some g) := by
  obtain ⟨h1, h2, h3, h4⟩ := setCells_plain g vs o w1
  exact ⟨h1.trans h.os, h2.trans h.tape, h3.trans h.output, by rw [h4]; exact h.size, fun i hi hne => (heap_setCells_far g vs o w1 i (fun e => hne (by rw [e]))).trans (h.block i hi hne)⟩
set_option maxHeartbeats 4000000 in
theorem delete_m {w : World} {base : Nat} {v : Value} {l : List Mg} {q : Nat} (ho : OwnM w base v l) (hq : q < l.length) (hn : l.length ≤ 100000) :
    Calls Try.prog 16 #[v, .int .i64 (q : Int), .int .i64 ((q : Int) + 1)] w fun e w' => ∃ v', e = .returned v' ∧ OwnM w' base v' (l.eraseIdx q) ∧ v'.ownBlock = v.ownBlock ∧ w.grownBy w' v.ownBlock := by
  obtain ⟨A, c, rfl⟩ := own_shape ho rfl
  obtain ⟨g, _, rfl, _⟩ := own_slot ho (by omega)
  have hod : OwnM w.drew base (.slice (some ⟨g, 0, none⟩) l.length c) l := ho
  obtain ⟨_, hlc, hcm, cur, cur1, hB, hBs, hB1, hB1s, hO1⟩ := own_delete hod hq zcM rfl
  obtain ⟨A0, c0, e0, hlst, _⟩ := own_lst hod
  injection e0 with eA _ ec
  subst eA ec
  obtain ⟨A', hsl, hL, hno⟩ := tail_m hlst rfl hlc (show q + 1 ≤ l.length by omega) rfl
  obtain ⟨a', rfl⟩ : ∃ a, A' = some a := by
    rcases A' with _ | a
    · cases hno rfl
    · exact ⟨a, rfl⟩
  have hsl' : ∀ W, (Instr.slice 23 (.slice (some ⟨g, 0, none⟩) l.length c) (some (.int .i64 ((q : Int) + 1))) none none).run Try.prog W = .ok (.slice (some a') (l.length - (q + 1)) (c - (q + 1))) W := hsl
  have hsrc : ∀ t u, (cellsE eM (l.drop (q + 1)))[t]? = some u → w.drew.cell? (a'.add t) = some u := fun t u hu => by
    have h0 : 0 < (l.drop (q + 1)).length := by
      rcases Nat.eq_zero_or_pos (l.drop (q + 1)).length with h0 | h0
      · rw [List.eq_nil_of_length_eq_zero h0] at hu
        simp [cellsE] at hu
      · exact h0
    obtain ⟨b, o, e, _, _, hc⟩ := hL h0
    injection e with e
    subst e
    rw [add_none]
    exact hc t u hu
  have hnl : (cellsE eM (l.drop (q + 1))).length = (l.length - (q + 1)) * 6 := by rw [cellsE_length, List.length_drop]; rfl
  have hk6 : eM.k = 6 := rfl
  rw [hk6] at hBs hB1 hB1s hO1
  have hone := cellsE_one eM (l.drop (q + 1))
  have hspare : ∀ t, t < (cellsE eM (l.drop (q + 1))).length → (w.drew.cell? ⟨g, 0 + q * 6 + t, none⟩).isSome = true ∧ w.drew.frozen? ⟨g, 0 + q * 6 + t, none⟩ = false := fun t ht => by
    rw [hnl] at ht
    refine ⟨?_, hB.frozen _⟩
    rw [hB.cell, Array.getElem?_eq_getElem (by rw [hBs]; omega)]
    rfl
  have hW1e : w.drew.setCells g (0 + q * 6) (cellsE eM (l.drop (q + 1))) = w.drew.setCells g (q * 6) (cellsE eM (l.drop (q + 1))) := by rw [Nat.zero_add]
  have hg1 : w.grownBy (w.drew.setCells g (q * 6) (cellsE eM (l.drop (q + 1)))) (some g) := grown_setCells (w := w) (w1 := w.drew) ⟨rfl, rfl, rfl, Nat.le_refl _, fun _ _ _ => rfl⟩ _ _
  have hcl : ∀ ty, (Builtin.clear_ #[23] ty #[.slice (some ⟨g, (l.length - 1) * 6, none⟩) 1 (c - (l.length - 1))]).run Try.prog (w.drew.setCells g (q * 6) (cellsE eM (l.drop (q + 1)))) = .ok (.tuple #[]) ((w.drew.setCells g (q * 6) (cellsE eM (l.drop (q + 1)))).setCells g ((l.length - 1) * 6) zcM) := fun ty =>
    zc_at _ ty g ((l.length - 1) * 6) _ (fun j hj => by rw [hB1.cell, Array.getElem?_eq_getElem (by rw [hB1s]; omega)]; rfl) (fun j _ => hB1.frozen _)
  have hg2 := grown_setCells hg1 ((l.length - 1) * 6) zcM
  obtain ⟨i0, hi0, hz0, hz1, hz2⟩ := info_parts infoM
  generalize cellsE eM (l.drop (q + 1)) = news at *
  generalize hW1 : w.drew.setCells g (q * 6) news = W1 at *
  have HE := ShutD.mk hW1e
  have S1 := ShutD.mk hnl
  have S2 := ShutD.mk hsrc
  have S3 := ShutD.mk hone
  have S4 := ShutD.mk hspare
  have HO1 := ShutD.mk hO1
  have HG2 := ShutD.mk hg2
  have HCL := ShutD.mk hcl
  have mixed : Try.prog.follows .mixedOrders = true := by kernel_rfl
  clear ho hod hB hB1 hBs hB1s hO1 hlst hsl hL hno hsrc hnl hk6 hone hspare hW1e hg1 hcl hg2 hW1
  generalize l.length = n at *
  have hp : n - 1 = q + (n - (q + 1)) := by omega
  have hone : 1 = n - (q + (n - (q + 1))) := by omega
  have hcl := HCL.out
  rw [hp] at hcl HO1 HG2
  rw [show (Value.slice (some ⟨g, (q + (n - (q + 1))) * 6, none⟩) 1 (c - (q + (n - (q + 1))))) = .slice (some ⟨g, (q + (n - (q + 1))) * 6, none⟩) (n - (q + (n - (q + 1)))) (c - (q + (n - (q + 1)))) by rw [← hone]] at hcl
  clear HCL hp hone
  have hqc : q ≤ c := by omega
  have hqc1 : q + 1 ≤ c := by omega
  go_enter Try.func16, Try.ntmps16
  go_wp2_with fail
  go_region_law_o (refine step_append_room rfl (.tmp 22) (.tmp 25) 23 rfl 34 i0 6 Try.underlying23 hi0 hz1 g 0 q c (by simp [Act.eval, Act.put]) a' (n - (q + 1)) (c - (q + 1)) news (by simp [Act.eval, Act.put]) S1.out S2.out S3.out (by omega) S4.out ?_; rw [HE.out])
  go_wp2
  go_ret
  exact ⟨_, rfl, HO1.out, rfl, HG2.out⟩
end Go.Proofs.Ytobbopakdaoemaa
