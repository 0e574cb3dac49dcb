/- Parts side by side: copies of them, some in a row. -/
import Derived.Test.YtocaaebmelhhnaaTreeM
import Derived.Laws.Cover1
set_option maxRecDepth 4000
namespace Go.Proofs.Ytocaaebmelhhnaa
open Go.RowKit
theorem elemPart : Try.prog.elem 69 = 59 := by simp [Program.elem, Try.underlying69]
theorem sizePart (w : World) : (Go.sizeOf 59).run Try.prog w = .ok 1 w := by kernel_rfl
theorem head_vls (A : Option Addr) (l c q : Nat) (h : q ≤ c) (W : World) : (Instr.slice 69 (.slice A l c) none (some (.int .i64 (q : Int))) none).run Try.prog W = .ok (.slice A q c) W := by
  rw [run_slice_h W 69 _ _ _ (by rw [elemPart]; exact Try.underlying69) .i64 _ (by omega) (by omega), elemPart, sizePart]
  have : A.map (·.add (0 * 1)) = A := by cases A <;> simp [Addr.add]
  simp [Result.andThen, sliced]
  cases A <;> simp [Addr.add]
theorem PsAt.take {h : Nat} {w : World} {K : Nat → Prop} {A : Option Addr} {n c : Nat} {vs : List Value} {ks : List (Tr h)} (a : PsAt h w K A n c vs ks) {q : Nat} (hq : q ≤ n) : PsAt h w K A q c (vs.take q) (ks.take q) :=
  ⟨a.vls.take q, by rw [List.length_take, a.len]; omega, Nat.le_trans hq a.cap, a.none, a.kids.take q⟩
/-- parts from place q on -/
theorem tail_ps {h : Nat} {w : World} {K : Nat → Prop} {A : Option Addr} {n c : Nat} {vs : List Value} {ks : List (Tr h)} (a : PsAt h w K A n c vs ks) {q m : Nat} (hq : q ≤ n) (hm : n - q = m) :
    ∃ A', (∀ W, (Instr.slice 69 (.slice A n c) (some (.int .i64 (q : Int))) none none).run Try.prog W = .ok (.slice A' m (c - q)) W) ∧ PsAt h w K A' m (c - q) (vs.drop q) (ks.drop q) := by
  subst hm
  have hc := a.cap
  refine ⟨_, fun W => ?_, ⟨a.vls.drop (k := q) (c := c) (by rw [a.len]; exact hc), by rw [List.length_drop, a.len], by omega, fun e => ?_, a.kids.drop q⟩⟩
  · rw [run_slice_l W 69 _ _ _ (by rw [elemPart]; exact Try.underlying69) .i64 _ (by omega) (by omega), elemPart, sizePart]
    rfl
  · by_cases hcq : c = q
    · omega
    · rw [if_neg hcq] at e
      have := a.none (by simpa using e)
      omega
theorem clone_ps {h : Nat} {w : World} {K : Nat → Prop} {A : Option Addr} {n c : Nat} {vs : List Value} {ks : List (Tr h)} (a : PsAt h w K A n c vs ks) (hn : n ≤ 100000) (hK : ∀ i, w.heap.size ≤ i → K i) :
    Calls Try.prog 81 #[.slice A n c] w fun e w' => ∃ v, e = .returned v ∧ NewP h w K ks v w' := by
  refine (clone_vls a.vls a.len (by omega) a.none a.kids.oneCell).mono ?_
  rintro e w' ⟨v, rfl, A', c', rfl, hv, h1, h2, h3, hb⟩
  exact ⟨_, rfl, A', n, c', vs, rfl, ⟨hv.more fun i _ hi => hK i hi, a.len, h1, h3, a.kids.below hb⟩, hb⟩
/-- some parts, others, and others again, in a row -/
theorem concatp3 {h : Nat} {w : World} {K : Nat → Prop} {A1 A2 A3 : Option Addr} {n1 n2 n3 c1 c2 c3 : Nat} {vs1 vs2 vs3 : List Value} {ks1 ks2 ks3 : List (Tr h)} (h1 : PsAt h w K A1 n1 c1 vs1 ks1) (h2 : PsAt h w K A2 n2 c2 vs2 ks2) (h3 : PsAt h w K A3 n3 c3 vs3 ks3)
    (hs : n1 + n2 + n3 ≤ 100000) (hK : ∀ i, w.heap.size ≤ i → K i) {b : Nat} (hb : b = w.heap.size) :
    Calls Try.prog 80 #[.slice (some ⟨b, 0, none⟩) 3 3] ((w.alloc (.cells #[.slice A1 n1 c1, .slice A2 n2 c2, .slice A3 n3 c3] 69)).drew)
      fun e w' => ∃ v, e = .returned v ∧ NewP h w K (ks1 ++ ks2 ++ ks3) v w' := by
  subst hb
  have k2 := (alloc_below w (.cells #[.slice A1 n1 c1, .slice A2 n2 c2, .slice A3 n3 c3] 69)).drew
  have hB := (Blk.new w 69 #[.slice A1 n1 c1, .slice A2 n2 c2, .slice A3 n3 c3]).drew
  have hv : ValsV ((w.alloc (.cells #[.slice A1 n1 c1, .slice A2 n2 c2, .slice A3 n3 c3] 69)).drew) w.heap.size 0 [(.slice A1 n1 c1, vs1), (.slice A2 n2 c2, vs2), (.slice A3 n3 c3, vs3)] :=
    ⟨hB.lt, fun j hj => by rw [hB.cell, Nat.zero_add, ← Array.getElem?_toList]; match j, hj with
      | 0, _ => rfl
      | 1, _ => rfl
      | 2, _ => rfl⟩
  have e1 := h1.len
  have e2 := h2.len
  have e3 := h3.len
  refine (concatv_ hv ?_ rfl (by simp) (by simp [flatV]; omega)).mono ?_
  · intro p hp
    rcases List.mem_cons.1 hp with rfl | hp
    · exact ⟨A1, c1, K, by rw [e1], h1.vls.below k2, h1.kids.oneCell⟩
    · rcases List.mem_cons.1 hp with rfl | hp
      · exact ⟨A2, c2, K, by rw [e2], h2.vls.below k2, h2.kids.oneCell⟩
      · rcases List.mem_cons.1 hp with rfl | hp
        · exact ⟨A3, c3, K, by rw [e3], h3.vls.below k2, h3.kids.oneCell⟩
        · cases hp
  · rintro e w' ⟨v, rfl, A', c', rfl, hv, p1, p2, p3, hb⟩
    have hb2 := k2.trans (hb.mono k2.size)
    have ef : flatV [(Value.slice A1 n1 c1, vs1), (.slice A2 n2 c2, vs2), (.slice A3 n3 c3, vs3)] = vs1 ++ vs2 ++ vs3 := by simp [flatV]
    rw [ef] at hv p1 ⊢
    exact ⟨_, rfl, A', _, c', vs1 ++ vs2 ++ vs3, rfl, ⟨hv.more fun i _ hi => hK i (Nat.le_trans k2.size hi), rfl, p1, p3, ((h1.kids.below hb2).append (h2.kids.below hb2)).append (h3.kids.below hb2)⟩, hb2⟩
theorem concatp2 {h : Nat} {w : World} {K : Nat → Prop} {A1 A2 : Option Addr} {n1 n2 c1 c2 : Nat} {vs1 vs2 : List Value} {ks1 ks2 : List (Tr h)} (h1 : PsAt h w K A1 n1 c1 vs1 ks1) (h2 : PsAt h w K A2 n2 c2 vs2 ks2)
    (hs : n1 + n2 ≤ 100000) (hK : ∀ i, w.heap.size ≤ i → K i) {b : Nat} (hb : b = w.heap.size) :
    Calls Try.prog 80 #[.slice (some ⟨b, 0, none⟩) 2 2] ((w.alloc (.cells #[.slice A1 n1 c1, .slice A2 n2 c2] 69)).drew)
      fun e w' => ∃ v, e = .returned v ∧ NewP h w K (ks1 ++ ks2) v w' := by
  subst hb
  have k2 := (alloc_below w (.cells #[.slice A1 n1 c1, .slice A2 n2 c2] 69)).drew
  have hB := (Blk.new w 69 #[.slice A1 n1 c1, .slice A2 n2 c2]).drew
  have hv : ValsV ((w.alloc (.cells #[.slice A1 n1 c1, .slice A2 n2 c2] 69)).drew) w.heap.size 0 [(.slice A1 n1 c1, vs1), (.slice A2 n2 c2, vs2)] :=
    ⟨hB.lt, fun j hj => by rw [hB.cell, Nat.zero_add, ← Array.getElem?_toList]; match j, hj with
      | 0, _ => rfl
      | 1, _ => rfl⟩
  have e1 := h1.len
  have e2 := h2.len
  refine (concatv_ hv ?_ rfl (by simp) (by simp [flatV]; omega)).mono ?_
  · intro p hp
    rcases List.mem_cons.1 hp with rfl | hp
    · exact ⟨A1, c1, K, by rw [e1], h1.vls.below k2, h1.kids.oneCell⟩
    · rcases List.mem_cons.1 hp with rfl | hp
      · exact ⟨A2, c2, K, by rw [e2], h2.vls.below k2, h2.kids.oneCell⟩
      · cases hp
  · rintro e w' ⟨v, rfl, A', c', rfl, hv, p1, p2, p3, hb⟩
    have hb2 := k2.trans (hb.mono k2.size)
    have ef : flatV [(Value.slice A1 n1 c1, vs1), (.slice A2 n2 c2, vs2)] = vs1 ++ vs2 := by simp [flatV]
    rw [ef] at hv p1 ⊢
    exact ⟨_, rfl, A', _, c', vs1 ++ vs2, rfl, ⟨hv.more fun i _ hi => hK i (Nat.le_trans k2.size hi), rfl, p1, p3, (h1.kids.below hb2).append (h2.kids.below hb2)⟩, hb2⟩
end Go.Proofs.Ytocaaebmelhhnaa
