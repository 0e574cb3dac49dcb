/- An array of truths, one for each of the keys of three letters: which of them a list of rows has. -/
import Derived.Test.YtocaaebmelhhnaaTKey
import Derived.Test.YtocaaebmelhhnaaKeep
import Derived.OwnWalk
set_option maxRecDepth 4000
namespace Go.Proofs.Ytocaaebmelhhnaa
open Go.RowKit
theorem info8k : (Try.prog.info? 45).map (fun i => (i.zero, i.size, i.bytes)) = some (some (.agg (Array.replicate 8000 (.bool false))), 8000, 8000) := by kernel_rfl
theorem zero8k (W : World) : (zeroValue 45).run Try.prog W = .ok (.agg (Array.replicate 8000 (.bool false))) W := by
  obtain ⟨i0, hi, hz0, hz1, hz2⟩ := info_parts info8k
  unfold zeroValue typeInfo
  simp [go_sem, hi, hz0]
theorem found_put {l : List Rw} (h : Up l) (r : Rw) (k : ByteArray) : foundR (putR l r) k = (decide (cmpS r.1 k = 0) || foundR l k) := by
  rw [Bool.eq_iff_iff, found_iff (h.put r), Bool.or_eq_true, decide_eq_true_eq, found_iff h]
  constructor
  · rintro ⟨x, hx, hz⟩
    rcases (mem_put h r x).1 hx with rfl | ⟨hx, _⟩
    · exact .inl hz
    · exact .inr ⟨x, hx, hz⟩
  · rintro (hz | ⟨x, hx, hz⟩)
    · exact ⟨r, (mem_put h r r).2 (.inl rfl), hz⟩
    · by_cases hr : cmpS x.1 r.1 = 0
      · refine ⟨r, (mem_put h r r).2 (.inl rfl), ?_⟩
        rw [cmpS_eq] at hz hr ⊢
        exact hr.symm.trans hz
      · exact ⟨x, (mem_put h r x).2 (.inr ⟨hx, hr⟩), hz⟩
theorem found_cut {l : List Rw} (h : Up l) (c k : ByteArray) : foundR (cutRw l c) k = (!decide (cmpS c k = 0) && foundR l k) := by
  rw [Bool.eq_iff_iff, found_iff (h.cut c), Bool.and_eq_true, Bool.not_eq_true', decide_eq_false_iff_not, found_iff h]
  constructor
  · rintro ⟨x, hx, hz⟩
    obtain ⟨hx, hn⟩ := (mem_cut h c x).1 hx
    refine ⟨fun e => hn ?_, x, hx, hz⟩
    rw [cmpS_eq] at hz e ⊢
    exact hz.trans e.symm
  · rintro ⟨hn, x, hx, hz⟩
    refine ⟨x, (mem_cut h c x).2 ⟨hx, fun e => hn ?_⟩, hz⟩
    rw [cmpS_eq] at hz e ⊢
    exact e.symm.trans hz
/-- which keys a list of rows has -/
def Marks (cs : Array Value) (l : List Rw) : Prop := cs.size = 8000 ∧ ∀ k, k < 8000 → cs[k]? = some (.bool (foundR l (keyB k)))
theorem marks_nil : Marks (Array.replicate 8000 (.bool false)) [] := ⟨by simp, fun k hk => by rw [Array.getElem?_replicate, if_pos hk]; rfl⟩
theorem Marks.put {cs : Array Value} {l : List Rw} (h : Marks cs l) (hu : Up l) {k : Nat} (hk : k < 8000) (v : ByteArray) : Marks (cs.setIfInBounds k (.bool true)) (putR l (keyB k, v)) := by
  refine ⟨by simp [h.1], fun j hj => ?_⟩
  rw [found_put hu, Array.getElem?_setIfInBounds]
  by_cases e : k = j
  · subst e
    rw [if_pos rfl, if_pos (by rw [h.1]; exact hk), decide_eq_true ((keyB_inj hk hk).2 rfl)]; rfl
  · rw [if_neg e, h.2 j hj, decide_eq_false (fun hz => e ((keyB_inj hk hj).1 hz))]; rfl
theorem Marks.cut {cs : Array Value} {l : List Rw} (h : Marks cs l) (hu : Up l) {k : Nat} (hk : k < 8000) : Marks (cs.setIfInBounds k (.bool false)) (cutRw l (keyB k)) := by
  refine ⟨by simp [h.1], fun j hj => ?_⟩
  rw [found_cut hu, Array.getElem?_setIfInBounds]
  by_cases e : k = j
  · subst e
    rw [if_pos rfl, if_pos (by rw [h.1]; exact hk), decide_eq_true ((keyB_inj hk hk).2 rfl)]; rfl
  · rw [if_neg e, h.2 j hj, decide_eq_false (fun hz => e ((keyB_inj hk hj).1 hz))]; rfl
end Go.Proofs.Ytocaaebmelhhnaa
