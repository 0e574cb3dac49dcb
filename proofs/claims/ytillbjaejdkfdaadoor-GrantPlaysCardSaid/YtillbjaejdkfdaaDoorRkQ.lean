/- Plain facts: the document's Holds, one of the line after the other. -/
import Derived.Test.YtillbjaejdkfdaaDoorRkF
set_option maxRecDepth 4000
namespace Go.Proofs.YtillbjaejdkfdaaDoor
open Go
theorem has_no' {l : List Cl} {who : Int} (h : ∀ c ∈ l, c.1 ≠ who) : hasP l who = false := by
  unfold hasP
  rw [List.any_eq_false]
  intro c hc
  simpa [isW] using h c hc
def hldI (H L : List Cl) (i : Nat) : List Ho := H.map (holdsA (L.take i)) ++ ((L.take i).filter fun c => modeP H c.1 == 0).map holdsB
theorem hld_all (H L : List Cl) : hldI H L L.length = holdsP (H, L) := by unfold hldI holdsP; rw [List.take_length]
theorem hld_zero (H L : List Cl) : hldI H L 0 = H.map hdA := by
  unfold hldI
  simp only [List.take_zero, List.filter_nil, List.map_nil, List.append_nil]
  rfl
theorem mode_snoc_ne {l : List Cl} {x : Cl} {who : Int} (h : x.1 ≠ who) : modeP (l ++ [x]) who = modeP l who := by
  unfold modeP
  have : (l ++ [x]).find? (isW who) = l.find? (isW who) := by
    rw [List.find?_append]
    have e : [x].find? (isW who) = none := List.find?_eq_none.2 fun y hy => by
      have : y = x := by simpa using hy
      subst this
      simpa [isW] using h
    rw [e, Option.or_none]
  rw [this]
theorem mode_snoc_eq {l : List Cl} {x : Cl} (h : hasP l x.1 = false) : modeP (l ++ [x]) x.1 = x.2 := by
  unfold modeP
  have e : l.find? (isW x.1) = none := List.find?_eq_none.2 fun y hy => by simpa using List.any_eq_false.1 h y hy
  have e2 : [x].find? (isW x.1) = some x := by simp [isW]
  rw [List.find?_append, e, e2]
  rfl
theorem line_new {L : List Cl} (h : (L.map (·.1)).Nodup) {i : Nat} (hi : i < L.length) : hasP (L.take i) (L[i]).1 = false := has_no' fun c hc => by
  obtain ⟨q, hq, rfl⟩ := List.getElem_of_mem hc
  rw [List.length_take] at hq
  rw [List.getElem_take]
  have := List.pairwise_iff_getElem.1 h q i (by rw [List.length_map]; omega) (by rw [List.length_map]; exact hi) (by omega)
  simpa using this
theorem hld_hit {H L : List Cl} (ok : Ok (H, L)) {i : Nat} (hi : i < L.length) (hk : H.findIdx (isW (L[i]).1) < H.length) :
    idxI (isHo (L[i]).1) (hldI H L i) = (H.findIdx (isW (L[i]).1) : Int) ∧
    hldI H L (i + 1) = (hldI H L i).set (H.findIdx (isW (L[i]).1)) ((H[H.findIdx (isW (L[i]).1)]).1, (H[H.findIdx (isW (L[i]).1)]).2, (L[i]).2) := by
  have hw : (H[H.findIdx (isW (L[i]).1)]).1 = (L[i]).1 := by
    have := List.findIdx_getElem (w := hk)
    simpa [isW] using this
  have hnew := line_new ok.ndL hi
  have hbef : ∀ q, q < H.findIdx (isW (L[i]).1) → ∀ hq : q < H.length, (H[q]).1 ≠ (L[i]).1 := fun q hq hql => by
    have := List.not_of_lt_findIdx hq
    simpa [isW] using this
  have hoth : ∀ q (hq : q < H.length), q ≠ H.findIdx (isW (L[i]).1) → (H[q]).1 ≠ (L[i]).1 := fun q hq hne e => by
    rw [← hw] at e
    rcases Nat.lt_or_gt_of_ne hne with h | h
    · have := List.pairwise_iff_getElem.1 ok.ndH q _ (by rw [List.length_map]; exact hq) (by rw [List.length_map]; exact hk) h
      simp only [List.getElem_map] at this
      exact this e
    · have := List.pairwise_iff_getElem.1 ok.ndH _ q (by rw [List.length_map]; exact hk) (by rw [List.length_map]; exact hq) h
      simp only [List.getElem_map] at this
      exact this e.symm
  have hhas : hasP H (L[i]).1 = true := by
    unfold hasP
    rw [List.any_eq_true]
    exact ⟨_, List.getElem_mem hk, List.findIdx_getElem⟩
  have hz : (modeP H (L[i]).1 == 0) = false := by
    have := mode_zero ok.mH (L[i]).1
    simp only at this
    rw [this, hhas]; rfl
  generalize H.findIdx (isW (L[i]).1) = k at *
  constructor
  · refine idx_hit (by unfold hldI; rw [List.length_append, List.length_map]; omega) ?_ fun q hq => ?_
    · unfold hldI
      rw [List.getElem_append_left (by rw [List.length_map]; exact hk), List.getElem_map]
      show ((H[k]).1 == (L[i]).1) = true
      rw [hw]; simp
    · unfold hldI
      rw [List.getElem_append_left (by rw [List.length_map]; omega), List.getElem_map]
      show ((H[q]).1 == (L[i]).1) = false
      simpa using hbef q hq (by omega)
  · unfold hldI
    rw [List.set_append_left _ _ (by rw [List.length_map]; exact hk), List.take_succ_eq_append_getElem hi, List.filter_append]
    have e1 : [L[i]].filter (fun c => modeP H c.1 == 0) = [] := by simp [hz]
    rw [e1, List.append_nil]
    congr 1
    refine List.ext_getElem (by simp) fun q h1 h2 => ?_
    rw [List.length_map] at h1
    rw [List.getElem_map, List.getElem_set]
    split
    · rename_i hkq
      subst hkq
      show ((H[k]).1, (H[k]).2, modeP (L.take i ++ [L[i]]) (H[k]).1) = _
      rw [hw, mode_snoc_eq hnew]
    · rename_i hkq
      rw [List.getElem_map]
      show ((H[q]).1, (H[q]).2, modeP (L.take i ++ [L[i]]) (H[q]).1) = ((H[q]).1, (H[q]).2, modeP (L.take i) (H[q]).1)
      rw [mode_snoc_ne (hoth q h1 (fun e => hkq e.symm)).symm]
theorem hld_miss {H L : List Cl} (ok : Ok (H, L)) {i : Nat} (hi : i < L.length) (hh : hasP H (L[i]).1 = false) :
    idxI (isHo (L[i]).1) (hldI H L i) = -1 ∧ hldI H L (i + 1) = hldI H L i ++ [lnA L[i]] := by
  have hnew := line_new ok.ndL hi
  have hH : ∀ c ∈ H, c.1 ≠ (L[i]).1 := not_has hh
  have hL : ∀ c ∈ L.take i, c.1 ≠ (L[i]).1 := not_has hnew
  have hz : (modeP H (L[i]).1 == 0) = true := by
    have := mode_zero ok.mH (L[i]).1
    simp only at this
    rw [this, hh]; rfl
  constructor
  · refine idx_miss fun q hq => ?_
    have hm := List.getElem_mem hq
    show ((hldI H L i)[q].1 == (L[i]).1) = false
    rw [beq_eq_false_iff_ne]
    rcases List.mem_append.1 hm with hm | hm
    · obtain ⟨c, hc, e⟩ := List.mem_map.1 hm
      rw [← e]; exact hH c hc
    · obtain ⟨c, hc, e⟩ := List.mem_map.1 hm
      rw [← e]; exact hL c (List.mem_filter.1 hc).1
  · unfold hldI
    rw [List.take_succ_eq_append_getElem hi, List.filter_append]
    have e1 : [L[i]].filter (fun c => modeP H c.1 == 0) = [L[i]] := by simp [hz]
    have e2 : H.map (holdsA (L.take i ++ [L[i]])) = H.map (holdsA (L.take i)) := List.map_congr_left fun c hc => by
      unfold holdsA
      rw [mode_snoc_ne (hH c hc).symm]
    rw [e1, e2, List.map_append, ← List.append_assoc]
    rfl
theorem hld_at {H : List Cl} {k : Nat} (L : List Cl) (i : Nat) (hk : k < H.length) : ∃ h : k < (hldI H L i).length, (hldI H L i)[k] = ((H[k]).1, (H[k]).2, modeP (L.take i) (H[k]).1) := by
  refine List.getElem?_eq_some_iff.1 ?_
  unfold hldI
  rw [List.getElem?_append_left (by rw [List.length_map]; exact hk), List.getElem?_map, List.getElem?_eq_getElem hk]
  rfl
theorem hld_length (H L : List Cl) (i : Nat) : (hldI H L i).length ≤ H.length + L.length := by
  unfold hldI
  rw [List.length_append, List.length_map, List.length_map]
  have := List.length_filter_le (fun c => modeP H c.1 == 0) (L.take i)
  rw [List.length_take] at this
  omega
end Go.Proofs.YtillbjaejdkfdaaDoor
