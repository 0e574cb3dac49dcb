/- One cell of a row of the call's own stored; where such a row lies. -/
import Derived.Test.YtobbopakdaoemaaEnc
set_option maxRecDepth 4000
namespace Go.Proofs.Ytobbopakdaoemaa
open Go.RowKit
theorem own_set1 {α : Type} {E : Enc α} {T : TypeId} {W : World} {base g n c : Nat} {ys : List α} (h : Own W base E T (.slice (some ⟨g, 0, none⟩) n c) ys) {q : Nat} (hq : q < ys.length) (x : α) {i : Nat} {u : Value} (hi : i < E.k) (hx : E.enc x = (E.enc ys[q]).set i u) :
    Own (W.setCell ⟨g, q * E.k + i, none⟩ u) base E T (.slice (some ⟨g, 0, none⟩) n c) (ys.set q x) := by
  rcases h.2 with ⟨e, _⟩ | ⟨g', cap, cur, e, hb, hh, hnc, hcm, hcs, htk⟩
  · cases e
  · injection e with e1 e2 e3
    injection e1 with e1
    injection e1 with e1 _ _
    subst e1 e2 e3
    have hy : ys = ys.take q ++ ys[q] :: ys.drop (q + 1) := by rw [← List.drop_eq_getElem_cons hq, List.take_append_drop]
    have hs : ys.set q x = ys.take q ++ x :: ys.drop (q + 1) := by
      rw [List.set_eq_take_append_cons_drop, if_pos hq]
    have hcur : cur.toList = cellsE E (ys.take q) ++ E.enc ys[q] ++ (cellsE E (ys.drop (q + 1)) ++ cur.toList.drop (ys.length * E.k)) := by
      have hce : cellsE E ys = cellsE E (ys.take q) ++ (E.enc ys[q] ++ cellsE E (ys.drop (q + 1))) := by
        conv => lhs; rw [hy, cellsE_append, cellsE]
      conv => lhs; rw [← List.take_append_drop (ys.length * E.k) cur.toList, htk, hce]
      simp only [List.append_assoc]
    have hpl : (cellsE E (ys.take q)).length = q * E.k := by rw [cellsE_length, List.length_take, Nat.min_eq_left (by omega)]
    have hb0 : Blk W g T (cellsE E (ys.take q) ++ E.enc ys[q] ++ (cellsE E (ys.drop (q + 1)) ++ cur.toList.drop (ys.length * E.k))).toArray := by
      rw [← hcur]; exact hh
    have hlen : (E.enc ys[q]).length = E.k := E.len _
    have hei : E.enc ys[q] = (E.enc ys[q]).take i ++ [(E.enc ys[q])[i]'(by omega)] ++ (E.enc ys[q]).drop (i + 1) := by
      rw [List.append_assoc, List.singleton_append, ← List.drop_eq_getElem_cons (by omega), List.take_append_drop]
    have hexi : E.enc x = (E.enc ys[q]).take i ++ [u] ++ (E.enc ys[q]).drop (i + 1) := by
      rw [hx, List.set_eq_take_append_cons_drop, if_pos (by omega), List.append_assoc, List.singleton_append]
    have hb2 : Blk W g T ((cellsE E (ys.take q) ++ (E.enc ys[q]).take i) ++ [(E.enc ys[q])[i]'(by omega)] ++ ((E.enc ys[q]).drop (i + 1) ++ (cellsE E (ys.drop (q + 1)) ++ cur.toList.drop (ys.length * E.k)))).toArray := by
      have : (cellsE E (ys.take q) ++ (E.enc ys[q]).take i) ++ [(E.enc ys[q])[i]'(by omega)] ++ ((E.enc ys[q]).drop (i + 1) ++ (cellsE E (ys.drop (q + 1)) ++ cur.toList.drop (ys.length * E.k))) = cellsE E (ys.take q) ++ ((E.enc ys[q]).take i ++ [(E.enc ys[q])[i]'(by omega)] ++ (E.enc ys[q]).drop (i + 1)) ++ (cellsE E (ys.drop (q + 1)) ++ cur.toList.drop (ys.length * E.k)) := by simp only [List.append_assoc]
      rw [this, ← hei]
      exact hb0
    have hb3 := blk_setCells [u] _ [(E.enc ys[q])[i]'(by omega)] _ W (by simp) hb2
    rw [List.length_append, hpl, List.length_take, Nat.min_eq_left (by omega)] at hb3
    have hb1 : Blk (W.setCell ⟨g, q * E.k + i, none⟩ u) g T (cellsE E (ys.take q) ++ E.enc x ++ (cellsE E (ys.drop (q + 1)) ++ cur.toList.drop (ys.length * E.k))).toArray := by
      have : (cellsE E (ys.take q) ++ (E.enc ys[q]).take i) ++ [u] ++ ((E.enc ys[q]).drop (i + 1) ++ (cellsE E (ys.drop (q + 1)) ++ cur.toList.drop (ys.length * E.k))) = cellsE E (ys.take q) ++ ((E.enc ys[q]).take i ++ [u] ++ (E.enc ys[q]).drop (i + 1)) ++ (cellsE E (ys.drop (q + 1)) ++ cur.toList.drop (ys.length * E.k)) := by simp only [List.append_assoc]
      rw [this, ← hexi] at hb3
      exact hb3
    refine ⟨by rw [cellsE_length], .inr ⟨g, c, _, by rw [List.length_set], hb, hb1, by rw [List.length_set]; exact hnc, hcm, ?_, ?_⟩⟩
    · have := congrArg List.length hcur
      simp only [Array.length_toList, List.length_append, E.len] at this
      simp only [List.size_toArray, List.length_append, E.len]
      omega
    · rw [hs]
      have hl : (ys.take q ++ x :: ys.drop (q + 1)).length * E.k = (cellsE E (ys.take q) ++ E.enc x ++ cellsE E (ys.drop (q + 1))).length := by
        rw [← cellsE_length E, cellsE_append, cellsE, List.append_assoc]
      rw [hl, List.toList_toArray, ← List.append_assoc, List.take_left']
      · rw [cellsE_append, cellsE, List.append_assoc]
      · rfl
/-- a row of the call's own that holds something: where it lies -/
theorem own_slot {α : Type} {E : Enc α} {T : TypeId} {W : World} {base n c : Nat} {A : Option Addr} {ys : List α} (h : Own W base E T (.slice A n c) ys) (h0 : 0 < ys.length) :
    ∃ g cur, A = some ⟨g, 0, none⟩ ∧ base ≤ g ∧ Blk W g T cur ∧ ∀ j u, (cellsE E ys)[j]? = some u → W.cell? ⟨g, j, none⟩ = some u := by
  rcases h.2 with ⟨_, h1⟩ | ⟨g, cap, cur, e, hb, hh, hnc, hcm, hcs, htk⟩
  · omega
  · injection e with e1 e2 e3
    subst e1 e2 e3
    refine ⟨g, cur, rfl, hb, hh, fun j u hu => ?_⟩
    rw [show W.cell? ⟨g, j, none⟩ = cur[j]? from cell_of_row W g _ cur T (0, 0) hh]
    have hj := (List.getElem?_eq_some_iff.1 hu).1
    rw [cellsE_length] at hj
    rw [← htk, List.getElem?_take_of_lt (by omega)] at hu
    simpa using hu
theorem own_shape {α : Type} {E : Enc α} {T : TypeId} {W : World} {base n : Nat} {v : Value} {l : List α} (h : Own W base E T v l) (hn : l.length = n) : ∃ A c, v = .slice A n c := by
  obtain ⟨A, c, e, _⟩ := own_lst h
  exact ⟨A, c, by rw [← hn]; exact e⟩
theorem own_lst2 {α : Type} {E : Enc α} {T : TypeId} {W : World} {base n c : Nat} {A : Option Addr} {l : List α} (h : Own W base E T (.slice A n c) l) : Lst W (fun i => base ≤ i ∧ (Value.slice A n c).ownBlock = some i) E A l := by
  obtain ⟨A', c', e, hl, _⟩ := own_lst h
  injection e with e1 _ _
  subst e1
  exact hl
theorem own_cap {α : Type} {E : Enc α} {T : TypeId} {W : World} {base n c : Nat} {A : Option Addr} {l : List α} (h : Own W base E T (.slice A n c) l) : n = l.length ∧ n ≤ c ∧ c ≤ maxLen ∧ (A = none → c = 0) := by
  obtain ⟨A', c', e, _, h1, h2, h3⟩ := own_lst h
  injection e with e1 e2 e3
  subst e1 e2 e3
  exact ⟨rfl, h1, h2, h3⟩
end Go.Proofs.Ytobbopakdaoemaa
