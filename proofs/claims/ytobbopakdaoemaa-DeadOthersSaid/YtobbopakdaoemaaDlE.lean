/- One row less in a row of the call's own, in its own memory: what stands behind is moved ahead, and the last place is cleared. -/
import Derived.Test.YtobbopakdaoemaaEnc
set_option maxRecDepth 4000
namespace Go.Proofs.Ytobbopakdaoemaa
open Go.RowKit
section
variable {α : Type} {E : Enc α} {T : TypeId}
/-- the block behind the move, and behind the clearing -/
theorem own_delete {W : World} {base g n c : Nat} {ys : List α} (h : Own W base E T (.slice (some ⟨g, 0, none⟩) n c) ys) {q : Nat} (hq : q < ys.length) (zs : List Value) (hz : zs.length = E.k) :
    n = ys.length ∧ n ≤ c ∧ c ≤ maxLen ∧ ∃ cur cur1 : Array Value, Blk W g T cur ∧ cur.size = c * E.k ∧ Blk (W.setCells g (q * E.k) (cellsE E (ys.drop (q + 1)))) g T cur1 ∧ cur1.size = c * E.k ∧
      Own ((W.setCells g (q * E.k) (cellsE E (ys.drop (q + 1)))).setCells g ((n - 1) * E.k) zs) base E T (.slice (some ⟨g, 0, none⟩) (n - 1) c) (ys.eraseIdx q) := by
  rcases h.2 with ⟨e, _⟩ | ⟨g', cap, cur, e, hb, hh, hnc, hcm, hcs, htk⟩
  · cases e
  · injection e with e1 e2 e3
    injection e1 with e1
    injection e1 with e1 _ _
    subst e1 e2 e3
    have hk := E.pos
    have hce : cellsE E ys = cellsE E (ys.take q) ++ (E.enc ys[q] ++ cellsE E (ys.drop (q + 1))) := by
      conv => lhs; rw [← List.take_append_drop q ys, List.drop_eq_getElem_cons hq, cellsE_append, cellsE]
    have hpl : (cellsE E (ys.take q)).length = q * E.k := by rw [cellsE_length, List.length_take, Nat.min_eq_left (by omega)]
    have hdl : (cellsE E (ys.drop (q + 1))).length = (ys.length - (q + 1)) * E.k := by rw [cellsE_length, List.length_drop]
    have hlen : (E.enc ys[q]).length = E.k := E.len _
    obtain ⟨mid, hmid⟩ : ∃ mid, mid = E.enc ys[q] ++ cellsE E (ys.drop (q + 1)) := ⟨_, rfl⟩
    have hml : mid.length = E.k + (ys.length - (q + 1)) * E.k := by rw [hmid, List.length_append, hlen, hdl]
    obtain ⟨rest, hrest⟩ : ∃ rest, rest = cur.toList.drop (ys.length * E.k) := ⟨_, rfl⟩
    have hcur : cur.toList = cellsE E (ys.take q) ++ mid ++ rest := by
      conv => lhs; rw [← List.take_append_drop (ys.length * E.k) cur.toList, htk, hce]
      rw [hmid, hrest]
    obtain ⟨news, hnews⟩ : ∃ news, news = cellsE E (ys.drop (q + 1)) := ⟨_, rfl⟩
    rw [← hnews]
    rw [← hnews] at hdl
    have hb0 : Blk W g T (cellsE E (ys.take q) ++ mid.take news.length ++ (mid.drop news.length ++ rest)).toArray := by
      have : cellsE E (ys.take q) ++ mid.take news.length ++ (mid.drop news.length ++ rest) = cellsE E (ys.take q) ++ mid ++ rest := by
        rw [List.append_assoc, ← List.append_assoc (mid.take _), List.take_append_drop, List.append_assoc]
      rw [this, ← hcur]
      exact hh
    have hb1 := blk_setCells news _ (mid.take news.length) _ W (by rw [List.length_take]; omega) hb0
    rw [hpl] at hb1
    have hb1' : Blk (W.setCells g (q * E.k) news) g T ((cellsE E (ys.take q) ++ news) ++ mid.drop news.length ++ rest).toArray := by
      have : (cellsE E (ys.take q) ++ news) ++ mid.drop news.length ++ rest = cellsE E (ys.take q) ++ news ++ (mid.drop news.length ++ rest) := by simp only [List.append_assoc]
      rw [this]
      exact hb1
    have hb2 := blk_setCells zs _ (mid.drop news.length) _ _ (by rw [List.length_drop, hml, hdl]; omega) hb1'
    have hqk : (cellsE E (ys.take q) ++ news).length = (ys.length - 1) * E.k := by
      rw [List.length_append, hpl, hdl, ← Nat.add_mul]
      congr 1
      omega
    rw [hqk] at hb2
    have hsz := congrArg List.length hcur
    simp only [Array.length_toList, List.length_append, hpl, hml] at hsz
    have hdm : (mid.drop news.length).length = E.k := by rw [List.length_drop, hml, hdl]; omega
    refine ⟨rfl, hnc, hcm, cur, _, hh, hcs, hb1, ?_, ?_⟩
    · simp only [List.size_toArray, List.length_append]
      rw [hpl, hdm]
      omega
    · have hel : (ys.eraseIdx q).length = ys.length - 1 := List.length_eraseIdx_of_lt hq
      have hec : cellsE E (ys.eraseIdx q) = cellsE E (ys.take q) ++ news := by rw [List.eraseIdx_eq_take_drop_succ, cellsE_append, hnews]
      refine ⟨by rw [cellsE_length], .inr ⟨g, c, _, by rw [hel], hb, hb2, by rw [hel]; omega, hcm, ?_, ?_⟩⟩
      · simp only [List.size_toArray, List.length_append, hpl, hdl, hz]
        omega
      · rw [hel, hec, List.toList_toArray, ← hqk, List.append_assoc, List.take_left]
end
end Go.Proofs.Ytobbopakdaoemaa
