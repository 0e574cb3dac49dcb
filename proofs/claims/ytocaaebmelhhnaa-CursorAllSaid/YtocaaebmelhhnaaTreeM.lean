/- Words for memory: a part of a tree that lies somewhere, with all below it; parts side by side. -/
import Derived.Test.YtocaaebmelhhnaaVlsC
import Derived.Test.YtocaaebmelhhnaaRowM
import Derived.Test.YtocaaebmelhhnaaNodeC
import Derived.Test.YtocaaebmelhhnaaTreeP
set_option maxRecDepth 4000
namespace Go.Proofs.Ytocaaebmelhhnaa
open Go.RowKit

def tyT : Nat → Nat
  | 0 => 77
  | _ + 1 => 79
/-- what stands at the head of a part -/
structure HdAt (h : Nat) (w : World) (K : Nat → Prop) (b : Nat) (v : Value) (t : Tr h) : Prop where
  val : v = .iface (tyT h) (.pointer (some ⟨b, 0, none⟩))
  has : K b
  lt : b < w.heap.size
  least : w.cell? ⟨b, 0, none⟩ = some (.string (leastT h t))
  width : w.cell? ⟨b, 1, none⟩ = some (.int .i64 (widthT h t : Nat))
  count : w.cell? ⟨b, 2, none⟩ = some (.int .i64 ((flatT h t).length : Nat))
  level : w.cell? ⟨b, 3, none⟩ = some (.int .i64 ((h + 1 : Nat)))
def Kids {α : Type} (R : Value → α → Prop) (vs : List Value) (ks : List α) : Prop := vs.length = ks.length ∧ ∀ (j : Nat) (v : Value) (t : α), vs[j]? = some v → ks[j]? = some t → R v t
def TrAt : (h : Nat) → World → (Nat → Prop) → Value → Tr h → Prop
  | 0 => fun w K v (xs : List Rw) => ∃ b A n c, HdAt 0 w K b v xs ∧ w.cell? ⟨b, 4, none⟩ = some (.slice A n c) ∧ Rws w K A xs ∧ xs.length = n ∧ n ≤ c ∧ (A = none → c = 0)
  | h + 1 => fun w K v (ks : List (Tr h)) => ∃ b A n c vs, HdAt (h + 1) w K b v ks ∧ w.cell? ⟨b, 4, none⟩ = some (.slice A n c) ∧ Vls w K A vs ∧ vs.length = n ∧ n ≤ c ∧ (A = none → c = 0) ∧ Kids (TrAt h w K) vs ks
/-- parts side by side -/
structure PsAt (h : Nat) (w : World) (K : Nat → Prop) (A : Option Addr) (n c : Nat) (vs : List Value) (ks : List (Tr h)) : Prop where
  vls : Vls w K A vs
  len : vs.length = n
  cap : n ≤ c
  none : A = none → c = 0
  kids : Kids (TrAt h w K) vs ks
section
variable {h : Nat} {w w' : World} {K K' : Nat → Prop} {b : Nat} {v : Value} {t : Tr h} {α : Type} {R R' : Value → α → Prop} {vs us : List Value} {ks ls : List α}
theorem HdAt.keep (a : HdAt h w K b v t) (k : Keep (fun i _ => K i) w w') : HdAt h w' K b v t := by
  have hbl : w'.heap[b]? = w.heap[b]? := by
    rw [Array.getElem?_eq_getElem a.lt]
    exact k.block b _ (Array.getElem?_eq_getElem a.lt) a.has
  exact ⟨a.val, a.has, Nat.lt_of_lt_of_le a.lt k.size, (cell_of_heap hbl _).trans a.least, (cell_of_heap hbl _).trans a.width, (cell_of_heap hbl _).trans a.count, (cell_of_heap hbl _).trans a.level⟩
theorem HdAt.more (a : HdAt h w K b v t) (hk : ∀ i, i < w.heap.size → K i → K' i) : HdAt h w K' b v t := ⟨a.val, hk b a.lt a.has, a.lt, a.least, a.width, a.count, a.level⟩
theorem Kids.mono (a : Kids R vs ks) (hr : ∀ v t, R v t → R' v t) : Kids R' vs ks := ⟨a.1, fun j v t h1 h2 => hr v t (a.2 j v t h1 h2)⟩
theorem Kids.nil : Kids R [] [] := ⟨rfl, fun j v t h => by simp at h⟩
theorem Kids.one {v : Value} {t : α} (h : R v t) : Kids R [v] [t] := ⟨rfl, fun j u s h1 h2 => by
  cases j with
  | zero => simp at h1 h2; subst h1 h2; exact h
  | succ j => simp at h1⟩
theorem Kids.append (a : Kids R vs ks) (c : Kids R us ls) : Kids R (vs ++ us) (ks ++ ls) := by
  refine ⟨by rw [List.length_append, List.length_append, a.1, c.1], fun j v t h1 h2 => ?_⟩
  rw [List.getElem?_append] at h1 h2
  split at h1
  · rename_i hlt
    rw [if_pos (by have := a.1; omega)] at h2
    exact a.2 j v t h1 h2
  · rename_i hge
    rw [if_neg (by have := a.1; omega), ← a.1] at h2
    exact c.2 _ v t h1 h2
theorem Kids.take (a : Kids R vs ks) (k : Nat) : Kids R (vs.take k) (ks.take k) := by
  refine ⟨by rw [List.length_take, List.length_take, a.1], fun j v t h1 h2 => ?_⟩
  rw [List.getElem?_take] at h1 h2
  split at h1
  · rename_i hlt
    rw [if_pos hlt] at h2
    exact a.2 j v t h1 h2
  · cases h1
theorem Kids.drop (a : Kids R vs ks) (k : Nat) : Kids R (vs.drop k) (ks.drop k) := by
  refine ⟨by rw [List.length_drop, List.length_drop, a.1], fun j v t h1 h2 => ?_⟩
  rw [List.getElem?_drop] at h1 h2
  exact a.2 _ v t h1 h2
theorem Kids.at_ (a : Kids R vs ks) {j : Nat} {t : α} (h : ks[j]? = some t) : ∃ v, vs[j]? = some v ∧ R v t := by
  have hl := (List.getElem?_eq_some_iff.1 h).1
  have hv : vs[j]? = some (vs[j]'(by have := a.1; omega)) := List.getElem?_eq_getElem _
  exact ⟨_, hv, a.2 j _ t hv h⟩
end
theorem TrAt.keep : ∀ {h : Nat} {w w' : World} {K : Nat → Prop} {v : Value} {t : Tr h}, TrAt h w K v t → Keep (fun i _ => K i) w w' → TrAt h w' K v t
  | 0, _, _, _, _, _, ⟨b, A, n, c, hd, hc, hr, h1, h2, h3⟩, k => ⟨b, A, n, c, hd.keep k, by
      refine (cell_of_heap ?_ _).trans hc
      rw [Array.getElem?_eq_getElem hd.lt]
      exact k.block b _ (Array.getElem?_eq_getElem hd.lt) hd.has, hr.keep k, h1, h2, h3⟩
  | _ + 1, _, _, _, _, _, ⟨b, A, n, c, vs, hd, hc, hr, h1, h2, h3, h4⟩, k => ⟨b, A, n, c, vs, hd.keep k, by
      refine (cell_of_heap ?_ _).trans hc
      rw [Array.getElem?_eq_getElem hd.lt]
      exact k.block b _ (Array.getElem?_eq_getElem hd.lt) hd.has, hr.keep k, h1, h2, h3, h4.mono fun _ _ q => TrAt.keep q k⟩
theorem TrAt.more : ∀ {h : Nat} {w : World} {K K' : Nat → Prop} {v : Value} {t : Tr h}, TrAt h w K v t → (∀ i, i < w.heap.size → K i → K' i) → TrAt h w K' v t
  | 0, _, _, _, _, _, ⟨b, A, n, c, hd, hc, hr, h1, h2, h3⟩, k => ⟨b, A, n, c, hd.more k, hc, hr.more k, h1, h2, h3⟩
  | _ + 1, _, _, _, _, _, ⟨b, A, n, c, vs, hd, hc, hr, h1, h2, h3, h4⟩, k => ⟨b, A, n, c, vs, hd.more k, hc, hr.more k, h1, h2, h3, h4.mono fun _ _ q => TrAt.more q k⟩
section
variable {h : Nat} {w w' : World} {K K' : Nat → Prop} {v : Value} {t : Tr h} {A : Option Addr} {n c : Nat} {vs : List Value} {ks : List (Tr h)}
theorem TrAt.below (a : TrAt h w K v t) (k : Below w.heap.size w w') : TrAt h w' K v t := a.keep (Keep.of_below k)
theorem TrAt.head (a : TrAt h w K v t) : ∃ b, HdAt h w K b v t := by
  cases h with
  | zero => obtain ⟨b, A, n, c, hd, _⟩ := a; exact ⟨b, hd⟩
  | succ h => obtain ⟨b, A, n, c, vs, hd, _⟩ := a; exact ⟨b, hd⟩
theorem TrAt.one (a : TrAt h w K v t) : v.oneCell' = true := by
  obtain ⟨b, hd⟩ := a.head
  rw [hd.val]; rfl
theorem Kids.oneCell (a : Kids (TrAt h w K) vs ks) : ∀ v ∈ vs, v.oneCell' = true := fun v hv => by
  obtain ⟨j, hj, e⟩ := List.getElem_of_mem hv
  have hk : ks[j]? = some (ks[j]'(by have := a.1; omega)) := List.getElem?_eq_getElem _
  exact (a.2 j v _ (by rw [List.getElem?_eq_getElem hj, e]) hk).one
theorem Kids.below (a : Kids (TrAt h w K) vs ks) (k : Below w.heap.size w w') : Kids (TrAt h w' K) vs ks := a.mono fun _ _ q => q.below k
theorem PsAt.below (a : PsAt h w K A n c vs ks) (k : Below w.heap.size w w') : PsAt h w' K A n c vs ks := ⟨a.vls.below k, a.len, a.cap, a.none, a.kids.below k⟩
theorem PsAt.count (a : PsAt h w K A n c vs ks) : ks.length = n := by rw [← a.kids.1, a.len]
/-- the j-th part -/
theorem PsAt.at_ (a : PsAt h w K A n c vs ks) {j : Nat} {t : Tr h} (hj : ks[j]? = some t) :
    ∃ b o bt, A = some ⟨b, o, .none⟩ ∧ w.cell? ⟨b, o + j, .none⟩ = some (.iface (tyT h) (.pointer (some ⟨bt, 0, .none⟩))) ∧ HdAt h w K bt (.iface (tyT h) (.pointer (some ⟨bt, 0, .none⟩))) t ∧ TrAt h w K (.iface (tyT h) (.pointer (some ⟨bt, 0, .none⟩))) t := by
  obtain ⟨v, hv, ht⟩ := a.kids.at_ hj
  obtain ⟨b, o, e, hc⟩ := a.vls.at_ hv
  obtain ⟨bt, hd⟩ := ht.head
  have e2 := hd.val
  subst e2
  exact ⟨b, o, bt, e, hc, hd, ht⟩
/-- an inner part -/
theorem TrAt.inner {ks : List (Tr h)} (a : TrAt (h + 1) w K v ks) : ∃ b A n c vs, HdAt (h + 1) w K b v ks ∧ w.cell? ⟨b, 4, .none⟩ = some (.slice A n c) ∧ PsAt h w K A n c vs ks := by
  obtain ⟨b, A, n, c, vs, hd, hc, h1, h2, h3, h4, h5⟩ := a
  exact ⟨b, A, n, c, vs, hd, hc, h1, h2, h3, h4, h5⟩
end
/-- parts of a call's own, at v -/
def NewP (h : Nat) (w : World) (K : Nat → Prop) (ks : List (Tr h)) (v : Value) (w' : World) : Prop :=
  ∃ A n c vs, v = .slice A n c ∧ PsAt h w' K A n c vs ks ∧ Below w.heap.size w w'
theorem NewP.of_below {h : Nat} {w w1 w' : World} {K : Nat → Prop} {ks : List (Tr h)} {v : Value} (a : NewP h w1 K ks v w') (hb : Below w.heap.size w w1) : NewP h w K ks v w' := by
  obtain ⟨A, n, c, vs, e, hp, hk⟩ := a
  exact ⟨A, n, c, vs, e, hp, hb.trans (hk.mono hb.size)⟩
theorem flatL_length_take {h : Nat} (ks : List (Tr h)) (j : Nat) : (flatL h (ks.take j)).length ≤ (flatL h ks).length := by
  conv => rhs; rw [← List.take_append_drop j ks, flatL_append, List.length_append]
  omega
theorem flatL_succ {h : Nat} {ks : List (Tr h)} {j : Nat} {t : Tr h} (hj : ks[j]? = some t) : flatL h (ks.take (j + 1)) = flatL h (ks.take j) ++ flatT h t := by
  obtain ⟨hl, e⟩ := List.getElem?_eq_some_iff.1 hj
  rw [List.take_succ_eq_append_getElem hl, flatL_append, flatL_cons, flatL_nil, List.append_nil, e]
/-- which function a method is -/
def fnFrom : Nat → Nat
  | 0 => 53
  | _ + 1 => 73
def fnCut : Nat → Nat
  | 0 => 51
  | _ + 1 => 72
def fnGet : Nat → Nat
  | 0 => 54
  | _ + 1 => 74
def fnJoin : Nat → Nat
  | 0 => 56
  | _ + 1 => 75
def fnPut : Nat → Nat
  | 0 => 58
  | _ + 1 => 76
section
variable (h n b : Nat) (w : World)
theorem m_first : (method (n + 1) (tyT h) (.pointer (some ⟨b, 0, none⟩)) "poste/tree.first").run Try.prog w = .ok (52, .pointer (some ⟨b, 0, none⟩)) w := by cases h <;> kernel_rfl
theorem m_rows : (method (n + 1) (tyT h) (.pointer (some ⟨b, 0, none⟩)) "poste/tree.rows").run Try.prog w = .ok (59, .pointer (some ⟨b, 0, none⟩)) w := by cases h <;> kernel_rfl
theorem m_height : (method (n + 1) (tyT h) (.pointer (some ⟨b, 0, none⟩)) "poste/tree.height").run Try.prog w = .ok (55, .pointer (some ⟨b, 0, none⟩)) w := by cases h <;> kernel_rfl
theorem m_under : (method (n + 1) (tyT h) (.pointer (some ⟨b, 0, none⟩)) "poste/tree.under").run Try.prog w = .ok (60, .pointer (some ⟨b, 0, none⟩)) w := by cases h <;> kernel_rfl
theorem m_from : (method (n + 1) (tyT h) (.pointer (some ⟨b, 0, none⟩)) "poste/tree.from").run Try.prog w = .ok (fnFrom h, .pointer (some ⟨b, 0, none⟩)) w := by cases h <;> kernel_rfl
theorem m_cut : (method (n + 1) (tyT h) (.pointer (some ⟨b, 0, none⟩)) "poste/tree.cut").run Try.prog w = .ok (fnCut h, .pointer (some ⟨b, 0, none⟩)) w := by cases h <;> kernel_rfl
theorem m_get : (method (n + 1) (tyT h) (.pointer (some ⟨b, 0, none⟩)) "poste/tree.get").run Try.prog w = .ok (fnGet h, .pointer (some ⟨b, 0, none⟩)) w := by cases h <;> kernel_rfl
theorem m_join : (method (n + 1) (tyT h) (.pointer (some ⟨b, 0, none⟩)) "poste/tree.join").run Try.prog w = .ok (fnJoin h, .pointer (some ⟨b, 0, none⟩)) w := by cases h <;> kernel_rfl
theorem m_put : (method (n + 1) (tyT h) (.pointer (some ⟨b, 0, none⟩)) "poste/tree.put").run Try.prog w = .ok (fnPut h, .pointer (some ⟨b, 0, none⟩)) w := by cases h <;> kernel_rfl
theorem n_from : (nilAhead (n + 1) (tyT h) (.pointer (some ⟨b, 0, none⟩)) "poste/tree.from").run Try.prog w = .ok (some false) w := by cases h <;> kernel_rfl
theorem n_join : (nilAhead (n + 1) (tyT h) (.pointer (some ⟨b, 0, none⟩)) "poste/tree.join").run Try.prog w = .ok (some false) w := by cases h <;> kernel_rfl
end
section
variable (h : Nat) (args : Array Value) (w : World)
theorem c_from : (callFunc (fnFrom h) args).run Try.prog w = .ok (.enter (fnFrom h) args) w := by cases h <;> kernel_rfl
theorem c_cut : (callFunc (fnCut h) args).run Try.prog w = .ok (.enter (fnCut h) args) w := by cases h <;> kernel_rfl
theorem c_get : (callFunc (fnGet h) args).run Try.prog w = .ok (.enter (fnGet h) args) w := by cases h <;> kernel_rfl
theorem c_join : (callFunc (fnJoin h) args).run Try.prog w = .ok (.enter (fnJoin h) args) w := by cases h <;> kernel_rfl
theorem c_put : (callFunc (fnPut h) args).run Try.prog w = .ok (.enter (fnPut h) args) w := by cases h <;> kernel_rfl
end
end Go.Proofs.Ytocaaebmelhhnaa
