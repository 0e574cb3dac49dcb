/- Plain words: to give one message back turns no other one. Nothing of the program. -/
import Derived.Test.YtobbopakdaoemaaDdP
import Derived.Test.YtobbopakdaoemaaRRi
set_option maxRecDepth 4000
namespace Go.Proofs.Ytobbopakdaoemaa
/-- where the i-th message is behind it: one place ahead if one ahead of it is gone -/
def kO (q : Nat) (e : Bool) (i : Nat) : Nat := if e = true ∧ q < i then i - 1 else i
/-- these messages behind it: the q-th has turned, or (e) is gone -/
structure Oth (l xs : List Mg) (id : Int) (q : Nat) (e : Bool) : Prop where
  lt : q < l.length
  len : xs.length + e.toNat = l.length
  at_ : l[q].id = id
  other : ∀ i (hi : i < l.length), i ≠ q → l[i].id ≠ id ∧ xs[kO q e i]? = some l[i]
  self : e = false → ∃ m, xs[q]? = some m ∧ m.id = id
  next : e = true → ∀ m, xs[q]? = some m → m.id ≠ id
theorem kO_step {q : Nat} {e : Bool} {i : Nat} (h : i ≠ q) : kO q e i + 1 = kO q e (i + 1) := by
  unfold kO
  cases e
  · simp
  · by_cases h1 : q < i
    · rw [if_pos ⟨rfl, h1⟩, if_pos ⟨rfl, by omega⟩]; omega
    · rw [if_neg (by simp; omega), if_neg (by simp; omega)]
theorem kO_self (q : Nat) : kO q false (q + 1) = kO q false q + 1 ∧ kO q true (q + 1) = kO q true q ∧ ∀ e, kO q e q = q := by
  unfold kO
  exact ⟨by simp, by simp, fun e => by simp⟩
theorem Oth.end_ {l xs : List Mg} {id : Int} {q : Nat} {e : Bool} (h : Oth l xs id q e) : kO q e l.length = xs.length := by
  have h1 := h.lt
  have h2 := h.len
  unfold kO
  cases e
  · simp at h2 ⊢; omega
  · rw [if_pos ⟨rfl, h1⟩]; simp at h2; omega
theorem Oth.in_ {l xs : List Mg} {id : Int} {q : Nat} {e : Bool} (h : Oth l xs id q e) {i : Nat} (hi : i < l.length) (hne : i ≠ q) : kO q e i < xs.length := (List.getElem?_eq_some_iff.1 (h.other i hi hne).2).1
theorem free_not {o : Ob} {id : Int} {tried : Bool} (h : freeOk o id = false) : freeO o id tried = o := by
  unfold freeOk at h
  unfold freeO
  split
  · rename_i m hm
    rw [hm] at h
    exact if_pos h
  · rfl
theorem free_oth {o : Ob} {id : Int} (tried : Bool) (h : freeOk o id = true) (hr : risesD o.msgs = true) :
    ∃ q e ext, Oth o.msgs (freeO o id tried).msgs id q e ∧ (freeO o id tried).dead = o.dead ++ ext ∧ ext.length = e.toNat := by
  obtain ⟨m, hm, hc⟩ : ∃ m, o.msgs[o.msgs.findIdx (isM id)]? = some m ∧ m.claimed = true := by
    unfold freeOk at h
    cases hm : o.msgs[o.msgs.findIdx (isM id)]? with
    | none => rw [hm] at h; cases h
    | some m => rw [hm] at h; exact ⟨m, rfl, h⟩
  obtain ⟨q, hq⟩ : ∃ q, o.msgs.findIdx (isM id) = q := ⟨_, rfl⟩
  rw [hq] at hm
  have hlt : q < o.msgs.length := (List.getElem?_eq_some_iff.1 hm).1
  have hmq : o.msgs[q] = m := (List.getElem?_eq_some_iff.1 hm).2
  have hid : o.msgs[q].id = id := by
    have := List.findIdx_getElem (p := isM id) (xs := o.msgs) (w := by rw [hq]; exact hlt)
    simp only [hq] at this
    unfold isM at this
    simpa using this
  have hoth : ∀ i (hi : i < o.msgs.length), i ≠ q → o.msgs[i].id ≠ id := fun i hi hne => by
    rw [← hid]
    rcases Nat.lt_or_ge i q with h1 | h1
    · exact rises_one hr hlt h1
    · exact fun e => rises_one hr hi (show q < i by omega) e.symm
  have hset : ∀ y : Mg, y.id = id → Oth o.msgs (o.msgs.set q y) id q false := fun y hy =>
    ⟨hlt, by rw [List.length_set]; rfl, hid, fun i hi hne => ⟨hoth i hi hne, by rw [show kO q false i = i by simp [kO], List.getElem?_set_ne (by omega), List.getElem?_eq_getElem hi]⟩,
      fun _ => ⟨y, by rw [List.getElem?_set_self hlt], hy⟩, fun e => by cases e⟩
  have hera : Oth o.msgs (o.msgs.eraseIdx q) id q true := by
    refine ⟨hlt, by rw [List.length_eraseIdx_of_lt hlt]; show _ - 1 + 1 = _; omega, hid, fun i hi hne => ⟨hoth i hi hne, ?_⟩, fun e => (by cases e), fun _ x hx => ?_⟩
    · unfold kO
      by_cases h1 : q < i
      · rw [if_pos ⟨rfl, h1⟩, List.getElem?_eraseIdx, if_neg (by omega), show i - 1 + 1 = i by omega, List.getElem?_eq_getElem hi]
      · rw [if_neg (by simp; omega), List.getElem?_eraseIdx, if_pos (by omega), List.getElem?_eq_getElem hi]
    · rw [List.getElem?_eraseIdx, if_neg (by omega)] at hx
      obtain ⟨h1, rfl⟩ := List.getElem?_eq_some_iff.1 hx
      exact hoth _ h1 (by omega)
  cases tried
  · rw [(free_back hq hm hc).2]
    exact ⟨q, false, [], hset _ (by show m.id = id; rw [← hmq]; exact hid), by simp, rfl⟩
  · cases ht : triedB m.retry o.limit
    · rw [(free_stay hq hm hc ht).2]
      exact ⟨q, false, [], hset _ (by show m.id = id; rw [← hmq]; exact hid), by simp, rfl⟩
    · rw [(free_dead hq hm hc ht).2]
      exact ⟨q, true, [m.tried], hera, rfl, rfl⟩
end Go.Proofs.Ytobbopakdaoemaa
