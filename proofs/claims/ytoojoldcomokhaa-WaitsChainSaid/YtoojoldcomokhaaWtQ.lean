/- The document's search: a row that rises, and those still to be left. Plain. -/
import Derived.Test.YtoojoldcomokhaaWtP
import Derived.Test.YtoojoldcomokhaaInsI
set_option maxRecDepth 4000
namespace Go.Proofs.Ytoojoldcomokhaa
theorem ins_nil (x : Int) : insI [] x = [x] := rfl
theorem ins_cons (y : Int) (r : List Int) (x : Int) : insI (y :: r) x = if x ≤ y then (if y = x then y :: r else x :: y :: r) else y :: insI r x := by
  unfold insI spotI
  rw [List.findIdx_cons]
  by_cases h : x ≤ y
  · simp only [h, decide_true, cond_true, if_true]
    simp
  · simp only [h, decide_false, cond_false, if_false]
    simp only [List.getElem?_cons_succ, List.take_succ_cons, List.drop_succ_cons]
    split <;> rfl
theorem mem_ins {y x : Int} : ∀ {l : List Int}, y ∈ insI l x ↔ y ∈ l ∨ y = x
  | [] => by rw [ins_nil]; simp
  | z :: r => by
    rw [ins_cons]
    split
    · split
      · rename_i h; subst h; simp; exact .inl
      · simp; exact ⟨fun h => h.elim (fun h => .inr h) (fun h => h.elim (fun h => .inl (.inl h)) (fun h => .inl (.inr h))), fun h => h.elim (fun h => .inr h) .inl⟩
    · rw [List.mem_cons, mem_ins, List.mem_cons, or_assoc]
theorem up_ins {x : Int} : ∀ {l : List Int}, l.Pairwise (· < ·) → (insI l x).Pairwise (· < ·)
  | [], _ => by rw [ins_nil]; simp
  | z :: r, h => by
    obtain ⟨h1, h2⟩ := List.pairwise_cons.1 h
    rw [ins_cons]
    split
    · split
      · exact h
      · refine List.pairwise_cons.2 ⟨fun y hy => ?_, h⟩
        rcases List.mem_cons.1 hy with rfl | hy
        · omega
        · have := h1 y hy; omega
    · refine List.pairwise_cons.2 ⟨fun y hy => ?_, up_ins h2⟩
      rcases mem_ins.1 hy with hy | rfl
      · exact h1 y hy
      · omega
theorem ins_known {x : Int} : ∀ {l : List Int}, l.Pairwise (· < ·) → x ∈ l → insI l x = l
  | [], _, hx => by cases hx
  | z :: r, h, hx => by
    obtain ⟨h1, h2⟩ := List.pairwise_cons.1 h
    rw [ins_cons]
    rcases List.mem_cons.1 hx with rfl | hx
    · simp
    · have := h1 x hx
      rw [if_neg (by omega), ins_known h2 hx]
theorem ins_fresh {x : Int} : ∀ {l : List Int}, x ∉ l → (insI l x).length = l.length + 1
  | [], _ => rfl
  | z :: r, hx => by
    rw [ins_cons]
    split
    · rw [if_neg fun e => hx (by rw [e]; exact List.mem_cons_self ..)]; rfl
    · rw [List.length_cons, ins_fresh fun h => hx (List.mem_cons_of_mem _ h)]; rfl
/-- while one is being left: P says which of those next to it were looked at -/
structure MidF (l : List (Int × Int)) (who pt : Int) (P : Int → Prop) (ms os : List Int) : Prop where
  nodup : ms.Nodup
  met : ∀ x ∈ ms, Reach l who x
  opn : ∀ x ∈ os, x = who ∨ x ∈ ms
  cur : pt = who ∨ pt ∈ ms
  done : ∀ x, x = who ∨ x ∈ ms → x ∈ os ∨ (∀ y ∈ succs l x, y ∈ ms) ∨ x = pt
  part : ∀ y, P y → y ∈ ms
  len : os.length ≤ ms.length
section
variable {l : List (Int × Int)} {who a x : Int} {ms ms' os : List Int} {P P' : Int → Prop}
theorem Search.leaveF (h : Search l who ms (a :: os)) : MidF l who a (fun _ => False) ms os := by
  refine ⟨h.nodup, h.met, fun x hx => h.opn x (List.mem_cons_of_mem _ hx), h.opn a (List.mem_cons_self ..), fun x hx => ?_, fun _ h => h.elim, by have := h.len; simp at this; omega⟩
  rcases h.done x hx with h1 | h1
  · rcases List.mem_cons.1 h1 with h1 | h1
    · exact .inr (.inr h1)
    · exact .inl h1
  · exact .inr (.inl h1)
theorem MidF.skip (h : MidF l who a P ms os) (hp : ∀ y, P' y → P y) : MidF l who a P' ms os := ⟨h.nodup, h.met, h.opn, h.cur, h.done, fun y hy => h.part y (hp y hy), h.len⟩
theorem MidF.known (h : MidF l who a P ms os) (hx : x ∈ ms) (hp : ∀ y, P' y → P y ∨ y = x) : MidF l who a P' ms os :=
  ⟨h.nodup, h.met, h.opn, h.cur, h.done, fun y hy => by
    rcases hp y hy with h1 | rfl
    · exact h.part y h1
    · exact hx, h.len⟩
theorem MidF.fresh (h : MidF l who a P ms os) (he : (a, x) ∈ l) (hn : ms'.Nodup) (hm : ∀ y, y ∈ ms' ↔ y ∈ ms ∨ y = x) (hl : ms'.length = ms.length + 1) (hp : ∀ y, P' y → P y ∨ y = x) : MidF l who a P' ms' (os ++ [x]) := by
  refine ⟨hn, fun y hy => ?_, fun y hy => ?_, ?_, fun y hy => ?_, fun y hy => ?_, ?_⟩
  · rcases (hm y).1 hy with hy | rfl
    · exact h.met y hy
    · rcases h.cur with e | e
      · exact .one (e ▸ he)
      · exact .more (h.met a e) he
  · rcases List.mem_append.1 hy with hy | hy
    · exact (h.opn y hy).imp id fun h => (hm y).2 (.inl h)
    · exact .inr ((hm y).2 (.inr (by simpa using hy)))
  · exact h.cur.imp id fun h => (hm a).2 (.inl h)
  · have old : (y = who ∨ y ∈ ms) ∨ y = x := by
      rcases hy with hy | hy
      · exact .inl (.inl hy)
      · exact ((hm y).1 hy).imp .inr id
    rcases old with old | rfl
    · rcases h.done y old with h1 | h1 | h1
      · exact .inl (List.mem_append_left _ h1)
      · exact .inr (.inl fun z hz => (hm z).2 (.inl (h1 z hz)))
      · exact .inr (.inr h1)
    · exact .inl (by simp)
  · rcases hp y hy with h1 | rfl
    · exact (hm y).2 (.inl (h.part y h1))
    · exact (hm y).2 (.inr rfl)
  · have := h.len
    simp; omega
theorem MidF.leave (h : MidF l who a P ms os) (hp : ∀ y, (a, y) ∈ l → P y) : Search l who ms os := by
  refine ⟨h.nodup, h.met, h.opn, fun x hx => ?_, by have := h.len; omega⟩
  rcases h.done x hx with h1 | h1 | rfl
  · exact .inl h1
  · exact .inr h1
  · exact .inr fun y hy => h.part y (hp y (mem_succs.1 hy))
end
/-- edges as they are gone along, forward or back -/
def turnE (back : Bool) (l : List (Int × Int)) : List (Int × Int) := if back then flipE l else l
def srcE (back : Bool) (e : Int × Int) : Int := if back then e.2 else e.1
def dstE (back : Bool) (e : Int × Int) : Int := if back then e.1 else e.2
theorem turn_get (back : Bool) (l : List (Int × Int)) : turnE back l = l.map fun e => (srcE back e, dstE back e) := by
  cases back
  · exact (List.map_id l).symm
  · rfl
theorem turn_length (back : Bool) (l : List (Int × Int)) : (turnE back l).length = l.length := by rw [turn_get, List.length_map]
/-- those next to one, among the first so many edges -/
def Seen (back : Bool) (l : List (Int × Int)) (a : Int) (i : Nat) (y : Int) : Prop := (a, y) ∈ turnE back (l.take i)
theorem seen_zero {back : Bool} {l : List (Int × Int)} {a y : Int} : ¬ Seen back l a 0 y := by
  unfold Seen
  rw [turn_get]
  simp
theorem seen_next {back : Bool} {l : List (Int × Int)} {a y : Int} {i : Nat} {e : Int × Int} (he : l[i]? = some e) (h : Seen back l a (i + 1) y) : Seen back l a i y ∨ (a = srcE back e ∧ y = dstE back e) := by
  unfold Seen at h ⊢
  obtain ⟨hl, rfl⟩ := List.getElem?_eq_some_iff.1 he
  rw [turn_get, List.take_succ_eq_append_getElem hl, List.map_append] at h
  rw [turn_get]
  rcases List.mem_append.1 h with h | h
  · exact .inl h
  · simp at h
    exact .inr h
theorem seen_all {back : Bool} {l : List (Int × Int)} {a y : Int} {i : Nat} (hi : l.length ≤ i) (h : (a, y) ∈ turnE back l) : Seen back l a i y := by
  unfold Seen
  rw [List.take_of_length_le hi]
  exact h
theorem turn_mem {back : Bool} {l : List (Int × Int)} {i : Nat} {e : Int × Int} (he : l[i]? = some e) : (srcE back e, dstE back e) ∈ turnE back l := by
  rw [turn_get]
  exact List.mem_map.2 ⟨e, List.mem_of_getElem? he, rfl⟩
end Go.Proofs.Ytoojoldcomokhaa
