/- . . . -/
import Derived.Test.YtjfoflbaoceemaaGreatJ33
import Derived.Test.YtjfoflbaoceemaaGreatJ34
import Derived.Test.YtjfoflbaoceemaaGreatJ15
set_option maxRecDepth 4000
namespace Go.Proofs.YtjfoflbaoceemaaGreat
structure OkD (next : Int) (l : List Ob) (o : Ob) : Prop where
  name : nameB o.name = true
  kind : kindB o.kind o.limit = true
  table : o.kind = 1 → o.msgs.length + o.dead.length = 0
  queue : o.kind = 2 → o.rows.length = 0
  rises : risesR o.rows = true
  up : risesD o.msgs = true
  msgs : o.msgs.all (dmsg next false) = true
  dead : o.dead.all (dmsg next true) = true
  rows : o.rows.all rightR = true
  onceM : ∀ m ∈ o.msgs, totalD l m.id = 1
  onceD : ∀ m ∈ o.dead, totalD l m.id = 1
structure RightD (next : Int) (l : List Ob) : Prop where
  low : 1 ≤ next
  high : next ≤ 1099511627776
  len : l.length ≤ 20
  ok : ∀ i (h : i < l.length), OkD next l l[i]
  names : ∀ i (h : i + 1 < l.length), cmpS l[i].name l[i + 1].name < 0
theorem name_lt {a b c : ByteArray} (h1 : cmpS a b < 0) (h2 : cmpS b c < 0) : cmpS a c < 0 := by
  have h := cmpS_trans a b c (by omega) (by omega)
  rcases Int.lt_or_le (cmpS a c) 0 with h3 | h3
  · exact h3
  · have e := (cmpS_eq a c).1 (by omega)
    have h4 : cmpS c b = cmpS a b := by unfold cmpS; rw [e]
    have := cmpS_turn c b
    omega
theorem names_lt {l : List Ob} (h : ∀ i (h : i + 1 < l.length), cmpS l[i].name l[i + 1].name < 0) (i : Nat) : ∀ (k : Nat) (hk : i + k + 1 < l.length), cmpS l[i].name l[i + k + 1].name < 0
  | 0, hk => h i hk
  | k + 1, hk => name_lt (names_lt h i k (by omega)) (h (i + k + 1) hk)
theorem once_not {A B : List Int} {x : Int} (h : (A ++ x :: B).count x = 1) : x ∉ A := fun hm => by
  have := List.count_pos_iff.2 hm
  rw [List.count_append, List.count_cons_self] at h
  omega
theorem ids_whole {l : List Ob} {i : Nat} (h : i < l.length) : ∃ R, idsTo l l.length = idsTo l i ++ idsL l[i].msgs ++ idsL l[i].dead ++ R := by
  refine ⟨(l.drop (i + 1)).flatMap fun o => idsL o.msgs ++ idsL o.dead, ?_⟩
  rw [← idsTo_succ h]
  unfold idsTo
  rw [← List.flatMap_append, List.take_append_drop, List.take_length]
theorem ids_cut {l : List Mg} {k : Nat} (h : k < l.length) : idsL l = idsL (l.take k) ++ l[k].id :: idsL (l.drop (k + 1)) := by
  unfold idsL
  rw [← List.map_cons, ← List.map_append]
  rw [show l[k] :: l.drop (k + 1) = l.drop k from (List.drop_eq_getElem_cons h).symm, List.take_append_drop]
theorem freshB_all {ms : List Int} {l : List Mg} {n : Int} (h : ∀ k (hk : k < l.length), l[k].id ∉ ms ++ idsL (l.take k) ∧ l[k].id < n) : freshB ms l n = true := by
  unfold freshB
  rw [List.all_eq_true]
  intro k hk
  have hk := List.mem_range.1 hk
  unfold freshAt
  rw [List.getElem?_eq_getElem hk]
  obtain ⟨h1, h2⟩ := h k hk
  simp only [Bool.and_eq_true, Bool.not_eq_true', decide_eq_false_iff_not, decide_eq_true_eq]
  exact ⟨h1, h2⟩
theorem risesM_of {l : List Mg} (h : risesD l = true) : risesM l = true := by
  unfold risesM
  rw [List.all_eq_true]
  intro i hi
  have hi := List.mem_range.1 hi
  have hu := List.all_eq_true.1 h i (List.mem_range.2 hi)
  unfold upD at hu
  unfold upM
  rw [List.getElem?_eq_getElem hi] at hu ⊢
  simp only [Bool.not_eq_true', Bool.or_eq_false_iff] at hu
  simp only [Bool.and_eq_true, Bool.or_eq_true, Bool.not_eq_true', decide_eq_false_iff_not, beq_iff_eq]
  refine ⟨fun hm => ?_, ?_⟩
  · obtain ⟨x, hx, e⟩ := List.mem_map.1 hm
    obtain ⟨j, hj, rfl⟩ := List.getElem_of_mem hx
    rw [List.length_take] at hj
    rw [List.getElem_take] at e
    exact rises_one h hi (by omega) e
  · rcases Nat.eq_zero_or_pos i with h0 | h0
    · exact .inl h0
    · refine .inr ?_
      have h1 := hu.1
      rw [decide_eq_true h0, Bool.true_and, List.getElem?_eq_getElem (show i - 1 < l.length by omega)] at h1
      rw [List.getElem?_eq_getElem (show i - 1 < l.length by omega)]
      simp only [decide_eq_false_iff_not] at h1
      exact decide_eq_true (by omega)
theorem dmsg_of {next : Int} {b : Bool} {m : Mg} (h : dmsg next b m = true) : m.right = true ∧ m.id < next ∧ (b && m.claimed) = false := by
  unfold dmsg at h
  simp only [Bool.and_eq_true, decide_eq_true_eq, Bool.not_eq_true'] at h
  exact ⟨h.1, h.2.1, h.2.2⟩
theorem id_of_right {m : Mg} (h : m.right = true) : idB m.id = true := by
  unfold Mg.right at h
  simp only [Bool.and_eq_true] at h
  exact h.1.1.1.1
theorem kind_two {k lim : Int} (h : kindB k lim = true) (h1 : ¬ k = 1) : k = 2 := by
  unfold kindB at h
  rw [if_neg h1] at h
  by_cases h2 : k = 2
  · exact h2
  · rw [if_neg h2] at h; cases h
theorem OkD.right {next : Int} {l : List Ob} {o : Ob} (h : OkD next l o) : o.right = true := by
  unfold Ob.right
  rw [h.name, h.kind]
  by_cases h1 : o.kind = 1
  · rw [if_pos h1, h.rises, h.rows, decide_eq_true (h.table h1)]; rfl
  · have h2 := h.queue (kind_two h.kind h1)
    have a1 : o.msgs.all Mg.right = true := List.all_eq_true.2 fun m hm => (dmsg_of (List.all_eq_true.1 h.msgs m hm)).1
    have a2 : o.dead.all Mg.right = true := List.all_eq_true.2 fun m hm => (dmsg_of (List.all_eq_true.1 h.dead m hm)).1
    have a3 : o.dead.all freeM = true := List.all_eq_true.2 fun m hm => by
      have := (dmsg_of (List.all_eq_true.1 h.dead m hm)).2.2
      unfold freeM
      rw [Bool.true_and] at this
      rw [this]; rfl
    rw [if_neg h1, decide_eq_true h2, risesM_of h.up, a1, a2, a3]; rfl
theorem RightD.freshM {next : Int} {l : List Ob} (h : RightD next l) {i : Nat} (hi : i < l.length) : freshB (idsTo l i) l[i].msgs next = true := by
  obtain ⟨R, hR⟩ := ids_whole hi
  refine freshB_all fun k hk => ⟨?_, (dmsg_of (List.all_eq_true.1 (h.ok i hi).msgs _ (List.getElem_mem hk))).2.1⟩
  have h1 := (h.ok i hi).onceM _ (List.getElem_mem hk)
  unfold totalD at h1
  rw [hR, ids_cut hk] at h1
  simp only [List.append_assoc, List.cons_append] at h1
  refine once_not (B := idsL (l[i].msgs.drop (k + 1)) ++ (idsL l[i].dead ++ R)) ?_
  rw [List.append_assoc]
  exact h1
theorem RightD.freshD {next : Int} {l : List Ob} (h : RightD next l) {i : Nat} (hi : i < l.length) : freshB (idsTo l i ++ idsL l[i].msgs) l[i].dead next = true := by
  obtain ⟨R, hR⟩ := ids_whole hi
  refine freshB_all fun k hk => ⟨?_, (dmsg_of (List.all_eq_true.1 (h.ok i hi).dead _ (List.getElem_mem hk))).2.1⟩
  have h1 := (h.ok i hi).onceD _ (List.getElem_mem hk)
  unfold totalD at h1
  rw [hR, ids_cut hk] at h1
  simp only [List.append_assoc, List.cons_append] at h1
  refine once_not (B := idsL (l[i].dead.drop (k + 1)) ++ R) ?_
  simp only [List.append_assoc]
  exact h1
theorem RightD.right {next : Int} {l : List Ob} (h : RightD next l) : rightS ⟨next, l⟩ = true := by
  have hall : (List.range l.length).all (okAt ⟨next, l⟩) = true := by
    rw [List.all_eq_true]
    intro i hi
    have hi := List.mem_range.1 hi
    unfold okAt
    simp only [List.getElem?_eq_getElem hi, (h.ok i hi).right, h.freshM hi, h.freshD hi, Bool.and_true]
    rcases Nat.eq_zero_or_pos i with h0 | h0
    · rw [show (i == 0) = true from beq_iff_eq.2 h0, Bool.true_or]
    · obtain ⟨j, rfl⟩ : ∃ j, i = j + 1 := ⟨i - 1, by omega⟩
      have := h.names j hi
      simp only [Nat.add_sub_cancel, List.getElem?_eq_getElem (show j < l.length by omega)]
      simp [this]
  unfold rightS
  simp only [decide_eq_true h.low, decide_eq_true h.high, decide_eq_true h.len, hall, Bool.and_true]
theorem count_nodup {l : List Int} (h : ∀ x ∈ l, l.count x ≤ 1) : l.Nodup := by
  induction l with
  | nil => exact List.nodup_nil
  | cons a t ih =>
    rw [List.nodup_cons]
    refine ⟨fun hm => ?_, ih fun x hx => ?_⟩
    · have h1 := h a List.mem_cons_self
      have h2 := List.count_pos_iff.2 hm
      rw [List.count_cons_self] at h1
      omega
    · have h1 := h x (List.mem_cons_of_mem _ hx)
      have h2 := List.count_le_count_cons (a := x) (b := a) (l := t)
      omega
theorem RightD.once {next : Int} {l : List Ob} (h : RightD next l) {i : Nat} (hi : i < l.length) : (idsL l[i].msgs ++ idsL l[i].dead).Nodup := by
  obtain ⟨R, hR⟩ := ids_whole hi
  refine count_nodup fun x hx => ?_
  have h1 : (idsTo l l.length).count x = 1 := by
    rcases List.mem_append.1 hx with hx | hx
    · obtain ⟨m, hm, rfl⟩ := List.mem_map.1 hx
      exact (h.ok i hi).onceM m hm
    · obtain ⟨m, hm, rfl⟩ := List.mem_map.1 hx
      exact (h.ok i hi).onceD m hm
  rw [hR] at h1
  simp only [List.count_append] at h1 ⊢
  omega
theorem rightR_of {r : Rw} (h : (keyLB r.1 && bodyB r.2) = true) : rightR r = true := by
  unfold keyLB bodyB at h
  unfold rightR
  simp only [Bool.and_eq_true, decide_eq_true_eq] at h ⊢
  omega
end Go.Proofs.YtjfoflbaoceemaaGreat
namespace Go.Proofs.YtjfoflbaoceemaaGreat
theorem risesD_of {l : List Mg} (h : risesM l = true) : risesD l = true := by
  unfold risesD
  rw [List.all_eq_true]
  intro i hi
  have hi := List.mem_range.1 hi
  have hu := List.all_eq_true.1 h i (List.mem_range.2 hi)
  unfold upM at hu
  rw [List.getElem?_eq_getElem hi] at hu
  simp only [Bool.and_eq_true, Bool.or_eq_true, Bool.not_eq_true', decide_eq_false_iff_not, beq_iff_eq] at hu
  obtain ⟨h1, h2⟩ := hu
  unfold upD
  rw [List.getElem?_eq_getElem hi]
  simp only [Bool.not_eq_true', Bool.or_eq_false_iff]
  refine ⟨?_, ?_⟩
  · rcases Nat.eq_zero_or_pos i with h0 | h0
    · rw [decide_eq_false (by omega), Bool.false_and]
    · rcases h2 with h2 | h2
      · omega
      · rw [List.getElem?_eq_getElem (show i - 1 < l.length by omega)] at h2 ⊢
        simp only [decide_eq_true_eq] at h2
        rw [decide_eq_true h0, Bool.true_and]
        exact decide_eq_false (by omega)
  · have e : l.findIdx (isM l[i].id) = i := by
      rw [List.findIdx_eq hi]
      refine ⟨by simp [isM], fun j hj => ?_⟩
      have hne : l[j].id ≠ l[i].id := fun e => h1 (List.mem_map.2 ⟨l[j], List.mem_iff_getElem.2 ⟨j, by rw [List.length_take]; omega, List.getElem_take⟩, e⟩)
      simpa [isM] using hne
    unfold idxI
    rw [e, if_pos hi]
    exact decide_eq_false (by omega)
theorem fresh_of {ms : List Int} {l : List Mg} {n : Int} (h : freshB ms l n = true) {k : Nat} (hk : k < l.length) : l[k].id ∉ ms ++ idsL (l.take k) ∧ l[k].id < n := by
  have hu := List.all_eq_true.1 h k (List.mem_range.2 hk)
  unfold freshAt at hu
  rw [List.getElem?_eq_getElem hk] at hu
  simpa only [Bool.and_eq_true, Bool.not_eq_true', decide_eq_false_iff_not, decide_eq_true_eq] using hu
theorem fresh_nodup {ms : List Int} {l : List Mg} {n : Int} (h : freshB ms l n = true) (hm : ms.Nodup) : ∀ k, k ≤ l.length → (ms ++ idsL (l.take k)).Nodup
  | 0, _ => by simpa [idsL] using hm
  | k + 1, hk => by
    have ih := fresh_nodup h hm k (by omega)
    have hf := (fresh_of h (show k < l.length by omega)).1
    rw [idsL_succ (show k < l.length by omega), ← List.append_assoc]
    exact List.nodup_append.2 ⟨ih, by simp, fun a ha b hb e => hf (by rw [List.mem_singleton] at hb; rw [← hb, ← e]; exact ha)⟩
theorem okat_of {next : Int} {l : List Ob} (h : rightS ⟨next, l⟩ = true) {i : Nat} (hi : i < l.length) :
    (∀ j (hj : j + 1 = i), cmpS (l[j]'(by omega)).name l[i].name < 0) ∧ l[i].right = true ∧ freshB (idsTo l i) l[i].msgs next = true ∧ freshB (idsTo l i ++ idsL l[i].msgs) l[i].dead next = true := by
  unfold rightS at h
  simp only [Bool.and_eq_true] at h
  have hu := List.all_eq_true.1 h.2 i (List.mem_range.2 hi)
  unfold okAt at hu
  simp only [List.getElem?_eq_getElem hi, Bool.and_eq_true] at hu
  obtain ⟨h1, h2, h3, h4⟩ := hu
  refine ⟨fun j hj => ?_, h2, h3, h4⟩
  subst hj
  simp only [Nat.add_sub_cancel, List.getElem?_eq_getElem (show j < l.length by omega), Bool.or_eq_true, beq_iff_eq, decide_eq_true_eq] at h1
  omega
theorem all_nodup {next : Int} {l : List Ob} (h : rightS ⟨next, l⟩ = true) : ∀ i, i ≤ l.length → (idsTo l i).Nodup
  | 0, _ => by simp [idsTo]
  | i + 1, hi => by
    have hl : i < l.length := by omega
    obtain ⟨_, _, h3, h4⟩ := okat_of h hl
    have e := fresh_nodup h3 (all_nodup h i (by omega)) l[i].msgs.length (Nat.le_refl _)
    rw [List.take_length] at e
    have e2 := fresh_nodup h4 e l[i].dead.length (Nat.le_refl _)
    rw [List.take_length] at e2
    rw [idsTo_succ hl]
    simpa only [List.append_assoc] using e2
theorem count_one {l : List Int} (h : l.Nodup) {x : Int} (hx : x ∈ l) : l.count x = 1 := by
  induction l with
  | nil => cases hx
  | cons a t ih =>
    rw [List.nodup_cons] at h
    by_cases e : a = x
    · subst e
      rw [List.count_cons_self, List.count_eq_zero_of_not_mem h.1]
    · rw [List.count_cons_of_ne e]
      exact ih h.2 ((List.mem_cons.1 hx).resolve_left fun k => e k.symm)
theorem dmsg_right {next : Int} {b : Bool} {m : Mg} (h1 : m.right = true) (h2 : m.id < next) (h3 : (b && m.claimed) = false) : dmsg next b m = true := by
  unfold dmsg
  rw [h1, decide_eq_true h2, h3]
  rfl
theorem right_of {next : Int} {l : List Ob} (h : rightS ⟨next, l⟩ = true) : RightD next l := by
  have h0 := h
  unfold rightS at h0
  simp only [Bool.and_eq_true, decide_eq_true_eq] at h0
  obtain ⟨⟨h1, h2, h3⟩, _⟩ := h0
  refine ⟨h1, h2, h3, fun i hi => ?_, fun i hi => (okat_of h hi).1 i rfl⟩
  obtain ⟨_, hr, hf1, hf2⟩ := okat_of h hi
  have hall := all_nodup h l.length (Nat.le_refl _)
  obtain ⟨R, hR⟩ := ids_whole hi
  have hcount : ∀ x, x ∈ idsL l[i].msgs ++ idsL l[i].dead → totalD l x = 1 := fun x hx => by
    unfold totalD
    exact count_one hall (by rw [hR]; rcases List.mem_append.1 hx with hx | hx <;> simp [hx])
  have om : ∀ m ∈ l[i].msgs, totalD l m.id = 1 := fun m hm => hcount _ (List.mem_append_left _ (List.mem_map_of_mem hm))
  have od : ∀ m ∈ l[i].dead, totalD l m.id = 1 := fun m hm => hcount _ (List.mem_append_right _ (List.mem_map_of_mem hm))
  have lm : ∀ m ∈ l[i].msgs, m.id < next := fun m hm => by
    obtain ⟨k, hk, rfl⟩ := List.getElem_of_mem hm
    exact (fresh_of hf1 hk).2
  have ld : ∀ m ∈ l[i].dead, m.id < next := fun m hm => by
    obtain ⟨k, hk, rfl⟩ := List.getElem_of_mem hm
    exact (fresh_of hf2 hk).2
  unfold Ob.right at hr
  simp only [Bool.and_eq_true] at hr
  obtain ⟨⟨hn, hk⟩, hr⟩ := hr
  by_cases hk1 : l[i].kind = 1
  · rw [if_pos hk1] at hr
    simp only [Bool.and_eq_true, decide_eq_true_eq] at hr
    obtain ⟨a1, a2, a3⟩ := hr
    have e1 : l[i].msgs = [] := List.length_eq_zero_iff.1 (by omega)
    have e2 : l[i].dead = [] := List.length_eq_zero_iff.1 (by omega)
    refine ⟨hn, hk, fun _ => a3, fun h => by omega, a1, ?_, ?_, ?_, a2, om, od⟩
    · rw [e1]; rfl
    · rw [e1]; rfl
    · rw [e2]; rfl
  · rw [if_neg hk1] at hr
    simp only [Bool.and_eq_true, decide_eq_true_eq] at hr
    obtain ⟨a1, a2, a3, a4, a5⟩ := hr
    have e1 : l[i].rows = [] := List.length_eq_zero_iff.1 a1
    refine ⟨hn, hk, fun h => absurd h hk1, fun _ => a1, ?_, risesD_of a2, ?_, ?_, ?_, om, od⟩
    · rw [e1]; rfl
    · exact List.all_eq_true.2 fun m hm => dmsg_right (List.all_eq_true.1 a3 m hm) (lm m hm) rfl
    · exact List.all_eq_true.2 fun m hm => dmsg_right (List.all_eq_true.1 a4 m hm) (ld m hm) (by
        have := List.all_eq_true.1 a5 m hm
        unfold freeM at this
        simpa using this)
    · rw [e1]; rfl
theorem right_iff {next : Int} {l : List Ob} : rightS ⟨next, l⟩ = true ↔ RightD next l := ⟨right_of, RightD.right⟩
end Go.Proofs.YtjfoflbaoceemaaGreat
namespace Go.Proofs.YtjfoflbaoceemaaGreat
def rowB (r : Rw) : List UInt8 := encText r.1.data.toList ++ encText r.2.data.toList
def rowsB (l : List Rw) : List UInt8 := l.flatMap rowB
def msgsB (l : List Mg) : List UInt8 := l.flatMap Mg.bytes
def obB (o : Ob) : List UInt8 := encText o.name.data.toList ++ encInt o.kind ++ encInt o.limit ++ encInt (o.rows.length : Int) ++ rowsB o.rows ++ encInt (o.msgs.length : Int) ++ msgsB o.msgs ++ encInt (o.dead.length : Int) ++ msgsB o.dead
def obsB (l : List Ob) : List UInt8 := l.flatMap obB
def imageB (next : Int) (l : List Ob) : List UInt8 := encInt next ++ encInt (l.length : Int) ++ obsB l
def imgS (next : Int) (l : List Ob) : List UInt8 := if rightS ⟨next, l⟩ = true then imageB next l else []
theorem flat_take {α : Type} (f : α → List UInt8) {l : List α} {j : Nat} (h : j < l.length) : (l.take (j + 1)).flatMap f = (l.take j).flatMap f ++ f l[j] := by
  rw [List.take_succ_eq_append_getElem h, List.flatMap_append]; simp
theorem flat_drop {α : Type} (f : α → List UInt8) {l : List α} {j : Nat} (h : j < l.length) : (l.drop j).flatMap f = f l[j] ++ (l.drop (j + 1)).flatMap f := by
  rw [List.drop_eq_getElem_cons h, List.flatMap_cons]
theorem flat_le {α : Type} (f : α → List UInt8) {n : Nat} {l : List α} (h : ∀ x ∈ l, (f x).length ≤ n) : (l.flatMap f).length ≤ l.length * n := by
  induction l with
  | nil => simp
  | cons a t ih =>
    have h1 := h a List.mem_cons_self
    have h2 := ih fun x hx => h x (List.mem_cons_of_mem _ hx)
    rw [List.flatMap_cons, List.length_append, List.length_cons, Nat.add_mul]
    omega
theorem pre_le {α : Type} (f : α → List UInt8) (l : List α) (j : Nat) : ((l.take j).flatMap f).length ≤ (l.flatMap f).length := by
  have e : l.flatMap f = (l.take j).flatMap f ++ (l.drop j).flatMap f := by rw [← List.flatMap_append, List.take_append_drop]
  rw [e, List.length_append]; omega
theorem text_le (s : ByteArray) : (encText s.data.toList).length ≤ 2 + s.size := by
  have h1 := List.length_take_le' 65535 s.data.toList
  have h2 : s.data.toList.length = s.size := rfl
  rw [encText_len]
  omega
theorem mbytes_le (m : Mg) : m.bytes.length ≤ 29 + m.corr.size + m.body.size := by
  have h1 := text_le m.corr
  have h2 := text_le m.body
  unfold Mg.bytes Mg.onto
  simp only [List.length_append, List.length_nil, encInt_len, encFlag_len]
  omega
theorem rowB_le (r : Rw) : (rowB r).length ≤ 4 + r.1.size + r.2.size := by
  have h1 := text_le r.1
  have h2 := text_le r.2
  unfold rowB
  rw [List.length_append]
  omega
def sizeO (o : Ob) : Nat := 50 + o.name.size + (o.rows.map fun r => 20 + r.1.size + r.2.size).sum + (o.msgs.map fun m => 60 + m.corr.size + m.body.size).sum + (o.dead.map fun m => 60 + m.corr.size + m.body.size).sum
def sizeD (l : List Ob) : Nat := 16 + (l.map sizeO).sum
theorem flat_sum {α : Type} (f : α → List UInt8) (g : α → Nat) (h : ∀ x, (f x).length ≤ g x) (l : List α) : (l.flatMap f).length ≤ (l.map g).sum := by
  induction l with
  | nil => simp
  | cons a t ih =>
    have := h a
    rw [List.flatMap_cons, List.length_append, List.map_cons, List.sum_cons]
    omega
theorem obB_le (o : Ob) : (obB o).length ≤ sizeO o := by
  have h0 := text_le o.name
  have h1 := flat_sum rowB (fun r => 20 + r.1.size + r.2.size) (fun r => by have := rowB_le r; omega) o.rows
  have h2 := flat_sum Mg.bytes (fun m => 60 + m.corr.size + m.body.size) (fun m => by have := mbytes_le m; omega) o.msgs
  have h3 := flat_sum Mg.bytes (fun m => 60 + m.corr.size + m.body.size) (fun m => by have := mbytes_le m; omega) o.dead
  unfold obB sizeO rowsB msgsB
  simp only [List.length_append, encInt_len]
  omega
theorem image_le (next : Int) (l : List Ob) : (imageB next l).length ≤ sizeD l := by
  have := flat_sum obB sizeO obB_le l
  unfold imageB sizeD obsB
  simp only [List.length_append, encInt_len]
  omega
theorem sum_le {α : Type} (g : α → Nat) {n : Nat} {l : List α} (h : ∀ x ∈ l, g x ≤ n) : (l.map g).sum ≤ l.length * n := by
  induction l with
  | nil => simp
  | cons a t ih =>
    have h1 := h a List.mem_cons_self
    have h2 := ih fun x hx => h x (List.mem_cons_of_mem _ hx)
    rw [List.map_cons, List.sum_cons, List.length_cons, Nat.add_mul]
    omega
theorem OkD.sizes {next : Int} {l : List Ob} {o : Ob} (h : OkD next l o) : o.name.size ≤ 16 ∧ (∀ r ∈ o.rows, r.1.size ≤ 40 ∧ r.2.size ≤ 100) ∧ (∀ m ∈ o.msgs, m.corr.size ≤ 40 ∧ m.body.size ≤ 100) ∧ ∀ m ∈ o.dead, m.corr.size ≤ 40 ∧ m.body.size ≤ 100 := by
  have hm : ∀ (m : Mg) b, dmsg next b m = true → m.corr.size ≤ 40 ∧ m.body.size ≤ 100 := fun m b hd => by
    have := (dmsg_of hd).1
    unfold Mg.right corrB bodyB at this
    simp only [Bool.and_eq_true, decide_eq_true_eq] at this
    omega
  refine ⟨?_, fun r hr => ?_, fun m hx => hm m _ (List.all_eq_true.1 h.msgs m hx), fun m hx => hm m _ (List.all_eq_true.1 h.dead m hx)⟩
  · have := h.name
    unfold nameB at this
    simp only [Bool.and_eq_true, decide_eq_true_eq] at this
    omega
  · have := List.all_eq_true.1 h.rows r hr
    unfold rightR at this
    simp only [Bool.and_eq_true, decide_eq_true_eq] at this
    omega
end Go.Proofs.YtjfoflbaoceemaaGreat
