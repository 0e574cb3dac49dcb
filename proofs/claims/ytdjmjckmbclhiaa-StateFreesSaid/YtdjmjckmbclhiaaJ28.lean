/- Plain: what the document's RightState says of a state, and what comes of it. Nothing of the program. Plain: what is left of a state when all of its Claims are done. Nothing of the program. What the document's own comparing of keys comes to. Do rows rise, the document asks. -/
import Derived.Test.YtdjmjckmbclhiaaJ26
import Derived.Test.YtdjmjckmbclhiaaJ27
import Derived.Test.YtdjmjckmbclhiaaJ06
import Derived.Below
import Derived.LoopTactic
import Derived.RegionTactic
import Derived.Deep.QuietTactic
import Derived.BigQuiet
import Derived.Lib.Strings
import Derived.Deep.LoopGhost
set_option maxRecDepth 4000
namespace Go.Proofs.Ytdjmjckmbclhiaa
/-- what the document asks of an object, its place by name left out -/
structure OkD (next : Int) (l : List Ob) (o : Ob) : Prop where
  name : nameB o.name = true
  kind : kindB o.kind o.limit = true
  table : o.kind = 1 → o.msgs.length + o.dead.length = 0
  queue : o.kind = 2 → o.rows.length = 0
  rises : risesR o.rows = true
  up : risesD o.msgs = true
  msgs : o.msgs.all (dmsg next false) = true
  dead : o.dead.all (dmsg next true) = true
  rows : o.rows.all rightR = true
  onceM : ∀ m ∈ o.msgs, totalD l m.id = 1
  onceD : ∀ m ∈ o.dead, totalD l m.id = 1
structure RightD (next : Int) (l : List Ob) : Prop where
  low : 1 ≤ next
  high : next ≤ 1099511627776
  len : l.length ≤ 20
  ok : ∀ i (h : i < l.length), OkD next l l[i]
  names : ∀ i (h : i + 1 < l.length), cmpS l[i].name l[i + 1].name < 0
theorem name_lt {a b c : ByteArray} (h1 : cmpS a b < 0) (h2 : cmpS b c < 0) : cmpS a c < 0 := by
  have h := cmpS_trans a b c (by omega) (by omega)
  rcases Int.lt_or_le (cmpS a c) 0 with h3 | h3
  · exact h3
  · have e := (cmpS_eq a c).1 (by omega)
    have h4 : cmpS c b = cmpS a b := by unfold cmpS; rw [e]
    have := cmpS_turn c b
    omega
theorem names_lt {l : List Ob} (h : ∀ i (h : i + 1 < l.length), cmpS l[i].name l[i + 1].name < 0) (i : Nat) : ∀ (k : Nat) (hk : i + k + 1 < l.length), cmpS l[i].name l[i + k + 1].name < 0
  | 0, hk => h i hk
  | k + 1, hk => name_lt (names_lt h i k (by omega)) (h (i + k + 1) hk)
theorem once_not {A B : List Int} {x : Int} (h : (A ++ x :: B).count x = 1) : x ∉ A := fun hm => by
  have := List.count_pos_iff.2 hm
  rw [List.count_append, List.count_cons_self] at h
  omega
theorem ids_whole {l : List Ob} {i : Nat} (h : i < l.length) : ∃ R, idsTo l l.length = idsTo l i ++ idsL l[i].msgs ++ idsL l[i].dead ++ R := by
  refine ⟨(l.drop (i + 1)).flatMap fun o => idsL o.msgs ++ idsL o.dead, ?_⟩
  rw [← idsTo_succ h]
  unfold idsTo
  rw [← List.flatMap_append, List.take_append_drop, List.take_length]
theorem ids_cut {l : List Mg} {k : Nat} (h : k < l.length) : idsL l = idsL (l.take k) ++ l[k].id :: idsL (l.drop (k + 1)) := by
  unfold idsL
  rw [← List.map_cons, ← List.map_append]
  rw [show l[k] :: l.drop (k + 1) = l.drop k from (List.drop_eq_getElem_cons h).symm, List.take_append_drop]
theorem freshB_all {ms : List Int} {l : List Mg} {n : Int} (h : ∀ k (hk : k < l.length), l[k].id ∉ ms ++ idsL (l.take k) ∧ l[k].id < n) : freshB ms l n = true := by
  unfold freshB
  rw [List.all_eq_true]
  intro k hk
  have hk := List.mem_range.1 hk
  unfold freshAt
  rw [List.getElem?_eq_getElem hk]
  obtain ⟨h1, h2⟩ := h k hk
  simp only [Bool.and_eq_true, Bool.not_eq_true', decide_eq_false_iff_not, decide_eq_true_eq]
  exact ⟨h1, h2⟩
theorem risesM_of {l : List Mg} (h : risesD l = true) : risesM l = true := by
  unfold risesM
  rw [List.all_eq_true]
  intro i hi
  have hi := List.mem_range.1 hi
  have hu := List.all_eq_true.1 h i (List.mem_range.2 hi)
  unfold upD at hu
  unfold upM
  rw [List.getElem?_eq_getElem hi] at hu ⊢
  simp only [Bool.not_eq_true', Bool.or_eq_false_iff] at hu
  simp only [Bool.and_eq_true, Bool.or_eq_true, Bool.not_eq_true', decide_eq_false_iff_not, beq_iff_eq]
  refine ⟨fun hm => ?_, ?_⟩
  · obtain ⟨x, hx, e⟩ := List.mem_map.1 hm
    obtain ⟨j, hj, rfl⟩ := List.getElem_of_mem hx
    rw [List.length_take] at hj
    rw [List.getElem_take] at e
    exact rises_one h hi (by omega) e
  · rcases Nat.eq_zero_or_pos i with h0 | h0
    · exact .inl h0
    · refine .inr ?_
      have h1 := hu.1
      rw [decide_eq_true h0, Bool.true_and, List.getElem?_eq_getElem (show i - 1 < l.length by omega)] at h1
      rw [List.getElem?_eq_getElem (show i - 1 < l.length by omega)]
      simp only [decide_eq_false_iff_not] at h1
      exact decide_eq_true (by omega)
theorem dmsg_of {next : Int} {b : Bool} {m : Mg} (h : dmsg next b m = true) : m.right = true ∧ m.id < next ∧ (b && m.claimed) = false := by
  unfold dmsg at h
  simp only [Bool.and_eq_true, decide_eq_true_eq, Bool.not_eq_true'] at h
  exact ⟨h.1, h.2.1, h.2.2⟩
theorem id_of_right {m : Mg} (h : m.right = true) : idB m.id = true := by
  unfold Mg.right at h
  simp only [Bool.and_eq_true] at h
  exact h.1.1.1.1
theorem kind_two {k lim : Int} (h : kindB k lim = true) (h1 : ¬ k = 1) : k = 2 := by
  unfold kindB at h
  rw [if_neg h1] at h
  by_cases h2 : k = 2
  · exact h2
  · rw [if_neg h2] at h; cases h
theorem OkD.right {next : Int} {l : List Ob} {o : Ob} (h : OkD next l o) : o.right = true := by
  unfold Ob.right
  rw [h.name, h.kind]
  by_cases h1 : o.kind = 1
  · rw [if_pos h1, h.rises, h.rows, decide_eq_true (h.table h1)]; rfl
  · have h2 := h.queue (kind_two h.kind h1)
    have a1 : o.msgs.all Mg.right = true := List.all_eq_true.2 fun m hm => (dmsg_of (List.all_eq_true.1 h.msgs m hm)).1
    have a2 : o.dead.all Mg.right = true := List.all_eq_true.2 fun m hm => (dmsg_of (List.all_eq_true.1 h.dead m hm)).1
    have a3 : o.dead.all freeM = true := List.all_eq_true.2 fun m hm => by
      have := (dmsg_of (List.all_eq_true.1 h.dead m hm)).2.2
      unfold freeM
      rw [Bool.true_and] at this
      rw [this]; rfl
    rw [if_neg h1, decide_eq_true h2, risesM_of h.up, a1, a2, a3]; rfl
theorem RightD.freshM {next : Int} {l : List Ob} (h : RightD next l) {i : Nat} (hi : i < l.length) : freshB (idsTo l i) l[i].msgs next = true := by
  obtain ⟨R, hR⟩ := ids_whole hi
  refine freshB_all fun k hk => ⟨?_, (dmsg_of (List.all_eq_true.1 (h.ok i hi).msgs _ (List.getElem_mem hk))).2.1⟩
  have h1 := (h.ok i hi).onceM _ (List.getElem_mem hk)
  unfold totalD at h1
  rw [hR, ids_cut hk] at h1
  simp only [List.append_assoc, List.cons_append] at h1
  refine once_not (B := idsL (l[i].msgs.drop (k + 1)) ++ (idsL l[i].dead ++ R)) ?_
  rw [List.append_assoc]
  exact h1
theorem RightD.freshD {next : Int} {l : List Ob} (h : RightD next l) {i : Nat} (hi : i < l.length) : freshB (idsTo l i ++ idsL l[i].msgs) l[i].dead next = true := by
  obtain ⟨R, hR⟩ := ids_whole hi
  refine freshB_all fun k hk => ⟨?_, (dmsg_of (List.all_eq_true.1 (h.ok i hi).dead _ (List.getElem_mem hk))).2.1⟩
  have h1 := (h.ok i hi).onceD _ (List.getElem_mem hk)
  unfold totalD at h1
  rw [hR, ids_cut hk] at h1
  simp only [List.append_assoc, List.cons_append] at h1
  refine once_not (B := idsL (l[i].dead.drop (k + 1)) ++ R) ?_
  simp only [List.append_assoc]
  exact h1
theorem RightD.right {next : Int} {l : List Ob} (h : RightD next l) : rightS ⟨next, l⟩ = true := by
  have hall : (List.range l.length).all (okAt ⟨next, l⟩) = true := by
    rw [List.all_eq_true]
    intro i hi
    have hi := List.mem_range.1 hi
    unfold okAt
    simp only [List.getElem?_eq_getElem hi, (h.ok i hi).right, h.freshM hi, h.freshD hi, Bool.and_true]
    rcases Nat.eq_zero_or_pos i with h0 | h0
    · rw [show (i == 0) = true from beq_iff_eq.2 h0, Bool.true_or]
    · obtain ⟨j, rfl⟩ : ∃ j, i = j + 1 := ⟨i - 1, by omega⟩
      have := h.names j hi
      simp only [Nat.add_sub_cancel, List.getElem?_eq_getElem (show j < l.length by omega)]
      simp [this]
  unfold rightS
  simp only [decide_eq_true h.low, decide_eq_true h.high, decide_eq_true h.len, hall, Bool.and_true]
theorem count_nodup {l : List Int} (h : ∀ x ∈ l, l.count x ≤ 1) : l.Nodup := by
  induction l with
  | nil => exact List.nodup_nil
  | cons a t ih =>
    rw [List.nodup_cons]
    refine ⟨fun hm => ?_, ih fun x hx => ?_⟩
    · have h1 := h a List.mem_cons_self
      have h2 := List.count_pos_iff.2 hm
      rw [List.count_cons_self] at h1
      omega
    · have h1 := h x (List.mem_cons_of_mem _ hx)
      have h2 := List.count_le_count_cons (a := x) (b := a) (l := t)
      omega
theorem RightD.once {next : Int} {l : List Ob} (h : RightD next l) {i : Nat} (hi : i < l.length) : (idsL l[i].msgs ++ idsL l[i].dead).Nodup := by
  obtain ⟨R, hR⟩ := ids_whole hi
  refine count_nodup fun x hx => ?_
  have h1 : (idsTo l l.length).count x = 1 := by
    rcases List.mem_append.1 hx with hx | hx
    · obtain ⟨m, hm, rfl⟩ := List.mem_map.1 hx
      exact (h.ok i hi).onceM m hm
    · obtain ⟨m, hm, rfl⟩ := List.mem_map.1 hx
      exact (h.ok i hi).onceD m hm
  rw [hR] at h1
  simp only [List.count_append] at h1 ⊢
  omega
theorem RightD.good {next : Int} {l : List Ob} (h : RightD next l) : GoodF l := by
  have hmem : ∀ o ∈ l, OkD next l o := fun o ho => by
    obtain ⟨i, hi, rfl⟩ := List.getElem_of_mem ho
    exact h.ok i hi
  refine ⟨fun i j hi hj hij => ?_, fun o ho => (hmem o ho).name, fun o ho m hm => id_of_right (dmsg_of (List.all_eq_true.1 (hmem o ho).msgs m hm)).1, fun o ho hne => ?_, fun o ho => ?_⟩
  · obtain ⟨k, rfl⟩ : ∃ k, j = i + k + 1 := ⟨j - i - 1, by omega⟩
    have hlt := names_lt h.names i k hj
    cases hb : (l[i].name.toList == l[i + k + 1].name.toList)
    · rfl
    · have := (cmpS_eq _ _).2 (beq_iff_eq.1 hb)
      omega
  · by_cases h1 : o.kind = 1
    · have := (hmem o ho).table h1
      exact absurd (List.length_eq_zero_iff.1 (by omega)) hne
    · exact kind_two (hmem o ho).kind h1
  · obtain ⟨i, hi, rfl⟩ := List.getElem_of_mem ho
    exact h.once hi
end Go.Proofs.Ytdjmjckmbclhiaa
namespace Go.Proofs.Ytdjmjckmbclhiaa
theorem end_msgs (o : Ob) : (endO o).msgs = o.msgs.filterMap (leftM o.limit) := by
  unfold endO partO
  simp
theorem end_dead (o : Ob) : (endO o).dead = o.dead ++ o.msgs.filterMap (goneM o.limit) := by
  unfold endO partO
  simp
theorem left_free {limit : Int} {m k : Mg} (h : leftM limit m = some k) : k.claimed = false := by
  unfold leftM at h
  split at h
  · split at h
    · cases h
    · injection h with h; subst h; rfl
  · rename_i hc
    injection h with h
    subst h
    simpa using hc
theorem claims_none (l : List Ob) : claimsS (l.map endO) = [] := by
  unfold claimsS
  rw [List.flatMap_eq_nil_iff]
  intro o ho
  obtain ⟨o', ho', rfl⟩ := List.mem_map.1 ho
  unfold claimsO
  rw [List.map_eq_nil_iff, List.filter_eq_nil_iff, end_msgs]
  intro m hm
  obtain ⟨x, _, hx⟩ := List.mem_filterMap.1 hm
  rw [left_free hx]
  simp
theorem gone_id {limit : Int} {m k : Mg} (h : goneM limit m = some k) : k.id = m.id := by
  unfold goneM at h
  split at h
  · split at h
    · injection h with h; subst h; rfl
    · cases h
  · cases h
theorem end_len (o : Ob) : (endO o).msgs.length + (endO o).dead.length = o.msgs.length + o.dead.length := by
  rw [end_msgs, end_dead, List.length_append]
  have h : ∀ l : List Mg, (l.filterMap (leftM o.limit)).length + (l.filterMap (goneM o.limit)).length = l.length := fun l => by
    induction l with
    | nil => rfl
    | cons m t ih =>
      cases hc : m.claimed
      · have h1 : leftM o.limit m = some m := by simp [leftM, hc]
        have h2 : goneM o.limit m = none := by simp [goneM, hc]
        rw [List.filterMap_cons_some h1, List.filterMap_cons_none h2, List.length_cons, List.length_cons]
        omega
      · cases ht : triedB m.retry o.limit
        · have h1 : leftM o.limit m = some m.tried := by simp [leftM, hc, ht]
          have h2 : goneM o.limit m = none := by simp [goneM, hc, ht]
          rw [List.filterMap_cons_some h1, List.filterMap_cons_none h2, List.length_cons, List.length_cons]
          omega
        · have h1 : leftM o.limit m = none := by simp [leftM, hc, ht]
          have h2 : goneM o.limit m = some m.tried := by simp [goneM, hc, ht]
          rw [List.filterMap_cons_none h1, List.filterMap_cons_some h2, List.length_cons, List.length_cons]
          omega
  have := h o.msgs
  omega
/-- numbers that stand once: a message is found where it is -/
theorem found_at {l : List Mg} (hn : (idsL l).Nodup) {m : Mg} (hm : m ∈ l) : l[l.findIdx (isM m.id)]? = some m := by
  obtain ⟨i, hi, rfl⟩ := List.getElem_of_mem hm
  have e : l.findIdx (isM l[i].id) = i := by
    rw [List.findIdx_eq hi]
    refine ⟨by simp [isM], fun j hj => ?_⟩
    have := List.pairwise_iff_getElem.1 hn j i (by simp [idsL]; omega) (by simp [idsL]; omega) hj
    simp only [idsL, List.getElem_map] at this
    simpa [isM] using this
  rw [e, List.getElem?_eq_getElem hi]
theorem ids_sub {f : Mg → Option Mg} (hf : ∀ m k, f m = some k → k.id = m.id) (l : List Mg) : List.Sublist (idsL (l.filterMap f)) (idsL l) := by
  induction l with
  | nil => exact List.Sublist.slnil
  | cons m t ih =>
    cases h : f m with
    | none => rw [List.filterMap_cons_none h]; exact ih.cons _
    | some k =>
      rw [List.filterMap_cons_some h]
      show List.Sublist (k.id :: idsL (t.filterMap f)) (m.id :: idsL t)
      rw [hf _ _ h]
      exact ih.cons_cons _
theorem end_nodupM {o : Ob} (h : (idsL o.msgs ++ idsL o.dead).Nodup) : (idsL (endO o).msgs).Nodup := by
  rw [end_msgs]
  exact (List.nodup_append.1 h).1.sublist (ids_sub (fun _ _ => left_id) _)
theorem end_nodupD {o : Ob} (h : (idsL o.msgs ++ idsL o.dead).Nodup) : (idsL (endO o).dead).Nodup := by
  obtain ⟨h1, h2, h3⟩ := List.nodup_append.1 h
  have hs := ids_sub (f := goneM o.limit) (fun _ _ => gone_id) o.msgs
  rw [end_dead]
  show (List.map _ _).Nodup
  rw [List.map_append, List.nodup_append]
  exact ⟨h2, h1.sublist hs, fun a ha b hb e => h3 b (hs.subset hb) a ha e.symm⟩
theorem stays {o : Ob} {m : Mg} (hm : m ∈ o.msgs) (hc : m.claimed = false) : m ∈ (endO o).msgs := by
  rw [end_msgs]
  exact List.mem_filterMap.2 ⟨m, hm, by simp [leftM, hc]⟩
theorem again {o : Ob} {m : Mg} (hm : m ∈ o.msgs) (hc : m.claimed = true) (ht : triedB m.retry o.limit = false) : m.tried ∈ (endO o).msgs := by
  rw [end_msgs]
  exact List.mem_filterMap.2 ⟨m, hm, by simp [leftM, hc, ht]⟩
theorem aside {o : Ob} {m : Mg} (hm : m ∈ o.msgs) (hc : m.claimed = true) (ht : triedB m.retry o.limit = true) : m.tried ∈ (endO o).dead := by
  rw [end_dead]
  exact List.mem_append_right _ (List.mem_filterMap.2 ⟨m, hm, by simp [goneM, hc, ht]⟩)
theorem rightR_of {r : Rw} (h : (keyLB r.1 && bodyB r.2) = true) : rightR r = true := by
  unfold keyLB bodyB at h
  unfold rightR
  simp only [Bool.and_eq_true, decide_eq_true_eq] at h ⊢
  omega
end Go.Proofs.Ytdjmjckmbclhiaa
namespace Go.Proofs.Ytdjmjckmbclhiaa
open Go.RowKit

theorem cmpL_right {x y : List UInt8} {k : Nat} (h : k < x.length) (h2 : y.length ≤ k) : cmpL (x.drop k) (y.drop k) = 1 := by
  rw [List.drop_eq_nil_of_le h2, List.drop_eq_getElem_cons h]; rfl
theorem cmpL_left {x y : List UInt8} {k : Nat} (h : x.length ≤ k) (h2 : k < y.length) : cmpL (x.drop k) (y.drop k) = -1 := by
  rw [List.drop_eq_nil_of_le h, List.drop_eq_getElem_cons h2]; rfl
theorem cmpL_at (a b : ByteArray) (k : Nat) (h : k < a.size) (h2 : k < b.size) : cmpL (a.data.toList.drop k) (b.data.toList.drop k) =
    if a[k].toNat < b[k].toNat then -1 else if b[k].toNat < a[k].toNat then 1 else cmpL (a.data.toList.drop (k + 1)) (b.data.toList.drop (k + 1)) := by
  rw [List.drop_eq_getElem_cons (show k < a.data.toList.length by simpa using h), List.drop_eq_getElem_cons (show k < b.data.toList.length by simpa using h2), cmpL]
  simp only [u8_lt_iff]
  rfl
theorem drewNN (w : World) (a b : Nat) : (w.drewN a).drewN b = w.drewN (a + b) := World.drewN_drewN ..
theorem refKeys (a b : ByteArray) (w : World) (ha : a.size ≤ maxLen) : Calls Try.prog 18 #[.string a, .string b] w fun e w' => e = .returned (.int .i64 (cmpS a b)) ∧ ∃ n, w' = w.drewN n := by
  unfold maxLen at ha
  go_enter Try.func18, Try.ntmps18
  go_wp2
  go_loopw [5] (fun i wr => ∃ k n : Nat, k ≤ a.size ∧ k ≤ b.size ∧ i = .int .i64 k ∧ wr = w.drewN n ∧ cmpL a.data.toList b.data.toList = cmpL (a.data.toList.drop k) (b.data.toList.drop k)) (fun i _ => a.size - (intOf i).toNat)
  case atStart => exact ⟨0, 0, Nat.zero_le _, Nat.zero_le _, rfl, rfl, rfl⟩
  case round =>
    obtain ⟨k, n, hk1, hk2, rfl, rfl, hinv⟩ := hrel
    have I := Lib.hid hinv
    clear hinv
    by_cases h1 : k < a.size
    · by_cases h2 : k < b.size
      · have A := cmpL_at a b k h1 h2
        rcases Nat.lt_trichotomy a[k].toNat b[k].toNat with h3 | h3 | h3
        · have e : cmpS a b = -1 := by
            rw [cmpS, Lib.toList_data, Lib.toList_data, I.out, A, if_pos h3]
          have E := Lib.hid e
          clear e A
          go_wp2
          go_quiet (fail)
          go_wp2
          go_ret
          exact ⟨retIk E.out.symm, _, by rw [drewNN]⟩
        · have e : cmpL a.data.toList b.data.toList = cmpL (a.data.toList.drop (k + 1)) (b.data.toList.drop (k + 1)) := by
            rw [I.out, A, if_neg (by omega), if_neg (by omega)]
          have E := Lib.hid e
          clear e A
          have h4 : ¬ a[k].toNat < b[k].toNat := by omega
          have h5 : ¬ b[k].toNat < a[k].toNat := by omega
          have H3 := Lib.hid h3
          clear h3
          go_wp2
          go_quiet (fail)
          go_wp2
          go_quiet (fail)
          go_wp2
          go_roundw
          case rel => exact ⟨k + 1, _, by omega, by omega, by go_num, rfl, E.out⟩
          case measure => simp [intOf]; omega
        · have e : cmpS a b = 1 := by
            rw [cmpS, Lib.toList_data, Lib.toList_data, I.out, A, if_neg (by omega), if_pos h3]
          have E := Lib.hid e
          clear e A
          have h4 : ¬ a[k].toNat < b[k].toNat := by omega
          go_wp2
          go_quiet (fail)
          go_wp2
          go_quiet (fail)
          go_wp2
          go_ret
          exact ⟨retIk E.out.symm, _, by rw [drewNN, drewNN]⟩
      · have h3 : k = b.size := by omega
        subst h3
        have e : cmpS a b = 1 := by
          rw [cmpS, Lib.toList_data, Lib.toList_data, I.out]; exact cmpL_right (by simpa using h1) (by simp)
        have E := Lib.hid e
        clear e
        have h4 : ¬ a.size < b.size := by omega
        go_wp2
        go_ret
        exact ⟨retIk E.out.symm, n, rfl⟩
    · have h3 : k = a.size := by omega
      subst h3
      by_cases h4 : a.size < b.size
      · have e : cmpS a b = -1 := by
          rw [cmpS, Lib.toList_data, Lib.toList_data, I.out]; exact cmpL_left (by simp) (by simpa using h4)
        have E := Lib.hid e
        clear e
        go_wp2
        go_ret
        exact ⟨retIk E.out.symm, n, rfl⟩
      · have h5 : ¬ b.size < a.size := by omega
        have e : cmpS a b = 0 := by
          rw [cmpS, Lib.toList_data, Lib.toList_data, I.out, List.drop_eq_nil_of_le (by simp), List.drop_eq_nil_of_le (by simp; omega)]; rfl
        have E := Lib.hid e
        clear e
        go_wp2
        go_ret
        exact ⟨retIk E.out.symm, n, rfl⟩
end Go.Proofs.Ytdjmjckmbclhiaa
namespace Go.Proofs.Ytdjmjckmbclhiaa
open Go.RowKit
def RiseRel (w : World) (xs : List Rw) (k : Nat) (i : Value) (wr : World) : Prop := ∃ j, j + k = xs.length ∧ i = .int .i64 ((j : Int) + 1) ∧ risesR xs = risesR (xs.drop j) ∧ Below w.heap.size w wr
set_option maxHeartbeats 400000 in
theorem rises_ {w : World} {K : Nat → Prop} {A : Option Addr} {n c : Nat} {xs : List Rw} (h : Rws w K A xs) (hn : xs.length = n) (hm : n ≤ 1000000) (hs : ∀ r ∈ xs, r.1.size ≤ maxLen) :
    Calls Try.prog 19 #[.slice A n c] w fun e w' => e = .returned (.bool (risesR xs)) ∧ Below w.heap.size w w' := by
  have H := Lib.hid h
  have HN := Lib.hid hn
  have HS := Lib.hid hs
  clear h hn hs
  go_enter Try.func19, Try.ntmps19
  go_wp2
  go_loopg [3] n (fun k i wr => RiseRel w xs k i wr)
  case atStart => exact ⟨0, by rw [HN.out]; omega, rfl, rfl, Below.refl _ _⟩
  case round =>
    obtain ⟨j, hj, rfl, ht, hb⟩ := hrel
    have HT := Lib.hid ht
    have HB := Lib.hid hb
    have HJ := Lib.hid hj
    clear ht hb hj
    by_cases hlt : j + 1 < n
    · have hx : j < xs.length := by rw [HN.out]; omega
      have hy : j + 1 < xs.length := by rw [HN.out]; exact hlt
      obtain ⟨b, o, rfl, hc, hd⟩ := (H.out.below HB.out).at_ hx
      obtain ⟨b2, o2, he, hc2, hd2⟩ := (H.out.below HB.out).at_ hy
      cases he
      clear hd hd2
      obtain ⟨h1, h2⟩ := rises_at hy HT.out
      have hz := HS.out _ (List.getElem_mem hx)
      generalize xs[j].1 = k1 at *
      generalize xs[j + 1].1 = k2 at *
      have HZ := Lib.hid hz
      clear hz
      by_cases hp : cmpS k1 k2 < 0
      · have hp2 : ¬ 0 ≤ cmpS k1 k2 := by omega
        have H1 := Lib.hid (h1 hp)
        clear h1 h2
        go_wp2
        go_quiet ((go_at_call 18; exact Calls.quiet_of (refKeys _ _ _ HZ.out)))
        go_wp2
        go_roundg (n - (j + 1))
        case measure => have := HJ.out; have := HN.out; omega
        case rel => exact ⟨j + 1, by have := HN.out; omega, by go_num, H1.out, below_drewN HB.out _⟩
      · have hp2 : 0 ≤ cmpS k1 k2 := by omega
        have H1 := Lib.hid (h2 hp)
        clear h1 h2
        go_wp2
        go_quiet ((go_at_call 18; exact Calls.quiet_of (refKeys _ _ _ HZ.out)))
        go_wp2
        go_ret
        exact ⟨by rw [H1.out]; rfl, below_drewN HB.out _⟩
    · have e := rises_end (by rw [HN.out]; exact hlt) HT.out
      have E := Lib.hid e
      clear e
      go_wp2
      go_ret
      exact ⟨by rw [E.out]; rfl, HB.out⟩
end Go.Proofs.Ytdjmjckmbclhiaa
