/- Plain facts on what a state's Claims come to. Nothing of the program. Plain: all of a state's Claims done, one behind the other. Nothing of the program. The document's words on changes: name, kind, RightRow. The document's words on a state's messages: are all of a list right (messages)? In how many places is a number (total)?. The document's words on a state's messages: in how many places is a number (total)?. -/
import Derived.Test.YtdjmjckmbclhiaaJ18
import Derived.Test.YtdjmjckmbclhiaaJ09
import Derived.Test.YtdjmjckmbclhiaaJ22
set_option maxRecDepth 4000
namespace Go.Proofs.Ytdjmjckmbclhiaa
/-- a message is given back, tried -/
def freeE (n : ByteArray) (m : Mg) : Ef := ⟨7, n, ⟨#[]⟩, ⟨#[]⟩, m.id, 0, true, Mg.zero⟩
def claimsO (o : Ob) : List Ef := (o.msgs.filter (·.claimed)).map (freeE o.name)
def claimsS (l : List Ob) : List Ef := l.flatMap claimsO
/-- what is left of a message in its queue -/
def leftM (limit : Int) (m : Mg) : Option Mg := if m.claimed = true then (if triedB m.retry limit = true then none else some m.tried) else some m
def goneM (limit : Int) (m : Mg) : Option Mg := if m.claimed = true then (if triedB m.retry limit = true then some m.tried else none) else none
/-- an object of which the first q messages are given back -/
def partO (o : Ob) (q : Nat) : Ob := { o with msgs := (o.msgs.take q).filterMap (leftM o.limit) ++ o.msgs.drop q, dead := o.dead ++ (o.msgs.take q).filterMap (goneM o.limit) }
theorem part_zero (o : Ob) : partO o 0 = o := by simp [partO]
theorem part_idle {o : Ob} {q : Nat} (hq : q < o.msgs.length) (hc : o.msgs[q].claimed = false) : partO o (q + 1) = partO o q := by
  have e1 : o.msgs.drop q = o.msgs[q] :: o.msgs.drop (q + 1) := List.drop_eq_getElem_cons hq
  unfold partO
  rw [List.take_succ_eq_append_getElem hq, List.filterMap_append, List.filterMap_append, e1]
  have h1 : [o.msgs[q]].filterMap (leftM o.limit) = [o.msgs[q]] := by simp [leftM, hc]
  have h2 : [o.msgs[q]].filterMap (goneM o.limit) = [] := by simp [goneM, hc]
  rw [h1, h2]
  simp
theorem left_id {limit : Int} {m k : Mg} (h : leftM limit m = some k) : k.id = m.id := by
  unfold leftM at h
  split at h
  · split at h
    · cases h
    · injection h with h; subst h; rfl
  · injection h with h; subst h; rfl
/-- where a message is, the numbers of those ahead of it being others -/
theorem idx_mid {a b : List Mg} {m : Mg} (h : ∀ x ∈ a, x.id ≠ m.id) : (a ++ m :: b).findIdx (isM m.id) = a.length := by
  have hlt : a.length < (a ++ m :: b).length := by simp
  rw [List.findIdx_eq hlt]
  refine ⟨by simp [isM], fun j hj => ?_⟩
  rw [List.getElem_append_left hj]
  have := h _ (List.getElem_mem hj)
  simpa [isM] using this
theorem free_part {o : Ob} {q : Nat} (hq : q < o.msgs.length) (hc : o.msgs[q].claimed = true) (hn : (idsL o.msgs).Nodup) : freeOk (partO o q) o.msgs[q].id = true ∧ freeO (partO o q) o.msgs[q].id true = partO o (q + 1) := by
  have e1 : o.msgs.drop q = o.msgs[q] :: o.msgs.drop (q + 1) := List.drop_eq_getElem_cons hq
  have hm : (partO o q).msgs = (o.msgs.take q).filterMap (leftM o.limit) ++ o.msgs[q] :: o.msgs.drop (q + 1) := by unfold partO; rw [← e1]
  have hid : ∀ x ∈ (o.msgs.take q).filterMap (leftM o.limit), x.id ≠ o.msgs[q].id := fun x hx e => by
    obtain ⟨y, hy, hyx⟩ := List.mem_filterMap.1 hx
    obtain ⟨j, hj, rfl⟩ := List.getElem_of_mem hy
    rw [List.length_take] at hj
    rw [List.getElem_take] at hyx
    have h1 := left_id hyx
    have h2 : (idsL o.msgs)[j]'(by simp [idsL]; omega) = (idsL o.msgs)[q]'(by simp [idsL]; omega) := by simp only [idsL, List.getElem_map]; rw [← h1, e]
    exact List.pairwise_iff_getElem.1 hn j q (by simp [idsL]; omega) (by simp [idsL]; omega) (by omega) h2
  have hix := idx_mid (b := o.msgs.drop (q + 1)) hid
  rw [← hm] at hix
  have hat : (partO o q).msgs[((o.msgs.take q).filterMap (leftM o.limit)).length]? = some o.msgs[q] := by rw [hm, List.getElem?_append_right (Nat.le_refl _), Nat.sub_self]; rfl
  cases ht : triedB o.msgs[q].retry (partO o q).limit
  · obtain ⟨h1, h2⟩ := free_stay hix hat hc ht
    refine ⟨h1, h2.trans ?_⟩
    have ht2 : triedB o.msgs[q].retry o.limit = false := ht
    have l1 : [o.msgs[q]].filterMap (leftM o.limit) = [o.msgs[q].tried] := by simp [leftM, hc, ht2]
    have l2 : [o.msgs[q]].filterMap (goneM o.limit) = [] := by simp [goneM, hc, ht2]
    unfold partO
    rw [List.take_succ_eq_append_getElem hq, List.filterMap_append, List.filterMap_append, l1, l2, e1]
    simp
    rw [e1]
    rfl
  · obtain ⟨h1, h2⟩ := free_dead hix hat hc ht
    refine ⟨h1, h2.trans ?_⟩
    have ht2 : triedB o.msgs[q].retry o.limit = true := ht
    have l1 : [o.msgs[q]].filterMap (leftM o.limit) = [] := by simp [leftM, hc, ht2]
    have l2 : [o.msgs[q]].filterMap (goneM o.limit) = [o.msgs[q].tried] := by simp [goneM, hc, ht2]
    unfold partO
    rw [List.take_succ_eq_append_getElem hq, List.filterMap_append, List.filterMap_append, l1, l2, e1]
    simp [List.eraseIdx_append_of_length_le]
end Go.Proofs.Ytdjmjckmbclhiaa
namespace Go.Proofs.Ytdjmjckmbclhiaa
theorem freeE_right {n : ByteArray} {m : Mg} (h1 : nameB n = true) (h2 : idB m.id = true) : (freeE n m).right = true := by
  have e1 : (freeE n m).bare = freeE n m := by simp [Ef.bare, freeE]
  have e2 : (freeE n m).good = true := by simp [Ef.good, freeE, h1, h2]
  rw [Ef.right, e1, e2, same_self]; rfl
/-- an object of which all messages are given back -/
def endO (o : Ob) : Ob := partO o o.msgs.length
/-- what is asked of objects -/
structure GoodF (l : List Ob) : Prop where
  names : ∀ i j (hi : i < l.length) (hj : j < l.length), i < j → (l[i].name.toList == l[j].name.toList) = false
  name : ∀ o ∈ l, nameB o.name = true
  ids : ∀ o ∈ l, ∀ m ∈ o.msgs, idB m.id = true
  kind : ∀ o ∈ l, o.msgs ≠ [] → o.kind = 2
  once : ∀ o ∈ l, (idsL o.msgs ++ idsL o.dead).Nodup
/-- the i-th object is being worked on -/
def stF (l : List Ob) (i q : Nat) (h : i < l.length) : List Ob := (l.take i).map endO ++ partO l[i] q :: l.drop (i + 1)
theorem stF_find {l : List Ob} (hg : GoodF l) {i q : Nat} (h : i < l.length) : (stF l i q h).findIdx (isN l[i].name) = i := by
  have hlen : ((l.take i).map endO).length = i := by simp; omega
  unfold stF
  have hlt : i < ((l.take i).map endO ++ partO l[i] q :: l.drop (i + 1)).length := by simp; omega
  rw [List.findIdx_eq hlt]
  constructor
  · rw [List.getElem_append_right (by omega)]
    simp only [hlen, Nat.sub_self, List.getElem_cons_zero, isN, partO]
    exact beq_self_eq_true _
  · intro j hj
    rw [List.getElem_append_left (by omega), List.getElem_map, List.getElem_take]
    exact hg.names j i (by omega) h hj
theorem stF_at {l : List Ob} {i q : Nat} (h : i < l.length) : (stF l i q h)[i]? = some (partO l[i] q) := by
  have hlen : ((l.take i).map endO).length = i := by simp; omega
  unfold stF
  rw [List.getElem?_append_right (by omega), hlen, Nat.sub_self]
  rfl
theorem stF_set {l : List Ob} {i q q' : Nat} (h : i < l.length) : (stF l i q h).set i (partO l[i] q') = stF l i q' h := by
  have hlen : ((l.take i).map endO).length = i := by simp; omega
  unfold stF
  rw [List.set_append, if_neg (by omega), hlen, Nat.sub_self]
  rfl
theorem one_free {l : List Ob} (hg : GoodF l) (next : Int) {i q : Nat} (h : i < l.length) (hq : q < l[i].msgs.length) (hc : l[i].msgs[q].claimed = true) :
    oneS ⟨next, stF l i q h⟩ (freeE l[i].name l[i].msgs[q]) = (0, ⟨next, stF l i (q + 1) h⟩) := by
  have ho := List.getElem_mem h
  have hr := freeE_right (hg.name _ ho) (hg.ids _ ho _ (List.getElem_mem hq))
  have hk : (partO l[i] q).kind = kindE (freeE l[i].name l[i].msgs[q]).kind := by
    show l[i].kind = 2
    exact hg.kind _ ho fun e => by rw [e] at hq; simp at hq
  have hn : (idsL l[i].msgs).Nodup := (List.nodup_append.1 (hg.once _ ho)).1
  obtain ⟨h1, h2⟩ := free_part hq hc hn
  have hf := stF_find hg (q := q) h
  have hw : withinO next (stF l i q h) (partO l[i] q) (freeE l[i].name l[i].msgs[q]) = (0, partO l[i] (q + 1)) := by
    have k7 : (freeE l[i].name l[i].msgs[q]).kind = 7 := rfl
    rw [withinO, if_neg (by rw [k7]; decide), if_neg (by rw [k7]; decide), if_neg (by rw [k7]; decide), if_neg (by rw [k7]; decide), if_neg (by rw [k7]; decide), if_pos k7]
    have e1 : (freeE l[i].name l[i].msgs[q]).n = l[i].msgs[q].id := rfl
    have e2 : (freeE l[i].name l[i].msgs[q]).tried = true := rfl
    rw [e1, e2, if_pos h1, h2]
  have k7 : (freeE l[i].name l[i].msgs[q]).kind = 7 := rfl
  have ko : (freeE l[i].name l[i].msgs[q]).obj = l[i].name := rfl
  rw [oneS, if_neg (by rw [hr]; decide), if_neg (by rw [k7]; decide), if_neg (by rw [k7]; decide)]
  simp only [ko, hf, stF_at h]
  rw [if_pos hk, hw, stF_set h]
theorem run_cons {s s' : St} {e : Ef} {l : List Ef} (h : oneS s e = (0, s')) : runS s (e :: l) = runS s' l := by
  rw [runS, h]; rfl
/-- from the q-th message of the i-th object on -/
theorem run_obj {l : List Ob} (hg : GoodF l) (next : Int) {i : Nat} (h : i < l.length) (rest : List Ef) : ∀ (k q : Nat), q + k = l[i].msgs.length →
    runS ⟨next, stF l i q h⟩ (((l[i].msgs.drop q).filter (·.claimed)).map (freeE l[i].name) ++ rest) = runS ⟨next, stF l i l[i].msgs.length h⟩ rest
  | 0, q, hk => by
    have : q = l[i].msgs.length := by omega
    subst this
    simp
  | k + 1, q, hk => by
    have hq : q < l[i].msgs.length := by omega
    rw [List.drop_eq_getElem_cons hq, List.filter_cons]
    cases hc : l[i].msgs[q].claimed
    · have e : stF l i q h = stF l i (q + 1) h := by unfold stF; rw [part_idle hq hc]
      rw [e, if_neg (by simp)]
      exact run_obj hg next h rest k (q + 1) (by omega)
    · rw [if_pos rfl, List.map_cons, List.cons_append, run_cons (one_free hg next h hq hc)]
      exact run_obj hg next h rest k (q + 1) (by omega)
theorem stF_end {l : List Ob} {i : Nat} (h : i < l.length) : stF l i l[i].msgs.length h = (l.take (i + 1)).map endO ++ l.drop (i + 1) := by
  unfold stF
  rw [List.take_succ_eq_append_getElem h, List.map_append]
  simp [endO]
theorem run_from {l : List Ob} (hg : GoodF l) (next : Int) : ∀ (k i : Nat), i + k = l.length →
    runS ⟨next, (l.take i).map endO ++ l.drop i⟩ (claimsS (l.drop i)) = (0, ⟨next, l.map endO⟩)
  | 0, i, hk => by
    have : i = l.length := by omega
    subst this
    simp [claimsS, runS]
  | k + 1, i, hk => by
    have h : i < l.length := by omega
    have e1 : l.drop i = l[i] :: l.drop (i + 1) := List.drop_eq_getElem_cons h
    have e2 : (l.take i).map endO ++ l.drop i = stF l i 0 h := by rw [e1]; unfold stF; rw [part_zero]
    have e3 : claimsS (l.drop i) = ((l[i].msgs.drop 0).filter (·.claimed)).map (freeE l[i].name) ++ claimsS (l.drop (i + 1)) := by rw [e1]; rfl
    rw [e2, e3, run_obj hg next h _ l[i].msgs.length 0 (by omega), stF_end h]
    exact run_from hg next k (i + 1) (by omega)
theorem claims_run {l : List Ob} (hg : GoodF l) (next : Int) : runS ⟨next, l⟩ (claimsS l) = (0, ⟨next, l.map endO⟩) := by
  have := run_from hg next l.length 0 (by omega)
  simpa using this
end Go.Proofs.Ytdjmjckmbclhiaa
namespace Go.Proofs.Ytdjmjckmbclhiaa
open Go.RowKit
theorem mg_ext {m k : Mg} (h1 : m.id = k.id) (h2 : m.pri = k.pri) (h3 : m.retry = k.retry) (h4 : m.claimed = k.claimed) (h5 : m.corr = k.corr) (h6 : m.body = k.body) : m = k := by
  obtain ⟨a1, a2, a3, a4, a5, a6⟩ := m
  obtain ⟨b1, b2, b3, b4, b5, b6⟩ := k
  simp only at h1 h2 h3 h4 h5 h6
  rw [h1, h2, h3, h4, h5, h6]
theorem bytes_same {a b : ByteArray} (h : a.toList = b.toList) : a = b := by
  rw [ByteArray.toList_eq, ByteArray.toList_eq] at h
  obtain ⟨⟨x⟩⟩ := a
  obtain ⟨⟨y⟩⟩ := b
  simp at h
  rw [h]
theorem msame_eq {m k : Mg} (h : m.same k = true) : m = k := by
  simp only [Mg.same, Bool.and_eq_true, beq_iff_eq] at h
  obtain ⟨h1, h2, h3, h4, h5, h6⟩ := h
  exact mg_ext h1 h2 h3 h4 (bytes_same h5) (bytes_same h6)
theorem same_eq {e f : Ef} (h : e.same f = true) : e = f := by
  simp only [Ef.same, Bool.and_eq_true, beq_iff_eq] at h
  obtain ⟨h1, h2, h3, h4, h5, h6, h7, h8⟩ := h
  have m2 := bytes_same h2
  have m3 := bytes_same h3
  have m4 := bytes_same h4
  have m8 := msame_eq h8
  obtain ⟨a1, a2, a3, a4, a5, a6, a7, a8⟩ := e
  obtain ⟨b1, b2, b3, b4, b5, b6, b7, b8⟩ := f
  simp only at h1 m2 m3 m4 h5 h6 h7 m8
  rw [h1, m2, m3, m4, h5, h6, h7, m8]
theorem same_comm (e f : Ef) : e.same f = f.same e := by
  cases h : e.same f
  · cases k : f.same e
    · rfl
    · rw [same_eq k, same_self] at h; cases h
  · rw [same_eq h, same_self]
theorem name_ (o : ByteArray) (w : World) : Calls Try.prog 16 #[.string o] w fun e w' => e = .returned (.bool (nameB o)) ∧ w = w' := by
  by_cases h1 : 1 ≤ (o.size : Int)
  · have E : Hid (nameB o = decide ((o.size : Int) ≤ 16)) := by
      have e : nameB o = decide ((o.size : Int) ≤ 16) := by unfold nameB; rw [decide_eq_true h1, Bool.true_and]
      exact e
    go_enter Try.func16, Try.ntmps16
    go_wp2
    go_ret
    exact ⟨retM E.out.symm, rfl⟩
  · have E : Hid (nameB o = false) := by
      have e : nameB o = false := by unfold nameB; rw [decide_eq_false h1, Bool.false_and]
      exact e
    go_enter Try.func16, Try.ntmps16
    go_wp2
    go_ret
    exact ⟨retM E.out.symm, rfl⟩
theorem rkind_ (k l : Int) (w : World) : Calls Try.prog 17 #[.int .i64 k, .int .i64 l] w fun e w' => e = .returned (.bool (kindB k l)) ∧ w = w' := by
  by_cases h1 : k = 1
  · subst h1
    by_cases h2 : l = 0
    · subst h2
      have E : Hid (kindB 1 0 = true) := rfl
      go_enter Try.func17, Try.ntmps17
      go_wp2
      go_ret
      exact ⟨retM E.out.symm, rfl⟩
    · have E : Hid (kindB 1 l = false) := by
        have e : kindB 1 l = false := by simp [kindB, h2]
        exact e
      have h3 : (l == 0) = false := by simpa using h2
      go_enter Try.func17, Try.ntmps17
      go_wp2
      go_ret
      exact ⟨retM E.out.symm, rfl⟩
  by_cases h2 : k = 2
  · subst h2
    by_cases h3 : 1 ≤ l
    · have E : Hid (kindB 2 l = decide (l ≤ 1000)) := by
        have e : kindB 2 l = decide (l ≤ 1000) := by simp [kindB, h3]
        exact e
      go_enter Try.func17, Try.ntmps17
      go_wp2
      go_ret
      exact ⟨retM E.out.symm, rfl⟩
    · have E : Hid (kindB 2 l = false) := by
        have e : kindB 2 l = false := by simp [kindB, h3]
        exact e
      go_enter Try.func17, Try.ntmps17
      go_wp2
      go_ret
      exact ⟨retM E.out.symm, rfl⟩
  have E : Hid (kindB k l = false) := by
    have e : kindB k l = false := by simp [kindB, h1, h2]
    exact e
  have k1 : (k == 1) = false := by simpa using h1
  have k2 : (k == 2) = false := by simpa using h2
  go_enter Try.func17, Try.ntmps17
  go_wp2
  go_ret
  exact ⟨retM E.out.symm, rfl⟩
theorem rrow_ (k v : ByteArray) (w : World) : Calls Try.prog 22 #[.agg #[.string k, .string v]] w fun e w' => e = .returned (.bool (keyLB k && bodyB v)) ∧ Below w.heap.size w w' := by
  have HAL := Lib.hid (alloc_below w (.cells #[.string k, .string v] 43))
  by_cases h1 : 1 ≤ (k.size : Int)
  rotate_left
  · have E : Hid ((keyLB k && bodyB v) = false) := by
      have e : (keyLB k && bodyB v) = false := by unfold keyLB; rw [decide_eq_false h1]; simp
      exact e
    go_enter Try.func22, Try.ntmps22
    go_wp2
    go_ret
    exact ⟨retM E.out.symm, HAL.out⟩
  by_cases h2 : (k.size : Int) ≤ 40
  rotate_left
  · have E : Hid ((keyLB k && bodyB v) = false) := by
      have e : (keyLB k && bodyB v) = false := by unfold keyLB; rw [decide_eq_false h2]; simp
      exact e
    go_enter Try.func22, Try.ntmps22
    go_wp2
    go_ret
    exact ⟨retM E.out.symm, HAL.out⟩
  have E : Hid ((keyLB k && bodyB v) = decide ((v.size : Int) ≤ 100)) := by
    have e : (keyLB k && bodyB v) = decide ((v.size : Int) ≤ 100) := by unfold keyLB bodyB; rw [decide_eq_true h1, decide_eq_true h2]; simp
    exact e
  go_enter Try.func22, Try.ntmps22
  go_wp2
  go_ret
  exact ⟨retM E.out.symm, HAL.out⟩
end Go.Proofs.Ytdjmjckmbclhiaa
namespace Go.Proofs.Ytdjmjckmbclhiaa
open Go.RowKit
def dmsg (next : Int) (dead : Bool) (m : Mg) : Bool := m.right && (decide (m.id < next) && !(dead && m.claimed))
theorem all_at {α : Type} {l : List α} {p : α → Bool} {j : Nat} (h : ∀ q (_ : q < j) (hq : q < l.length), p l[q] = true) (hj : l.length ≤ j) : l.all p = true := by
  rw [List.all_eq_true]
  intro x hx
  obtain ⟨q, hq, rfl⟩ := List.getElem_of_mem hx
  exact h q (by omega) hq
theorem all_no {α : Type} {l : List α} {p : α → Bool} {j : Nat} (hj : j < l.length) (h : p l[j] = false) : l.all p = false := by
  rw [List.all_eq_false]
  exact ⟨l[j], List.getElem_mem hj, by simp [h]⟩
def AllR (w : World) {α : Type} (l : List α) (p : α → Bool) (k : Nat) (i : Value) (wr : World) : Prop :=
  ∃ j, j + k = l.length ∧ i = .int .i64 (j : Int) ∧ (∀ q (_ : q < j) (hq : q < l.length), p l[q] = true) ∧ Below w.heap.size w wr
structure ShutM5 (p : Prop) : Prop where out : p
set_option maxHeartbeats 2000000 in
theorem messages_ {w : World} {K : Nat → Prop} {A : Option Addr} {n c : Nat} {l : List Mg} (h : Lst w K eM A l) (hl : l.length = n) (hn : n ≤ 1000000) (next : Int) (dead : Bool) :
    Calls Try.prog 21 #[.slice A n c, .int .i64 next, .bool dead] w fun e w' => e = .returned (.bool (l.all (dmsg next dead))) ∧ Below w.heap.size w w' := by
  have H := Lib.hid h
  have HL := Lib.hid hl
  clear h hl
  go_enter Try.func21, Try.ntmps21
  go_wp2_with fail
  go_loopg [7] n (fun k i wr => AllR w l (dmsg next dead) k i wr)
  case atStart => exact ⟨0, by rw [HL.out]; omega, rfl, fun q hq => absurd hq (Nat.not_lt_zero q), Below.refl _ _⟩
  case round =>
    obtain ⟨j, hj, rfl, hu, hb⟩ := hrel
    have HJ := Lib.hid hj
    have HU := ShutM5.mk hu
    have HB := Lib.hid hb
    clear hj hu hb
    by_cases hlt : j < n
    · have hx : j < l.length := by rw [HL.out]; exact hlt
      obtain ⟨b, o, rfl, hbb, c0, c1, c2, c3, c4, c5⟩ := (H.out.below HB.out).atM hx
      have hr := fun W => rright_ l[j] W
      have hd : dmsg next dead l[j] = (l[j].right && (decide (l[j].id < next) && !(dead && l[j].claimed))) := rfl
      have hno := fun h => all_no (p := dmsg next dead) hx h
      have hyes : dmsg next dead l[j] = true → ∀ q (_ : q < j + 1) (hq : q < l.length), dmsg next dead l[q] = true := fun h q hq hl => by
        rcases Nat.lt_or_ge q j with h5 | h5
        · exact HU.out q h5 hl
        · obtain rfl : q = j := by omega
          exact h
      rw [hd] at hno hyes
      obtain ⟨x, hxx⟩ : ∃ x, l[j] = x := ⟨_, rfl⟩
      rw [hxx] at c0 c1 c2 c3 c4 c5 hr hno hyes
      clear hxx hd hbb
      generalize x.right = y at *
      obtain ⟨x0, x1, x2, x3, x4, x5⟩ := x
      simp only [Mg.val, Mg.cells] at hr c0 c1 c2 c3 c4 c5 hno hyes
      have HR := ShutM5.mk hr
      have HN := ShutM5.mk hno
      have HY := ShutM5.mk hyes
      have k0 := fun W (k : Below wr.heap.size wr W) => (cell_of_heap (k.block _ (block_of_cell c0)) _).trans c0
      have k3 := fun W (k : Below wr.heap.size wr W) => (cell_of_heap (k.block _ (block_of_cell c3)) _).trans c3
      have K0 := ShutM5.mk k0
      have K3 := ShutM5.mk k3
      clear hr hno hyes k0 k3
      go_wp2_with fail
      refine (HR.out _).mono ?_
      rintro e w1 ⟨rfl, hb1⟩
      have d0 := K0.out _ hb1
      have d3 := K3.out _ hb1
      have HB1 := ShutM5.mk (HB.out.trans (hb1.mono HB.out.size))
      clear hb1 c0 c1 c2 c3 c4 c5 K0 K3 HR
      cases y
      · have e1 := HN.out rfl
        have E1 := ShutM5.mk e1
        clear e1 HN HY
        go_wp2_with fail
        go_ret
        exact ⟨by rw [E1.out]; rfl, HB1.out⟩
      · by_cases hid : next ≤ x0
        · have e1 := HN.out (by rw [decide_eq_false (by omega)]; rfl)
          have E1 := ShutM5.mk e1
          have hg : decide (next ≤ x0) = true := decide_eq_true hid
          clear e1 HN HY
          go_wp2_with fail
          go_ret
          exact ⟨by rw [E1.out]; rfl, HB1.out⟩
        · have hg : decide (next ≤ x0) = false := decide_eq_false hid
          have hdt : decide (x0 < next) = true := decide_eq_true (by omega)
          cases dead
          · have e1 := HY.out (by rw [hdt]; rfl)
            have E1 := ShutM5.mk e1
            clear e1 HN HY hdt
            go_wp2_with fail
            go_roundg (n - (j + 1))
            case measure => have := HJ.out; have := HL.out; omega
            case rel => exact ⟨j + 1, by have := HL.out; omega, by go_num, E1.out, HB1.out⟩
          · cases x3
            · have e1 := HY.out (by rw [hdt]; rfl)
              have E1 := ShutM5.mk e1
              clear e1 HN HY hdt
              go_wp2_with fail
              go_roundg (n - (j + 1))
              case measure => have := HJ.out; have := HL.out; omega
              case rel => exact ⟨j + 1, by have := HL.out; omega, by go_num, E1.out, HB1.out⟩
            · have e1 := HN.out (by rw [hdt]; rfl)
              have E1 := ShutM5.mk e1
              clear e1 HN HY hdt
              go_wp2_with fail
              go_ret
              exact ⟨by rw [E1.out]; rfl, HB1.out⟩
    · have e1 := all_at HU.out (show l.length ≤ j by rw [HL.out]; omega)
      have E1 := ShutM5.mk e1
      clear e1
      go_wp2_with fail
      go_ret
      exact ⟨by rw [E1.out]; rfl, HB.out⟩
end Go.Proofs.Ytdjmjckmbclhiaa
namespace Go.Proofs.Ytdjmjckmbclhiaa
open Go.RowKit
/-- in how many places a number is -/
def totalD (l : List Ob) (id : Int) : Nat := (idsTo l l.length).count id
def TotR (w : World) (l : List Ob) (id : Int) (c0 : Array Value) (k : Nat) (v i : Value) (wr : World) : Prop :=
  ∃ j, j + k = l.length ∧ i = .int .i64 (j : Int) ∧ v = .int .i64 (((idsTo l j).count id : Nat) : Int) ∧ Below w.heap.size w wr ∧ Blk wr w.heap.size 24 c0
def TotI (w : World) (b : Nat) (ms : List Mg) (id : Int) (c0 : Array Value) (k : Nat) (v i : Value) (wr : World) : Prop :=
  ∃ q, q + k = ms.length ∧ i = .int .i64 (q : Int) ∧ v = .int .i64 ((b + (idsL (ms.take q)).count id : Nat) : Int) ∧ Below w.heap.size w wr ∧ Blk wr w.heap.size 24 c0
theorem count_step {ms : List Mg} {id : Int} {q : Nat} (h : q < ms.length) : (idsL (ms.take (q + 1))).count id = (idsL (ms.take q)).count id + (if ms[q].id == id then 1 else 0) := by
  rw [idsL_succ h, List.count_append]
  congr 1
  rw [List.count_singleton]
set_option maxHeartbeats 8000000 in
theorem total_ {w : World} {K : Nat → Prop} {s : Sv} {xs : List Oc} (h : ObsAt w K s xs) (hx : xs.length ≤ 20) (hs : ∀ x ∈ xs, x.o.short 450) (next id : Int) :
    Calls Try.prog 23 #[.agg #[.int .i64 next, .slice s.a s.n s.c], .int .i64 id] w fun e w' => e = .returned (.int .i64 ((totalD (obsOf xs) id : Nat) : Int)) ∧ Below w.heap.size w w' := by
  obtain ⟨A, n, c⟩ := s
  have hln : n = xs.length := h.row.len
  have hol : (obsOf xs).length = n := by rw [hln]; simp [obsOf]
  have HB0 := ShutM5.mk (alloc_below w (.cells #[.int .i64 next, .slice A n c] 24))
  have HX0 := ShutM5.mk (Blk.new w 24 #[.int .i64 next, .slice A n c])
  have HH := ShutM5.mk h
  have hshort : ∀ o ∈ obsOf xs, o.short 450 := fun o ho => by
    obtain ⟨x, hx, rfl⟩ := List.mem_map.1 ho
    exact hs x hx
  have HSH := ShutM5.mk hshort
  have HLN := ShutM5.mk hln
  have HOL := ShutM5.mk hol
  have hn20 : n ≤ 20 := by omega
  obtain ⟨Z, hZ⟩ : ∃ Z, totalD (obsOf xs) id = Z := ⟨_, rfl⟩
  rw [hZ]
  have HZ := ShutM5.mk hZ
  clear h hs hshort hln hol hZ hx
  go_enter Try.func23, Try.ntmps23
  go_wp2_with fail
  go_loopg [5, 6] n (fun k v i wr => TotR w (obsOf xs) id #[.int .i64 next, .slice A n c] k v i wr)
  case atStart => exact ⟨0, by have := HOL.out; omega, rfl, by simp [idsTo], HB0.out, HX0.out⟩
  case round =>
    obtain ⟨j, hj, rfl, rfl, hb, hblk⟩ := hrel
    have HJ := ShutM5.mk hj
    have HB := ShutM5.mk hb
    have HX := ShutM5.mk hblk
    clear hj hb hblk
    by_cases hlt : j < n
    · have hjx : j < xs.length := by rw [← HLN.out]; exact hlt
      have hjo : j < (obsOf xs).length := by rw [HOL.out]; exact hlt
      have hjn : (j : Int) < (n : Int) := by omega
      have hoj := ob_of hjo
      have hids : ∀ id, (idsTo (obsOf xs) (j + 1)).count id = ((idsTo (obsOf xs) j).count id + (idsL xs[j].o.msgs).count id) + (idsL xs[j].o.dead).count id := fun id => by rw [idsTo_succ hjo, hoj, List.count_append, List.count_append]
      have hle : (idsTo (obsOf xs) j).count id ≤ 20000 := by
        have h1 := idsTo_len HSH.out j
        have h2 : (idsTo (obsOf xs) j).count id ≤ (idsTo (obsOf xs) j).length := List.count_le_length
        omega
      obtain ⟨hsj0, hsj1, hsj2⟩ := HSH.out xs[j].o (List.mem_map_of_mem (List.getElem_mem hjx))
      have hcell : ∀ W, Below w.heap.size w W → ∃ b o, A = some ⟨b, o, none⟩ ∧ W.cell? ⟨b, o + j * 6 + 4, none⟩ = some (.slice xs[j].m.a xs[j].m.n xs[j].m.c) ∧ W.cell? ⟨b, o + j * 6 + 5, none⟩ = some (.slice xs[j].d.a xs[j].d.n xs[j].d.c) := fun W k => by
        obtain ⟨b, o, e, _, _, _, _, _, c4, c5⟩ := (HH.out.row.lst.below k).atO hjx
        exact ⟨b, o, e, c4, c5⟩
      have hmm := fun W (k : Below w.heap.size w W) => ((HH.out.all _ (List.getElem_mem hjx)).below k).msgs
      have hdd := fun W (k : Below w.heap.size w W) => ((HH.out.all _ (List.getElem_mem hjx)).below k).dead
      generalize xs[j].o.msgs = ms at *
      generalize xs[j].o.dead = ds at *
      generalize xs[j].m = sm at *
      generalize xs[j].d = sd at *
      obtain ⟨ma, mn, mc⟩ := sm
      obtain ⟨da, dn, dc⟩ := sd
      simp only at hcell
      obtain ⟨b, o, eA, hz4, hz5⟩ := hcell wr HB.out
      clear hz4 hz5 hsj0
      subst eA
      have hc : ∀ W, Below w.heap.size w W → W.cell? ⟨b, o + j * 6 + 4, none⟩ = some (.slice ma mn mc) ∧ W.cell? ⟨b, o + j * 6 + 5, none⟩ = some (.slice da dn dc) := fun W k => by
        obtain ⟨b', o', e, x, y⟩ := hcell W k
        injection e with e
        injection e with e1 e2
        subst e1 e2
        exact ⟨x, y⟩
      have HC := ShutM5.mk hc
      have HMM7 := ShutM5.mk hmm
      have HMM8 := ShutM5.mk hdd
      have HS7 := ShutM5.mk (show ms.length ≤ 450 from hsj1)
      have HS8 := ShutM5.mk (show ds.length ≤ 450 from hsj2)
      have HIDS := ShutM5.mk (hids id)
      have HBD := ShutM5.mk (show (idsTo (obsOf xs) j).count id ≤ 20000 from hle)
      have d1 := HX.out.cell 1
      simp only [List.getElem?_toArray, List.getElem?_cons_zero, List.getElem?_cons_succ] at d1
      generalize hcj : (idsTo (obsOf xs) j).count id = cj at *
      clear hc hcell hmm hdd hsj1 hsj2 hids hle hjx hjo hoj hcj
      go_wp2_with fail
      clear d1
      go_loopg [5, 7] ms.length (fun k v i wr => TotI w (cj) ms id #[.int .i64 next, .slice (some ⟨b, o, none⟩) n c] k v i wr)
      case atStart => exact ⟨0, by omega, rfl, by simp [idsL], HB.out, HX.out⟩
      case round =>
        obtain ⟨q7, hq7, rfl, rfl, hb7, hblk7⟩ := hrel
        have HQ7 := ShutM5.mk hq7
        have HB7 := ShutM5.mk hb7
        have HX7 := ShutM5.mk hblk7
        have e1 := hblk7.cell 1
        obtain ⟨e4, e5⟩ := HC.out _ hb7
        simp only [List.getElem?_toArray, List.getElem?_cons_zero, List.getElem?_cons_succ] at e1
        clear hq7 hb7 hblk7
        by_cases hlq7 : q7 < ms.length
        · obtain ⟨mb, mo, em, _, i0, _⟩ := (HMM7.out _ HB7.out).lst.atM hlq7
          have em2 : ma = some ⟨mb, mo, none⟩ := em
          have hl7 := (HMM7.out _ HB7.out).len
          have hl2 : mn = ms.length := hl7
          have hst := count_step (id := id) hlq7
          have hsb := HS7.out
          have hw1 : IntKind.i64.wrap ((q7 : Int) + 1) = (q7 : Int) + 1 := by rw [IntKind.wrap_i64]; omega
          have hqi : (q7 : Int) < (mn : Int) := by omega
          have hbd : (idsL (ms.take q7)).count id ≤ 450 := by
            have h1 : (idsL (ms.take q7)).count id ≤ (idsL (ms.take q7)).length := List.count_le_length
            have h2 := idsL_len ms q7
            have h3 := HS7.out
            omega
          have HL2 := ShutM5.mk hl2
          subst em2
          generalize ms[q7].id = y at *
          cases hy : (y == id)
          · rw [hy, if_neg (by simp), Nat.add_zero] at hst
            have HST := ShutM5.mk hst
            clear hst hl7 hl2 hbd em
            go_wp2_with fail
            go_roundg (ms.length - (q7 + 1))
            case measure => have := HQ7.out; omega
            case rel => exact ⟨q7 + 1, by omega, congrArg (Value.int .i64) (by omega), congrArg (Value.int .i64) (by have hh := HST.out; omega), HB7.out, HX7.out⟩
          · rw [hy, if_pos rfl] at hst
            have HST := ShutM5.mk hst
            have hw : wrap64 (((cj + (idsL (ms.take q7)).count id : Nat) : Int) + 1) = ((cj + (idsL (ms.take (q7 + 1))).count id : Nat) : Int) := by unfold wrap64; rw [hst]; have := HBD.out; omega
            generalize cj + (idsL (ms.take q7)).count id = u0 at *
            have HW := ShutM5.mk hw
            clear hst hl7 hl2 hbd em hw
            go_wp2_with fail
            go_roundg (ms.length - (q7 + 1))
            case measure => have := HQ7.out; omega
            case rel => exact ⟨q7 + 1, by omega, congrArg (Value.int .i64) (by omega), congrArg (Value.int .i64) HW.out, HB7.out, HX7.out⟩
        · have hqe : q7 = ms.length := by have := HQ7.out; omega
          have hl2 : mn = ms.length := (HMM7.out _ HB7.out).len
          have hqi : ¬ (q7 : Int) < (mn : Int) := by omega
          have htk : ms.take q7 = ms := List.take_of_length_le (by omega)
          rw [htk]
          have HL2 := ShutM5.mk hl2
          clear htk hl2 hqe
          go_wp2_with fail
          have HBD2 := ShutM5.mk (show cj + (idsL ms).count id ≤ 21000 by
            have h1 : (idsL ms).count id ≤ (idsL ms).length := List.count_le_length
            have h2 : (idsL ms).length = ms.length := by simp [idsL]
            have h3 := HS7.out
            have h4 := HBD.out
            omega)
          generalize hcm : cj + (idsL ms).count id = cm at *
          go_loopg [5, 8] ds.length (fun k v i wr => TotI w (cm) ds id #[.int .i64 next, .slice (some ⟨b, o, none⟩) n c] k v i wr)
          case atStart => exact ⟨0, by omega, rfl, congrArg (Value.int .i64) (by rw [← hcm]; simp [idsL]), HB7.out, HX7.out⟩
          case round =>
            obtain ⟨q8, hq8, rfl, rfl, hb8, hblk8⟩ := hrel
            have HQ8 := ShutM5.mk hq8
            have HB8 := ShutM5.mk hb8
            have HX8 := ShutM5.mk hblk8
            have e1 := hblk8.cell 1
            obtain ⟨e4, e5⟩ := HC.out _ hb8
            simp only [List.getElem?_toArray, List.getElem?_cons_zero, List.getElem?_cons_succ] at e1
            clear hq8 hb8 hblk8
            by_cases hlq8 : q8 < ds.length
            · obtain ⟨mb, mo, em, _, i0, _⟩ := (HMM8.out _ HB8.out).lst.atM hlq8
              have em2 : da = some ⟨mb, mo, none⟩ := em
              have hl8 := (HMM8.out _ HB8.out).len
              have hl2 : dn = ds.length := hl8
              have hst := count_step (id := id) hlq8
              have hsb := HS8.out
              have hw1 : IntKind.i64.wrap ((q8 : Int) + 1) = (q8 : Int) + 1 := by rw [IntKind.wrap_i64]; omega
              have hqi : (q8 : Int) < (dn : Int) := by omega
              have hbd : (idsL (ds.take q8)).count id ≤ 450 := by
                have h1 : (idsL (ds.take q8)).count id ≤ (idsL (ds.take q8)).length := List.count_le_length
                have h2 := idsL_len ds q8
                have h3 := HS8.out
                omega
              have HL2 := ShutM5.mk hl2
              subst em2
              generalize ds[q8].id = y at *
              cases hy : (y == id)
              · rw [hy, if_neg (by simp), Nat.add_zero] at hst
                have HST := ShutM5.mk hst
                clear hst hl8 hl2 hbd em
                go_wp2_with fail
                go_roundg (ds.length - (q8 + 1))
                case measure => have := HQ8.out; omega
                case rel => exact ⟨q8 + 1, by omega, congrArg (Value.int .i64) (by omega), congrArg (Value.int .i64) (by have hh := HST.out; omega), HB8.out, HX8.out⟩
              · rw [hy, if_pos rfl] at hst
                have HST := ShutM5.mk hst
                have hw : wrap64 (((cm + (idsL (ds.take q8)).count id : Nat) : Int) + 1) = ((cm + (idsL (ds.take (q8 + 1))).count id : Nat) : Int) := by unfold wrap64; rw [hst]; have := HBD2.out; omega
                generalize cm + (idsL (ds.take q8)).count id = u0 at *
                have HW := ShutM5.mk hw
                clear hst hl8 hl2 hbd em hw
                go_wp2_with fail
                go_roundg (ds.length - (q8 + 1))
                case measure => have := HQ8.out; omega
                case rel => exact ⟨q8 + 1, by omega, congrArg (Value.int .i64) (by omega), congrArg (Value.int .i64) HW.out, HB8.out, HX8.out⟩
            · have hqe : q8 = ds.length := by have := HQ8.out; omega
              have hl2 : dn = ds.length := (HMM8.out _ HB8.out).len
              have hqi : ¬ (q8 : Int) < (dn : Int) := by omega
              have htk : ds.take q8 = ds := List.take_of_length_le (by omega)
              rw [htk]
              have HL2 := ShutM5.mk hl2
              clear htk hl2 hqe
              go_wp2_with fail
              go_roundg (n - (j + 1))
              case measure => have := HJ.out; have := HOL.out; omega
              case rel => exact ⟨j + 1, by have := HJ.out; have := HOL.out; omega, by go_num, by rw [HIDS.out]; exact congrArg (Value.int .i64) (Int.natCast_add _ _).symm, HB8.out, HX8.out⟩
    · have hjn : ¬ (j : Int) < (n : Int) := by omega
      have hje : (idsTo (obsOf xs) j).count id = Z := by
        rw [← HZ.out, totalD, show (obsOf xs).length = j by have := HJ.out; have := HOL.out; omega]
      rw [hje]
      have d1 := HX.out.cell 1
      simp only [List.getElem?_toArray, List.getElem?_cons_zero, List.getElem?_cons_succ] at d1
      clear hje
      go_wp2_with fail
      go_ret
      exact ⟨rfl, HB.out⟩
end Go.Proofs.Ytdjmjckmbclhiaa
