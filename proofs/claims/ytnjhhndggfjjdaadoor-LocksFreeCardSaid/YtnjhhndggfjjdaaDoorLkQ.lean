/- Plain facts: what all locks are at any time stays so, whatever is asked and whoever is taken out. -/
import Derived.Test.YtnjhhndggfjjdaaDoorLkG
set_option maxRecDepth 4000
namespace Go.Proofs.YtnjhhndggfjjdaaDoor
open Go
/-- what all locks are at any time -/
structure TInv (s : TS) : Prop where
  rise : s.Pairwise fun a b => cmpN a.1 b.1 < 0
  norm : ∀ e ∈ s, knownP e.1 = some e.1
  ok : ∀ e ∈ s, Ok e.2
  fit : ∀ e ∈ s, Fit e.2
  some : ∀ e ∈ s, (holdsP e.2).length ≠ 0
  one : s.Pairwise fun a b => ∀ x, ¬ (hasP a.2.2 x = true ∧ hasP b.2.2 x = true)
theorem TInv.nil : TInv [] := ⟨List.Pairwise.nil, by simp, by simp, by simp, by simp, List.Pairwise.nil⟩
theorem known_idem {n m : Nm} (h : knownP n = some m) : knownP m = some m := by
  obtain ⟨d, o, r⟩ := n
  unfold knownP at h
  simp only at h
  split at h
  · injection h with h
    subst h
    rfl
  · split at h
    · injection h with h
      subst h
      rfl
    · split at h
      · injection h with h
        subst h
        rename_i h1 h2 h3
        unfold knownP
        simp only
        rw [if_neg h1, if_neg h2, if_pos h3]
      · cases h
/-- all locks around that one of a name -/
theorem put_split {s : TS} (h : s.Pairwise fun a b => cmpN a.1 b.1 < 0) (m : Nm) : ∃ pre mid post : TS, s = pre ++ mid ++ post ∧ (∀ l, putN s m l = pre ++ (m, l) :: post) ∧ (∀ e ∈ pre, cmpN e.1 m < 0) ∧ (∀ e ∈ post, cmpN m e.1 < 0) ∧ ((mid = [] ∧ atN s m = false ∧ lockN s m = ([], [])) ∨ (mid = [(m, lockN s m)] ∧ atN s m = true)) := by
  have hb : ∀ e ∈ s.take (spotN s m), cmpN e.1 m < 0 := fun e he => by
    obtain ⟨i, hi, rfl⟩ := List.getElem_of_mem he
    rw [List.length_take] at hi
    have := List.not_of_lt_findIdx (p := fun e : Ent => !decide (cmpN e.1 m < 0)) (xs := s) (i := i) (by unfold spotN at hi; omega)
    rw [List.getElem_take]
    simpa using this
  cases hat : atN s m
  · refine ⟨s.take (spotN s m), [], s.drop (spotN s m), by simp, fun l => by unfold putN; rw [hat]; rfl, hb, fun e he => ?_, .inl ⟨rfl, rfl, lock_not hat⟩⟩
    obtain ⟨i, hi, rfl⟩ := List.getElem_of_mem he
    rw [List.length_drop] at hi
    have hlt : spotN s m < s.length := by omega
    have h1 : ¬ cmpN (s[spotN s m]).1 m < 0 := by
      have hx : (!decide (cmpN (s[spotN s m]).1 m < 0)) = true := List.findIdx_getElem (p := fun e : Ent => !decide (cmpN e.1 m < 0)) (xs := s) (w := hlt)
      simpa using hx
    have h2 : cmpN (s[spotN s m]).1 m ≠ 0 := by
      unfold atN at hat
      rw [List.getElem?_eq_getElem hlt] at hat
      simpa using hat
    have h3 : cmpN m (s[spotN s m]).1 < 0 := by rw [cmpN_turn]; omega
    rw [List.getElem_drop]
    rcases Nat.eq_zero_or_pos i with h0 | h0
    · subst h0
      simpa using h3
    · exact cmpN_lt_trans h3 (rise_at h hlt (by omega) (by omega))
  · have hlt := at_lt hat
    have hsp : s = s.take (spotN s m) ++ [(m, lockN s m)] ++ s.drop (spotN s m + 1) := by
      conv => lhs; rw [← List.take_append_drop (spotN s m) s, List.drop_eq_getElem_cons hlt]
      rw [List.append_assoc, List.singleton_append]
      congr 2
      exact Prod.ext (at_name hat) (lock_at hat).symm
    refine ⟨s.take (spotN s m), [(m, lockN s m)], s.drop (spotN s m + 1), hsp, fun l => ?_, hb, fun e he => ?_, .inr ⟨rfl, rfl⟩⟩
    · unfold putN
      rw [hat, if_pos rfl, List.set_eq_take_append_cons_drop, if_pos hlt]
    · obtain ⟨i, hi, rfl⟩ := List.getElem_of_mem he
      rw [List.length_drop] at hi
      rw [List.getElem_drop]
      have := rise_at h hlt (show spotN s m + 1 + i < s.length by omega) (by omega)
      rwa [at_name hat] at this
theorem lock_mem {s : TS} {m : Nm} (h : atN s m = true) : (m, lockN s m) ∈ s := by
  have : (m, lockN s m) = s[spotN s m]'(at_lt h) := Prod.ext (at_name h).symm (lock_at h)
  rw [this]
  exact List.getElem_mem _
theorem count_append (a b : TS) : countP (a ++ b) = countP a + countP b := by unfold countP; simp
theorem count_zero : countP [] = 0 := rfl
theorem md_ne {mode : Int} (h : mode ≠ 0) : mdN mode ≠ 0 := by
  unfold mdN
  split
  · omega
  · omega
theorem wait_none {s : TS} {who : Int} (h : waitN s who = none) : ∀ e ∈ s, hasP e.2.2 who = false := fun e he => by
  unfold waitN at h
  rw [Option.map_eq_none_iff, List.find?_eq_none] at h
  simpa using h e he
theorem lock_inv {s : TS} (h : TInv s) (m : Nm) : Ok (lockN s m) ∧ Fit (lockN s m) := by
  obtain ⟨pre, mid, post, e, _, _, _, hm⟩ := put_split h.rise m
  rcases hm with ⟨_, _, h2⟩ | ⟨_, h1⟩
  · rw [h2]; exact ⟨ok_none, fit_none⟩
  · exact ⟨h.ok _ (lock_mem h1), h.fit _ (lock_mem h1)⟩
theorem lock_line {s : TS} (h : TInv s) {who : Int} (hw : waitN s who = none) (m : Nm) : hasP (lockN s m).2 who = false := by
  obtain ⟨pre, mid, post, e, _, _, _, hm⟩ := put_split h.rise m
  rcases hm with ⟨_, _, h2⟩ | ⟨_, h1⟩
  · rw [h2]; rfl
  · exact wait_none hw (m, lockN s m) (lock_mem h1)
theorem count_put {s : TS} (h : TInv s) {who : Int} {m : Nm} {mode : Int} (hm0 : mode ≠ 0) (hw : waitN s who = none) :
    countP (putN s m (askP (lockN s m) who (mdN mode)).2) = countP s + (if hereP (lockN s m) who = true then 0 else 1) := by
  have hl := lock_line h hw m
  have hc := ask_count (lock_inv h m).1 (md_ne hm0) (mdN_lt mode) hl
  obtain ⟨pre, mid, post, e, hp, _, _, hm⟩ := put_split h.rise m
  rw [hp, count_append, count_cons]
  simp only
  rw [hc]
  have e1 : countP s = countP pre + (holdsP (lockN s m)).length + countP post := by
    conv => lhs; rw [e]
    rw [count_append, count_append]
    rcases hm with ⟨h1, _, h2⟩ | ⟨h1, _⟩
    · rw [h1, h2]; rfl
    · rw [h1, count_cons, count_zero]
      simp only
      omega
  rw [e1]
  omega
theorem inv_put {s : TS} (h : TInv s) {m : Nm} (hk : knownP m = some m) {l : Lk} (ok : Ok l) (fit : Fit l) (hs : (holdsP l).length ≠ 0) (h1 : ∀ x, hasP l.2 x = true → ∀ e ∈ s, e.1 ≠ m → hasP e.2.2 x = false) : TInv (putN s m l) := by
  obtain ⟨pre, mid, post, e, hp, hb, ha, _⟩ := put_split h.rise m
  have hpre : ∀ x ∈ pre, x ∈ s := fun x hx => by rw [e]; simp [hx]
  have hpost : ∀ x ∈ post, x ∈ s := fun x hx => by rw [e]; simp [hx]
  have hmem : ∀ x ∈ pre ++ (m, l) :: post, x = (m, l) ∨ x ∈ s := fun x hx => by
    simp only [List.mem_append, List.mem_cons] at hx
    rcases hx with hx | hx | hx
    · exact .inr (hpre x hx)
    · exact .inl hx
    · exact .inr (hpost x hx)
  have nepre : ∀ x ∈ pre, x.1 ≠ m := fun x hx he => by
    have := hb x hx
    rw [he, (cmpN_eq m m).2 rfl] at this
    omega
  have nepost : ∀ x ∈ post, x.1 ≠ m := fun x hx he => by
    have := ha x hx
    rw [he, (cmpN_eq m m).2 rfl] at this
    omega
  have hr := h.rise
  have ho := h.one
  rw [e, List.append_assoc, List.pairwise_append, List.pairwise_append] at hr ho
  rw [hp]
  refine ⟨?_, fun x hx => ?_, fun x hx => ?_, fun x hx => ?_, fun x hx => ?_, ?_⟩
  · rw [List.pairwise_append, List.pairwise_cons]
    refine ⟨hr.1, ⟨fun x hx => ha x hx, hr.2.1.2.1⟩, fun x hx y hy => ?_⟩
    rcases List.mem_cons.1 hy with rfl | hy
    · exact hb x hx
    · exact hr.2.2 x hx y (by simp [hy])
  · rcases hmem x hx with rfl | h2
    · exact hk
    · exact h.norm x h2
  · rcases hmem x hx with rfl | h2
    · exact ok
    · exact h.ok x h2
  · rcases hmem x hx with rfl | h2
    · exact fit
    · exact h.fit x h2
  · rcases hmem x hx with rfl | h2
    · exact hs
    · exact h.some x h2
  · rw [List.pairwise_append, List.pairwise_cons]
    refine ⟨ho.1, ⟨fun y hy x ⟨p1, p2⟩ => ?_, ho.2.1.2.1⟩, fun y hy z hz x ⟨p1, p2⟩ => ?_⟩
    · rw [h1 x p1 y (hpost y hy) (nepost y hy)] at p2; cases p2
    · rcases List.mem_cons.1 hz with rfl | hz
      · rw [h1 x p2 y (hpre y hy) (nepre y hy)] at p1; cases p1
      · exact ho.2.2 y hy z (by simp [hz]) x ⟨p1, p2⟩
/-- two locks of one name are one -/
theorem name_one {s : TS} (h : TInv s) {a b : Ent} (ha : a ∈ s) (hb : b ∈ s) (he : a.1 = b.1) : a = b := by
  obtain ⟨i, hi, rfl⟩ := List.getElem_of_mem ha
  obtain ⟨j, hj, rfl⟩ := List.getElem_of_mem hb
  rcases Nat.lt_trichotomy i j with h1 | h1 | h1
  · have := rise_at h.rise hi hj h1
    rw [he, (cmpN_eq _ _).2 rfl] at this
    omega
  · subst h1; rfl
  · have := rise_at h.rise hj hi h1
    rw [he, (cmpN_eq _ _).2 rfl] at this
    omega
theorem inv_ask {s : TS} (h : TInv s) (who : Int) (n : Nm) (mode : Int) : TInv (askN s who n mode).2 := by
  rcases hk : knownP n with _ | m
  · rw [ask_unknown hk]; exact h
  rcases hw : waitN s who with _ | t
  rotate_left
  · rw [ask_state hk (by rw [hw]; rfl)]; exact h
  have hw2 : (waitN s who).isSome = false := by rw [hw]; rfl
  by_cases hm0 : mode = 0
  · rw [ask_nothing hk hw2 hm0]; exact h
  by_cases hf : hereP (lockN s m) who = false ∧ 200 ≤ countP s
  · rw [ask_full hk hw2 hm0 hf.1 hf.2]; exact h
  have hor : hereP (lockN s m) who = true ∨ countP s < 200 := by
    cases hh : hereP (lockN s m) who
    · exact .inr (Nat.lt_of_not_le fun h5 => hf ⟨hh, h5⟩)
    · exact .inl rfl
  rw [ask_asks hk hw2 hm0 hor]
  simp only
  obtain ⟨okl, fitl⟩ := lock_inv h m
  have hl := lock_line h hw m
  have ok2 := ok_ask okl who (mdN_lt mode)
  refine inv_put h (known_idem hk) ok2 (fit_ask okl fitl who (mdN_lt mode)) ?_ fun x hx e he hne => ?_
  · have : who ∈ whosP (askP (lockN s m) who (mdN mode)).2 := by
      rw [whos_mem ok2, ask_whos okl (md_ne hm0) (mdN_lt mode) hl]
      exact .inl rfl
    rw [← whos_length]
    intro h0
    rw [List.eq_nil_of_length_eq_zero h0] at this
    cases this
  · rcases ask_line hx with rfl | hx
    · exact wait_none hw e he
    · cases hh : hasP e.2.2 x
      · rfl
      · exfalso
        obtain ⟨pre, mid, post, es, _, _, _, hm⟩ := put_split h.rise m
        rcases hm with ⟨_, _, h2⟩ | ⟨_, h1⟩
        · rw [h2] at hx; cases hx
        · have hmem : (m, lockN s m) ∈ s := lock_mem h1
          obtain ⟨i, hi, hie⟩ := List.getElem_of_mem he
          obtain ⟨j, hj, hje⟩ := List.getElem_of_mem hmem
          have hij : i ≠ j := fun e2 => by
            subst e2
            rw [hie] at hje
            exact hne (by rw [hje])
          have hpo := List.pairwise_iff_getElem.1 h.one
          rcases Nat.lt_or_ge i j with h3 | h3
          · have := hpo i j hi hj h3 x
            rw [hie, hje] at this
            exact this ⟨hh, hx⟩
          · have := hpo j i hj hi (by omega) x
            rw [hie, hje] at this
            exact this ⟨hx, hh⟩
theorem count_ask {s : TS} (h : TInv s) (who : Int) (n : Nm) (mode : Int) : countP (askN s who n mode).2 ≤ countP s + 1 := by
  rcases hk : knownP n with _ | m
  · rw [ask_unknown hk]; simp
  rcases hw : waitN s who with _ | t
  rotate_left
  · rw [ask_state hk (by rw [hw]; rfl)]; simp
  have hw2 : (waitN s who).isSome = false := by rw [hw]; rfl
  by_cases hm0 : mode = 0
  · rw [ask_nothing hk hw2 hm0]; simp
  by_cases hf : hereP (lockN s m) who = false ∧ 200 ≤ countP s
  · rw [ask_full hk hw2 hm0 hf.1 hf.2]; simp
  have hor : hereP (lockN s m) who = true ∨ countP s < 200 := by
    cases hh : hereP (lockN s m) who
    · exact .inr (Nat.lt_of_not_le fun h5 => hf ⟨hh, h5⟩)
    · exact .inl rfl
  rw [ask_asks hk hw2 hm0 hor]
  simp only
  rw [count_put h hm0 hw]
  split <;> omega
/-- somebody taken out of one lock -/
def dropE (who : Int) (e : Ent) : Ent := (e.1, if hereP e.2 who = true then (dropP e.2 who).2 else e.2)
theorem free_filter : ∀ {s : TS} (who : Int), (∀ e ∈ s, (holdsP e.2).length ≠ 0) → (freeN s who).2 = (s.map (dropE who)).filter fun e => (holdsP e.2).length != 0
  | [], _, _ => rfl
  | e :: s, who, h => by
    have ih := free_filter (s := s) who fun x hx => h x (by simp [hx])
    have h0 := h e (by simp)
    cases hh : hereP e.2 who
    · rw [freeN, if_neg (by simp [hh])]
      simp only [List.map_cons]
      have : dropE who e = e := by unfold dropE; rw [if_neg (by simp [hh])]
      rw [this, List.filter_cons_of_pos (by simpa using h0), ih]
    · rw [freeN, if_pos hh]
      simp only [List.map_cons]
      have he : dropE who e = (e.1, (dropP e.2 who).2) := by unfold dropE; rw [if_pos hh]
      rw [he]
      by_cases hz : (holdsP (dropP e.2 who).2).length = 0
      · rw [if_pos hz, List.filter_cons_of_neg (by simpa using hz), ih]
      · rw [if_neg hz, List.filter_cons_of_pos (by simpa using hz), ih]
theorem drope_line {who x : Int} {e : Ent} (h : hasP (dropE who e).2.2 x = true) : hasP e.2.2 x = true := by
  unfold dropE at h
  simp only at h
  split at h
  · exact drop_line h
  · exact h
theorem inv_free {s : TS} (h : TInv s) (who : Int) : TInv (freeN s who).2 := by
  rw [free_filter who h.some]
  have hmem : ∀ e ∈ (s.map (dropE who)).filter fun e => (holdsP e.2).length != 0, ∃ e0 ∈ s, e = dropE who e0 := fun e he => by
    obtain ⟨e0, h0, rfl⟩ := List.mem_map.1 (List.mem_filter.1 he).1
    exact ⟨e0, h0, rfl⟩
  refine ⟨?_, fun e he => ?_, fun e he => ?_, fun e he => ?_, fun e he => ?_, ?_⟩
  · exact (List.pairwise_map.2 h.rise).filter _
  · obtain ⟨e0, h0, rfl⟩ := hmem e he
    exact h.norm e0 h0
  · obtain ⟨e0, h0, rfl⟩ := hmem e he
    unfold dropE
    simp only
    split
    · exact ok_drop (h.ok e0 h0) who
    · exact h.ok e0 h0
  · obtain ⟨e0, h0, rfl⟩ := hmem e he
    unfold dropE
    simp only
    split
    · exact fit_drop (h.ok e0 h0) (h.fit e0 h0) who
    · exact h.fit e0 h0
  · simpa using (List.mem_filter.1 he).2
  · refine (List.pairwise_map.2 (h.one.imp fun {a b} hab x hx => ?_)).filter _
    exact hab x ⟨drope_line hx.1, drope_line hx.2⟩
/-- who is taken out has to do with no lock -/
theorem free_whos {s : TS} (h : TInv s) (who x : Int) {e : Ent} (he : e ∈ (freeN s who).2) (hx : hereP e.2 x = true) : x ≠ who ∧ ∃ e0 ∈ s, hereP e0.2 x = true := by
  rw [free_filter who h.some] at he
  obtain ⟨e0, h0, rfl⟩ := List.mem_map.1 (List.mem_filter.1 he).1
  have ok := h.ok e0 h0
  unfold dropE at hx
  simp only at hx
  split at hx
  · rw [here_mem, whos_mem (ok_drop ok who), drop_whos] at hx
    refine ⟨hx.1, e0, h0, ?_⟩
    rw [here_mem, whos_mem ok]
    exact hx.2
  · rename_i hn
    refine ⟨fun e => ?_, e0, h0, hx⟩
    subst e
    exact hn hx
theorem count_lock {s : TS} {e : Ent} (he : e ∈ s) : (holdsP e.2).length ≤ countP s := by
  obtain ⟨i, hi, rfl⟩ := List.getElem_of_mem he
  have := congrArg countP (List.take_append_drop i s)
  rw [count_append, List.drop_eq_getElem_cons hi, count_cons] at this
  omega
theorem sub_length : ∀ {l m : List Int}, l.Nodup → (∀ x ∈ l, x ∈ m) → l.length ≤ m.length
  | [], _, _, _ => Nat.zero_le _
  | x :: l, m, hn, h => by
    have hx := h x (by simp)
    have hn := List.nodup_cons.1 hn
    have ih := sub_length (l := l) (m := m.erase x) hn.2 fun y hy => (List.mem_erase_of_ne (fun e => hn.1 (by rw [← e]; exact hy))).2 (h y (by simp [hy]))
    have h1 := List.length_erase_of_mem hx
    have h2 := List.length_pos_of_mem hx
    rw [List.length_cons]
    omega
theorem lock_small {s : Lk} (ok : Ok s) : s.1.length ≤ (holdsP s).length ∧ s.2.length ≤ (holdsP s).length := by
  rw [← whos_length]
  constructor
  · have := sub_length ok.ndH (m := whosP s) fun x hx => (whos_mem ok x).2 (.inl (has_mem.2 hx))
    simpa using this
  · have := sub_length ok.ndL (m := whosP s) fun x hx => (whos_mem ok x).2 (.inr (has_mem.2 hx))
    simpa using this
theorem length_count {s : TS} (h : ∀ e ∈ s, (holdsP e.2).length ≠ 0) : s.length ≤ countP s := by
  induction s with
  | nil => simp
  | cons e r ih =>
    rw [count_cons, List.length_cons]
    have := h e (by simp)
    have := ih fun x hx => h x (by simp [hx])
    omega
theorem TInv.small {s : TS} (h : TInv s) {e : Ent} (he : e ∈ s) : e.2.1.length ≤ countP s ∧ e.2.2.length ≤ countP s := by
  have h1 := lock_small (h.ok e he)
  have h2 := count_lock he
  omega
theorem TInv.good {s : TS} (h : TInv s) (hc : countP s ≤ 10000) : TGood s :=
  ⟨h.rise, h.ok, h.fit, fun e he => by have := h.small he; omega, by have := length_count h.some; omega⟩
end Go.Proofs.YtnjhhndggfjjdaaDoor
