/- Plain facts: the lock of a name behind a change of that one, or of another one; a name that is new. -/
import Derived.Test.YtnjhhndggfjjdaaDoorLkL
set_option maxRecDepth 4000
namespace Go.Proofs.YtnjhhndggfjjdaaDoor
open Go
abbrev Rise (s : TS) : Prop := s.Pairwise fun a b => cmpN a.1 b.1 < 0
theorem rise_put {s : TS} (h : Rise s) (m : Nm) (l : Lk) : Rise (putN s m l) := by
  obtain ⟨pre, mid, post, e, hp, hb, ha, _⟩ := put_split h m
  have hr := h
  unfold Rise at hr
  rw [e, List.append_assoc, List.pairwise_append, List.pairwise_append] at hr
  unfold Rise
  rw [hp, List.pairwise_append, List.pairwise_cons]
  refine ⟨hr.1, ⟨fun x hx => ha x hx, hr.2.1.2.1⟩, fun x hx y hy => ?_⟩
  rcases List.mem_cons.1 hy with rfl | hy
  · exact hb x hx
  · exact hr.2.2 x hx y (by simp [hy])
theorem lock_of_mem {s : TS} (h : Rise s) {n : Nm} {l : Lk} (hm : (n, l) ∈ s) : lockN s n = l := by
  obtain ⟨i, hi, he⟩ := List.getElem_of_mem hm
  have h0 : cmpN (s[i]).1 n = 0 := by rw [he]; exact (cmpN_eq n n).2 rfl
  have hs : spotN s n = i := (List.findIdx_eq hi).2 ⟨by simp [h0], fun j hj => by
    have := rise_at h (show j < s.length by omega) hi hj
    rw [he] at this
    simpa using this⟩
  unfold lockN
  rw [hs, List.getElem?_eq_getElem hi]
  simp only
  rw [if_pos h0, he]
theorem lock_of_not {s : TS} {n : Nm} (h : ∀ e ∈ s, e.1 ≠ n) : lockN s n = ([], []) := by
  cases hat : atN s n
  · exact lock_not hat
  · exact absurd (at_name hat) (h _ (List.getElem_mem _))
theorem lock_put_same {s : TS} (h : Rise s) (m : Nm) (l : Lk) : lockN (putN s m l) m = l := by
  refine lock_of_mem (rise_put h m l) ?_
  obtain ⟨pre, mid, post, _, hp, _⟩ := put_split h m
  rw [hp]
  simp
theorem put_mem {s : TS} (h : Rise s) {m : Nm} {l : Lk} {e : Ent} (he : e ∈ putN s m l) : e = (m, l) ∨ (e ∈ s ∧ e.1 ≠ m) := by
  obtain ⟨pre, mid, post, es, hp, hb, ha, _⟩ := put_split h m
  rw [hp] at he
  simp only [List.mem_append, List.mem_cons] at he
  rcases he with h1 | h1 | h1
  · refine .inr ⟨by rw [es]; simp [h1], fun h2 => ?_⟩
    have := hb e h1
    rw [h2, (cmpN_eq m m).2 rfl] at this
    omega
  · exact .inl h1
  · refine .inr ⟨by rw [es]; simp [h1], fun h2 => ?_⟩
    have := ha e h1
    rw [h2, (cmpN_eq m m).2 rfl] at this
    omega
theorem mem_put {s : TS} (h : Rise s) {m : Nm} (l : Lk) {e : Ent} (he : e ∈ s) (hn : e.1 ≠ m) : e ∈ putN s m l := by
  obtain ⟨pre, mid, post, es, hp, _, _, hm⟩ := put_split h m
  rw [hp]
  have : e ∈ pre ++ mid ++ post := es ▸ he
  simp only [List.mem_append] at this
  simp only [List.mem_append, List.mem_cons]
  rcases this with (h1 | h1) | h1
  · exact .inl h1
  · rcases hm with ⟨rfl, _⟩ | ⟨rfl, _⟩
    · cases h1
    · obtain rfl : e = (m, lockN s m) := by simpa using h1
      exact absurd rfl hn
  · exact .inr (.inr h1)
theorem lock_put_other {s : TS} (h : Rise s) {m n : Nm} (l : Lk) (hn : n ≠ m) : lockN (putN s m l) n = lockN s n := by
  cases hat : atN s n
  · rw [lock_not hat]
    refine lock_of_not fun e he hne => ?_
    rcases put_mem h he with rfl | ⟨h1, _⟩
    · exact hn hne.symm
    · obtain ⟨i, hi, rfl⟩ := List.getElem_of_mem h1
      have h2 := lock_of_mem h (n := n) (l := (s[i]).2) (by rw [← hne]; exact h1)
      have h3 : atN s n = true := by
        have h0 : cmpN (s[i]).1 n = 0 := (cmpN_eq _ _).2 hne
        have hs : spotN s n = i := (List.findIdx_eq hi).2 ⟨by simp [h0], fun j hj => by
          have := rise_at h (show j < s.length by omega) hi hj
          rw [hne] at this
          simpa using this⟩
        unfold atN
        rw [hs, List.getElem?_eq_getElem hi]
        simpa using h0
      rw [hat] at h3
      cases h3
  · exact lock_of_mem (rise_put h m l) (mem_put h l (lock_mem hat) hn)
theorem waitN_of {s : TS} {who : Int} (h : ∀ e ∈ s, hasP e.2.2 who = false) : waitN s who = none := waitN_none fun _ hq => h _ (List.getElem_mem hq)
/-- nobody's lock asked -/
theorem ask_fresh (who : Int) {q : Nat} (h0 : 0 < q) (h6 : q < 6) : askP ([], []) who q = (true, ([(who, q)], [])) := by
  have hj : joinN 0 q = q := by
    have : ∀ q : Fin 6, joinN 0 q.1 = q.1 := by decide
    exact this ⟨q, h6⟩
  have hm : modeP [] who = 0 := rfl
  unfold askP
  simp only [hm]
  rw [if_neg (by omega), if_neg (by simp), if_neg (by rw [cov_zero h6]; simp; omega), hj, if_pos ⟨.inr (by simp), rfl⟩]
  rfl
/-- a table in which nobody waits -/
def Calm (s : TS) : Prop := ∀ e ∈ s, e.2.2 = []
theorem Calm.wait {s : TS} (h : Calm s) (who : Int) : waitN s who = none := waitN_of fun e he => by rw [h e he]; rfl
theorem Calm.put {s : TS} (h : Calm s) (hr : Rise s) (m : Nm) {l : Lk} (hl : l.2 = []) : Calm (putN s m l) := fun e he => by
  rcases put_mem hr he with rfl | ⟨h1, _⟩
  · exact hl
  · exact h e h1
theorem md_of {m : Int} (h1 : 1 ≤ m) (h5 : m ≤ 5) : 0 < mdN m ∧ mdN m < 6 ∧ (mdN m : Int) = m := by
  have := mdN_in (n := m) (by omega)
  omega
/-- a name that is new, asked for by somebody -/
theorem ask_new {s : TS} (hi : TInv s) (hc : Calm s) {n m : Nm} (hk : knownP n = some m) (hl : lockN s m = ([], [])) (h2 : countP s < 200) (who : Int) {mode : Int} (h1 : 1 ≤ mode) (h5 : mode ≤ 5) :
    askN s who n mode = (0, putN s m ([(who, mdN mode)], [])) ∧ countP (putN s m ([(who, mdN mode)], [])) = countP s + 1 := by
  obtain ⟨q0, q6, _⟩ := md_of h1 h5
  have hf := ask_fresh who q0 q6
  have hcp := count_put hi (m := m) (mode := mode) (by omega) (hc.wait who)
  rw [hl, hf] at hcp
  rw [ask_asks hk (by rw [hc.wait]; rfl) (by omega) (.inr h2), hl, hf]
  exact ⟨rfl, hcp⟩
theorem holds_plain (H : List Cl) : (holdsP (H, [])).length = H.length := by unfold holdsP; simp
theorem here_plain (H : List Cl) (x : Int) : hereP (H, []) x = hasP H x := by
  unfold hereP holdsP hasP
  simp only [List.filter_nil, List.map_nil, List.append_nil, List.any_map]
  rfl
theorem calm_one (m : Nm) (H : List Cl) : Calm [(m, (H, []))] := fun e he => by
  obtain rfl : e = _ := List.mem_singleton.1 he
  rfl
end Go.Proofs.YtnjhhndggfjjdaaDoor
