/- Plain facts: readers and writers that wait in a line, and how they are let in. -/
import Derived.Test.YtillbjaejdkfdaaDoorGrB
set_option maxRecDepth 4000
namespace Go.Proofs.YtillbjaejdkfdaaDoor
open Go
def mdL (b : Bool) : Nat := if b then 5 else 3
/-- those of a line, numbered from k on -/
def itP (k : Nat) : List Bool → List Cl
  | [] => []
  | b :: r => ((k : Int), mdL b) :: itP (k + 1) r
theorem itP_length (k : Nat) (l : List Bool) : (itP k l).length = l.length := by
  induction l generalizing k with
  | nil => rfl
  | cons b r ih => simp [itP, ih]
theorem itP_snoc (k : Nat) (l : List Bool) (b : Bool) : itP k (l ++ [b]) = itP k l ++ [(((k + l.length : Nat) : Int), mdL b)] := by
  induction l generalizing k with
  | nil => simp [itP]
  | cons c r ih =>
    simp only [List.cons_append, itP, ih, List.length_cons]
    rw [show k + 1 + r.length = k + (r.length + 1) by omega]
theorem itP_ge {k : Nat} {l : List Bool} {c : Cl} (h : c ∈ itP k l) : (k : Int) ≤ c.1 ∧ c.1 < (k : Int) + l.length := by
  induction l generalizing k with
  | nil => simp [itP] at h
  | cons b r ih =>
    rcases List.mem_cons.1 h with rfl | h
    · simp only [List.length_cons]; omega
    · have := ih h
      simp only [List.length_cons]; omega
theorem has_no {l : List Cl} {who : Int} (h : ∀ c ∈ l, c.1 ≠ who) : hasP l who = false := by
  unfold hasP
  rw [List.any_eq_false]
  intro c hc
  simpa [isW] using h c hc
theorem without_no {l : List Cl} {who : Int} (h : ∀ c ∈ l, c.1 ≠ who) : withoutP l who = l := without_none (has_no h)
theorem without_cons (x : Cl) (L : List Cl) : withoutP (x :: L) x.1 = withoutP L x.1 := by simp [withoutP, isW]
theorem fits_no {H : List Cl} {x c : Cl} (hc : c ∈ H) (hne : c.1 ≠ x.1) (hf : fitB c.2 x.2 = false) : fitsP H x = false := by
  unfold fitsP
  rw [Bool.not_eq_false', List.any_eq_true]
  exact ⟨c, hc, by simp [inwayP, hne, hf]⟩
theorem fits_yes {H : List Cl} {x : Cl} (h : ∀ c ∈ H, fitB c.2 x.2 = true) : fitsP H x = true := by
  unfold fitsP
  rw [Bool.not_eq_true', List.any_eq_false]
  intro c hc
  simp [inwayP, h c hc]
theorem grant_no {H : List Cl} {x : Cl} (h : ∀ c ∈ H, c.1 ≠ x.1) : grantP H x = H ++ [x] := by
  unfold grantP
  rw [has_no h]; rfl
theorem fit53 : ∀ b, fitB 5 (mdL b) = false := by decide
theorem fit33 : fitB 3 3 = true := by decide
theorem fit35 : fitB 3 5 = false := by decide
/-- the line while the first one holds all -/
def stL (l : List Bool) (j : Nat) : Lk := ([(100, 5)], itP 0 (l.take j))
theorem ask_first : askP ([], []) 100 5 = (true, stL [] 0) := by decide
theorem ask_line {l : List Bool} {j : Nat} (hj : j < l.length) (hn : l.length ≤ 30) : askP (stL l j) (j : Int) (mdL l[j]) = (false, stL l (j + 1)) := by
  have hlen : (l.take j).length = j := by rw [List.length_take]; omega
  have hL : hasP (itP 0 (l.take j)) (j : Int) = false := has_no fun c hc => by have := itP_ge hc; omega
  have hH : hasP [((100 : Int), 5)] (j : Int) = false := has_no fun c hc => by
    have e : c = (100, 5) := by simpa using hc
    rw [e]
    show (100 : Int) ≠ j
    omega
  have hmL : modeP (itP 0 (l.take j)) (j : Int) = 0 := mode_of_miss hL
  have hmH : modeP [((100 : Int), 5)] (j : Int) = 0 := mode_of_miss hH
  have h3 : mdL l[j] ≠ 0 := by cases l[j] <;> simp [mdL]
  have h4 : covB 0 (mdL l[j]) = false := by cases l[j] <;> decide
  have h5 : joinN 0 (mdL l[j]) = mdL l[j] := by cases l[j] <;> decide
  have h6 : fitsP [((100 : Int), 5)] ((j : Int), mdL l[j]) = false := fits_no (c := (100, 5)) (by simp) (by show (100 : Int) ≠ j; omega) (fit53 _)
  unfold askP stL
  simp only [hmL, hmH, h5]
  rw [if_neg h3, if_neg (by simp), if_neg (by rw [h4]; simp), if_neg (by rw [h6]; simp)]
  have hs : spotP [((100 : Int), 5)] (itP 0 (l.take j)) (j : Int) = (itP 0 (l.take j)).length := by unfold spotP; rw [hH]; rfl
  unfold waitP
  simp only [hs]
  rw [List.take_length, List.drop_length, List.take_succ_eq_append_getElem hj, itP_snoc, hlen, Nat.zero_add]
/-- how many are let in together -/
def lead : List Bool → Nat
  | false :: r => lead r + 1
  | _ => 0
def grpN : List Bool → Nat
  | [] => 0
  | true :: _ => 1
  | false :: r => lead r + 1
theorem lead_le (l : List Bool) : lead l ≤ l.length := by
  induction l with
  | nil => simp [lead]
  | cons b r ih => cases b <;> simp [lead]; omega
theorem grp_le (l : List Bool) : grpN l ≤ l.length := by
  rcases l with _ | ⟨_ | _, r⟩
  · simp [grpN]
  · simpa [grpN] using lead_le r
  · simp [grpN]
theorem grp_pos {l : List Bool} (h : l ≠ []) : 0 < grpN l := by
  rcases l with _ | ⟨_ | _, r⟩
  · exact absurd rfl h
  · simp [grpN]
  · simp [grpN]
theorem lead_get {l : List Bool} {i : Nat} (h : i < lead l) (hl : i < l.length) : l[i] = false := by
  induction l generalizing i with
  | nil => simp at hl
  | cons b r ih =>
    cases b
    · cases i with
      | zero => rfl
      | succ i => simp only [List.getElem_cons_succ]; exact ih (by simpa [lead] using h) (by simpa using hl)
    · simp [lead] at h
theorem lead_end {l : List Bool} (hl : lead l < l.length) : l[lead l] = true := by
  induction l with
  | nil => simp at hl
  | cons b r ih =>
    cases b
    · have : lead r < r.length := by simpa [lead] using hl
      simpa [lead] using ih this
    · rfl
theorem drain_lead : ∀ (r : List Bool) (H : List Cl) (k : Nat), H ≠ [] → (∀ c ∈ H, c.2 = 3 ∧ c.1 < (k : Int)) →
    drainP H (itP k r) = ((itP k (r.take (lead r))).map (·.1), (H ++ itP k (r.take (lead r)), itP (k + lead r) (r.drop (lead r))))
  | [], H, k, _, _ => by simp [itP, drainP, lead]
  | true :: r, H, k, hne, h => by
    obtain ⟨c, hc⟩ := List.exists_mem_of_ne_nil H hne
    have hh := h c hc
    have : fitsP H ((k : Int), mdL true) = false := fits_no hc (by show c.1 ≠ (k : Int); omega) (by rw [hh.1]; exact fit35)
    simp only [itP, lead, List.take_zero, List.drop_zero]
    rw [drain_stop this]
    simp
  | false :: r, H, k, hne, h => by
    have hf : fitsP H ((k : Int), mdL false) = true := fits_yes fun c hc => by rw [(h c hc).1]; exact fit33
    have hg : grantP H ((k : Int), mdL false) = H ++ [((k : Int), mdL false)] := grant_no fun c hc => by have := (h c hc).2; show c.1 ≠ (k : Int); omega
    simp only [itP, lead]
    rw [drain_go hf, hg, drain_lead r (H ++ [((k : Int), mdL false)]) (k + 1) (by simp) fun c hc => ?_]
    · simp [itP, show k + 1 + lead r = k + (lead r + 1) by omega]
    · rcases List.mem_append.1 hc with hc | hc
      · have := h c hc; exact ⟨this.1, by omega⟩
      · have : c = ((k : Int), mdL false) := by simpa using hc
        subst this
        exact ⟨rfl, by show (k : Int) < _; omega⟩
theorem drain_free (l : List Bool) (k : Nat) :
    drainP [] (itP k l) = ((itP k (l.take (grpN l))).map (·.1), (itP k (l.take (grpN l)), itP (k + grpN l) (l.drop (grpN l)))) := by
  rcases l with _ | ⟨_ | _, r⟩
  · simp [itP, drainP, grpN]
  · have hf : fitsP [] ((k : Int), mdL false) = true := rfl
    simp only [itP, grpN]
    rw [drain_go hf, show grantP [] ((k : Int), mdL false) = [((k : Int), mdL false)] from rfl, drain_lead r _ (k + 1) (by simp) fun c hc => ?_]
    · simp [itP, show k + 1 + lead r = k + (lead r + 1) by omega]
    · have : c = ((k : Int), mdL false) := by simpa using hc
      subst this
      exact ⟨rfl, by show (k : Int) < _; omega⟩
  · have hf : fitsP [] ((k : Int), mdL true) = true := rfl
    simp only [itP, grpN]
    rw [drain_go hf, show grantP [] ((k : Int), mdL true) = [((k : Int), mdL true)] from rfl]
    rcases r with _ | ⟨b, r⟩
    · simp [itP, drainP]
    · have : fitsP [((k : Int), mdL true)] (((k + 1 : Nat) : Int), mdL b) = false := fits_no (c := ((k : Int), mdL true)) (by simp) (by show (k : Int) ≠ _; omega) (fit53 b)
      simp only [itP]
      rw [drain_stop this]
      simp [itP]
/-- H holds, those from k on wait -/
structure Turn (l : List Bool) (k : Nat) (H : List Cl) : Prop where
  le : k ≤ l.length
  n30 : l.length ≤ 30
  nd : (H.map (·.1)).Nodup
  who : ∀ c ∈ H, c.1 < (k : Int) ∨ c.1 = 100
  stuck : ∀ c ∈ H, ∀ h : k < l.length, fitB c.2 (mdL l[k]) = false
  last : H = [] → k = l.length
  few : H.length ≤ 31
theorem turn_first {l : List Bool} (hn : l.length ≤ 30) : Turn l 0 [(100, 5)] := by
  have one : ∀ c ∈ [((100 : Int), 5)], c = (100, 5) := fun c hc => by simpa using hc
  exact ⟨Nat.zero_le _, hn, by simp, fun c hc => by rw [one c hc]; exact .inr rfl, fun c hc h => by rw [one c hc]; exact fit53 _, fun h => by simp at h, by simp⟩
/-- behind i drops -/
def afterP (l : List Bool) (k : Nat) (H : List Cl) (i : Nat) : List Int × Lk := if i < H.length then ([], (H.drop i, itP k (l.drop k))) else drainP [] (itP k (l.drop k))
theorem after_zero {l : List Bool} {k : Nat} {H : List Cl} (h : H ≠ []) : afterP l k H 0 = ([], (H, itP k (l.drop k))) := by
  unfold afterP
  rw [if_pos (List.length_pos_iff.2 h), List.drop_zero]
theorem after_one {l : List Bool} {k i : Nat} {H : List Cl} (h : i < H.length) : (afterP l k H i).1 = [] := by unfold afterP; rw [if_pos h]
theorem after_all {l : List Bool} {k : Nat} {H : List Cl} : afterP l k H H.length = drainP [] (itP k (l.drop k)) := by unfold afterP; rw [if_neg (Nat.lt_irrefl _)]
theorem after_step {l : List Bool} {k i : Nat} {H : List Cl} (t : Turn l k H) (hi : i < H.length) : dropP (afterP l k H i).2 (H[i]).1 = afterP l k H (i + 1) := by
  have hmem := List.getElem_mem hi
  have hw := t.who _ hmem
  have hL : withoutP (itP k (l.drop k)) (H[i]).1 = itP k (l.drop k) := without_no fun c hc => by
    have h1 := itP_ge hc
    have := t.n30
    have := t.le
    rw [List.length_drop] at h1
    omega
  have hH : withoutP (H.drop i) (H[i]).1 = H.drop (i + 1) := by
    rw [List.drop_eq_getElem_cons hi]
    rw [without_cons]
    refine without_no fun c hc => ?_
    obtain ⟨q, hq, rfl⟩ := List.getElem_of_mem hc
    rw [List.length_drop] at hq
    rw [List.getElem_drop]
    have := List.pairwise_iff_getElem.1 t.nd i (i + 1 + q) (by rw [List.length_map]; exact hi) (by rw [List.length_map]; omega) (by omega)
    simp only [List.getElem_map] at this
    exact fun e => this e.symm
  unfold afterP
  rw [if_pos hi]
  unfold dropP
  simp only [hL, hH]
  by_cases h2 : i + 1 < H.length
  · rw [if_pos h2]
    by_cases hk : k < l.length
    · rw [List.drop_eq_getElem_cons hk]
      simp only [itP]
      have hm2 : H[i + 1] ∈ H.drop (i + 1) := by rw [List.drop_eq_getElem_cons h2]; exact List.mem_cons_self
      have hm3 := List.getElem_mem h2
      have hw2 := t.who _ hm3
      rw [drain_stop (fits_no hm2 (by show (H[i + 1]).1 ≠ (k : Int); have := t.n30; omega) (t.stuck _ hm3 hk))]
    · have e0 : l.drop k = [] := List.drop_eq_nil_of_le (by omega)
      rw [e0]
      simp [itP, drainP]
  · have e1 : H.drop (i + 1) = [] := List.drop_eq_nil_of_le (by omega)
    rw [if_neg h2, e1]
/-- those that are let in -/
def inP (l : List Bool) (k : Nat) : List Cl := itP k ((l.drop k).take (grpN (l.drop k)))
def nxP (l : List Bool) (k : Nat) : Nat := k + grpN (l.drop k)
theorem in_length (l : List Bool) (k : Nat) : (inP l k).length = grpN (l.drop k) := by
  unfold inP
  rw [itP_length, List.length_take]
  have := grp_le (l.drop k)
  omega
theorem all_in (l : List Bool) (k : Nat) : drainP [] (itP k (l.drop k)) = ((inP l k).map (·.1), (inP l k, itP (nxP l k) (l.drop (nxP l k)))) := by
  rw [drain_free]
  unfold inP nxP
  rw [List.drop_drop]
theorem nx_le {l : List Bool} {k : Nat} (h : k ≤ l.length) : nxP l k ≤ l.length := by
  have := grp_le (l.drop k)
  rw [List.length_drop] at this
  unfold nxP
  omega
theorem itP_get (k : Nat) (l : List Bool) (i : Nat) (h : i < (itP k l).length) : (itP k l)[i] = (((k + i : Nat) : Int), mdL (l[i]'(by rw [← itP_length k]; exact h))) := by
  induction l generalizing k i with
  | nil => simp [itP] at h
  | cons b r ih =>
    cases i with
    | zero => simp [itP]
    | succ i =>
      simp only [itP, List.getElem_cons_succ]
      rw [ih (k + 1) i (by simpa [itP] using h), show k + 1 + i = k + (i + 1) by omega]
theorem in_get {l : List Bool} {k i : Nat} (h : i < (inP l k).length) : ∃ hk : k + i < l.length, (inP l k)[i] = (((k + i : Nat) : Int), mdL l[k + i]) := by
  have h1 := h
  rw [in_length] at h1
  have h2 := grp_le (l.drop k)
  rw [List.length_drop] at h2
  refine ⟨by omega, (itP_get k ((l.drop k).take (grpN (l.drop k))) i h).trans ?_⟩
  rw [List.getElem_take, List.getElem_drop]
/-- one writer, or readers -/
theorem in_alone {l : List Bool} {k i : Nat} (h : i < (inP l k).length) (hk : k + i < l.length) (hw : l[k + i] = true) : (inP l k).length = 1 := by
  have h1 := h
  rw [in_length] at h1 ⊢
  have hkl : k < l.length := by omega
  have he := List.drop_eq_getElem_cons hkl
  cases hb : l[k] with
  | true => rw [he, hb]; rfl
  | false =>
    exfalso
    rw [hb] at he
    cases i with
    | zero => simp [hb] at hw
    | succ i =>
      rw [he] at h1
      have h2 : i < lead (l.drop (k + 1)) := by simpa [grpN] using h1
      have h3 : i < (l.drop (k + 1)).length := by rw [List.length_drop]; omega
      have := lead_get h2 h3
      rw [List.getElem_drop] at this
      have e : l[k + (i + 1)] = l[k + 1 + i]'(by omega) := by congr 1; omega
      rw [e, this] at hw
      simp at hw
/-- readers, up to the next writer -/
theorem in_up {l : List Bool} {k : Nat} (hk : k < l.length) (hr : l[k] = false) (hn : nxP l k < l.length) : l[nxP l k] = true := by
  have he := List.drop_eq_getElem_cons hk
  rw [hr] at he
  have h1 : nxP l k = k + 1 + lead (l.drop (k + 1)) := by unfold nxP; rw [he]; simp only [grpN]; omega
  have h3 : lead (l.drop (k + 1)) < (l.drop (k + 1)).length := by rw [List.length_drop]; omega
  have := lead_end h3
  rw [List.getElem_drop] at this
  simp only [h1]
  exact this
theorem turn_next {l : List Bool} {k : Nat} {H : List Cl} (t : Turn l k H) : Turn l (nxP l k) (inP l k) where
  le := nx_le t.le
  n30 := t.n30
  nd := by
    rw [List.nodup_iff_pairwise_ne, List.pairwise_iff_getElem]
    intro i j hi hj hij
    rw [List.length_map] at hi hj
    obtain ⟨_, e1⟩ := in_get hi
    obtain ⟨_, e2⟩ := in_get hj
    rw [List.getElem_map, List.getElem_map, e1, e2]
    show ((k + i : Nat) : Int) ≠ ((k + j : Nat) : Int)
    omega
  who := fun c hc => by
    obtain ⟨i, hi, rfl⟩ := List.getElem_of_mem hc
    obtain ⟨_, e1⟩ := in_get hi
    rw [in_length] at hi
    rw [e1]
    left
    show ((k + i : Nat) : Int) < _
    unfold nxP
    omega
  stuck := fun c hc hn => by
    obtain ⟨i, hi, rfl⟩ := List.getElem_of_mem hc
    obtain ⟨hki, e1⟩ := in_get hi
    rw [e1]
    show fitB (mdL l[k + i]) _ = false
    cases hb : l[k + i] with
    | true => exact fit53 _
    | false =>
      have hk : k < l.length := by omega
      have hr : l[k] = false := by
        cases h0 : l[k] with
        | false => rfl
        | true =>
          have h1 : (inP l k).length = 1 := in_alone (i := 0) (by omega) (by omega) (by simpa using h0)
          have : i = 0 := by omega
          subst this
          simp [h0] at hb
      rw [in_up hk hr hn]
      exact fit35
  last := fun h => by
    have h1 := in_length l k
    rw [h] at h1
    have h2 : ¬ (k < l.length) := fun hk => by
      have := grp_pos (l := l.drop k) (fun e => by have := congrArg List.length e; rw [List.length_drop] at this; simp at this; omega)
      simp at h1
      omega
    have := t.le
    have := nx_le t.le
    have h3 : k ≤ nxP l k := by unfold nxP; omega
    omega
  few := by
    rw [in_length]
    have := grp_le (l.drop k)
    rw [List.length_drop] at this
    have := t.n30
    omega
theorem after_total {l : List Bool} {k i : Nat} {H : List Cl} (t : Turn l k H) (hi : i < H.length) : total (afterP l k H i).2 ≤ 61 := by
  unfold afterP total
  rw [if_pos hi]
  simp only [itP_length, List.length_drop]
  have := t.few
  have := t.n30
  omega
theorem after_len {l : List Bool} {k : Nat} {H : List Cl} (t : Turn l k H) (i : Nat) : (afterP l k H i).1.length ≤ 30 := by
  unfold afterP
  split
  · simp
  · rw [all_in, List.length_map, in_length]
    have := grp_le (l.drop k)
    rw [List.length_drop] at this
    have := t.n30
    omega
theorem holds_end {l : List Bool} (k : Nat) (h : k = l.length) : holdsP ([], itP k (l.drop k)) = [] := by
  subst h
  simp [itP, holdsP]
end Go.Proofs.YtillbjaejdkfdaaDoor
