/- Rings of all of some, chains, and what is left of a ring that lacks an edge. Plain. -/
import Derived.Test.YtoojoldcomokhaaWtC
set_option maxRecDepth 4000
namespace Go.Proofs.Ytoojoldcomokhaa
def rangeI (N : Nat) : List Int := (List.range N).map fun (i : Nat) => (i : Int)
theorem mem_rangeI {N : Nat} {x : Int} : x ∈ rangeI N ↔ 0 ≤ x ∧ x < N := by
  unfold rangeI
  rw [List.mem_map]
  constructor
  · rintro ⟨i, hi, rfl⟩
    have := List.mem_range.1 hi
    omega
  · rintro ⟨h0, h1⟩
    exact ⟨x.toNat, List.mem_range.2 (by omega), by omega⟩
theorem up_rangeI (N : Nat) : (rangeI N).Pairwise (· < ·) := List.pairwise_map.2 (List.Pairwise.imp (fun h => by omega) List.pairwise_lt_range)
theorem rangeI_length (N : Nat) : (rangeI N).length = N := by simp [rangeI]
theorem rangeI_get {N i : Nat} (h : i < (rangeI N).length) : (rangeI N)[i] = (i : Int) := by simp [rangeI]
theorem rangeI_last {N : Nat} (h : 0 < N) : lastI (rangeI N) = (N : Int) - 1 := by
  obtain ⟨M, rfl⟩ : ∃ M, N = M + 1 := ⟨N - 1, by omega⟩
  unfold lastI rangeI
  rw [List.range_succ, List.map_append]
  simp
theorem rangeI_some {N : Nat} (h : 0 < N) : (rangeI N).isEmpty = false := by
  obtain ⟨M, rfl⟩ : ∃ M, N = M + 1 := ⟨N - 1, by omega⟩
  unfold rangeI
  rw [List.range_succ, List.map_append]
  simp
/-- all of them come to 0, and 0 comes to all -/
theorem ring_all {l : List (Int × Int)} {N : Nat} (ht : ∀ e ∈ l, 0 ≤ e.2 ∧ e.2 < N) (h : ∀ x : Nat, x < N → Reach l x 0 ∧ Reach l 0 x) {who : Int} (hw : 0 ≤ who ∧ who < N) : IsRing l who (rangeI N) := by
  have all : ∀ x : Int, 0 ≤ x ∧ x < N → Reach l x 0 ∧ Reach l 0 x := fun x hx => by
    have := h x.toNat (by omega)
    rwa [Int.toNat_of_nonneg hx.1] at this
  refine ⟨up_rangeI N, fun x => ⟨fun hx => ?_, fun ⟨hx, _⟩ => ?_⟩⟩
  · have hx := mem_rangeI.1 hx
    exact ⟨(all who hw).1.trans (all x hx).2, (all x hx).1.trans (all who hw).2⟩
  · obtain ⟨y, hy⟩ := hx.target
    exact mem_rangeI.2 (ht _ hy)
/-- going along edges something rises -/
theorem no_ring {l : List (Int × Int)} {P : Int → Prop} {f : Int → Int} (h : ∀ e ∈ l, P e.1 → P e.2 ∧ f e.1 < f e.2) {who : Int} (hw : P who) : IsRing l who [] := by
  have key : ∀ a b : Int, Reach l a b → P a → P b ∧ f a < f b := by
    intro a b hr
    induction hr with
    | one e => exact fun hp => h _ e hp
    | more _ e ih =>
      intro hp
      obtain ⟨h1, h2⟩ := ih hp
      obtain ⟨h3, h4⟩ := h _ e h1
      exact ⟨h3, by simp only at h4; omega⟩
  refine ⟨List.Pairwise.nil, fun x => ⟨fun hx => (by cases hx), fun ⟨h1, h2⟩ => ?_⟩⟩
  obtain ⟨p1, f1⟩ := key _ _ h1 hw
  obtain ⟨_, f2⟩ := key _ _ h2 p1
  omega
/-- of one for whom nobody waits -/
theorem no_ring_to {l : List (Int × Int)} {who : Int} (h : ∀ e ∈ l, e.2 ≠ who) : IsRing l who [] := by
  refine ⟨List.Pairwise.nil, fun x => ⟨fun hx => (by cases hx), fun ⟨_, h2⟩ => ?_⟩⟩
  obtain ⟨y, hy⟩ := h2.target
  exact absurd rfl (h _ hy)
/-- the first so many edges of a ring of n -/
def cyc (n j : Nat) : List (Int × Int) := (List.range j).map fun (i : Nat) => ((i : Int), (((i + 1) % n : Nat) : Int))
theorem cyc_length (n j : Nat) : (cyc n j).length = j := by simp [cyc]
theorem cyc_next (n j : Nat) : cyc n (j + 1) = cyc n j ++ [((j : Int), (((j + 1) % n : Nat) : Int))] := by
  unfold cyc
  rw [List.range_succ, List.map_append]; rfl
theorem mem_cyc {n j i : Nat} (h : i < j) : ((i : Int), (((i + 1) % n : Nat) : Int)) ∈ cyc n j := List.mem_map.2 ⟨i, List.mem_range.2 h, rfl⟩
theorem cyc_get {n j i : Nat} (h : i < (cyc n j).length) : (cyc n j)[i] = ((i : Int), (((i + 1) % n : Nat) : Int)) := by simp [cyc]
theorem of_cyc {n j : Nat} {e : Int × Int} (h : e ∈ cyc n j) : ∃ i : Nat, i < j ∧ e = ((i : Int), (((i + 1) % n : Nat) : Int)) := by
  obtain ⟨i, hi, rfl⟩ := List.mem_map.1 h
  exact ⟨i, List.mem_range.1 hi, rfl⟩
/-- others, that wait for some of these, and for whom nobody waits -/
def Others (n : Nat) (xs : List (Int × Int)) : Prop := ∀ e ∈ xs, 100 ≤ e.1 ∧ e.1 ≤ 1000 ∧ 0 ≤ e.2 ∧ e.2 < n
theorem cyc_targets {n : Nat} (hn : 0 < n) {xs : List (Int × Int)} (hx : Others n xs) : ∀ e ∈ cyc n n ++ xs, 0 ≤ e.2 ∧ e.2 < n := fun e he => by
  rcases List.mem_append.1 he with he | he
  · obtain ⟨i, _, rfl⟩ := of_cyc he
    have := Nat.mod_lt (i + 1) hn
    simp only
    omega
  · exact (hx e he).2.2
theorem ring_cyc {n : Nat} (hn : 0 < n) {xs : List (Int × Int)} (hx : Others n xs) {who : Int} (hw : 0 ≤ who ∧ who < n) : IsRing (cyc n n ++ xs) who (rangeI n) := by
  have step : ∀ i : Nat, i + 1 < n → ((i : Int), ((i + 1 : Nat) : Int)) ∈ cyc n n ++ xs := fun i hi => by
    have := mem_cyc (n := n) (show i < n by omega)
    rw [Nat.mod_eq_of_lt hi] at this
    exact List.mem_append_left _ this
  have last : (((n - 1 : Nat) : Int), 0) ∈ cyc n n ++ xs := by
    have := mem_cyc (n := n) (show n - 1 < n by omega)
    rw [show n - 1 + 1 = n by omega, Nat.mod_self] at this
    exact List.mem_append_left _ this
  have down : ∀ d x : Nat, x + d + 1 = n → Reach (cyc n n ++ xs) x 0 := fun d => by
    induction d with
    | zero => intro x hx; obtain rfl : x = n - 1 := by omega
              exact .one last
    | succ d ih => intro x hx; exact .head (step x (by omega)) (ih (x + 1) (by omega))
  have up : ∀ x : Nat, x < n → Reach (cyc n n ++ xs) 0 x := fun x => by
    induction x with
    | zero => intro h; exact down (n - 1) 0 (by omega)
    | succ x ih => intro h; exact .more (ih (by omega)) (step x h)
  exact ring_all (cyc_targets hn hx) (fun x hx => ⟨down (n - 1 - x) x (by omega), up x hx⟩) hw
/-- without one edge -/
def cutE (l : List (Int × Int)) (q : Nat) : List (Int × Int) := l.take q ++ l.drop (q + 1)
theorem of_cut {n : Nat} {xs : List (Int × Int)} {q : Nat} (hq : q < n) {e : Int × Int} (h : e ∈ cutE (cyc n n ++ xs) q) : (∃ i : Nat, i < n ∧ i ≠ q ∧ e = ((i : Int), (((i + 1) % n : Nat) : Int))) ∨ e ∈ xs := by
  have hl := cyc_length n n
  unfold cutE at h
  rcases List.mem_append.1 h with h | h
  · obtain ⟨i, hi, rfl⟩ := List.getElem_of_mem h
    rw [List.length_take] at hi
    rw [List.getElem_take, List.getElem_append_left (by omega), cyc_get]
    exact .inl ⟨i, by omega, by omega, rfl⟩
  · obtain ⟨i, hi, rfl⟩ := List.getElem_of_mem h
    rw [List.length_drop, List.length_append] at hi
    rw [List.getElem_drop]
    rcases Nat.lt_or_ge (q + 1 + i) n with hlt | hge
    · rw [List.getElem_append_left (by omega), cyc_get]
      exact .inl ⟨q + 1 + i, hlt, by omega, rfl⟩
    · rw [List.getElem_append_right (by omega)]
      exact .inr (List.getElem_mem _)
theorem ring_cut {n : Nat} (hn : 0 < n) (hn2 : n ≤ 99) {xs : List (Int × Int)} (hx : Others n xs) {q : Nat} (hq : q < n) {who : Int} (hw : 0 ≤ who ∧ who < n) : IsRing (cutE (cyc n n ++ xs) q) who [] := by
  refine no_ring (P := fun x => 0 ≤ x ∧ x < n) (f := fun x => if x ≤ q then x + n - q - 1 else x - q - 1) (fun e he hp => ?_) hw
  rcases of_cut hq he with ⟨i, hi, hiq, rfl⟩ | he
  · simp only at hp ⊢
    rcases Nat.lt_or_ge (i + 1) n with hlt | hge
    · rw [Nat.mod_eq_of_lt hlt]
      refine ⟨by omega, ?_⟩
      split <;> split <;> omega
    · obtain rfl : i + 1 = n := by omega
      rw [Nat.mod_self]
      refine ⟨by omega, ?_⟩
      split <;> split <;> omega
  · have := (hx e he).1
    omega
theorem ring_cut_100 {n : Nat} (hn : 0 < n) (hn2 : n ≤ 99) {xs : List (Int × Int)} (hx : Others n xs) {q : Nat} (hq : q < n) : IsRing (cutE (cyc n n ++ xs) q) 100 [] := by
  refine no_ring_to fun e he => ?_
  rcases of_cut hq he with ⟨i, hi, hiq, rfl⟩ | he
  · have := Nat.mod_lt (i + 1) hn
    simp only
    omega
  · have := (hx e he).2.2
    omega
/-- each waits for the next one -/
def chn (a j : Nat) : List (Int × Int) := (List.range j).map fun (i : Nat) => (((a + i : Nat) : Int), ((a + i + 1 : Nat) : Int))
theorem chn_length (a j : Nat) : (chn a j).length = j := by simp [chn]
theorem chn_next (a j : Nat) : chn a (j + 1) = chn a j ++ [(((a + j : Nat) : Int), ((a + j + 1 : Nat) : Int))] := by
  unfold chn
  rw [List.range_succ, List.map_append]; rfl
theorem mem_chn {a j x : Nat} (h0 : a ≤ x) (h1 : x < a + j) : ((x : Int), ((x + 1 : Nat) : Int)) ∈ chn a j :=
  List.mem_map.2 ⟨x - a, List.mem_range.2 (by omega), by rw [show a + (x - a) = x by omega]⟩
theorem of_chn {a j : Nat} {e : Int × Int} (h : e ∈ chn a j) : ∃ x : Nat, a ≤ x ∧ x < a + j ∧ e = ((x : Int), ((x + 1 : Nat) : Int)) := by
  obtain ⟨i, hi, rfl⟩ := List.mem_map.1 h
  have := List.mem_range.1 hi
  exact ⟨a + i, by omega, by omega, rfl⟩
theorem ring_chn (j : Nat) (who : Int) : IsRing (chn 0 j) who [] := no_ring (P := fun _ => True) (f := id) (fun e he _ => by
  obtain ⟨x, _, _, rfl⟩ := of_chn he
  exact ⟨trivial, by simp only [id]; omega⟩) trivial
/-- two rings, with 0 in common -/
def eight (n m : Nat) : List (Int × Int) := (chn 0 (n - 1) ++ [((n : Int) - 1, 0), (0, (n : Int)), ((n : Int) + m - 2, 0)]) ++ chn n (m - 2)
theorem ring_eight {n m : Nat} (hn : 2 ≤ n) (hm : 2 ≤ m) {who : Int} (hw : 0 ≤ who ∧ who < ((n + m - 1 : Nat) : Int)) : IsRing (eight n m) who (rangeI (n + m - 1)) := by
  have s1 : ∀ x : Nat, x + 1 < n → ((x : Int), ((x + 1 : Nat) : Int)) ∈ eight n m := fun x h => by
    unfold eight
    exact List.mem_append_left _ (List.mem_append_left _ (mem_chn (by omega) (by omega)))
  have s2 : ∀ x : Nat, n ≤ x → x + 1 < n + m - 1 → ((x : Int), ((x + 1 : Nat) : Int)) ∈ eight n m := fun x h0 h1 => by
    unfold eight
    exact List.mem_append_right _ (mem_chn h0 (by omega))
  have l1 : (((n - 1 : Nat) : Int), 0) ∈ eight n m := by
    unfold eight
    refine List.mem_append_left _ (List.mem_append_right _ ?_)
    rw [show ((n - 1 : Nat) : Int) = (n : Int) - 1 by omega]; simp
  have l2 : ((0 : Int), (n : Int)) ∈ eight n m := by
    unfold eight
    refine List.mem_append_left _ (List.mem_append_right _ ?_)
    simp
  have l3 : (((n + m - 2 : Nat) : Int), 0) ∈ eight n m := by
    unfold eight
    refine List.mem_append_left _ (List.mem_append_right _ ?_)
    rw [show ((n + m - 2 : Nat) : Int) = (n : Int) + m - 2 by omega]; simp
  have d1 : ∀ d x : Nat, x + d + 1 = n → Reach (eight n m) x 0 := fun d => by
    induction d with
    | zero => intro x hx; obtain rfl : x = n - 1 := by omega
              exact .one l1
    | succ d ih => intro x hx; exact .head (s1 x (by omega)) (ih (x + 1) (by omega))
  have d2 : ∀ d x : Nat, n ≤ x → x + d + 1 = n + m - 1 → Reach (eight n m) x 0 := fun d => by
    induction d with
    | zero => intro x _ hx; obtain rfl : x = n + m - 2 := by omega
              exact .one l3
    | succ d ih => intro x h0 hx; exact .head (s2 x h0 (by omega)) (ih (x + 1) (by omega) (by omega))
  have up : ∀ x : Nat, x < n + m - 1 → Reach (eight n m) 0 x := fun x => by
    induction x with
    | zero => intro h; exact d1 (n - 1) 0 (by omega)
    | succ x ih =>
      intro h
      rcases Nat.lt_or_ge (x + 1) n with h1 | h1
      · exact .more (ih (by omega)) (s1 x h1)
      · by_cases h2 : x + 1 = n
        · rw [h2]; exact .one l2
        · exact .more (ih (by omega)) (s2 x (by omega) h)
  refine ring_all (fun e he => ?_) (fun x hx => ⟨?_, up x hx⟩) hw
  · unfold eight at he
    rcases List.mem_append.1 he with he | he
    · rcases List.mem_append.1 he with he | he
      · obtain ⟨x, _, _, rfl⟩ := of_chn he
        simp only; omega
      · simp at he
        rcases he with rfl | rfl | rfl <;> simp only <;> omega
    · obtain ⟨x, _, _, rfl⟩ := of_chn he
      simp only; omega
  · rcases Nat.lt_or_ge x n with h1 | h1
    · exact d1 (n - 1 - x) x (by omega)
    · exact d2 (n + m - 1 - 1 - x) x h1 (by omega)
end Go.Proofs.Ytoojoldcomokhaa
