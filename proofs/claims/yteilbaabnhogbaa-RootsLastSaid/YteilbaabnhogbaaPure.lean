/- Plain facts on sectors and writes: what writes leave one behind the other, what each put out, what some of them leave. Nothing of the program. -/
namespace Go.Proofs.Yteilbaabnhogbaa

abbrev Sec := List UInt8
abbrev Wr := Nat × Sec
/-- these writes, one behind the other -/
def play : List Sec → List Wr → List Sec
  | s, [] => s
  | s, x :: r => play (s.set x.1 x.2) r
/-- what each of them put out of its sector -/
def olds : List Sec → List Wr → List Wr
  | _, [] => []
  | s, x :: r => (x.1, s.getD x.1 []) :: olds (s.set x.1 x.2) r
/-- those of them alone that k tells, the first one by number i -/
def settle (k : Nat → Bool) : Nat → List Sec → List Wr → List Sec
  | _, s, [] => s
  | i, s, x :: r => settle k (i + 1) (if k i then s.set x.1 x.2 else s) r

theorem play_append : ∀ (l m : List Wr) (s : List Sec), play s (l ++ m) = play (play s l) m
  | [], _, _ => rfl
  | _ :: l, m, _ => play_append l m _
theorem play_snoc (s : List Sec) (l : List Wr) (x : Wr) : play s (l ++ [x]) = (play s l).set x.1 x.2 := by rw [play_append]; rfl
theorem play_length : ∀ (l : List Wr) (s : List Sec), (play s l).length = s.length
  | [], _ => rfl
  | x :: l, s => by rw [play, play_length l, List.length_set]
theorem olds_snoc : ∀ (l : List Wr) (s : List Sec) (x : Wr), olds s (l ++ [x]) = olds s l ++ [(x.1, (play s l).getD x.1 [])]
  | [], _, _ => rfl
  | y :: l, s, x => by simp [olds, olds_snoc l, play]
theorem olds_length : ∀ (l : List Wr) (s : List Sec), (olds s l).length = l.length
  | [], _ => rfl
  | x :: l, s => by simp [olds, olds_length l]
theorem settle_snoc (k : Nat → Bool) : ∀ (l : List Wr) (i : Nat) (s : List Sec) (x : Wr), settle k i s (l ++ [x]) = if k (i + l.length) then (settle k i s l).set x.1 x.2 else settle k i s l
  | [], i, s, x => by simp [settle]
  | y :: l, i, s, x => by
    rw [List.cons_append, settle, settle_snoc k l, settle, List.length_cons, show i + 1 + l.length = i + (l.length + 1) by omega]
theorem settle_length (k : Nat → Bool) : ∀ (l : List Wr) (i : Nat) (s : List Sec), (settle k i s l).length = s.length
  | [], _, _ => rfl
  | x :: l, i, s => by
    rw [settle, settle_length k l]
    split <;> simp
theorem settle_all : ∀ (l : List Wr) (i : Nat) (s : List Sec), settle (fun _ => true) i s l = play s l
  | [], _, _ => rfl
  | x :: l, i, s => by rw [settle, settle_all l]; rfl
theorem settle_congr {k k' : Nat → Bool} : ∀ (l : List Wr) (i : Nat) (s : List Sec), (∀ j, i ≤ j → j < i + l.length → k j = k' j) → settle k i s l = settle k' i s l
  | [], _, _, _ => rfl
  | x :: l, i, s, h => by
    rw [settle, settle, h i (Nat.le_refl _) (by simp), settle_congr l (i + 1) _ fun j h1 h2 => h j (by omega) (by simp; omega)]
theorem take_snoc' {α : Type} (l : List α) (k : Nat) (x : α) (h : l[k]? = some x) : l.take (k + 1) = l.take k ++ [x] := by
  obtain ⟨hk, rfl⟩ := List.getElem?_eq_some_iff.1 h
  exact List.take_succ_eq_append_getElem hk
theorem drop_cons' {α : Type} (l : List α) (k : Nat) (x : α) (h : l[k]? = some x) : l.drop k = x :: l.drop (k + 1) := by
  obtain ⟨hk, rfl⟩ := List.getElem?_eq_some_iff.1 h
  exact List.drop_eq_getElem_cons hk
theorem at_of_lt {α : Type} (l : List α) (k : Nat) (h : k < l.length) : ∃ x, l[k]? = some x := ⟨l[k], List.getElem?_eq_getElem h⟩

/-- a disk: what is sure, what is not, how many writes were done, whether it ends and how many are left till then -/
structure St where
  sure : List Sec
  l : List Wr
  count : Nat
  ends : Bool
  left : Nat
def secs (s : List Sec) : Prop := ∀ x ∈ s, x.length = 64
def wrs (n : Nat) (l : List Wr) : Prop := ∀ x ∈ l, x.1 < n ∧ x.2.length = 64
structure St.ok (s : St) : Prop where
  sure : secs s.sure
  l : wrs s.sure.length s.l
  many : s.sure.length ≤ 4096
def St.now (s : St) : List Sec := play s.sure s.l
def St.n (s : St) : Nat := s.sure.length
def St.broken (s : St) : Bool := s.ends && s.left == 0
def St.wr (s : St) (i : Nat) (b : Sec) : St := { s with l := s.l ++ [(i, b)], count := s.count + 1, left := if s.ends then s.left - 1 else s.left }
def St.sync (s : St) : St := { s with sure := play s.sure s.l, l := [] }
def St.crash (s : St) (k : Nat → Bool) : St := { s with sure := settle k 0 s.sure s.l, l := [], ends := false, left := 0 }
def St.brk (s : St) (n : Nat) : St := { s with ends := true, left := n }
def St.new (n : Nat) : St := ⟨List.replicate n (List.replicate 64 0), [], 0, false, 0⟩

theorem secs_set {s : List Sec} (h : secs s) (i : Nat) {b : Sec} (hb : b.length = 64) : secs (s.set i b) := fun x hx => by
  rcases List.mem_or_eq_of_mem_set hx with hx | rfl
  · exact h x hx
  · exact hb
theorem secs_play : ∀ {l : List Wr} {s : List Sec}, secs s → wrs s.length l → secs (play s l)
  | [], _, h, _ => h
  | x :: l, s, h, hl => secs_play (l := l) (secs_set h _ (hl x (by simp)).2) fun y hy => by
    have := hl y (by simp [hy])
    simpa using this
theorem secs_settle (k : Nat → Bool) : ∀ {l : List Wr} {i : Nat} {s : List Sec}, secs s → wrs s.length l → secs (settle k i s l)
  | [], _, _, h, _ => h
  | x :: l, i, s, h, hl => by
    rw [settle]
    refine secs_settle k (l := l) ?_ fun y hy => ?_
    · split
      · exact secs_set h _ (hl x (by simp)).2
      · exact h
    · have := hl y (by simp [hy])
      split <;> simpa using this
theorem secs_getD {s : List Sec} (h : secs s) {i : Nat} (hi : i < s.length) : (s.getD i []).length = 64 := by
  rw [List.getD_eq_getElem?_getD, List.getElem?_eq_getElem hi]
  exact h _ (List.getElem_mem hi)
theorem wrs_olds : ∀ {l : List Wr} {s : List Sec}, secs s → wrs s.length l → wrs s.length (olds s l)
  | [], _, _, _ => fun x hx => by cases hx
  | x :: l, s, h, hl => fun y hy => by
    rcases List.mem_cons.1 hy with rfl | hy
    · exact ⟨(hl x (by simp)).1, secs_getD h (hl x (by simp)).1⟩
    · have := wrs_olds (l := l) (s := s.set x.1 x.2) (secs_set h _ (hl x (by simp)).2) (fun z hz => by have := hl z (by simp [hz]); simpa using this) y hy
      simpa using this
theorem St.ok.now {s : St} (h : s.ok) : secs s.now := secs_play h.sure h.l
theorem St.now_length (s : St) : s.now.length = s.n := play_length _ _
theorem St.ok.olds {s : St} (h : s.ok) : wrs s.n (olds s.sure s.l) := wrs_olds h.sure h.l
theorem St.ok.wr {s : St} (h : s.ok) {i : Nat} {b : Sec} (hi : i < s.n) (hb : b.length = 64) : (s.wr i b).ok :=
  ⟨h.sure, fun x hx => by
    rcases List.mem_append.1 hx with hx | hx
    · exact h.l x hx
    · rw [List.mem_singleton.1 hx]; exact ⟨hi, hb⟩, h.many⟩
theorem St.ok.sync {s : St} (h : s.ok) : s.sync.ok := ⟨h.now, (fun x hx => by cases hx), by show (play _ _).length ≤ _; rw [play_length]; exact h.many⟩
theorem St.ok.crash {s : St} (h : s.ok) (k : Nat → Bool) : (s.crash k).ok := ⟨secs_settle k h.sure h.l, (fun x hx => by cases hx), by show (settle k 0 s.sure s.l).length ≤ _; rw [settle_length]; exact h.many⟩
theorem St.ok.brk {s : St} (h : s.ok) (n : Nat) : (s.brk n).ok := ⟨h.sure, h.l, h.many⟩
theorem St.ok.new {n : Nat} (h : n ≤ 4096) : (St.new n).ok :=
  ⟨fun x hx => by rw [List.eq_of_mem_replicate hx]; simp, fun x hx => by simp [St.new] at hx, by simp [St.new]; exact h⟩
theorem St.wr_now (s : St) (i : Nat) (b : Sec) : (s.wr i b).now = s.now.set i b := play_snoc _ _ _
theorem St.wr_olds (s : St) (i : Nat) (b : Sec) : Yteilbaabnhogbaa.olds (s.wr i b).sure (s.wr i b).l = Yteilbaabnhogbaa.olds s.sure s.l ++ [(i, s.now.getD i [])] := olds_snoc _ _ _
theorem St.n_wr (s : St) (i : Nat) (b : Sec) : (s.wr i b).n = s.n := rfl
theorem St.n_sync (s : St) : s.sync.n = s.n := play_length _ _
theorem St.n_crash (s : St) (k : Nat → Bool) : (s.crash k).n = s.n := settle_length _ _ _ _
theorem St.n_brk (s : St) (m : Nat) : (s.brk m).n = s.n := rfl
theorem St.n_new (m : Nat) : (St.new m).n = m := by simp [St.new, St.n]
theorem St.sync_now (s : St) : s.sync.now = s.now := rfl
theorem St.crash_now (s : St) (k : Nat → Bool) : (s.crash k).now = settle k 0 s.sure s.l := rfl

/-! one write undone -/
theorem set_getD {s : List Sec} {i : Nat} (hi : i < s.length) : s.set i (s.getD i []) = s := by
  apply List.ext_getElem?
  intro j
  rw [List.getElem?_set]
  split
  · rename_i e; subst e
    rw [List.getD_eq_getElem?_getD, List.getElem?_eq_getElem hi]; simp
  · rfl
/-- undone down to k: what is there, and what each of them bears -/
theorem undo_step {s : List Sec} {l : List Wr} (hl : wrs s.length l) {k : Nat} {x : Wr} (hx : l[k]? = some x) :
    (play s (l.take (k + 1))).getD x.1 [] = x.2 ∧ (play s (l.take (k + 1))).set x.1 ((play s (l.take k)).getD x.1 []) = play s (l.take k) ∧
    olds s (l.take (k + 1)) = olds s (l.take k) ++ [(x.1, (play s (l.take k)).getD x.1 [])] := by
  have hk : x.1 < (play s (l.take k)).length := by rw [play_length]; exact (hl x (List.mem_of_getElem? hx)).1
  rw [take_snoc' l k x hx, play_snoc, olds_snoc]
  refine ⟨?_, ?_, rfl⟩
  · rw [List.getD_eq_getElem?_getD, List.getElem?_set_self hk]; rfl
  · rw [List.set_set, set_getD hk]
end Go.Proofs.Yteilbaabnhogbaa
