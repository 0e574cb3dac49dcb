/- The document's names: without what is not looked at; which one is ahead. The document's table of locks in memory. The document's table: where a name stands. -/
import Derived.Test.YtnjhhndggfjjdaaGreatDoorJ13
import Derived.BigQuiet
import Derived.Deep.QuietTactic
import Derived.Test.YtnjhhndggfjjdaaGreatDoorJ12
set_option maxRecDepth 4000
namespace Go.Proofs.YtnjhhndggfjjdaaGreatDoor
open Go.RowKit
def plainN (n : Nm) : Nm := if n.1 = 0 then (0, noB, noB) else if n.1 = 1 then (1, n.2.1, noB) else n
theorem known_plain (n : Nm) : knownP n = if n.1 < 0 ∨ 2 < n.1 then none else some (plainN n) := by
  unfold knownP plainN
  by_cases h0 : n.1 = 0
  · simp [h0]
  · by_cases h1 : n.1 = 1
    · simp [h1]
    · by_cases h2 : n.1 = 2
      · simp [h2]
      · have : n.1 < 0 ∨ 2 < n.1 := by omega
        simp [h0, h1, h2, this]
set_option maxHeartbeats 1000000 in
theorem rplain_ (n : Nm) (w : World) : Calls Tryz.prog 27 #[valN n] w fun e w' => e = .returned (valN (plainN n)) ∧ Below w.heap.size w w' := by
  obtain ⟨d, o, r⟩ := n
  have hal := fun cs => (alloc_below w (.cells #[.int .i64 d, .string o, .string r] 31)).trans ((alloc_below (w.alloc (.cells #[.int .i64 d, .string o, .string r] 31)) (.cells cs 31)).mono (by simp))
  have HAL := Lib.hid hal
  clear hal
  have hk : (d = 0 ∧ plainN (d, o, r) = (0, noB, noB)) ∨ (d ≠ 0 ∧ d = 1 ∧ plainN (d, o, r) = (1, o, noB)) ∨ (d ≠ 0 ∧ d ≠ 1 ∧ plainN (d, o, r) = (d, o, r)) := by
    unfold plainN
    by_cases h0 : d = 0
    · simp [h0]
    · by_cases h1 : d = 1
      · simp [h1]
      · simp [h0, h1]
  rcases hk with ⟨rfl, h⟩ | ⟨h0, rfl, h⟩ | ⟨h0, h1, h⟩
  all_goals
    rw [h]
    clear h
    unfold valN
    simp only
    go_enter Tryz.func27, Tryz.ntmps27
    go_wp2_with fail
    first
      | refine bodyPost_ret (v := .agg #[.int .i64 0, .string ⟨#[]⟩, .string ⟨#[]⟩]) (by simp [results, Tryz.results27, go_sem]) rfl ?_; exact ⟨rfl, HAL.out _⟩
      | refine bodyPost_ret (v := .agg #[.int .i64 1, .string o, .string ⟨#[]⟩]) (by simp [results, Tryz.results27, go_sem]) rfl ?_; exact ⟨rfl, HAL.out _⟩
      | refine bodyPost_ret (v := .agg #[.int .i64 d, .string o, .string r]) (by simp [results, Tryz.results27, go_sem]) rfl ?_; exact ⟨rfl, HAL.out _⟩
theorem cmpI_lt {a b : Int} : cmpI a b < 0 ↔ a < b := by unfold cmpI; repeat' split
                                                         all_goals omega
set_option maxHeartbeats 2000000 in
theorem rahead_ (a b : Nm) (w : World) (ha : a.2.1.size ≤ maxLen) (hr : a.2.2.size ≤ maxLen) : Calls Tryz.prog 31 #[valN a, valN b] w fun e w' => e = .returned (.bool (decide (cmpN a b < 0))) ∧ Below w.heap.size w w' := by
  obtain ⟨a1, a2, a3⟩ := a
  obtain ⟨b1, b2, b3⟩ := b
  simp only at ha hr
  have hbel := (alloc_below w (.cells #[.int .i64 a1, .string a2, .string a3] 31)).trans ((alloc_below (w.alloc (.cells #[.int .i64 a1, .string a2, .string a3] 31)) (.cells #[.int .i64 b1, .string b2, .string b3] 31)).mono (by simp))
  have B0 := Blk.new w 31 #[.int .i64 a1, .string a2, .string a3]
  have B1 := Blk.new (w.alloc (.cells #[.int .i64 a1, .string a2, .string a3] 31)) 31 #[.int .i64 b1, .string b2, .string b3]
  have B0' := B0.alloc (.cells #[.int .i64 b1, .string b2, .string b3] 31)
  have hsz : (w.alloc (.cells #[.int .i64 a1, .string a2, .string a3] 31)).heap.size = w.heap.size + 1 := by simp
  rw [hsz] at B1
  have c0 := B0'.cell 0
  have c1 := B0'.cell 1
  have c2 := B0'.cell 2
  have d0 := B1.cell 0
  have d1 := B1.cell 1
  have d2 := B1.cell 2
  have HBEL := Lib.hid hbel
  have hk1 := fun W => refKeys a2 b2 W ha
  have hk2 := fun W => refKeys a3 b3 W hr
  have HK1 := Lib.hid hk1
  have HK2 := Lib.hid hk2
  clear B0 B1 B0' hbel hsz hk1 hk2
  have hcase : (a1 ≠ b1 ∧ (cmpN (a1, a2, a3) (b1, b2, b3) < 0 ↔ a1 < b1)) ∨ (a1 = b1 ∧ a2 ≠ b2 ∧ (cmpN (a1, a2, a3) (b1, b2, b3) < 0 ↔ cmpS a2 b2 < 0)) ∨ (a1 = b1 ∧ a2 = b2 ∧ (cmpN (a1, a2, a3) (b1, b2, b3) < 0 ↔ cmpS a3 b3 < 0)) := by
    unfold cmpN
    simp only
    by_cases h1 : a1 = b1
    · rw [if_neg (by rw [(cmpI_eq _ _).2 h1]; simp)]
      by_cases h2 : a2 = b2
      · rw [if_neg (by rw [(cmpS_eq _ _).2 (by rw [h2])]; simp)]
        exact .inr (.inr ⟨h1, h2, Iff.rfl⟩)
      · rw [if_pos (fun h => h2 (bytes_eq ((cmpS_eq _ _).1 h)))]
        exact .inr (.inl ⟨h1, h2, Iff.rfl⟩)
    · rw [if_pos (fun h => h1 ((cmpI_eq _ _).1 h))]
      exact .inl ⟨h1, cmpI_lt⟩
  rcases hcase with ⟨h1, h⟩ | ⟨rfl, h2, h⟩ | ⟨rfl, rfl, h⟩
  · rw [show decide (cmpN (a1, a2, a3) (b1, b2, b3) < 0) = decide (a1 < b1) from decide_eq_decide.2 h]
    have e1 : (a1 != b1) = true := by simpa using h1
    clear h
    unfold valN
    go_enter Tryz.func31, Tryz.ntmps31
    go_wp2_with fail
    go_ret
    exact ⟨rfl, HBEL.out⟩
  · rw [show decide (cmpN (a1, a2, a3) (a1, b2, b3) < 0) = decide (cmpS a2 b2 < 0) from decide_eq_decide.2 h]
    have e0 : (a1 != a1) = false := by simp
    have e1 : (a2.toList == b2.toList) = false := by
      rw [beq_eq_false_iff_ne]
      exact fun e => h2 (bytes_eq e)
    clear h
    unfold valN
    go_enter Tryz.func31, Tryz.ntmps31
    go_wp2_with (go_at_call 56; refine (HK1.out _).mono ?_; rintro e w' ⟨rfl, q, rfl⟩)
    go_ret
    exact ⟨rfl, below_drewN HBEL.out _⟩
  · rw [show decide (cmpN (a1, a2, a3) (a1, a2, b3) < 0) = decide (cmpS a3 b3 < 0) from decide_eq_decide.2 h]
    have e0 : (a1 != a1) = false := by simp
    have e1 : (a2.toList == a2.toList) = true := by simp
    clear h
    unfold valN
    go_enter Tryz.func31, Tryz.ntmps31
    go_wp2_with (go_at_call 56; refine (HK2.out _).mono ?_; rintro e w' ⟨rfl, q, rfl⟩)
    go_ret
    exact ⟨rfl, below_drewN HBEL.out _⟩
end Go.Proofs.YtnjhhndggfjjdaaGreatDoor
namespace Go.Proofs.YtnjhhndggfjjdaaGreatDoor
open Go.RowKit
/-- an entry: a name, and where its lock lies -/
def eN : Enc (Nm × Nat) := ⟨fun e => [.int .i64 e.1.1, .string e.1.2.1, .string e.1.2.2, .pointer (some ⟨e.2, 0, none⟩)], 4, by omega, fun _ => rfl, fun _ v hv => by simp at hv; rcases hv with rfl | rfl | rfl | rfl <;> rfl⟩
theorem tyN : RowTy eN 76 27 := ⟨Tryz.underlying27, .agg #[.int .i64 0, .string ⟨#[]⟩, .string ⟨#[]⟩, .pointer none], 48, by kernel_rfl, rfl, by omega⟩
theorem Lst.atN {w : World} {K : Nat → Prop} {A : Option Addr} {l : List (Nm × Nat)} (h : Lst w K eN A l) {j : Nat} (hj : j < l.length) :
    ∃ b o, A = some ⟨b, o, none⟩ ∧ b < w.heap.size ∧ w.cell? ⟨b, o + j * 4, none⟩ = some (.int .i64 l[j].1.1) ∧ w.cell? ⟨b, o + j * 4 + 1, none⟩ = some (.string l[j].1.2.1) ∧ w.cell? ⟨b, o + j * 4 + 2, none⟩ = some (.string l[j].1.2.2) ∧ w.cell? ⟨b, o + j * 4 + 3, none⟩ = some (.pointer (some ⟨l[j].2, 0, none⟩)) := by
  obtain ⟨b, o, e, hl, hc⟩ := h.at_ hj
  exact ⟨b, o, e, hl, hc 0 _ rfl, hc 1 _ rfl, hc 2 _ rfl, hc 3 _ rfl⟩
/-- a lock of the table: its name, its block, what it holds, its two rows -/
structure Rw where
  n : Nm
  q : Nat
  l : Lk
  vH : Value
  vL : Value
def Rw.ent (r : Rw) : Ent := (r.n, r.l)
def Rw.at_ (r : Rw) : Nm × Nat := (r.n, r.q)
def Rw.has (r : Rw) (g : Nat) : Prop := r.vH.ownBlock = some g ∨ r.vL.ownBlock = some g
def Rw.Ok (w : World) (base : Nat) (r : Rw) : Prop := base ≤ r.q ∧ RK base (fun _ => False) r.q r.l r.vH r.vL w
def Rw.Far (x y : Rw) : Prop := x.q ≠ y.q ∧ ∀ g, x.has g → ¬ y.has g
theorem Rw.Far.symm {x y : Rw} (h : x.Far y) : y.Far x := ⟨fun e => h.1 e.symm, fun g hy hx => h.2 g hx hy⟩
structure TB0 (base b : Nat) (v : Value) (rs : List Rw) (w : World) : Prop where
  blk : Blk w b 29 #[v]
  own : Own w base eN 76 v (rs.map Rw.at_)
  lk : ∀ r ∈ rs, r.Ok w base
  far : rs.Pairwise Rw.Far
  ge : base ≤ b
def TB (base b : Nat) (s : TS) (w : World) : Prop := ∃ v rs, TB0 base b v rs w ∧ rs.map Rw.ent = s
section
variable {w w' : World} {base b : Nat} {X : Nat → Prop} {v : Value} {rs : List Rw} {r : Rw} {s : TS}
theorem RK.none (h : RK base X r.q r.l r.vH r.vL w) : RK base (fun _ => False) r.q r.l r.vH r.vL w := ⟨h.two, h.oH, h.oL, h.sep, fun _ _ h => h, fun _ _ h => h, fun _ h => h.elim⟩
theorem RK.with (h : RK base (fun _ => False) r.q r.l r.vH r.vL w) (h1 : ∀ g, r.has g → ¬ X g) (h2 : ∀ g, X g → g < w.heap.size) : RK base X r.q r.l r.vH r.vL w := ⟨h.two, h.oH, h.oL, h.sep, fun g hg => h1 g (.inl hg), fun g hg => h1 g (.inr hg), h2⟩
theorem Rw.Ok.below (h : r.Ok w base) (k : Below w.heap.size w w') : r.Ok w' base := ⟨h.1, h.2.below k⟩
theorem Rw.Ok.row (h : r.Ok w base) {g : Nat} (hg : r.has g) : base ≤ g ∧ g < w.heap.size ∧ ∃ cur, w.heap[g]? = some (.cells cur 56 (0, 0)) := by
  rcases hg with hg | hg
  · exact own_blk h.2.oH hg
  · exact own_blk h.2.oL hg
/-- a lock under whatever leaves its blocks alone -/
theorem Rw.Ok.kept {Q : Nat → Obj → Prop} (h : r.Ok w base) (k : Keep Q w w') (h1 : Q r.q (.cells #[r.vH, r.vL] 73 (0, 0))) (h2 : ∀ g, r.has g → ∀ o, w.heap[g]? = some o → Q g o) : r.Ok w' base := by
  have hk : ∀ g, r.has g → w'.heap[g]? = w.heap[g]? := fun g hg => by
    obtain ⟨_, _, cur, hc⟩ := h.row hg
    exact (k.block g _ hc (h2 g hg _ hc)).trans hc.symm
  exact ⟨h.1, Blk.keep h.2.two k h1, own_keep h.2.oH fun g hg => hk g (.inl hg), own_keep h.2.oL fun g hg => hk g (.inr hg), h.2.sep, h.2.xH, h.2.xL, fun _ h => h.elim⟩
theorem TB0.below (h : TB0 base b v rs w) (k : Below w.heap.size w w') : TB0 base b v rs w' := ⟨h.blk.below k h.blk.lt, own_belowE h.own k, fun r hr => (h.lk r hr).below k, h.far, h.ge⟩
theorem TB.below (h : TB base b s w) (k : Below w.heap.size w w') : TB base b s w' := by
  obtain ⟨v, rs, h, e⟩ := h
  exact ⟨v, rs, h.below k, e⟩
theorem TB.lt (h : TB base b s w) : b < w.heap.size := by
  obtain ⟨v, rs, h, e⟩ := h
  exact h.blk.lt
/-- another block, of another kind, turned -/
theorem TB.keep (h : TB base b s w) {b' : Nat} {T : TypeId} {cs : Array Value} (hb : Blk w b' T cs) (ht : T ≠ 29 ∧ T ≠ 76 ∧ T ≠ 73 ∧ T ≠ 56) (k : Keep (fun i _ => i ≠ b') w w') : TB base b s w' := by
  obtain ⟨v, rs, h, e⟩ := h
  refine ⟨v, rs, ⟨h.blk.keep k (ne_of_types hb h.blk fun e => ht.1 e.symm), own_keep h.own fun g hg => ?_, fun r hr => (h.lk r hr).kept k (ne_of_types hb (h.lk r hr).2.two fun e => ht.2.2.1 e.symm) fun g hg o ho => ?_, h.far, h.ge⟩, e⟩
  · obtain ⟨_, _, cur, hc⟩ := own_blk h.own hg
    exact (k.block g _ hc (ne_of_types hb hc fun e => ht.2.1 e.symm)).trans hc.symm
  · obtain ⟨_, _, cur, hc⟩ := (h.lk r hr).row hg
    exact ne_of_types hb hc fun e => ht.2.2.2 e.symm
/-- what a call of the document's table leaves alone -/
def NoT (o : Obj) : Prop := (∀ cur, o ≠ .cells cur 29 (0, 0)) ∧ (∀ cur, o ≠ .cells cur 73 (0, 0)) ∧ NoH o
abbrev TKeep (base : Nat) (w w' : World) : Prop := Keep (fun i o => i < base ∨ NoT o) w w'
theorem TKeep.of_rkeep {q : Nat} {vH vL : Value} (k : RKeep base X q w w') (hq : base ≤ q) (h2 : RTwo w q vH vL) : TKeep base w w' := Keep.mono k fun i o ho hi => by
  rcases hi with hi | hi
  · exact ⟨by omega, .inl hi⟩
  · refine ⟨fun e => ?_, .inr (.inr hi.2.2)⟩
    subst e
    exact hi.2.1 _ (by have := h2.symm.trans ho; injection this with this; exact this.symm)
/-- the rows of all but one -/
def Oth (pre post : List Rw) (g : Nat) : Prop := ∃ r, (r ∈ pre ∨ r ∈ post) ∧ r.has g
/-- one lock as the calls on locks take it -/
theorem TB0.one {pre post : List Rw} {x : Rw} (h : TB0 base b v (pre ++ x :: post) w) : RLk base (Oth pre post) x.q x.l w := by
  have hx := h.lk x (by simp)
  refine ⟨x.vH, x.vL, hx.2.with (fun g hg ⟨r, hr, hrg⟩ => ?_) fun g ⟨r, hr, hrg⟩ => ((h.lk r (by rcases hr with hr | hr <;> simp [hr])).row hrg).2.1⟩
  have hf := h.far
  rw [List.pairwise_append] at hf
  rcases hr with hr | hr
  · exact (hf.2.2 r hr x (by simp)).2 g hrg hg
  · exact ((List.pairwise_cons.1 hf.2.1).1 r hr).2 g hg hrg
/-- one lock turned -/
theorem TB0.turn {pre post : List Rw} {x : Rw} {l : Lk} (h : TB0 base b v (pre ++ x :: post) w) (hl : RLk base (Oth pre post) x.q l w') (k : RKeep base (Oth pre post) x.q w w') :
    ∃ x' : Rw, x'.n = x.n ∧ x'.q = x.q ∧ x'.l = l ∧ TB0 base b v (pre ++ x' :: post) w' := by
  obtain ⟨vH, vL, hk⟩ := hl
  have hx := h.lk x (by simp)
  have hf := h.far
  rw [List.pairwise_append, List.pairwise_cons] at hf
  have hno : ∀ {i : Nat} {T : TypeId} {cs : Array Value}, w.heap[i]? = some (.cells cs T (0, 0)) → T ≠ 73 → T ≠ 56 → i ≠ x.q ∧ (i < base ∨ Oth pre post i ∨ NoH (.cells cs T (0, 0))) := fun hi h1 h2 =>
    ⟨ne_of_types hx.2.two hi h1, .inr (.inr fun cur e => h2 (by injection e))⟩
  have hoth : ∀ r, (r ∈ pre ∨ r ∈ post) → r.q ≠ x.q → r.Ok w' base := fun r hr hne =>
    (h.lk r (by rcases hr with hr | hr <;> simp [hr])).kept k ⟨hne, .inr (.inr fun cur e => by injection e with _ e; cases e)⟩ fun g hg o ho => by
      obtain ⟨_, _, cur, hc⟩ := (h.lk r (by rcases hr with hr | hr <;> simp [hr])).row hg
      exact ⟨ne_of_types hx.2.two hc (by decide), .inr (.inl ⟨r, hr, hg⟩)⟩
  refine ⟨⟨x.n, x.q, l, vH, vL⟩, rfl, rfl, rfl, ⟨h.blk.keep k (hno h.blk (by decide) (by decide)), ?_, fun r hr => ?_, ?_, h.ge⟩⟩
  · have ho := h.own
    rw [List.map_append, List.map_cons] at ho ⊢
    refine own_keep ho fun g hg => ?_
    obtain ⟨_, _, cur, hc⟩ := own_blk ho hg
    exact (k.block g _ hc (hno hc (by decide) (by decide))).trans hc.symm
  · rw [List.mem_append, List.mem_cons] at hr
    rcases hr with hr | rfl | hr
    · exact hoth r (.inl hr) (hf.2.2 r hr x (by simp)).1
    · exact ⟨hx.1, RK.none (r := ⟨x.n, x.q, l, vH, vL⟩) hk⟩
    · exact hoth r (.inr hr) fun e => (hf.2.1.1 r hr).1 e.symm
  · rw [List.pairwise_append, List.pairwise_cons]
    refine ⟨hf.1, ⟨fun r hr => ⟨(hf.2.1.1 r hr).1, fun g hg hrg => ?_⟩, hf.2.1.2⟩, fun r hr y hy => ?_⟩
    · rcases hg with hg | hg
      · exact hk.xH g hg ⟨r, .inr hr, hrg⟩
      · exact hk.xL g hg ⟨r, .inr hr, hrg⟩
    · rw [List.mem_cons] at hy
      rcases hy with rfl | hy
      · refine ⟨(hf.2.2 r hr x (by simp)).1, fun g hrg hg => ?_⟩
        rcases hg with hg | hg
        · exact hk.xH g hg ⟨r, .inl hr, hrg⟩
        · exact hk.xL g hg ⟨r, .inl hr, hrg⟩
      · exact hf.2.2 r hr y (by simp [hy])
end
end Go.Proofs.YtnjhhndggfjjdaaGreatDoor
namespace Go.Proofs.YtnjhhndggfjjdaaGreatDoor
open Go.RowKit
def isNm (n : Nm) (r : Rw) : Bool := decide (r.n = n)
theorem nm_ne {a b : Nm} (h : a ≠ b) : a.1 ≠ b.1 ∨ (a.1 = b.1 ∧ a.2.1 ≠ b.2.1) ∨ (a.1 = b.1 ∧ a.2.1 = b.2.1 ∧ a.2.2 ≠ b.2.2) := by
  obtain ⟨a1, a2, a3⟩ := a
  obtain ⟨b1, b2, b3⟩ := b
  simp only
  by_cases h1 : a1 = b1
  · by_cases h2 : a2 = b2
    · refine .inr (.inr ⟨h1, h2, fun h3 => h (by rw [h1, h2, h3])⟩)
    · exact .inr (.inl ⟨h1, h2⟩)
  · exact .inl h1
theorem toList_ne {a b : ByteArray} (h : a ≠ b) : (a.toList == b.toList) = false := by
  rw [beq_eq_false_iff_ne]
  exact fun e => h (bytes_eq e)
/-- a loop that has looked at so many locks and found none -/
def AtR (w : World) (rs : List Rw) (p : Rw → Bool) (k : Nat) (i : Value) (wr : World) : Prop := ∃ j, j + k = rs.length ∧ i = .int .i64 (j : Int) ∧ (∀ q (_ : q < j) (hl : q < rs.length), p rs[q] = false) ∧ Below w.heap.size w wr
set_option maxHeartbeats 2000000 in
theorem rat_ {w : World} {base b : Nat} {v : Value} {rs : List Rw} (h : TB0 base b v rs w) (hn : rs.length ≤ 1000) (n : Nm) :
    Calls Tryz.prog 28 #[.pointer (some ⟨b, 0, none⟩), valN n] w fun e w' => e = .returned (.int .i64 (idxI (isNm n) rs)) ∧ Below w.heap.size w w' := by
  obtain ⟨d, s, t⟩ := n
  have hal := alloc_below w (.cells #[.int .i64 d, .string s, .string t] 31)
  have hB := Blk.new w 31 #[.int .i64 d, .string s, .string t]
  have h2 := h.below hal
  obtain ⟨A, c, rfl, hl, hc, hcm, _⟩ := own_lst h2.own
  rw [List.length_map] at hc
  unfold maxLen at hcm
  obtain ⟨m, hm⟩ : ∃ m, rs.length = m := ⟨_, rfl⟩
  have p0 := h2.blk.cell 0
  rw [List.length_map, hm] at p0
  rw [hm] at hn hc
  have HP := Lib.hid p0
  have HH := Lib.hid hl
  have HB := Lib.hid hB
  have HAL := Lib.hid hal
  have HM := Lib.hid hm
  have hbs := h2.blk.lt
  clear h h2 hl hB hal hm p0
  unfold valN
  simp only
  go_enter Tryz.func28, Tryz.ntmps28
  go_wp2_with fail
  generalize w.alloc (.cells #[.int .i64 d, .string s, .string t] 31) = wA at *
  go_loopg [5] m (fun k i wr => AtR wA rs (isNm (d, s, t)) k i wr)
  case atStart => exact ⟨0, by rw [HM.out]; omega, rfl, fun q hq => absurd hq (Nat.not_lt_zero q), Below.refl _ _⟩
  case round =>
    obtain ⟨j, hj, rfl, h1, hb⟩ := hrel
    have HJ := Lib.hid hj
    have HBR := Lib.hid hb
    have H1 := Lib.hid h1
    have p0 := (cell_of_heap (hb.block b hbs) _).trans HP.out
    have hB2 := HB.out.below hb HB.out.lt
    have n0 := hB2.cell 0
    have n1 := hB2.cell 1
    have n2 := hB2.cell 2
    clear hj hb h1 hB2
    by_cases hlt : j < m
    · have hx : j < rs.length := by rw [HM.out]; exact hlt
      obtain ⟨g, o, rfl, _, d0, d1, d2, _⟩ := (HH.out.below HBR.out).atN (by rw [List.length_map]; exact hx)
      rw [List.getElem_map] at d0 d1 d2
      by_cases hp : rs[j].n = (d, s, t)
      · have he : idxI (isNm (d, s, t)) rs = (j : Int) := idx_hit hx (by unfold isNm; exact decide_eq_true hp) fun q hq => H1.out q hq (by omega)
        have HE := Lib.hid he
        unfold Rw.at_ at d0 d1 d2
        simp only at d0 d1 d2
        rw [hp] at d0 d1 d2
        have e2 : (s.toList == s.toList) = true := by simp
        have e3 : (t.toList == t.toList) = true := by simp
        clear hp he
        go_wp2_with fail
        go_quiet (fail)
        go_wp2_with fail
        go_ret
        exact ⟨by rw [HE.out]; rfl, below_drewN (HAL.out.trans (HBR.out.mono HAL.out.size)) _⟩
      · have hnx : ∀ q (_ : q < j + 1) (hl : q < rs.length), isNm (d, s, t) rs[q] = false := fun q hq hl => by
          rcases Nat.lt_or_ge q j with h5 | h5
          · exact H1.out q h5 hl
          · obtain rfl : q = j := by omega
            unfold isNm
            exact decide_eq_false hp
        have HNX := Lib.hid hnx
        have hcs := nm_ne hp
        clear hnx hp
        unfold Rw.at_ at d0 d1 d2
        simp only at d0 d1 d2 hcs
        generalize rs[j].n.1 = x1 at *
        generalize rs[j].n.2.1 = x2 at *
        generalize rs[j].n.2.2 = x3 at *
        rcases hcs with k1 | ⟨rfl, k2⟩ | ⟨rfl, rfl, k3⟩
        · go_wp2_with fail
          go_quiet (fail)
          go_wp2_with fail
          go_roundg (m - (j + 1))
          case measure => have := HJ.out; have := HM.out; omega
          case rel => exact ⟨j + 1, by have := HM.out; omega, by go_num, HNX.out, below_drewN HBR.out _⟩
        · have e2 := toList_ne k2
          go_wp2_with fail
          go_quiet (fail)
          go_wp2_with fail
          go_roundg (m - (j + 1))
          case measure => have := HJ.out; have := HM.out; omega
          case rel => exact ⟨j + 1, by have := HM.out; omega, by go_num, HNX.out, below_drewN HBR.out _⟩
        · have e2 : (x2.toList == x2.toList) = true := by simp
          have e3 := toList_ne k3
          go_wp2_with fail
          go_quiet (fail)
          go_wp2_with fail
          go_roundg (m - (j + 1))
          case measure => have := HJ.out; have := HM.out; omega
          case rel => exact ⟨j + 1, by have := HM.out; omega, by go_num, HNX.out, below_drewN HBR.out _⟩
    · obtain rfl : j = m := by have := HJ.out; have := HM.out; omega
      have he : idxI (isNm (d, s, t)) rs = -1 := idx_miss fun q hq => H1.out q (by have := HM.out; omega) hq
      have HE := Lib.hid he
      clear he
      go_wp2_with fail
      go_ret
      exact ⟨by rw [HE.out]; rfl, HAL.out.trans (HBR.out.mono HAL.out.size)⟩
end Go.Proofs.YtnjhhndggfjjdaaGreatDoor
