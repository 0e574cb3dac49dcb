/- A log in memory: beside its disk. What a disk's call leaves of it, what new memory leaves of it. -/
import Derived.Test.YtmpkgnmijnjddaaLogP
import Derived.Test.YtmpkgnmijnjddaaSpanPut
import Derived.Test.YtmpkgnmijnjddaaSpanGet
import Derived.Test.YtmpkgnmijnjddaaBReads
import Derived.Test.YtmpkgnmijnjddaaCrash
namespace Go.Proofs.Ytmpkgnmijnjddaa
open Go.RowKit
/-- these values are slices that hold these rows of bytes, in blocks of which K says so -/
def Holds (w : World) (K : Nat → Prop) (vs : List Value) (ls : List (List UInt8)) : Prop :=
  vs.length = ls.length ∧ ∀ (i : Nat) (xs : List UInt8), ls[i]? = some xs → ∃ A c, vs[i]? = some (Value.slice A xs.length c) ∧ Has w K A xs ∧ xs.length ≤ c ∧ c ≤ maxLen ∧ (A = none → c = 0)
section
variable {w w' : World} {K K' : Nat → Prop} {vs : List Value} {ls : List (List UInt8)}
theorem Holds.keep (h : Holds w K vs ls) (k : Keep (fun i _ => K i) w w') : Holds w' K vs ls := ⟨h.1, fun i xs hx => by
  obtain ⟨A, c, e, hh, r⟩ := h.2 i xs hx
  exact ⟨A, c, e, hh.keep k, r⟩⟩
theorem Holds.below (h : Holds w K vs ls) (k : Below w.heap.size w w') : Holds w' K vs ls := h.keep (Keep.of_below k)
theorem Holds.more (h : Holds w K vs ls) (hk : ∀ i, i < w.heap.size → K i → K' i) : Holds w K' vs ls := ⟨h.1, fun i xs hx => by
  obtain ⟨A, c, e, hh, r⟩ := h.2 i xs hx
  exact ⟨A, c, e, hh.more hk, r⟩⟩
theorem Holds.nil (w : World) (K : Nat → Prop) : Holds w K [] [] := ⟨rfl, fun i xs hx => by simp at hx⟩
theorem Holds.snoc (h : Holds w K vs ls) {A : Option Addr} {c : Nat} {xs : List UInt8} (hx : Has w K A xs) (hc : xs.length ≤ c) (hm : c ≤ maxLen) (hA : A = none → c = 0) : Holds w K (vs ++ [Value.slice A xs.length c]) (ls ++ [xs]) :=
  ⟨by simp [h.1], fun i ys hy => by
    rw [List.getElem?_append] at hy ⊢
    rw [h.1]
    split at hy
    · rename_i hlt
      rw [if_pos hlt]
      exact h.2 i ys hy
    · rename_i hlt
      rw [if_neg hlt]
      obtain ⟨hi, e⟩ := List.getElem?_eq_some_iff.1 hy
      have hi0 : i - ls.length = 0 := by simp at hi; omega
      rw [hi0] at hy ⊢
      simp at hy
      subst hy
      exact ⟨A, c, rfl, hx, hc, hm, hA⟩⟩
end
theorem Ty5.keep {w w' : World} {R : Nat → Prop} {i : Nat} (h : Ty5 w i) (k : Keep (fun i _ => R i) w w') (hi : R i) : Ty5 w' i := by
  obtain ⟨cs, h⟩ := h
  exact ⟨cs, h.keep k hi⟩
theorem Has.keep5 {w w' : World} {R : Nat → Prop} {A : Option Addr} {xs : List UInt8} (h : Has w (fun i => R i ∧ Ty5 w i) A xs) (k : Keep (fun i _ => R i ∧ Ty5 w i) w w') : Has w' (fun i => R i ∧ Ty5 w' i) A xs := fun h0 => by
  obtain ⟨b, o, e, ⟨h1, cs, h2⟩, _, _⟩ := h h0
  obtain ⟨b', o', e', _, hb', hc'⟩ := h.keep k h0
  rw [e] at e'
  cases e'
  exact ⟨b, o, e, ⟨h1, cs, h2.keep k ⟨h1, cs, h2⟩⟩, hb', hc'⟩
theorem Holds.keep5 {w w' : World} {R : Nat → Prop} {vs : List Value} {ls : List (List UInt8)} (h : Holds w (fun i => R i ∧ Ty5 w i) vs ls) (k : Keep (fun i _ => R i ∧ Ty5 w i) w w') : Holds w' (fun i => R i ∧ Ty5 w' i) vs ls := ⟨h.1, fun i xs hx => by
  obtain ⟨A, c, e, hh, r⟩ := h.2 i xs hx
  exact ⟨A, c, e, hh.keep5 k, r⟩⟩
theorem has_rb {w : World} {K : Nat → Prop} {A : Option Addr} {n : Nat} {xs : List UInt8} (h : Has w K A xs) (hn : xs.length = n) : RB w w.heap.size A n xs := ⟨hn, fun h0 => by
  obtain ⟨b, o, e, _, hb, hc⟩ := h (by omega)
  exact ⟨b, o, e, hb, fun j x hx => hc j _ (by rw [cellsB_get, hx]; rfl)⟩⟩
theorem rb_has {w : World} {B : Nat} {A : Option Addr} {n : Nat} {xs : List UInt8} (h : RB w B A n xs) (hB : B ≤ w.heap.size) : Has w (fun i => i < B) A xs := fun h0 => by
  obtain ⟨b, o, e, hb, hc⟩ := h.2 (by rw [← h.1]; exact h0)
  exact ⟨b, o, e, hb, by omega, fun j u hu => by
    rw [cellsB_get] at hu
    cases hx : xs[j]? with
    | none => rw [hx] at hu; cases hu
    | some x => rw [hx] at hu; simp at hu; rw [← hu]; exact hc j x hx⟩

/-- a disk and what is kept beside it: R is none of its blocks -/
def DiskR (w : World) (gd : Nat) (R : Nat → Prop) (s : St) : Prop := ∃ O, DiskAt w gd O s ∧ (∀ i, O i → i < w.heap.size) ∧ ∀ i, R i → i < w.heap.size ∧ ¬ O i
/-- the log at block g, on the disk at block gd, its blocks among O; vr: its row, vs: what lies there; R: what is none of all these, the records' bytes among it -/
structure LogM (w : World) (g gd : Nat) (O R : Nat → Prop) (vr : Value) (vs : List Value) (s : St) (L : Lg) : Prop where
  disk : DiskAt w gd O s
  hi : ∀ i, O i → i < w.heap.size
  head : Blk w g 53 #[ptr gd, .int .i64 L.e, .int .i64 (L.p : Int), .int .i64 (L.fin : Int), vr, .bool L.dead]
  og : ¬ O g
  rows : w.ownsRow 0 30 1 vr L.ls.length vs
  orr : ∀ k, vr.ownBlock = some k → ¬ O k
  held : Holds w (fun i => R i ∧ Ty5 w i) vs L.ls
  rO : ∀ i, R i → i < w.heap.size ∧ ¬ O i ∧ i ≠ g ∧ vr.ownBlock ≠ some i
  pf : L.p ≤ L.fin
  fn : L.fin ≤ s.n
  nl : L.ls.length ≤ L.p
  long : ∀ x ∈ L.ls, x.length ≤ 262144
def LogAt (w : World) (g gd : Nat) (R : Nat → Prop) (s : St) (L : Lg) : Prop := ∃ O vr vs, LogM w g gd O R vr vs s L
section
variable {w w' : World} {g gd : Nat} {O R R' : Nat → Prop} {vr : Value} {vs : List Value} {s s' : St} {L : Lg}
theorem LogM.ok (h : LogM w g gd O R vr vs s L) : s.ok := by obtain ⟨_, _, h⟩ := h.disk; exact h.ok
theorem LogAt.ok (h : LogAt w g gd R s L) : s.ok := by obtain ⟨_, _, _, h⟩ := h; exact h.ok
theorem DiskR.ok (h : DiskR w gd R s) : s.ok := by obtain ⟨_, ⟨_, _, h⟩, _⟩ := h; exact h.ok
theorem rows_lt {e size n : Nat} {xs : List Value} (h : w.ownsRow 0 e size vr n xs) : ∀ k, vr.ownBlock = some k → k < w.heap.size := fun k hk => (h.lt k hk).2
theorem LogM.below (h : LogM w g gd O R vr vs s L) (k : Below w.heap.size w w') : LogM w' g gd O R vr vs s L :=
  ⟨h.disk.below k, fun i hi => Nat.lt_of_lt_of_le (h.hi i hi) k.size, h.head.below k h.head.lt, h.og, ownsRow_keep h.rows (K := fun _ _ => True) (Keep.of_below k) (fun _ _ _ => trivial), h.orr, h.held.keep5 (Keep.of_below k),
    fun i hi => ⟨Nat.lt_of_lt_of_le (h.rO i hi).1 k.size, (h.rO i hi).2⟩, h.pf, h.fn, h.nl, h.long⟩
theorem LogAt.below (h : LogAt w g gd R s L) (k : Below w.heap.size w w') : LogAt w' g gd R s L := by
  obtain ⟨O, vr, vs, h⟩ := h
  exact ⟨O, vr, vs, h.below k⟩
theorem LogAt.drew (h : LogAt w g gd R s L) : LogAt w.drew g gd R s L := h.below (Below.refl _ _).drew
/-- memory that is newer than w lies beside the log, too -/
theorem LogM.grow (h : LogM w g gd O R vr vs s L) (k : Below w.heap.size w w') : LogM w' g gd O (fun i => R i ∨ w.heap.size ≤ i ∧ i < w'.heap.size) vr vs s L := by
  have h' := h.below k
  refine ⟨h'.disk, h'.hi, h'.head, h'.og, h'.rows, h'.orr, h'.held.more fun _ _ hi => ⟨.inl hi.1, hi.2⟩, fun i hi => ?_, h'.pf, h'.fn, h'.nl, h'.long⟩
  rcases hi with hi | ⟨h1, h2⟩
  · exact h'.rO i hi
  · exact ⟨h2, fun ho => by have := h.hi i ho; omega, fun e => by have := h.head.lt; omega, fun e => by have := rows_lt h.rows i e; omega⟩
theorem LogAt.grow (h : LogAt w g gd R s L) (k : Below w.heap.size w w') : LogAt w' g gd (fun i => R i ∨ w.heap.size ≤ i ∧ i < w'.heap.size) s L := by
  obtain ⟨O, vr, vs, h⟩ := h
  exact ⟨O, vr, vs, h.grow k⟩
/-- a call of the disk's own -/
theorem LogM.turn (h : LogM w g gd O R vr vs s L) (hd : DiskAt w' gd (fun i => O i ∨ w.heap.size ≤ i) s') (k : Keep (Out O) w w') (hn : s'.n = s.n) :
    LogM w' g gd (fun i => (O i ∨ w.heap.size ≤ i) ∧ i < w'.heap.size) R vr vs s' L := by
  refine ⟨hd.cut, fun i hi => hi.2, h.head.keep k h.og, ?_, ownsRow_keep h.rows k (fun i _ hi => h.orr i hi), ?_, h.held.keep5 (k.mono fun i _ _ hi => (h.rO i hi.1).2.1), fun i hi => ?_, h.pf, by rw [hn]; exact h.fn, h.nl, h.long⟩
  · rintro ⟨ho | ho, _⟩
    · exact h.og ho
    · have := h.head.lt; omega
  · rintro i hi ⟨ho | ho, _⟩
    · exact h.orr i hi ho
    · have := rows_lt h.rows i hi; omega
  · obtain ⟨h1, h2, h3⟩ := h.rO i hi
    refine ⟨Nat.lt_of_lt_of_le h1 k.size, ?_, h3⟩
    rintro ⟨ho | ho, _⟩
    · exact h2 ho
    · omega
theorem LogM.keepR (h : LogM w g gd O R vr vs s L) (k : Keep (Out O) w w') : Keep (fun i _ => R i) w w' := k.mono fun i _ _ hi => (h.rO i hi).2.1
theorem LogM.diskR (h : LogM w g gd O R vr vs s L) : DiskR w gd R s := ⟨O, h.disk, h.hi, fun i hi => ⟨(h.rO i hi).1, (h.rO i hi).2.1⟩⟩
theorem LogAt.diskR (h : LogAt w g gd R s L) : DiskR w gd R s := by
  obtain ⟨O, vr, vs, h⟩ := h
  exact h.diskR
theorem DiskR.below (h : DiskR w gd R s) (k : Below w.heap.size w w') : DiskR w' gd R s := by
  obtain ⟨O, h1, h2, h3⟩ := h
  exact ⟨O, h1.below k, fun i hi => Nat.lt_of_lt_of_le (h2 i hi) k.size, fun i hi => ⟨Nat.lt_of_lt_of_le (h3 i hi).1 k.size, (h3 i hi).2⟩⟩
theorem DiskR.grow (h : DiskR w gd R s) (k : Below w.heap.size w w') : DiskR w' gd (fun i => R i ∨ w.heap.size ≤ i ∧ i < w'.heap.size) s := by
  obtain ⟨O, h1, h2, h3⟩ := h
  refine ⟨O, h1.below k, fun i hi => Nat.lt_of_lt_of_le (h2 i hi) k.size, fun i hi => ?_⟩
  rcases hi with hi | ⟨h4, h5⟩
  · exact ⟨Nat.lt_of_lt_of_le (h3 i hi).1 k.size, (h3 i hi).2⟩
  · exact ⟨h5, fun ho => by have := h2 i ho; omega⟩
theorem diskR_new {n : Nat} (h : DiskAt w' (w.heap.size + 1) (fun i => w.heap.size ≤ i) (St.new n)) (hb : Below w.heap.size w w') : DiskR w' (w.heap.size + 1) (fun i => i < w.heap.size) (St.new n) :=
  ⟨_, h.cut, fun i hi => hi.2, fun i hi => ⟨Nat.lt_of_lt_of_le hi hb.size, fun ho => by have := ho.1; omega⟩⟩
theorem LogAt.same {L' : Lg} (h : LogAt w g gd R s L) (e : L = L') : LogAt w g gd R s L' := e ▸ h
theorem LogAt.cells (h : LogAt w g gd R s L) : ∃ A c, w.cell? ⟨g, 0, none⟩ = some (ptr gd) ∧ w.cell? ⟨g, 1, none⟩ = some (.int .i64 L.e) ∧ w.cell? ⟨g, 2, none⟩ = some (.int .i64 (L.p : Int)) ∧ w.cell? ⟨g, 3, none⟩ = some (.int .i64 (L.fin : Int)) ∧
    w.cell? ⟨g, 4, none⟩ = some (.slice A L.ls.length c) ∧ w.cell? ⟨g, 5, none⟩ = some (.bool L.dead) ∧ (∀ i, w.frozen? ⟨g, i, none⟩ = false) ∧ L.ls.length ≤ c ∧ L.p ≤ L.fin ∧ L.fin ≤ 4096 ∧ L.ls.length ≤ 4096 ∧ g < w.heap.size := by
  have hok := h.ok
  obtain ⟨O, vr, vs, h⟩ := h
  have hm := hok.many
  have h1 := h.fn
  have h2 := h.nl
  have h3 := h.pf
  have hA : ∃ A c, vr = .slice A L.ls.length c ∧ L.ls.length ≤ c := by
    rcases h.rows.2 with ⟨rfl, h0⟩ | ⟨q, cap, cur, rfl, _, _, hc, _⟩
    · exact ⟨none, 0, by rw [h0], by omega⟩
    · exact ⟨_, cap, rfl, hc⟩
  obtain ⟨A, c, rfl, hc⟩ := hA
  unfold St.n at h1
  exact ⟨A, c, by rw [h.head.cell]; rfl, by rw [h.head.cell]; rfl, by rw [h.head.cell]; rfl, by rw [h.head.cell]; rfl, by rw [h.head.cell]; rfl, by rw [h.head.cell]; rfl, h.head.frozen, hc, h3, by omega, by omega, h.head.lt⟩
/-- a row of slices beside the log turns, and new memory is made -/
theorem LogAt.aside {v : Value} (h : LogAt w g gd R s L) (k : Keep (fun i _ => v.ownBlock ≠ some i) w w') (hv : ∀ q, v.ownBlock = some q → R q ∧ ∃ cs, Blk w q 30 cs) :
    LogAt w' g gd (fun i => R i ∨ w.heap.size ≤ i ∧ i < w'.heap.size) s L := by
  obtain ⟨O, vr, vs, h⟩ := h
  have hO : ∀ i, O i → v.ownBlock ≠ some i := fun i ho e => (h.rO i (hv i e).1).2.1 ho
  refine ⟨O, vr, vs, h.disk.keep k (fun i _ ho => hO i ho), fun i hi => Nat.lt_of_lt_of_le (h.hi i hi) k.size, h.head.keep k (fun e => (h.rO g (hv g e).1).2.2.1 rfl), h.og, ownsRow_keep h.rows k (fun i _ hi e => (h.rO i (hv i e).1).2.2.2 hi), h.orr, ?_, fun i hi => ?_, h.pf, h.fn, h.nl, h.long⟩
  · refine (h.held.keep5 (k.mono fun i _ _ hi e => ?_)).more fun _ _ hi => ⟨.inl hi.1, hi.2⟩
    obtain ⟨cs, h1⟩ := hi.2
    obtain ⟨_, ds, h2⟩ := hv i e
    exact ne_of_types h1 h2 (by decide) rfl
  · rcases hi with hi | ⟨h1, h2⟩
    · exact ⟨Nat.lt_of_lt_of_le (h.rO i hi).1 k.size, (h.rO i hi).2⟩
    · exact ⟨h2, fun ho => by have := h.hi i ho; omega, fun e => by have := h.head.lt; omega, fun e => by have := rows_lt h.rows i e; omega⟩
end
end Go.Proofs.Ytmpkgnmijnjddaa
