/- A disk in memory beside what is kept: its calls, what new memory leaves of it. -/
import Derived.Test.YteilbaabnhogbaaDskP
import Derived.Test.YteilbaabnhogbaaSpanPut
import Derived.Test.YteilbaabnhogbaaSpanGet
import Derived.Test.YteilbaabnhogbaaBReads
import Derived.Test.YteilbaabnhogbaaCrash
namespace Go.Proofs.Yteilbaabnhogbaa
open Go.RowKit
theorem Ty5.keep {w w' : World} {R : Nat → Prop} {i : Nat} (h : Ty5 w i) (k : Keep (fun i _ => R i) w w') (hi : R i) : Ty5 w' i := by
  obtain ⟨cs, h⟩ := h
  exact ⟨cs, h.keep k hi⟩
theorem Has.keep5 {w w' : World} {R : Nat → Prop} {A : Option Addr} {xs : List UInt8} (h : Has w (fun i => R i ∧ Ty5 w i) A xs) (k : Keep (fun i _ => R i ∧ Ty5 w i) w w') : Has w' (fun i => R i ∧ Ty5 w' i) A xs := fun h0 => by
  obtain ⟨b, o, e, ⟨h1, cs, h2⟩, _, _⟩ := h h0
  obtain ⟨b', o', e', _, hb', hc'⟩ := h.keep k h0
  rw [e] at e'
  cases e'
  exact ⟨b, o, e, ⟨h1, cs, h2.keep k ⟨h1, cs, h2⟩⟩, hb', hc'⟩
theorem has_rb {w : World} {K : Nat → Prop} {A : Option Addr} {n : Nat} {xs : List UInt8} (h : Has w K A xs) (hn : xs.length = n) : RB w w.heap.size A n xs := ⟨hn, fun h0 => by
  obtain ⟨b, o, e, _, hb, hc⟩ := h (by omega)
  exact ⟨b, o, e, hb, fun j x hx => hc j _ (by rw [cellsB_get, hx]; rfl)⟩⟩
theorem rb_has {w : World} {B : Nat} {A : Option Addr} {n : Nat} {xs : List UInt8} (h : RB w B A n xs) (hB : B ≤ w.heap.size) : Has w (fun i => i < B) A xs := fun h0 => by
  obtain ⟨b, o, e, hb, hc⟩ := h.2 (by rw [← h.1]; exact h0)
  exact ⟨b, o, e, hb, by omega, fun j u hu => by
    rw [cellsB_get] at hu
    cases hx : xs[j]? with
    | none => rw [hx] at hu; cases hu
    | some x => rw [hx] at hu; simp at hu; rw [← hu]; exact hc j x hx⟩

/-- a disk and what is kept beside it: R is none of its blocks -/
def DiskR (w : World) (gd : Nat) (R : Nat → Prop) (s : St) : Prop := ∃ O, DiskAt w gd O s ∧ (∀ i, O i → i < w.heap.size) ∧ ∀ i, R i → i < w.heap.size ∧ ¬ O i
section
variable {w w' : World} {gd : Nat} {O R R' : Nat → Prop} {s s' : St}
theorem DiskR.ok (h : DiskR w gd R s) : s.ok := by obtain ⟨_, ⟨_, _, h⟩, _⟩ := h; exact h.ok
theorem DiskR.below (h : DiskR w gd R s) (k : Below w.heap.size w w') : DiskR w' gd R s := by
  obtain ⟨O, h1, h2, h3⟩ := h
  exact ⟨O, h1.below k, fun i hi => Nat.lt_of_lt_of_le (h2 i hi) k.size, fun i hi => ⟨Nat.lt_of_lt_of_le (h3 i hi).1 k.size, (h3 i hi).2⟩⟩
theorem DiskR.grow (h : DiskR w gd R s) (k : Below w.heap.size w w') : DiskR w' gd (fun i => R i ∨ w.heap.size ≤ i ∧ i < w'.heap.size) s := by
  obtain ⟨O, h1, h2, h3⟩ := h
  refine ⟨O, h1.below k, fun i hi => Nat.lt_of_lt_of_le (h2 i hi) k.size, fun i hi => ?_⟩
  rcases hi with hi | ⟨h4, h5⟩
  · exact ⟨Nat.lt_of_lt_of_le (h3 i hi).1 k.size, (h3 i hi).2⟩
  · exact ⟨h5, fun ho => by have := h2 i ho; omega⟩
theorem diskR_new {n : Nat} (h : DiskAt w' (w.heap.size + 1) (fun i => w.heap.size ≤ i) (St.new n)) (hb : Below w.heap.size w w') : DiskR w' (w.heap.size + 1) (fun i => i < w.heap.size) (St.new n) :=
  ⟨_, h.cut, fun i hi => hi.2, fun i hi => ⟨Nat.lt_of_lt_of_le hi hb.size, fun ho => by have := ho.1; omega⟩⟩
theorem DiskR.keep (h : DiskR w gd R s) (hR : ∀ i, R' i → R i) : DiskR w gd R' s := by
  obtain ⟨O, h1, h2, h3⟩ := h
  exact ⟨O, h1, h2, fun i hi => h3 i (hR i hi)⟩
theorem DiskR.hi (h : DiskR w gd R s) : ∀ i, R i → i < w.heap.size := by
  obtain ⟨O, h1, h2, h3⟩ := h
  exact fun i hi => (h3 i hi).1
/-- a call of the disk's own -/
theorem diskR_turn (h3 : ∀ i, R i → i < w.heap.size ∧ ¬ O i) (hd : DiskAt w' gd (fun i => O i ∨ w.heap.size ≤ i) s') (k : Keep (Out O) w w') : DiskR w' gd R s' ∧ Keep (fun i _ => R i) w w' :=
  ⟨⟨_, hd.cut, fun i hi => hi.2, fun i hi => ⟨Nat.lt_of_lt_of_le (h3 i hi).1 k.size, fun ho => by
    rcases ho.1 with h | h
    · exact (h3 i hi).2 h
    · have := (h3 i hi).1; omega⟩⟩, k.mono fun i _ _ hi => (h3 i hi).2⟩
/-- what a disk's call does -/
def DTurn (w : World) (gd : Nat) (R : Nat → Prop) (s1 : St) (v : Value) (e : Ending) (w' : World) : Prop := e = .returned v ∧ DiskR w' gd R s1 ∧ Keep (fun i _ => R i) w w'
end
theorem retB {a b : Bool} (h : a = b) : Ending.returned (.bool a) = .returned (.bool b) := by rw [h]
theorem but_below {b : Nat} {w0 w w' : World} (h : Below w0.heap.size w0 w) (k : Keep (But b) w w') (hb : w0.heap.size ≤ b) : Below w0.heap.size w0 w' :=
  h.trans (k.below h.size fun i _ hi => by simp only [But]; omega)
section
variable {w : World} {gd : Nat} {R : Nat → Prop} {s s1 : St} {b1 : Bool}
theorem d_len (h : DiskR w gd R s) : Calls Try.prog 43 #[ptr gd] w fun e w' => e = .returned (.int .i64 (s.n : Int)) ∧ w = w' := by
  obtain ⟨O, h, _, _⟩ := h
  exact len_ h
theorem d_put (h : DiskR w gd R s) (hl : s.lim 500000) {A : Option Addr} {n c : Nat} {b : List UInt8} (hb : Has w R A b) (hn : b.length = n) (hc : n ≤ c) (hx : n ≤ 262144) {a : Int} (hp : s.put a b = (s1, b1)) :
    Calls Try.prog 24 #[ptr gd, .int .i64 a, .slice A n c] w (DTurn w gd R s1 (.bool b1)) := by
  subst hn
  have hnd : need b.length ≤ 4096 := by unfold need; omega
  obtain ⟨O, h, h2, h3⟩ := h
  refine (put_ h a A c b (hb.more fun i _ hi => (h3 i hi).2) hc (by have := hl.1; omega) (by have := hl.2.1; omega) hl.2.2 (by omega)).mono ?_
  rintro e w' ⟨rfl, hd, hk⟩
  rw [hp] at hd ⊢
  exact ⟨rfl, diskR_turn h3 hd hk⟩
theorem d_write (h : DiskR w gd R s) (hl : s.lim 900000) {i : Nat} (hi : i < s.n) {b : Nat} {x : List UInt8} (hx : x.length = 64) (hb : Blk w b 5 (cellsB x).toArray) (hp : s.tryW i x = (s1, b1)) :
    Calls Try.prog 26 #[ptr gd, .int .i64 (i : Int), .slice (some ⟨b, 0, none⟩) 64 64] w (DTurn w gd R s1 (.bool b1)) := by
  unfold St.tryW at hp
  obtain ⟨O, h, h2, h3⟩ := h
  cases hbr : s.broken
  · rw [hbr] at hp
    cases hp
    refine (write_ h hbr (by have := hl.1; omega) (by have := hl.2.1; omega) hl.2.2 i hi b 0 64 x hx (Src.of_blk hb)).mono ?_
    rintro e w' ⟨rfl, hd, hk⟩
    exact ⟨rfl, diskR_turn h3 hd hk⟩
  · rw [hbr] at hp
    cases hp
    refine (write_no h i _ 64 (.inr hbr)).mono ?_
    rintro e w' ⟨rfl, rfl⟩
    exact ⟨rfl, ⟨O, h, h2, h3⟩, Keep.refl _⟩
theorem d_sync (h : DiskR w gd R s) (hp : s.tryS = (s1, b1)) : Calls Try.prog 25 #[ptr gd] w (DTurn w gd R s1 (.bool b1)) := by
  unfold St.tryS at hp
  obtain ⟨O, h, h2, h3⟩ := h
  cases hbr : s.broken
  · rw [hbr] at hp
    cases hp
    refine (sync_ h hbr).mono ?_
    rintro e w' ⟨rfl, hd, hk⟩
    exact ⟨rfl, diskR_turn h3 (hd.more fun _ hi => .inl hi) hk⟩
  · rw [hbr] at hp
    cases hp
    refine (sync_no h hbr).mono ?_
    rintro e w' ⟨rfl, rfl⟩
    exact ⟨rfl, ⟨O, h, h2, h3⟩, Keep.refl _⟩
theorem d_break (h : DiskR w gd R s) (hb : s.broken = false) (n : Int) : Calls Try.prog 11 #[ptr gd, .int .i64 n] w (DTurn w gd R (s.brk n.toNat) (.tuple #[])) := by
  obtain ⟨O, h, h2, h3⟩ := h
  refine (break_ h hb n).mono ?_
  rintro e w' ⟨rfl, hd, hk⟩
  exact ⟨rfl, diskR_turn h3 (hd.more fun _ hi => .inl hi) hk⟩
theorem d_crash (h : DiskR w gd R s) (hl : s.lim 900000) {A : Option Addr} {n c : Nat} {ks : List Bool} (hks : Bools w R A n ks) (hn : n ≤ 9223372036854775807) : Calls Try.prog 12 #[ptr gd, .slice A n c] w (DTurn w gd R (s.crash (stays ks)) (.tuple #[])) := by
  obtain ⟨O, h, h2, h3⟩ := h
  refine (crash_ h (by have := hl.1; omega) A n c ks (hks.more fun i _ hi => (h3 i hi).2) hn).mono ?_
  rintro e w' ⟨rfl, hd, hk⟩
  exact ⟨rfl, diskR_turn h3 (hd.more fun _ hi => .inl hi) hk⟩
end
theorem read_any {w : World} {gd : Nat} {O : Nat → Prop} {s : St} (h : DiskAt w gd O s) (p : Nat) : Calls Try.prog 29 #[ptr gd, .int .i64 (p : Int)] w (GetC w (s.at_ p)) := by
  have hok : s.ok := by obtain ⟨_, _, h⟩ := h; exact h.ok
  rcases Nat.lt_or_ge p s.n with hp | hp
  · refine (read_ h p hp).mono ?_
    rintro e w' ⟨rfl, hb, hbel, _⟩
    have hl : (s.at_ p).length = 64 := secs_getD hok.now (by rw [St.now_length]; exact hp)
    exact ⟨_, 64, by rw [hl], Has.of_blk hb ⟨Nat.le_refl _, _, hb⟩, hbel, by rw [hl]; exact Nat.le_refl _, by omega, fun h => by cases h⟩
  · refine (read_no h p (.inr (by omega))).mono ?_
    rintro e w' ⟨rfl, rfl⟩
    have hl : s.at_ p = [] := by
      unfold St.at_
      rw [List.getD_eq_getElem?_getD, List.getElem?_eq_none (by rw [St.now_length]; exact hp)]; rfl
    rw [hl]
    exact ⟨none, 0, rfl, Has.nil _ _ _, Below.refl _ _, Nat.le_refl _, by omega, fun _ => rfl⟩
theorem at_length {s : St} (hok : s.ok) (p : Nat) : (s.at_ p).length ≤ 64 := by
  rcases Nat.lt_or_ge p s.n with hp | hp
  · have := secs_getD hok.now (i := p) (by rw [St.now_length]; exact hp)
    unfold St.at_; omega
  · unfold St.at_
    rw [List.getD_eq_getElem?_getD, List.getElem?_eq_none (by rw [St.now_length]; exact hp)]; simp
theorem Has.newer {w : World} {a b : Nat} {A : Option Addr} {xs : List UInt8} (h : Has w (fun i => a ≤ i ∧ Ty5 w i) A xs) (hb : b ≤ a) : Has w (fun i => b ≤ i ∧ Ty5 w i) A xs := h.more fun _ _ hi => ⟨Nat.le_trans hb hi.1, hi.2⟩
theorem d_read {w : World} {gd : Nat} {R : Nat → Prop} {s : St} (h : DiskR w gd R s) (p : Nat) : Calls Try.prog 29 #[ptr gd, .int .i64 (p : Int)] w (GetC w (s.at_ p)) := by
  obtain ⟨O, h, _, _⟩ := h
  exact read_any h p
theorem d_get {w : World} {gd : Nat} {R : Nat → Prop} {s : St} (h : DiskR w gd R s) (a n : Int) (hn : i64r n) : Calls Try.prog 22 #[ptr gd, .int .i64 a, .int .i64 n] w (GetC w (s.get a n)) := by
  obtain ⟨O, h, _, _⟩ := h
  exact getC_ h a n hn.1 hn.2
end Go.Proofs.Yteilbaabnhogbaa
