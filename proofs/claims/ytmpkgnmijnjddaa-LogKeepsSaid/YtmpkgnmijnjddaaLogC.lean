/- The disk's calls beside a log: Put, Write, Sync, Break, Crash. -/
import Derived.Test.YtmpkgnmijnjddaaLogA
namespace Go.Proofs.Ytmpkgnmijnjddaa
open Go.RowKit
def St.lim (m : Nat) (s : St) : Prop := s.l.length ≤ m ∧ s.count ≤ m ∧ s.left ≤ 9223372036854775807
section
variable {s s1 : St} {b1 : Bool} {m : Nat}
theorem lim_mono {k : Nat} (h : s.lim m) (hk : m ≤ k) : s.lim k := ⟨Nat.le_trans h.1 hk, Nat.le_trans h.2.1 hk, h.2.2⟩
theorem put_lim {at_ : Int} {xs : List UInt8} (h : s.lim m) (hok : s.ok) (hp : s.put at_ xs = (s1, b1)) : s1.lim (m + need xs.length) ∧ s1.n = s.n ∧ s1.ok := by
  have := put_keep hok at_ xs
  rw [hp] at this
  obtain ⟨h1, h2, h3, h4, h5⟩ := this
  exact ⟨⟨Nat.le_trans h3 (by have := h.1; omega), Nat.le_trans h4 (by have := h.2.1; omega), Nat.le_trans h5 h.2.2⟩, h2, h1⟩
theorem tryW_lim {i : Nat} {x : Sec} (h : s.lim m) (hp : s.tryW i x = (s1, b1)) : s1.lim (m + 1) ∧ s1.n = s.n := by
  unfold St.tryW at hp
  split at hp
  · cases hp; exact ⟨lim_mono h (by omega), rfl⟩
  · cases hp
    refine ⟨⟨?_, ?_, ?_⟩, rfl⟩
    · simp [St.wr]; exact h.1
    · simp [St.wr]; exact h.2.1
    · simp only [St.wr]
      split
      · have := h.2.2; omega
      · exact h.2.2
theorem tryS_lim (h : s.lim m) (hp : s.tryS = (s1, b1)) : s1.lim m ∧ s1.n = s.n := by
  unfold St.tryS at hp
  split at hp
  · cases hp; exact ⟨h, rfl⟩
  · cases hp
    exact ⟨⟨Nat.zero_le _, h.2.1, h.2.2⟩, St.n_sync s⟩
end
section
variable {w : World} {g gd : Nat} {R : Nat → Prop} {s s1 : St} {L : Lg} {b1 : Bool}
/-- what a disk's call does, beside a log -/
def Turn (w : World) (g gd : Nat) (R : Nat → Prop) (L : Lg) (s1 : St) (v : Value) (e : Ending) (w' : World) : Prop := e = .returned v ∧ LogAt w' g gd R s1 L ∧ Keep (fun i _ => R i) w w'
theorem LogAt.fn (h : LogAt w g gd R s L) : L.fin ≤ s.n ∧ L.p ≤ L.fin ∧ s.n ≤ 4096 := by
  have := h.ok.many
  obtain ⟨_, _, _, h⟩ := h
  exact ⟨h.fn, h.pf, this⟩
theorem log_put (h : LogAt w g gd R s L) (hl : s.lim 500000) {A : Option Addr} {n c : Nat} {b : List UInt8} (hb : Has w R A b) (hn : b.length = n) (hc : n ≤ c) (hx : n ≤ 262144) {a : Int} (hp : s.put a b = (s1, b1)) :
    Calls Try.prog 36 #[ptr gd, .int .i64 a, .slice A n c] w (Turn w g gd R L s1 (.bool b1)) := by
  subst hn
  have hok := h.ok
  have hnd : need b.length ≤ 4096 := by unfold need; omega
  obtain ⟨O, vr, vs, h⟩ := h
  refine (put_ h.disk a A c b (hb.more fun i _ hi => (h.rO i hi).2.1) hc (by have := hl.1; omega) (by have := hl.2.1; omega) hl.2.2 (by omega)).mono ?_
  rintro e w' ⟨rfl, hd, hk⟩
  have hps := (put_lim hl hok hp).2.1
  rw [hp] at hd ⊢
  exact ⟨rfl, ⟨_, vr, vs, h.turn hd hk hps⟩, h.keepR hk⟩
theorem log_write (h : LogAt w g gd R s L) (hl : s.lim 900000) {i : Nat} (hi : i < s.n) {b : Nat} {x : List UInt8} (hx : x.length = 64) (hb : Blk w b 5 (cellsB x).toArray) (hp : s.tryW i x = (s1, b1)) :
    Calls Try.prog 37 #[ptr gd, .int .i64 (i : Int), .slice (some ⟨b, 0, none⟩) 64 64] w (Turn w g gd R L s1 (.bool b1)) := by
  have hps := (tryW_lim hl hp).2
  unfold St.tryW at hp
  obtain ⟨O, vr, vs, h⟩ := h
  cases hbr : s.broken
  · rw [hbr] at hp
    cases hp
    refine (write_ h.disk hbr (by have := hl.1; omega) (by have := hl.2.1; omega) hl.2.2 i hi b 0 64 x hx (Src.of_blk hb)).mono ?_
    rintro e w' ⟨rfl, hd, hk⟩
    exact ⟨rfl, ⟨_, vr, vs, h.turn hd hk hps⟩, h.keepR hk⟩
  · rw [hbr] at hp
    cases hp
    refine (write_no h.disk i _ 64 (.inr hbr)).mono ?_
    rintro e w' ⟨rfl, rfl⟩
    exact ⟨rfl, ⟨O, vr, vs, h⟩, Keep.refl _⟩
theorem log_sync (h : LogAt w g gd R s L) (hp : s.tryS = (s1, b1)) : Calls Try.prog 38 #[ptr gd] w (Turn w g gd R L s1 (.bool b1)) := by
  unfold St.tryS at hp
  obtain ⟨O, vr, vs, h⟩ := h
  cases hbr : s.broken
  · rw [hbr] at hp
    cases hp
    refine (sync_ h.disk hbr).mono ?_
    rintro e w' ⟨rfl, hd, hk⟩
    exact ⟨rfl, ⟨_, vr, vs, h.turn (hd.more fun _ hi => .inl hi) hk (St.n_sync s)⟩, h.keepR hk⟩
  · rw [hbr] at hp
    cases hp
    refine (sync_no h.disk hbr).mono ?_
    rintro e w' ⟨rfl, rfl⟩
    exact ⟨rfl, ⟨O, vr, vs, h⟩, Keep.refl _⟩
theorem log_break (h : LogAt w g gd R s L) (hb : s.broken = false) (n : Int) : Calls Try.prog 13 #[ptr gd, .int .i64 n] w (Turn w g gd R L (s.brk n.toNat) (.tuple #[])) := by
  obtain ⟨O, vr, vs, h⟩ := h
  refine (break_ h.disk hb n).mono ?_
  rintro e w' ⟨rfl, hd, hk⟩
  exact ⟨rfl, ⟨_, vr, vs, h.turn (hd.more fun _ hi => .inl hi) hk rfl⟩, h.keepR hk⟩
theorem log_crash (h : LogAt w g gd R s L) (hl : s.lim 900000) {A : Option Addr} {n c : Nat} {ks : List Bool} (hks : Bools w R A n ks) (hn : n ≤ 9223372036854775807) : Calls Try.prog 16 #[ptr gd, .slice A n c] w (Turn w g gd R L (s.crash (stays ks)) (.tuple #[])) := by
  obtain ⟨O, vr, vs, h⟩ := h
  refine (crash_ h.disk (by have := hl.1; omega) A n c ks (hks.more fun i _ hi => (h.rO i hi).2.1) hn).mono ?_
  rintro e w' ⟨rfl, hd, hk⟩
  exact ⟨rfl, ⟨_, vr, vs, h.turn (hd.more fun _ hi => .inl hi) hk (St.n_crash _ _)⟩, h.keepR hk⟩
end
/-- what a log's head tells: its disk, its next place, its end -/
def LC (g gd : Nat) (L : Lg) (W : World) : Prop := W.cell? ⟨g, 0, none⟩ = some (ptr gd) ∧ W.cell? ⟨g, 2, none⟩ = some (.int .i64 (L.p : Int)) ∧ W.cell? ⟨g, 3, none⟩ = some (.int .i64 (L.fin : Int))
theorem LogAt.lc {w : World} {g gd : Nat} {R : Nat → Prop} {s : St} {L : Lg} (h : LogAt w g gd R s L) : LC g gd L w := by
  obtain ⟨_, _, h0, _, h2, h3, _⟩ := h.cells
  exact ⟨h0, h2, h3⟩
/-! what lay comes to -/
section
variable {L : Lg} {s s1 s2 s3 s4 s5 : St} {b : List UInt8} {b5 : Bool}
theorem tail_fin {n : Nat} (h : L.next n = L.fin) : L.tail n s1 = (s1, true) := by unfold Lg.tail; rw [if_pos h]
theorem tail_try {n : Nat} (h : L.next n ≠ L.fin) : L.tail n s1 = s1.tryW (L.next n) (zeros 64) := by unfold Lg.tail; rw [if_neg h]
theorem lay_1 (h1 : s.put ((L.p : Int) + 1) b = (s1, false)) : L.lay s b = (s1, false) := by simp [Lg.lay, thenDo, h1]
theorem lay_2 (h1 : s.put ((L.p : Int) + 1) b = (s1, true)) (h2 : L.tail b.length s1 = (s2, false)) : L.lay s b = (s2, false) := by simp [Lg.lay, thenDo, h1, h2]
theorem lay_3 (h1 : s.put ((L.p : Int) + 1) b = (s1, true)) (h2 : L.tail b.length s1 = (s2, true)) (h3 : s2.tryS = (s3, false)) : L.lay s b = (s3, false) := by simp [Lg.lay, thenDo, h1, h2, h3]
theorem lay_4 (h1 : s.put ((L.p : Int) + 1) b = (s1, true)) (h2 : L.tail b.length s1 = (s2, true)) (h3 : s2.tryS = (s3, true)) (h4 : s3.tryW L.p (L.head b.length) = (s4, false)) : L.lay s b = (s4, false) := by simp [Lg.lay, thenDo, h1, h2, h3, h4]
theorem lay_5 (h1 : s.put ((L.p : Int) + 1) b = (s1, true)) (h2 : L.tail b.length s1 = (s2, true)) (h3 : s2.tryS = (s3, true)) (h4 : s3.tryW L.p (L.head b.length) = (s4, true)) (h5 : s4.tryS = (s5, b5)) : L.lay s b = (s5, b5) := by simp [Lg.lay, thenDo, h1, h2, h3, h4, h5]
end
end Go.Proofs.Ytmpkgnmijnjddaa
