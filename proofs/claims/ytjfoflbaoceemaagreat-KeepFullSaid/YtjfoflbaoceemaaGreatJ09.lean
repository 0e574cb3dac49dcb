/- . -/
import Derived.Test.YtjfoflbaoceemaaGreatJ08
set_option maxRecDepth 4000
namespace Go.Proofs.YtjfoflbaoceemaaGreat
open Go.RowKit
section
variable {s s1 : Dk} {b1 : Bool} {m : Nat}
end
section
variable {w : World} {g gd : Nat} {R : Nat → Prop} {s s1 : Dk} {L : Lg} {b1 : Bool}
def Turn (w : World) (g gd : Nat) (R : Nat → Prop) (L : Lg) (s1 : Dk) (v : Value) (e : Ending) (w' : World) : Prop := e = .returned v ∧ LogAt w' g gd R s1 L ∧ Keep (fun i _ => R i) w w'
theorem LogAt.fn (h : LogAt w g gd R s L) : L.fin ≤ s.n ∧ L.p ≤ L.fin ∧ s.n ≤ 4096 := by
  have := h.ok.many
  obtain ⟨_, _, _, h⟩ := h
  exact ⟨h.fn, h.pf, this⟩
theorem log_put (h : LogAt w g gd R s L) (hl : s.lim 500000) {A : Option Addr} {n c : Nat} {b : List UInt8} (hb : Has w R A b) (hn : b.length = n) (hc : n ≤ c) (hx : n ≤ 262144) {a : Int} (hp : s.put a b = (s1, b1)) :
    Calls Tryz.prog 188 #[ptr gd, .int .i64 a, .slice A n c] w (Turn w g gd R L s1 (.bool b1)) := by
  subst hn
  have hok := h.ok
  have hnd : need b.length ≤ 4096 := by unfold need; omega
  obtain ⟨O, vr, vs, h⟩ := h
  refine (put_ h.disk a A c b (hb.more fun i _ hi => (h.rO i hi).2.1) hc (by have := hl.1; omega) (by have := hl.2.1; omega) hl.2.2 (by omega)).mono ?_
  rintro e w' ⟨rfl, hd, hk⟩
  have hps := (put_lim hl hok hp).2.1
  rw [hp] at hd ⊢
  exact ⟨rfl, ⟨_, vr, vs, h.turn hd hk hps⟩, h.keepR hk⟩
theorem log_write (h : LogAt w g gd R s L) (hl : s.lim 900000) {i : Nat} (hi : i < s.n) {b : Nat} {x : List UInt8} (hx : x.length = 64) (hb : Blk w b 5 (cellsB x).toArray) (hp : s.tryW i x = (s1, b1)) :
    Calls Tryz.prog 33 #[ptr gd, .int .i64 (i : Int), .slice (some ⟨b, 0, none⟩) 64 64] w (Turn w g gd R L s1 (.bool b1)) := by
  have hps := (tryW_lim hl hp).2
  unfold Dk.tryW at hp
  obtain ⟨O, vr, vs, h⟩ := h
  cases hbr : s.broken
  · rw [hbr] at hp
    cases hp
    refine (write_ h.disk hbr (by have := hl.1; omega) (by have := hl.2.1; omega) hl.2.2 i hi b 0 64 x hx (Src.of_blk hb)).mono ?_
    rintro e w' ⟨rfl, hd, hk⟩
    exact ⟨rfl, ⟨_, vr, vs, h.turn hd hk hps⟩, h.keepR hk⟩
  · rw [hbr] at hp
    cases hp
    refine (write_no h.disk i _ 64 (.inr hbr)).mono ?_
    rintro e w' ⟨rfl, rfl⟩
    exact ⟨rfl, ⟨O, vr, vs, h⟩, Keep.refl _⟩
theorem log_sync (h : LogAt w g gd R s L) (hp : s.tryS = (s1, b1)) : Calls Tryz.prog 189 #[ptr gd] w (Turn w g gd R L s1 (.bool b1)) := by
  unfold Dk.tryS at hp
  obtain ⟨O, vr, vs, h⟩ := h
  cases hbr : s.broken
  · rw [hbr] at hp
    cases hp
    refine (sync_ h.disk hbr).mono ?_
    rintro e w' ⟨rfl, hd, hk⟩
    exact ⟨rfl, ⟨_, vr, vs, h.turn (hd.more fun _ hi => .inl hi) hk (Dk.n_sync s)⟩, h.keepR hk⟩
  · rw [hbr] at hp
    cases hp
    refine (sync_no h.disk hbr).mono ?_
    rintro e w' ⟨rfl, rfl⟩
    exact ⟨rfl, ⟨O, vr, vs, h⟩, Keep.refl _⟩
end
def LC (g gd : Nat) (L : Lg) (W : World) : Prop := W.cell? ⟨g, 0, none⟩ = some (ptr gd) ∧ W.cell? ⟨g, 2, none⟩ = some (.int .i64 (L.p : Int)) ∧ W.cell? ⟨g, 3, none⟩ = some (.int .i64 (L.fin : Int))
theorem LogAt.lc {w : World} {g gd : Nat} {R : Nat → Prop} {s : Dk} {L : Lg} (h : LogAt w g gd R s L) : LC g gd L w := by
  obtain ⟨_, _, h0, _, h2, h3, _⟩ := h.cells
  exact ⟨h0, h2, h3⟩
/-! what lay comes to -/
section
variable {L : Lg} {s s1 s2 s3 s4 s5 : Dk} {b : List UInt8} {b5 : Bool}
theorem tail_fin {n : Nat} (h : L.next n = L.fin) : L.tail n s1 = (s1, true) := by unfold Lg.tail; rw [if_pos h]
theorem tail_try {n : Nat} (h : L.next n ≠ L.fin) : L.tail n s1 = s1.tryW (L.next n) (zeros 64) := by unfold Lg.tail; rw [if_neg h]
theorem lay_1 (h1 : s.put ((L.p : Int) + 1) b = (s1, false)) : L.lay s b = (s1, false) := by simp [Lg.lay, thenDo, h1]
theorem lay_2 (h1 : s.put ((L.p : Int) + 1) b = (s1, true)) (h2 : L.tail b.length s1 = (s2, false)) : L.lay s b = (s2, false) := by simp [Lg.lay, thenDo, h1, h2]
theorem lay_3 (h1 : s.put ((L.p : Int) + 1) b = (s1, true)) (h2 : L.tail b.length s1 = (s2, true)) (h3 : s2.tryS = (s3, false)) : L.lay s b = (s3, false) := by simp [Lg.lay, thenDo, h1, h2, h3]
theorem lay_4 (h1 : s.put ((L.p : Int) + 1) b = (s1, true)) (h2 : L.tail b.length s1 = (s2, true)) (h3 : s2.tryS = (s3, true)) (h4 : s3.tryW L.p (L.head b.length) = (s4, false)) : L.lay s b = (s4, false) := by simp [Lg.lay, thenDo, h1, h2, h3, h4]
theorem lay_5 (h1 : s.put ((L.p : Int) + 1) b = (s1, true)) (h2 : L.tail b.length s1 = (s2, true)) (h3 : s2.tryS = (s3, true)) (h4 : s3.tryW L.p (L.head b.length) = (s4, true)) (h5 : s4.tryS = (s5, b5)) : L.lay s b = (s5, b5) := by simp [Lg.lay, thenDo, h1, h2, h3, h4, h5]
end
end Go.Proofs.YtjfoflbaoceemaaGreat
