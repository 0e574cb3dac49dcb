/- The calls that SpanKeeps makes, each by one contract. -/
import Derived.Test.YtfccghbhkgnmlaaSpanAlive
namespace Go.Proofs.Ytfccghbhkgnmlaa
open Go.RowKit
/-- bytes that came in, and a sector full of one byte, are there -/
structure KF (B F : Nat) (A : Option Addr) (xs fs : List UInt8) (w : World) : Prop where
  b : Has w (fun i => i < B) A xs
  f : Blk w F 5 (cellsB fs).toArray
section
variable {w w' : World} {B F g : Nat} {A : Option Addr} {xs fs : List UInt8} {s : St}
theorem KF.keep (h : KF B F A xs fs w) (k : Keep (fun i _ => i < B ∨ i = F) w w') : KF B F A xs fs w' :=
  ⟨(h.b.keep (K := fun i => i < B) (k.mono fun _ _ _ hi => .inl hi)), h.f.keep k (.inr rfl)⟩
theorem KF.below (h : KF B F A xs fs w) (k : Below w.heap.size w w') : KF B F A xs fs w' := h.keep (Keep.of_below k)
theorem KF.drew (h : KF B F A xs fs w) : KF B F A xs fs w.drew := ⟨h.b, h.f⟩
theorem Has.strn {K : Nat → Prop} {n : Nat} (h : Has w K A xs) (hn : xs.length = n) (c : Nat) : (convert 22 9 (.slice A n c)).run Try.prog w = .ok (.string ⟨xs.toArray⟩) w := by
  subst hn; exact h.str c
theorem Has.keepO {D : Nat → Prop} {m : Nat} (h : Has w (fun i => m ≤ i) A xs) (k : Keep (Out D) w w') (hD : ∀ i, D i → i < m) : Has w' (fun i => m ≤ i) A xs :=
  h.keep (k.mono fun i _ _ hi ho => by have := hD i ho; omega)
theorem KF.keepO {D : Nat → Prop} (h : KF B F A xs fs w) (k : Keep (Out D) w w') (hD : ∀ i, D i → HiBut B F i) : KF B F A xs fs w' :=
  h.keep (k.mono fun i _ _ hi ho => by
    have := hD i ho
    rcases hi with hi | rfl
    · have := this.1; omega
    · exact this.2 rfl)
theorem kput {n : Nat} {a : Int} {s1 : St} {r : Bool} (hp : s.put a xs = (s1, r)) (hn : xs.length = n) (hd : DiskAt w g (HiBut B F) s) (hF : F < w.heap.size) (hB : B ≤ w.heap.size) (h : KF B F A xs fs w) (c : Nat) (hc : n ≤ c) (hl : s.l.length ≤ 500000) (hco : s.count ≤ 500000) (hle : s.left ≤ 9223372036854775807) (hxl : n ≤ 262144) :
    Calls Try.prog 13 #[ptr g, .int .i64 a, .slice A n c] w fun e w' => e = .returned (.bool r) ∧ DiskAt w' g (HiBut B F) s1 ∧ KF B F A xs fs w' ∧ Keep (fun i _ => i < B ∨ i = F) w w' := by
  subst hn
  have hnd : need xs.length ≤ 500000 := by unfold need; omega
  refine (put_ hd a A c xs (h.b.more (K' := fun i => ¬ HiBut B F i) fun i _ hi ho => by have := ho.1; omega) hc (by omega) (by omega) hle (by omega)).mono ?_
  rintro e w2 ⟨rfl, hd2, hk⟩
  rw [hp] at hd2 ⊢
  have hk2 : Keep (fun i _ => i < B ∨ i = F) w w2 := hk.mono fun i _ _ hi ho => by
    rcases hi with hi | rfl
    · have := ho.1; omega
    · exact ho.2 rfl
  refine ⟨rfl, hd2.more fun i hi => ?_, h.keep hk2, hk2⟩
  rcases hi with hi | hi
  · exact hi
  · exact ⟨by omega, by omega⟩
/-- a put that does not fit -/
theorem kput_no {O : Nat → Prop} {a : Int} {n c : Nat} {A2 : Option Addr} {ys : List UInt8} (hp : s.fits a (need n) = false) (h0 : need n ≠ 0) (hn : ys.length = n) (hx : Has w (fun i => ¬ O i) A2 ys) (hc : n ≤ c) (hd : DiskAt w g O s) (hl : s.l.length ≤ 500000) (hco : s.count ≤ 500000) (hle : s.left ≤ 9223372036854775807) (hxl : n ≤ 262144) :
    Calls Try.prog 13 #[ptr g, .int .i64 a, .slice A2 n c] w fun e w' => e = .returned (.bool false) ∧ Keep (Out O) w w' := by
  subst hn
  have hnd : need ys.length ≤ 500000 := by unfold need; omega
  have hpe : s.put a ys = (s, false) := by rw [St.put, if_neg h0, hp]; rfl
  refine (put_ hd a A2 c ys hx hc (by omega) (by omega) hle (by omega)).mono ?_
  rintro e w2 ⟨rfl, hd2, hk⟩
  rw [hpe]
  exact ⟨rfl, hk⟩
theorem kget {O : Nat → Prop} {a n : Int} {m : Nat} {ys : List UInt8} (hg : s.get a n = ys) (hm : ys.length = m) (hd : DiskAt w g O s) (hn1 : -9223372036854775808 ≤ n) (hn2 : n ≤ 9223372036854775807) :
    Calls Try.prog 18 #[ptr g, .int .i64 a, .int .i64 n] w fun e w' => ∃ A2 c2, e = .returned (.slice A2 m c2) ∧ Has w' (fun i => w.heap.size ≤ i) A2 ys ∧ Below w.heap.size w w' := by
  subst hg hm
  exact get_ hd a n hn1 hn2
theorem kread {O : Nat → Prop} {i : Nat} {v : Int} {x : Sec} (hv : v = (i : Int)) (hx : s.now.getD i [] = x) (hd : DiskAt w g O s) (hi : i < s.n) :
    Calls Try.prog 16 #[ptr g, .int .i64 v] w fun e w' => ∃ A2 c2, e = .returned (.slice A2 64 c2) ∧ x.length = 64 ∧ Has w' (fun i => w.heap.size ≤ i) A2 x ∧ Below w.heap.size w w' := by
  subst hx hv
  have hok : s.ok := by obtain ⟨_, _, h⟩ := hd; exact h.ok
  refine (read_ hd i hi).mono ?_
  rintro e w2 ⟨rfl, hb2, hb, _⟩
  exact ⟨_, 64, rfl, secs_getD hok.now (by rw [St.now_length]; exact hi), Has.of_blk hb2 (Nat.le_refl _), hb⟩
end
/-- the disk is filled by j writes -/
structure Full (s : St) (N j : Nat) (fs : List UInt8) : Prop where
  ok : s.ok
  n : s.n = N
  ends : s.ends = false
  l : s.l.length = j
  count : s.count = j
  left : s.left = 0
  now : ∀ q, q < j → s.now.getD q [] = fs
theorem Full.new {N : Nat} (fs : List UInt8) (hN : N ≤ 4096) : Full (St.new N) N 0 fs := ⟨St.ok.new hN, by rw [St.n_new], rfl, rfl, rfl, rfl, fun q hq => absurd hq (by omega)⟩
theorem Full.next {s : St} {N j : Nat} {fs : List UInt8} (h : Full s N j fs) (hj : j < N) (hf : fs.length = 64) : Full (s.wr j fs) N (j + 1) fs :=
  ⟨h.ok.wr (by rw [h.n]; exact hj) hf, by rw [St.n_wr]; exact h.n, h.ends, by simp [St.wr, h.l], by simp [St.wr, h.count], by simp [St.wr, h.ends, h.left], fun q hq => by
    rw [wr_getD (by rw [h.n]; exact hj)]
    split
    · rfl
    · exact h.now q (by omega)⟩
end Go.Proofs.Ytfccghbhkgnmlaa
