/- Two images by turns, plain facts: what a root is, what is read of a disk, what a write leaves, sure or crashed. Nothing of the program. -/
import Derived.Test.YteilbaabnhogbaaDskP
namespace Go.Proofs.Yteilbaabnhogbaa
def rootT : List UInt8 := [114, 111, 111, 116]
/-- the root of an epoch whose image has n bytes -/
def rootB (e n : Int) : List UInt8 := encText rootT ++ (encInt e ++ (encInt n ++ zeros 42))
theorem rootB_length (e n : Int) : (rootB e n).length = 64 := by
  simp only [rootB, List.length_append, encInt_len, encText_len, zeros_length]; rfl
theorem rootB_written (e n : Int) : encText rootT ++ encInt e ++ encInt n ++ zeros 42 = rootB e n := by simp [rootB]
/-- the epoch, and the length, that a sector tells, whatever it is -/
def toldE (xs : List UInt8) : Int := (⟨xs, false⟩ : Rd).text.2.int.1
def toldN (xs : List UInt8) : Int := (⟨xs, false⟩ : Rd).text.2.int.2.int.1
theorem toldE_range (xs : List UInt8) : i64r (toldE xs) := i64of_range _
theorem toldN_range (xs : List UInt8) : i64r (toldN xs) := i64of_range _
theorem toldE_root {e n : Int} (h : i64r e) : toldE (rootB e n) = e := by
  unfold toldE rootB
  rw [text_front]
  simp only
  rw [int_front e _ h.1 h.2]
theorem toldN_root {e n : Int} (h : i64r n) : toldN (rootB e n) = n := by
  unfold toldN rootB
  rw [text_front]
  simp only
  rw [int_front2, int_front n _ h.1 h.2]
theorem rootB_zero {e n : Int} : rootB e n ≠ zeros 64 := fun h => by
  have := congrArg (fun xs => xs[0]?) h
  simp [rootB, encText, rootT, leN, zeros] at this

/-- where roots and areas are -/
structure Pl where
  a : Nat
  ar : Nat
def Pl.root (p : Pl) (e : Nat) : Nat := p.a + e % 2
def Pl.image (p : Pl) (e : Nat) : Nat := p.a + 2 + e % 2 * p.ar
def Pl.fits (p : Pl) (n : Int) : Bool := decide (0 ≤ n) && decide (n ≤ ((p.ar * 64 : Nat) : Int))
def Pl.there (p : Pl) (s : St) (e n : Nat) : Bool := decide (p.image e + max (need n) 1 ≤ s.n)
/-- is what stands at the place of that turn a root? -/
def Pl.isRoot (p : Pl) (s : St) (t : Nat) : Bool :=
  decide (0 < toldE (s.at_ (p.a + t))) && (decide ((toldE (s.at_ (p.a + t))).toNat % 2 = t) && (p.fits (toldN (s.at_ (p.a + t))) && (p.there s (toldE (s.at_ (p.a + t))).toNat (toldN (s.at_ (p.a + t))).toNat && decide (s.at_ (p.a + t) = rootB (toldE (s.at_ (p.a + t))) (toldN (s.at_ (p.a + t)))))))
def Pl.pick (p : Pl) (s : St) (t : Nat) (r : Int × Int) : Int × Int :=
  if p.isRoot s t && decide (r.1 < toldE (s.at_ (p.a + t))) then (toldE (s.at_ (p.a + t)), toldN (s.at_ (p.a + t))) else r
def Pl.best (p : Pl) (s : St) : Int × Int := p.pick s 1 (p.pick s 0 (0, 0))
def Pl.read (p : Pl) (s : St) : Option (Int × List UInt8) :=
  if (p.best s).1 = 0 then none else some ((p.best s).1, s.get (p.image (p.best s).1.toNat) (p.best s).2)
theorem pl_fits_iff {p : Pl} {n : Int} : p.fits n = true ↔ 0 ≤ n ∧ n ≤ ((p.ar * 64 : Nat) : Int) := by simp [Pl.fits]
theorem pick_at (p : Pl) (s : St) (t : Nat) (r : Int × Int) : p.pick s t r = r ∨ (p.isRoot s t = true ∧ p.pick s t r = (toldE (s.at_ (p.a + t)), toldN (s.at_ (p.a + t)))) := by
  unfold Pl.pick
  split
  · rename_i h
    exact .inr ⟨by simp at h; exact h.1, rfl⟩
  · exact .inl rfl
theorem isRoot_eq {p : Pl} {s : St} {t : Nat} (h : p.isRoot s t = true) : 0 < toldE (s.at_ (p.a + t)) ∧ (toldE (s.at_ (p.a + t))).toNat % 2 = t ∧ p.fits (toldN (s.at_ (p.a + t))) = true ∧ p.there s (toldE (s.at_ (p.a + t))).toNat (toldN (s.at_ (p.a + t))).toNat = true ∧ s.at_ (p.a + t) = rootB (toldE (s.at_ (p.a + t))) (toldN (s.at_ (p.a + t))) := by
  simp only [Pl.isRoot, Bool.and_eq_true, decide_eq_true_eq] at h
  exact h
theorem pick_no {p : Pl} {s : St} {t : Nat} {r : Int × Int} (h : p.isRoot s t = true → toldE (s.at_ (p.a + t)) ≤ r.1) : p.pick s t r = r := by
  unfold Pl.pick
  rw [if_neg]
  intro h'
  simp only [Bool.and_eq_true, decide_eq_true_eq] at h'
  have := h h'.1
  omega
theorem pick_yes {p : Pl} {s : St} {t : Nat} {r : Int × Int} (h : p.isRoot s t = true) (h2 : r.1 < toldE (s.at_ (p.a + t))) : p.pick s t r = (toldE (s.at_ (p.a + t)), toldN (s.at_ (p.a + t))) := by
  unfold Pl.pick
  rw [if_pos (by rw [h, decide_eq_true h2]; rfl)]
/-- what is told is a number above 0, or 0, and a length that an area holds -/
theorem best_range (p : Pl) (s : St) (har : p.ar ≤ 1000) : 0 ≤ (p.best s).1 ∧ (p.best s).1 ≤ 9223372036854775807 ∧ 0 ≤ (p.best s).2 ∧ (p.best s).2 ≤ 64000 := by
  have key : ∀ t (r : Int × Int), (0 ≤ r.1 ∧ r.1 ≤ 9223372036854775807 ∧ 0 ≤ r.2 ∧ r.2 ≤ 64000) → (0 ≤ (p.pick s t r).1 ∧ (p.pick s t r).1 ≤ 9223372036854775807 ∧ 0 ≤ (p.pick s t r).2 ∧ (p.pick s t r).2 ≤ 64000) := fun t r hr => by
    rcases pick_at p s t r with e | ⟨h, e⟩
    · rw [e]; exact hr
    · rw [e]
      obtain ⟨h1, _, h3, _, _⟩ := isRoot_eq h
      have h4 := pl_fits_iff.1 h3
      have h5 := (toldE_range (s.at_ (p.a + t))).2
      simp only
      omega
  exact key 1 _ (key 0 _ ⟨by simp, by simp, by simp, by simp⟩)

/-! an image that lies on the disk -/
structure Img (p : Pl) (s : St) (k : Nat) (b : List UInt8) : Prop where
  root : s.at_ (p.root k) = rootB k b.length
  body : ∀ j, j < need b.length → s.at_ (p.image k + j) = chunk b j
/-- the other place's root, if it is one, is of an elder epoch -/
def Eld (p : Pl) (s : St) (k : Nat) : Prop := ∀ e n : Int, i64r e → i64r n → s.at_ (p.root (k + 1)) = rootB e n → e < k
structure Pl.on (p : Pl) (s : St) : Prop where
  n : p.a + 2 + 2 * p.ar ≤ s.n
  many : s.n ≤ 4096
  lo : 1 ≤ p.ar
  hi : p.ar ≤ 1000
theorem isRoot_none {p : Pl} {s : St} {t : Nat} (h : ∀ e n : Int, i64r e → i64r n → s.at_ (p.a + t) ≠ rootB e n) : p.isRoot s t = false := by
  cases hr : p.isRoot s t
  · rfl
  · exact absurd (isRoot_eq hr).2.2.2.2 (h _ _ (toldE_range _) (toldN_range _))
theorem need_area {n ar : Nat} (h : n ≤ ar * 64) : need n ≤ ar := by unfold need; omega
theorem image_le (p : Pl) (k : Nat) : p.a + 2 ≤ p.image k ∧ p.image k ≤ p.a + 2 + p.ar := by
  have h : k % 2 = 0 ∨ k % 2 = 1 := by omega
  unfold Pl.image
  rcases h with h | h <;> rw [h] <;> omega
theorem isRoot_img {p : Pl} {s : St} {k : Nat} {b : List UInt8} (hk : 1 ≤ k) (hk2 : k ≤ 9223372036854775807) (h : Img p s k b) (hb : b.length ≤ p.ar * 64) (hp : p.on s) : p.isRoot s (k % 2) = true ∧ toldE (s.at_ (p.a + k % 2)) = k ∧ toldN (s.at_ (p.a + k % 2)) = b.length := by
  have hm := hp.many
  have hn := hp.n
  have hl := hp.lo
  have hh := hp.hi
  have e : s.at_ (p.a + k % 2) = rootB k b.length := h.root
  have h1 : toldE (s.at_ (p.a + k % 2)) = k := by rw [e]; exact toldE_root ⟨by omega, by omega⟩
  have h2 : toldN (s.at_ (p.a + k % 2)) = b.length := by rw [e]; exact toldN_root ⟨by omega, by omega⟩
  refine ⟨?_, h1, h2⟩
  have hna := need_area hb
  have hi := (image_le p k).2
  simp only [Pl.isRoot, Bool.and_eq_true, decide_eq_true_eq]
  rw [h1, h2]
  refine ⟨by omega, by omega, pl_fits_iff.2 ⟨by omega, by omega⟩, ?_, e⟩
  simp only [Pl.there, decide_eq_true_eq, Int.toNat_natCast]
  omega
theorem best_img {p : Pl} {s : St} {k : Nat} {b : List UInt8} (hk : 1 ≤ k) (hk2 : k ≤ 9223372036854775807) (h : Img p s k b) (he : Eld p s k) (hb : b.length ≤ p.ar * 64) (hp : p.on s) : p.best s = ((k : Int), (b.length : Int)) := by
  obtain ⟨h1, h2, h3⟩ := isRoot_img hk hk2 h hb hp
  have hoth : ∀ t, t = (k + 1) % 2 → p.isRoot s t = true → toldE (s.at_ (p.a + t)) < k := fun t ht hr => by
    subst ht
    exact he _ _ (toldE_range _) (toldN_range _) (isRoot_eq hr).2.2.2.2
  unfold Pl.best
  rcases (by omega : k % 2 = 0 ∨ k % 2 = 1) with hm | hm
  · rw [hm] at h1 h2 h3
    rw [pick_yes (r := (0, 0)) h1 (by rw [h2]; simp; omega), h2, h3, pick_no]
    intro hr
    have := hoth 1 (by omega) hr
    simp only
    omega
  · rw [hm] at h1 h2 h3
    rw [pick_yes h1, h2, h3]
    rw [h2]
    rcases pick_at p s 0 (0, 0) with e | ⟨hr, e⟩
    · rw [e]; simp; omega
    · rw [e]
      exact hoth 0 (by omega) hr
theorem read_img {p : Pl} {s : St} {k : Nat} {b : List UInt8} (hk : 1 ≤ k) (hk2 : k ≤ 9223372036854775807) (h : Img p s k b) (he : Eld p s k) (hb : b.length ≤ p.ar * 64) (hp : p.on s) : p.read s = some ((k : Int), b) := by
  have hm := hp.many
  have hn := hp.n
  have hh := hp.hi
  have hi := (image_le p k).2
  have hna := need_area hb
  unfold Pl.read
  rw [best_img hk hk2 h he hb hp]
  simp only
  rw [if_neg (by omega), Int.toNat_natCast, get_put (by omega) (by omega) h.body]
theorem best_none {p : Pl} {s : St} (h : ∀ t, t < 2 → ∀ e n : Int, i64r e → i64r n → s.at_ (p.a + t) ≠ rootB e n) : p.best s = (0, 0) := by
  unfold Pl.best
  rw [pick_no (t := 0) (fun hr => by rw [isRoot_none (h 0 (by omega))] at hr; cases hr), pick_no (t := 1) (fun hr => by rw [isRoot_none (h 1 (by omega))] at hr; cases hr)]
theorem read_none {p : Pl} {s : St} (h : ∀ t, t < 2 → ∀ e n : Int, i64r e → i64r n → s.at_ (p.a + t) ≠ rootB e n) : p.read s = none := by
  unfold Pl.read
  rw [best_none h]; rfl

/-! a Write -/
def Pl.lay (p : Pl) (s : St) (e : Nat) (b : List UInt8) : St × Bool :=
  thenDo (thenDo (thenDo (s.put (p.image e : Nat) b) St.tryS) (fun t => t.tryW (p.root e) (rootB e b.length))) St.tryS
section
variable {p : Pl} {s s1 s2 s3 s4 t : St} {e k m : Nat} {b b' : List UInt8} {b1 b2 b3 b4 : Bool}
theorem rlay_1 (h1 : s.put (p.image e : Nat) b = (s1, false)) : p.lay s e b = (s1, false) := by simp [Pl.lay, thenDo, h1]
theorem rlay_2 (h1 : s.put (p.image e : Nat) b = (s1, true)) (h2 : s1.tryS = (s2, false)) : p.lay s e b = (s2, false) := by simp [Pl.lay, thenDo, h1, h2]
theorem rlay_3 (h1 : s.put (p.image e : Nat) b = (s1, true)) (h2 : s1.tryS = (s2, true)) (h3 : s2.tryW (p.root e) (rootB e b.length) = (s3, false)) : p.lay s e b = (s3, false) := by simp [Pl.lay, thenDo, h1, h2, h3]
theorem rlay_4 (h1 : s.put (p.image e : Nat) b = (s1, true)) (h2 : s1.tryS = (s2, true)) (h3 : s2.tryW (p.root e) (rootB e b.length) = (s3, true)) (h4 : s3.tryS = (s4, b4)) : p.lay s e b = (s4, b4) := by simp [Pl.lay, thenDo, h1, h2, h3, h4]
/-- an image, and its root, are on the disk, and all else is as it was -/
structure Wrote (p : Pl) (s : St) (e : Nat) (b : List UInt8) (t : St) : Prop where
  root : t.at_ (p.root e) = rootB e b.length
  body : ∀ j, j < need b.length → t.at_ (p.image e + j) = chunk b j
  rest : ∀ i, i ≠ p.root e → i < p.image e ∨ p.image e + need b.length ≤ i → t.at_ i = s.at_ i
/-- what a crash leaves of a write that failed -/
def CutW (p : Pl) (s : St) (e : Nat) (b : List UInt8) (t : St) : Prop := (∀ i, i < p.image e ∨ p.image e + need b.length ≤ i → t.at_ i = s.at_ i) ∨ Wrote p s e b t
theorem root_lt (p : Pl) (e : Nat) : p.root e < p.image e := by
  have := (image_le p e).1
  unfold Pl.root; omega
theorem rlay_all (hok : s.ok) (hs : s.l = []) (hf : p.image e + need b.length ≤ s.n) (h : p.lay s e b = (s4, b4)) :
    s4.ok ∧ s4.n = s.n ∧ s4.ends = s.ends ∧ (b4 = true → s4.l = [] ∧ Wrote p s e b s4) ∧ (b4 = false → ∀ k, CutW p s e b (s4.crash k)) ∧ (s.ends = false → b4 = true) := by
  have hrl := root_lt p e
  obtain ⟨s1, b1, h1⟩ : ∃ s1 b1, s.put (p.image e : Nat) b = (s1, b1) := ⟨_, _, rfl⟩
  have hk := put_keep hok (p.image e : Nat) b
  rw [h1] at hk
  have hok1 : s1.ok := hk.1
  have hn1 : s1.n = s.n := hk.2.1
  obtain ⟨a1, a2, a3, a4, a5⟩ := put_all hok hf h1
  have hrn : p.root e < s1.n := by omega
  have cut1 : ∀ k, CutW p s e b (s1.crash k) := fun k => .inl fun i hi => by
    rw [crash_at k (fun x hx => by
      rcases a3 x hx with hx | hx
      · rw [hs] at hx; cases hx
      · omega), a1, ← now_sure hs]; rfl
  cases b1
  · rw [rlay_1 h1] at h
    cases h
    exact ⟨hok1, hn1, a2, (fun h => by cases h), fun _ => cut1, a5⟩
  · obtain ⟨s2, b2, h2⟩ : ∃ s2 b2, s1.tryS = (s2, b2) := ⟨_, _, rfl⟩
    cases b2
    · rw [rlay_2 h1 h2] at h
      cases h
      obtain rfl := tryS_false h2
      refine ⟨hok1, hn1, a2, (fun h => by cases h), fun _ => cut1, fun he => ?_⟩
      rw [tryS_go (by rw [a2]; exact he)] at h2
      exact absurd (congrArg Prod.snd h2) (by simp)
    · obtain rfl := tryS_true h2
      have a6 := a4 rfl
      obtain ⟨s3, b3, h3⟩ : ∃ s3 b3, s1.sync.tryW (p.root e) (rootB e b.length) = (s3, b3) := ⟨_, _, rfl⟩
      have hrs : p.root e < s1.sync.n := by rw [St.n_sync]; exact hrn
      have far : ∀ i, i < p.image e ∨ p.image e + need b.length ≤ i → s1.at_ i = s.at_ i := fun i hi => by rw [a6, if_neg (by omega)]
      cases b3
      · rw [rlay_3 h1 h2 h3] at h
        cases h
        obtain rfl := tryW_false h3
        refine ⟨hok1.sync, by rw [St.n_sync]; exact hn1, a2, (fun h => by cases h), fun _ k => .inl fun i hi => ?_, fun he => ?_⟩
        · rw [crash_at k (fun x hx => by cases hx), sync_sure]
          exact far i hi
        · rw [tryW_go (show s1.sync.ends = false by exact a2.trans he)] at h3
          exact absurd (congrArg Prod.snd h3) (by simp)
      · obtain rfl := tryW_true h3
        obtain ⟨s5, b5, h5⟩ : ∃ s5 b5, (s1.sync.wr (p.root e) (rootB e b.length)).tryS = (s5, b5) := ⟨_, _, rfl⟩
        rw [rlay_4 h1 h2 h3 h5] at h
        have hok3 := hok1.sync.wr hrs (rootB_length e b.length)
        have hd : Wrote p s e b (s1.sync.wr (p.root e) (rootB e b.length)) := by
          refine ⟨by rw [wr_at hrs, if_pos rfl], fun j hj => ?_, fun i hi hi2 => ?_⟩
          · rw [wr_at hrs, if_neg (by omega)]
            show s1.at_ _ = _
            rw [a6, if_pos (by omega)]
            congr 1; omega
          · rw [wr_at hrs, if_neg hi]
            exact far i hi2
        cases b5
        · cases h
          obtain rfl := tryS_false h5
          refine ⟨hok3, (St.n_sync s1).trans hn1, a2, (fun h => by cases h), fun _ k => ?_, fun he => ?_⟩
          · have ec : ((s1.sync.wr (p.root e) (rootB e b.length)).crash k).now = if k 0 then s1.now.set (p.root e) (rootB e b.length) else s1.now := by
              rw [St.crash_now]; rfl
            cases hk : k 0
            · rw [hk] at ec
              left
              intro i hi
              unfold St.at_
              rw [ec]
              exact far i hi
            · rw [hk] at ec
              right
              have e2 : ((s1.sync.wr (p.root e) (rootB e b.length)).crash k).now = (s1.sync.wr (p.root e) (rootB e b.length)).now := by
                rw [ec, St.wr_now]; rfl
              have e3 : ∀ i, ((s1.sync.wr (p.root e) (rootB e b.length)).crash k).at_ i = (s1.sync.wr (p.root e) (rootB e b.length)).at_ i := fun i => by unfold St.at_; rw [e2]
              exact ⟨by rw [e3]; exact hd.root, fun j hj => by rw [e3]; exact hd.body j hj, fun i hi hi2 => by rw [e3]; exact hd.rest i hi hi2⟩
          · rw [tryS_go (show (s1.sync.wr (p.root e) (rootB e b.length)).ends = false by exact a2.trans he)] at h5
            exact absurd (congrArg Prod.snd h5) (by simp)
        · cases h
          obtain rfl := tryS_true h5
          exact ⟨hok3.sync, (St.n_sync _).trans ((St.n_sync s1).trans hn1), a2, fun _ => ⟨rfl, ⟨hd.root, hd.body, hd.rest⟩⟩, (fun h => by cases h), fun _ => rfl⟩
theorem rlay_lim (h : s.lim m) (hok : s.ok) (hl : p.lay s e b = (s4, b4)) : s4.lim (m + (need b.length + 1)) := by
  obtain ⟨s1, b1, h1⟩ : ∃ s1 b1, s.put (p.image e : Nat) b = (s1, b1) := ⟨_, _, rfl⟩
  obtain ⟨l1, _, _⟩ := put_lim h hok h1
  cases b1
  · rw [rlay_1 h1] at hl
    cases hl
    exact lim_mono l1 (by omega)
  · obtain ⟨s2, b2, h2⟩ : ∃ s2 b2, s1.tryS = (s2, b2) := ⟨_, _, rfl⟩
    have l2 := (tryS_lim l1 h2).1
    cases b2
    · rw [rlay_2 h1 h2] at hl
      cases hl
      exact lim_mono l2 (by omega)
    · obtain ⟨s3, b3, h3⟩ : ∃ s3 b3, s2.tryW (p.root e) (rootB e b.length) = (s3, b3) := ⟨_, _, rfl⟩
      have l3 := (tryW_lim l2 h3).1
      cases b3
      · rw [rlay_3 h1 h2 h3] at hl
        cases hl
        exact lim_mono l3 (by omega)
      · obtain ⟨s5, b5, h5⟩ : ∃ s5 b5, s3.tryS = (s5, b5) := ⟨_, _, rfl⟩
        rw [rlay_4 h1 h2 h3 h5] at hl
        cases hl
        exact lim_mono (tryS_lim l3 h5).1 (by omega)
end
end Go.Proofs.Yteilbaabnhogbaa
