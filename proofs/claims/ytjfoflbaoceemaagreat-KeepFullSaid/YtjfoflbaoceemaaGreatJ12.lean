/- . . . . -/
import Derived.Test.YtjfoflbaoceemaaGreatJ02
import Derived.Laws.BitsLemmas
import Derived.Test.YtjfoflbaoceemaaGreatJ07
import Derived.Test.YtjfoflbaoceemaaGreatJ08
import Derived.BigQuiet
import Derived.Deep.QuietTactic
set_option maxRecDepth 4000
namespace Go.Proofs.YtjfoflbaoceemaaGreat
def rootT : List UInt8 := [114, 111, 111, 116]
def rootB (e n : Int) : List UInt8 := encText rootT ++ (encInt e ++ (encInt n ++ zeros 42))
theorem rootB_length (e n : Int) : (rootB e n).length = 64 := by
  simp only [rootB, List.length_append, encInt_len, encText_len, zeros_length]; rfl
theorem rootB_written (e n : Int) : encText rootT ++ encInt e ++ encInt n ++ zeros 42 = rootB e n := by simp [rootB]
def toldE (xs : List UInt8) : Int := (⟨xs, false⟩ : Rd).text.2.int.1
def toldN (xs : List UInt8) : Int := (⟨xs, false⟩ : Rd).text.2.int.2.int.1
theorem toldE_range (xs : List UInt8) : i64r (toldE xs) := i64of_range _
theorem toldN_range (xs : List UInt8) : i64r (toldN xs) := i64of_range _
theorem toldE_root {e n : Int} (h : i64r e) : toldE (rootB e n) = e := by
  unfold toldE rootB
  rw [text_front]
  simp only
  rw [int_front e _ h.1 h.2]
theorem toldN_root {e n : Int} (h : i64r n) : toldN (rootB e n) = n := by
  unfold toldN rootB
  rw [text_front]
  simp only
  rw [int_front2, int_front n _ h.1 h.2]
theorem rootB_zero {e n : Int} : rootB e n ≠ zeros 64 := fun h => by
  have := congrArg (fun xs => xs[0]?) h
  simp [rootB, encText, rootT, leN, zeros] at this

structure Pl where
  a : Nat
  ar : Nat
def Pl.root (p : Pl) (e : Nat) : Nat := p.a + e % 2
def Pl.image (p : Pl) (e : Nat) : Nat := p.a + 2 + e % 2 * p.ar
def Pl.fits (p : Pl) (n : Int) : Bool := decide (0 ≤ n) && decide (n ≤ ((p.ar * 64 : Nat) : Int))
def Pl.there (p : Pl) (s : Dk) (e n : Nat) : Bool := decide (p.image e + max (need n) 1 ≤ s.n)
def Pl.isRoot (p : Pl) (s : Dk) (t : Nat) : Bool :=
  decide (0 < toldE (s.at_ (p.a + t))) && (decide ((toldE (s.at_ (p.a + t))).toNat % 2 = t) && (p.fits (toldN (s.at_ (p.a + t))) && (p.there s (toldE (s.at_ (p.a + t))).toNat (toldN (s.at_ (p.a + t))).toNat && decide (s.at_ (p.a + t) = rootB (toldE (s.at_ (p.a + t))) (toldN (s.at_ (p.a + t)))))))
def Pl.pick (p : Pl) (s : Dk) (t : Nat) (r : Int × Int) : Int × Int :=
  if p.isRoot s t && decide (r.1 < toldE (s.at_ (p.a + t))) then (toldE (s.at_ (p.a + t)), toldN (s.at_ (p.a + t))) else r
def Pl.best (p : Pl) (s : Dk) : Int × Int := p.pick s 1 (p.pick s 0 (0, 0))
def Pl.read (p : Pl) (s : Dk) : Option (Int × List UInt8) :=
  if (p.best s).1 = 0 then none else some ((p.best s).1, s.get (p.image (p.best s).1.toNat) (p.best s).2)
theorem pl_fits_iff {p : Pl} {n : Int} : p.fits n = true ↔ 0 ≤ n ∧ n ≤ ((p.ar * 64 : Nat) : Int) := by simp [Pl.fits]
theorem pick_at (p : Pl) (s : Dk) (t : Nat) (r : Int × Int) : p.pick s t r = r ∨ (p.isRoot s t = true ∧ p.pick s t r = (toldE (s.at_ (p.a + t)), toldN (s.at_ (p.a + t)))) := by
  unfold Pl.pick
  split
  · rename_i h
    exact .inr ⟨by simp at h; exact h.1, rfl⟩
  · exact .inl rfl
theorem isRoot_eq {p : Pl} {s : Dk} {t : Nat} (h : p.isRoot s t = true) : 0 < toldE (s.at_ (p.a + t)) ∧ (toldE (s.at_ (p.a + t))).toNat % 2 = t ∧ p.fits (toldN (s.at_ (p.a + t))) = true ∧ p.there s (toldE (s.at_ (p.a + t))).toNat (toldN (s.at_ (p.a + t))).toNat = true ∧ s.at_ (p.a + t) = rootB (toldE (s.at_ (p.a + t))) (toldN (s.at_ (p.a + t))) := by
  simp only [Pl.isRoot, Bool.and_eq_true, decide_eq_true_eq] at h
  exact h
theorem pick_no {p : Pl} {s : Dk} {t : Nat} {r : Int × Int} (h : p.isRoot s t = true → toldE (s.at_ (p.a + t)) ≤ r.1) : p.pick s t r = r := by
  unfold Pl.pick
  rw [if_neg]
  intro h'
  simp only [Bool.and_eq_true, decide_eq_true_eq] at h'
  have := h h'.1
  omega
theorem pick_yes {p : Pl} {s : Dk} {t : Nat} {r : Int × Int} (h : p.isRoot s t = true) (h2 : r.1 < toldE (s.at_ (p.a + t))) : p.pick s t r = (toldE (s.at_ (p.a + t)), toldN (s.at_ (p.a + t))) := by
  unfold Pl.pick
  rw [if_pos (by rw [h, decide_eq_true h2]; rfl)]
theorem best_range (p : Pl) (s : Dk) (har : p.ar ≤ 1000) : 0 ≤ (p.best s).1 ∧ (p.best s).1 ≤ 9223372036854775807 ∧ 0 ≤ (p.best s).2 ∧ (p.best s).2 ≤ 64000 := by
  have key : ∀ t (r : Int × Int), (0 ≤ r.1 ∧ r.1 ≤ 9223372036854775807 ∧ 0 ≤ r.2 ∧ r.2 ≤ 64000) → (0 ≤ (p.pick s t r).1 ∧ (p.pick s t r).1 ≤ 9223372036854775807 ∧ 0 ≤ (p.pick s t r).2 ∧ (p.pick s t r).2 ≤ 64000) := fun t r hr => by
    rcases pick_at p s t r with e | ⟨h, e⟩
    · rw [e]; exact hr
    · rw [e]
      obtain ⟨h1, _, h3, _, _⟩ := isRoot_eq h
      have h4 := pl_fits_iff.1 h3
      have h5 := (toldE_range (s.at_ (p.a + t))).2
      simp only
      omega
  exact key 1 _ (key 0 _ ⟨by simp, by simp, by simp, by simp⟩)

/-! an image that lies on the disk -/
structure Img (p : Pl) (s : Dk) (k : Nat) (b : List UInt8) : Prop where
  root : s.at_ (p.root k) = rootB k b.length
  body : ∀ j, j < need b.length → s.at_ (p.image k + j) = chunk b j
def Eld (p : Pl) (s : Dk) (k : Nat) : Prop := ∀ e n : Int, i64r e → i64r n → s.at_ (p.root (k + 1)) = rootB e n → e < k
structure Pl.on (p : Pl) (s : Dk) : Prop where
  n : p.a + 2 + 2 * p.ar ≤ s.n
  many : s.n ≤ 4096
  lo : 1 ≤ p.ar
  hi : p.ar ≤ 1000
theorem isRoot_none {p : Pl} {s : Dk} {t : Nat} (h : ∀ e n : Int, i64r e → i64r n → s.at_ (p.a + t) ≠ rootB e n) : p.isRoot s t = false := by
  cases hr : p.isRoot s t
  · rfl
  · exact absurd (isRoot_eq hr).2.2.2.2 (h _ _ (toldE_range _) (toldN_range _))
theorem need_area {n ar : Nat} (h : n ≤ ar * 64) : need n ≤ ar := by unfold need; omega
theorem rimage_le (p : Pl) (k : Nat) : p.a + 2 ≤ p.image k ∧ p.image k ≤ p.a + 2 + p.ar := by
  have h : k % 2 = 0 ∨ k % 2 = 1 := by omega
  unfold Pl.image
  rcases h with h | h <;> rw [h] <;> omega
theorem isRoot_img {p : Pl} {s : Dk} {k : Nat} {b : List UInt8} (hk : 1 ≤ k) (hk2 : k ≤ 9223372036854775807) (h : Img p s k b) (hb : b.length ≤ p.ar * 64) (hp : p.on s) : p.isRoot s (k % 2) = true ∧ toldE (s.at_ (p.a + k % 2)) = k ∧ toldN (s.at_ (p.a + k % 2)) = b.length := by
  have hm := hp.many
  have hn := hp.n
  have hl := hp.lo
  have hh := hp.hi
  have e : s.at_ (p.a + k % 2) = rootB k b.length := h.root
  have h1 : toldE (s.at_ (p.a + k % 2)) = k := by rw [e]; exact toldE_root ⟨by omega, by omega⟩
  have h2 : toldN (s.at_ (p.a + k % 2)) = b.length := by rw [e]; exact toldN_root ⟨by omega, by omega⟩
  refine ⟨?_, h1, h2⟩
  have hna := need_area hb
  have hi := (rimage_le p k).2
  simp only [Pl.isRoot, Bool.and_eq_true, decide_eq_true_eq]
  rw [h1, h2]
  refine ⟨by omega, by omega, pl_fits_iff.2 ⟨by omega, by omega⟩, ?_, e⟩
  simp only [Pl.there, decide_eq_true_eq, Int.toNat_natCast]
  omega
theorem best_img {p : Pl} {s : Dk} {k : Nat} {b : List UInt8} (hk : 1 ≤ k) (hk2 : k ≤ 9223372036854775807) (h : Img p s k b) (he : Eld p s k) (hb : b.length ≤ p.ar * 64) (hp : p.on s) : p.best s = ((k : Int), (b.length : Int)) := by
  obtain ⟨h1, h2, h3⟩ := isRoot_img hk hk2 h hb hp
  have hoth : ∀ t, t = (k + 1) % 2 → p.isRoot s t = true → toldE (s.at_ (p.a + t)) < k := fun t ht hr => by
    subst ht
    exact he _ _ (toldE_range _) (toldN_range _) (isRoot_eq hr).2.2.2.2
  unfold Pl.best
  rcases (by omega : k % 2 = 0 ∨ k % 2 = 1) with hm | hm
  · rw [hm] at h1 h2 h3
    rw [pick_yes (r := (0, 0)) h1 (by rw [h2]; simp; omega), h2, h3, pick_no]
    intro hr
    have := hoth 1 (by omega) hr
    simp only
    omega
  · rw [hm] at h1 h2 h3
    rw [pick_yes h1, h2, h3]
    rw [h2]
    rcases pick_at p s 0 (0, 0) with e | ⟨hr, e⟩
    · rw [e]; simp; omega
    · rw [e]
      exact hoth 0 (by omega) hr
theorem read_img {p : Pl} {s : Dk} {k : Nat} {b : List UInt8} (hk : 1 ≤ k) (hk2 : k ≤ 9223372036854775807) (h : Img p s k b) (he : Eld p s k) (hb : b.length ≤ p.ar * 64) (hp : p.on s) : p.read s = some ((k : Int), b) := by
  have hm := hp.many
  have hn := hp.n
  have hh := hp.hi
  have hi := (rimage_le p k).2
  have hna := need_area hb
  unfold Pl.read
  rw [best_img hk hk2 h he hb hp]
  simp only
  rw [if_neg (by omega), Int.toNat_natCast, get_put (by omega) (by omega) h.body]
theorem best_none {p : Pl} {s : Dk} (h : ∀ t, t < 2 → ∀ e n : Int, i64r e → i64r n → s.at_ (p.a + t) ≠ rootB e n) : p.best s = (0, 0) := by
  unfold Pl.best
  rw [pick_no (t := 0) (fun hr => by rw [isRoot_none (h 0 (by omega))] at hr; cases hr), pick_no (t := 1) (fun hr => by rw [isRoot_none (h 1 (by omega))] at hr; cases hr)]
theorem read_none {p : Pl} {s : Dk} (h : ∀ t, t < 2 → ∀ e n : Int, i64r e → i64r n → s.at_ (p.a + t) ≠ rootB e n) : p.read s = none := by
  unfold Pl.read
  rw [best_none h]; rfl

/-! a Write -/
def Pl.lay (p : Pl) (s : Dk) (e : Nat) (b : List UInt8) : Dk × Bool :=
  thenDo (thenDo (thenDo (s.put (p.image e : Nat) b) Dk.tryS) (fun t => t.tryW (p.root e) (rootB e b.length))) Dk.tryS
section
variable {p : Pl} {s s1 s2 s3 s4 t : Dk} {e k m : Nat} {b b' : List UInt8} {b1 b2 b3 b4 : Bool}
theorem rlay_1 (h1 : s.put (p.image e : Nat) b = (s1, false)) : p.lay s e b = (s1, false) := by simp [Pl.lay, thenDo, h1]
theorem rlay_2 (h1 : s.put (p.image e : Nat) b = (s1, true)) (h2 : s1.tryS = (s2, false)) : p.lay s e b = (s2, false) := by simp [Pl.lay, thenDo, h1, h2]
theorem rlay_3 (h1 : s.put (p.image e : Nat) b = (s1, true)) (h2 : s1.tryS = (s2, true)) (h3 : s2.tryW (p.root e) (rootB e b.length) = (s3, false)) : p.lay s e b = (s3, false) := by simp [Pl.lay, thenDo, h1, h2, h3]
theorem rlay_4 (h1 : s.put (p.image e : Nat) b = (s1, true)) (h2 : s1.tryS = (s2, true)) (h3 : s2.tryW (p.root e) (rootB e b.length) = (s3, true)) (h4 : s3.tryS = (s4, b4)) : p.lay s e b = (s4, b4) := by simp [Pl.lay, thenDo, h1, h2, h3, h4]
structure Wrote (p : Pl) (s : Dk) (e : Nat) (b : List UInt8) (t : Dk) : Prop where
  root : t.at_ (p.root e) = rootB e b.length
  body : ∀ j, j < need b.length → t.at_ (p.image e + j) = chunk b j
  rest : ∀ i, i ≠ p.root e → i < p.image e ∨ p.image e + need b.length ≤ i → t.at_ i = s.at_ i
def CutW (p : Pl) (s : Dk) (e : Nat) (b : List UInt8) (t : Dk) : Prop := (∀ i, i < p.image e ∨ p.image e + need b.length ≤ i → t.at_ i = s.at_ i) ∨ Wrote p s e b t
theorem root_lt (p : Pl) (e : Nat) : p.root e < p.image e := by
  have := (rimage_le p e).1
  unfold Pl.root; omega
theorem rlay_all (hok : s.ok) (hs : s.l = []) (hf : p.image e + need b.length ≤ s.n) (h : p.lay s e b = (s4, b4)) :
    s4.ok ∧ s4.n = s.n ∧ s4.ends = s.ends ∧ (b4 = true → s4.l = [] ∧ Wrote p s e b s4) ∧ (b4 = false → ∀ k, CutW p s e b (s4.crash k)) ∧ (s.ends = false → b4 = true) := by
  have hrl := root_lt p e
  obtain ⟨s1, b1, h1⟩ : ∃ s1 b1, s.put (p.image e : Nat) b = (s1, b1) := ⟨_, _, rfl⟩
  have hk := put_keep hok (p.image e : Nat) b
  rw [h1] at hk
  have hok1 : s1.ok := hk.1
  have hn1 : s1.n = s.n := hk.2.1
  obtain ⟨a1, a2, a3, a4, a5⟩ := put_all hok hf h1
  have hrn : p.root e < s1.n := by omega
  have cut1 : ∀ k, CutW p s e b (s1.crash k) := fun k => .inl fun i hi => by
    rw [crash_at k (fun x hx => by
      rcases a3 x hx with hx | hx
      · rw [hs] at hx; cases hx
      · omega), a1, ← now_sure hs]; rfl
  cases b1
  · rw [rlay_1 h1] at h
    cases h
    exact ⟨hok1, hn1, a2, (fun h => by cases h), fun _ => cut1, a5⟩
  · obtain ⟨s2, b2, h2⟩ : ∃ s2 b2, s1.tryS = (s2, b2) := ⟨_, _, rfl⟩
    cases b2
    · rw [rlay_2 h1 h2] at h
      cases h
      obtain rfl := tryS_false h2
      refine ⟨hok1, hn1, a2, (fun h => by cases h), fun _ => cut1, fun he => ?_⟩
      rw [tryS_go (by rw [a2]; exact he)] at h2
      exact absurd (congrArg Prod.snd h2) (by simp)
    · obtain rfl := tryS_true h2
      have a6 := a4 rfl
      obtain ⟨s3, b3, h3⟩ : ∃ s3 b3, s1.sync.tryW (p.root e) (rootB e b.length) = (s3, b3) := ⟨_, _, rfl⟩
      have hrs : p.root e < s1.sync.n := by rw [Dk.n_sync]; exact hrn
      have far : ∀ i, i < p.image e ∨ p.image e + need b.length ≤ i → s1.at_ i = s.at_ i := fun i hi => by rw [a6, if_neg (by omega)]
      cases b3
      · rw [rlay_3 h1 h2 h3] at h
        cases h
        obtain rfl := tryW_false h3
        refine ⟨hok1.sync, by rw [Dk.n_sync]; exact hn1, a2, (fun h => by cases h), fun _ k => .inl fun i hi => ?_, fun he => ?_⟩
        · rw [crash_at k (fun x hx => by cases hx), sync_sure]
          exact far i hi
        · rw [tryW_go (show s1.sync.ends = false by exact a2.trans he)] at h3
          exact absurd (congrArg Prod.snd h3) (by simp)
      · obtain rfl := tryW_true h3
        obtain ⟨s5, b5, h5⟩ : ∃ s5 b5, (s1.sync.wr (p.root e) (rootB e b.length)).tryS = (s5, b5) := ⟨_, _, rfl⟩
        rw [rlay_4 h1 h2 h3 h5] at h
        have hok3 := hok1.sync.wr hrs (rootB_length e b.length)
        have hd : Wrote p s e b (s1.sync.wr (p.root e) (rootB e b.length)) := by
          refine ⟨by rw [wr_at hrs, if_pos rfl], fun j hj => ?_, fun i hi hi2 => ?_⟩
          · rw [wr_at hrs, if_neg (by omega)]
            show s1.at_ _ = _
            rw [a6, if_pos (by omega)]
            congr 1; omega
          · rw [wr_at hrs, if_neg hi]
            exact far i hi2
        cases b5
        · cases h
          obtain rfl := tryS_false h5
          refine ⟨hok3, (Dk.n_sync s1).trans hn1, a2, (fun h => by cases h), fun _ k => ?_, fun he => ?_⟩
          · have ec : ((s1.sync.wr (p.root e) (rootB e b.length)).crash k).now = if k 0 then s1.now.set (p.root e) (rootB e b.length) else s1.now := by
              rw [Dk.crash_now]; rfl
            cases hk : k 0
            · rw [hk] at ec
              left
              intro i hi
              unfold Dk.at_
              rw [ec]
              exact far i hi
            · rw [hk] at ec
              right
              have e2 : ((s1.sync.wr (p.root e) (rootB e b.length)).crash k).now = (s1.sync.wr (p.root e) (rootB e b.length)).now := by
                rw [ec, Dk.wr_now]; rfl
              have e3 : ∀ i, ((s1.sync.wr (p.root e) (rootB e b.length)).crash k).at_ i = (s1.sync.wr (p.root e) (rootB e b.length)).at_ i := fun i => by unfold Dk.at_; rw [e2]
              exact ⟨by rw [e3]; exact hd.root, fun j hj => by rw [e3]; exact hd.body j hj, fun i hi hi2 => by rw [e3]; exact hd.rest i hi hi2⟩
          · rw [tryS_go (show (s1.sync.wr (p.root e) (rootB e b.length)).ends = false by exact a2.trans he)] at h5
            exact absurd (congrArg Prod.snd h5) (by simp)
        · cases h
          obtain rfl := tryS_true h5
          exact ⟨hok3.sync, (Dk.n_sync _).trans ((Dk.n_sync s1).trans hn1), a2, fun _ => ⟨rfl, ⟨hd.root, hd.body, hd.rest⟩⟩, (fun h => by cases h), fun _ => rfl⟩
theorem rlay_lim (h : s.lim m) (hok : s.ok) (hl : p.lay s e b = (s4, b4)) : s4.lim (m + (need b.length + 1)) := by
  obtain ⟨s1, b1, h1⟩ : ∃ s1 b1, s.put (p.image e : Nat) b = (s1, b1) := ⟨_, _, rfl⟩
  obtain ⟨l1, _, _⟩ := put_lim h hok h1
  cases b1
  · rw [rlay_1 h1] at hl
    cases hl
    exact lim_mono l1 (by omega)
  · obtain ⟨s2, b2, h2⟩ : ∃ s2 b2, s1.tryS = (s2, b2) := ⟨_, _, rfl⟩
    have l2 := (tryS_lim l1 h2).1
    cases b2
    · rw [rlay_2 h1 h2] at hl
      cases hl
      exact lim_mono l2 (by omega)
    · obtain ⟨s3, b3, h3⟩ : ∃ s3 b3, s2.tryW (p.root e) (rootB e b.length) = (s3, b3) := ⟨_, _, rfl⟩
      have l3 := (tryW_lim l2 h3).1
      cases b3
      · rw [rlay_3 h1 h2 h3] at hl
        cases hl
        exact lim_mono l3 (by omega)
      · obtain ⟨s5, b5, h5⟩ : ∃ s5 b5, s3.tryS = (s5, b5) := ⟨_, _, rfl⟩
        rw [rlay_4 h1 h2 h3 h5] at hl
        cases hl
        exact lim_mono (tryS_lim l3 h5).1 (by omega)
end
end Go.Proofs.YtjfoflbaoceemaaGreat
namespace Go.Proofs.YtjfoflbaoceemaaGreat
open Go
theorem low_bits (m : Nat) (c : Int) (n : Int) (hm : m ≤ 60) (hc : (BitVec.ofInt 64 c).toNat = 2 ^ m - 1) : bits .and .i64 n c = ((n % ((2 ^ 64 : Nat) : Int)).toNat % 2 ^ m : Nat) := by
  have key : (BitVec.ofInt 64 n &&& BitVec.ofInt 64 c).toNat = (n % ((2 ^ 64 : Nat) : Int)).toNat % 2 ^ m := by
    rw [BitVec.toNat_and, BitVec.toNat_ofInt, hc, Nat.and_two_pow_sub_one_eq_mod]
  show IntKind.i64.wrap ((BitVec.ofInt 64 n &&& BitVec.ofInt 64 c).toNat : Nat) = _
  rw [key, IntKind.wrap_i64]
  have h1 : (n % ((2 ^ 64 : Nat) : Int)).toNat % 2 ^ m < 2 ^ m := Nat.mod_lt _ (Nat.two_pow_pos m)
  have h2 : 2 ^ m ≤ 2 ^ 60 := Nat.pow_le_pow_right (by omega) hm
  omega
theorem and1 (n : Nat) : bits .and .i64 (n : Int) 1 = ((n % 2 : Nat) : Int) := by
  rw [low_bits 1 1 n (by omega) (by decide)]
  omega
end Go.Proofs.YtjfoflbaoceemaaGreat
namespace Go.Proofs.YtjfoflbaoceemaaGreat
open Go.RowKit
def cutR (n : Int) : Nat := (min (max n 1) 1000).toNat
theorem cutR_range (n : Int) : 1 ≤ cutR n ∧ cutR n ≤ 1000 := by unfold cutR; omega
theorem rcut_ (n : Int) (w : World) : Calls Tryz.prog 120 #[.int .i64 n] w fun e w' => e = .returned (.int .i64 (cutR n : Int)) ∧ w = w' := by
  have h1 : ∀ m : Int, m = min (max n 1) 1000 → (cutR n : Int) = m := fun m h => by unfold cutR; omega
  have H1 := Lib.hid h1
  clear h1
  rcases Int.lt_or_le n 1 with h0 | h0
  · rw [H1.out 1 (by omega)]
    go_enter Tryz.func120, Tryz.ntmps120
    go_wp2
    all_goals first | (go_ret; exact ⟨rfl, rfl⟩) | (exfalso; omega)
  · rcases Int.lt_or_le 1000 n with h2 | h2
    · rw [H1.out 1000 (by omega)]
      go_enter Tryz.func120, Tryz.ntmps120
      go_wp2
      all_goals first | (go_ret; exact ⟨rfl, rfl⟩) | (exfalso; omega)
    · rw [H1.out n (by omega)]
      go_enter Tryz.func120, Tryz.ntmps120
      go_wp2
      all_goals first | (go_ret; exact ⟨rfl, rfl⟩) | (go_ret; exact ⟨retU (by omega), rfl⟩) | (exfalso; omega)
theorem turn_ (e : Nat) (w : World) : Calls Tryz.prog 168 #[.int .i64 (e : Int)] w fun r w' => r = .returned (.int .i64 ((e % 2 : Nat) : Int)) ∧ w = w' := by
  have h := and1 e
  go_enter Tryz.func168, Tryz.ntmps168
  go_wp2
  go_ret
  exact ⟨retU (by omega), rfl⟩
theorem newPlaces_ (a : Nat) (ha : a ≤ 1048576) (n : Int) (w : World) : Calls Tryz.prog 121 #[.int .i64 (a : Int), .int .i64 n] w fun e w' => e = .returned (.agg #[.int .i64 (a : Int), .int .i64 (cutR n : Int)]) ∧ Below w.heap.size w w' := by
  have hc := (cutR_range n).2
  go_enter Tryz.func121, Tryz.ntmps121
  go_wp2_with (go_at_call 120; refine (rcut_ _ _).mono ?_; rintro e w' ⟨rfl, rfl⟩)
  refine bodyPost_ret (v := .agg #[.int .i64 (a : Int), .int .i64 (cutR n : Int)]) (by simp [results, Tryz.results121, go_sem]) rfl ⟨rfl, alloc_below _ _⟩
theorem rtfits_ (a ar : Nat) (har : ar ≤ 1000) (n : Int) (w : World) : Calls Tryz.prog 135 #[.agg #[.int .i64 (a : Int), .int .i64 (ar : Int)], .int .i64 n] w fun e w' => e = .returned (.bool ((⟨a, ar⟩ : Pl).fits n)) ∧ Below w.heap.size w w' := by
  have hf : (⟨a, ar⟩ : Pl).fits n = (decide (0 ≤ n) && decide (n ≤ ((ar * 64 : Nat) : Int))) := rfl
  rw [hf]
  clear hf
  rcases Int.lt_or_le n 0 with h0 | h0
  · rw [decide_eq_false (by omega : ¬ 0 ≤ n)]
    go_enter Tryz.func135, Tryz.ntmps135
    go_wp2
    go_ret
    exact ⟨rfl, alloc_below _ _⟩
  · rw [decide_eq_true h0]
    go_enter Tryz.func135, Tryz.ntmps135
    go_wp2
    go_ret
    exact ⟨retBd (by simp), alloc_below _ _⟩
theorem root_ (a ar e : Nat) (ha : a ≤ 1048576) (w : World) : Calls Tryz.prog 166 #[.agg #[.int .i64 (a : Int), .int .i64 (ar : Int)], .int .i64 (e : Int)] w fun r w' => r = .returned (.int .i64 (((⟨a, ar⟩ : Pl).root e : Nat) : Int)) ∧ Below w.heap.size w w' := by
  have hr : (((⟨a, ar⟩ : Pl).root e : Nat) : Int) = (a : Int) + ((e % 2 : Nat) : Int) := by simp [Pl.root]
  rw [hr]
  clear hr
  go_enter Tryz.func166, Tryz.ntmps166
  go_wp2_with fail
  go_quiet ((go_at_call 168; exact Calls.quiet_of_same ((turn_ _ _).mono fun _ _ h => ⟨h.1, h.2.symm⟩)))
  go_wp2
  go_ret
  exact ⟨retU (by omega), (below_drewN (alloc_below _ _) _)⟩
theorem image_num {a ar e : Nat} (ha : a ≤ 1048576) (har : ar ≤ 1000) : wrap64 ((a : Int) + 2 + wrap64 ((e : Int) % 2 * (ar : Int))) = (a : Int) + 2 + ((e % 2 : Nat) : Int) * (ar : Int) := by
  rcases (by omega : e % 2 = 0 ∨ e % 2 = 1) with h | h
  · rw [show (e : Int) % 2 = 0 by omega, h]; unfold wrap64; omega
  · rw [show (e : Int) % 2 = 1 by omega, h]; unfold wrap64; omega
theorem image_ (a ar e : Nat) (ha : a ≤ 1048576) (har : ar ≤ 1000) (w : World) : Calls Tryz.prog 124 #[.agg #[.int .i64 (a : Int), .int .i64 (ar : Int)], .int .i64 (e : Int)] w fun r w' => r = .returned (.int .i64 (((⟨a, ar⟩ : Pl).image e : Nat) : Int)) ∧ Below w.heap.size w w' := by
  have hr : (((⟨a, ar⟩ : Pl).image e : Nat) : Int) = (a : Int) + 2 + ((e % 2 : Nat) : Int) * (ar : Int) := by unfold Pl.image; simp
  rw [hr]
  clear hr
  go_enter Tryz.func124, Tryz.ntmps124
  go_wp2_with fail
  go_quiet ((go_at_call 168; exact Calls.quiet_of_same ((turn_ _ _).mono fun _ _ h => ⟨h.1, h.2.symm⟩)))
  go_wp2
  go_ret
  exact ⟨retU (image_num ha har), (below_drewN (alloc_below _ _) _)⟩
theorem rneed_ (n : Int) (w : World) : Calls Tryz.prog 67 #[.int .i64 n] w fun e w' => e = .returned (.int .i64 ((2 + 2 * cutR n : Nat) : Int)) ∧ w = w' := by
  have hc := (cutR_range n).2
  go_enter Tryz.func67, Tryz.ntmps67
  go_wp2_with (go_at_call 120; refine (rcut_ _ _).mono ?_; rintro e w' ⟨rfl, rfl⟩)
  go_ret
  exact ⟨retU (by omega), rfl⟩
theorem rtthere_ {w : World} {gd : Nat} {R : Nat → Prop} {s : Dk} (h : DiskR w gd R s) (a ar e n : Nat) (ha : a ≤ 1048576) (har : ar ≤ 1000) (hn : n ≤ 64000) : Calls Tryz.prog 169 #[.agg #[.int .i64 (a : Int), .int .i64 (ar : Int)], ptr gd, .int .i64 (e : Int), .int .i64 (n : Int)] w fun r w' => r = .returned (.bool ((⟨a, ar⟩ : Pl).there s e n)) ∧ Below w.heap.size w w' := by
  have hq : ∃ q, (⟨a, ar⟩ : Pl).image e = q ∧ q ≤ 1050000 := ⟨_, rfl, by have := (rimage_le ⟨a, ar⟩ e).2; simp only at this; omega⟩
  obtain ⟨q, hq, hq2⟩ := hq
  have him := fun w => image_ a ar e ha har w
  have hth : (⟨a, ar⟩ : Pl).there s e n = decide (q + max (need n) 1 ≤ s.n) := by rw [← hq]; rfl
  rw [hth]
  rw [hq] at him
  have hnd : need n ≤ 1000 := by unfold need; omega
  have H := Lib.hid h
  have HIM := Lib.hid him
  clear h him hth hq
  go_enter Tryz.func169, Tryz.ntmps169
  go_wp2_with fail
  refine (HIM.out _).mono ?_
  rintro r w1 ⟨rfl, hb1⟩
  have HB1 := Lib.hid ((alloc_below w (.cells #[.int .i64 (a : Int), .int .i64 (ar : Int)] 175)).trans (hb1.mono (by simp)))
  clear hb1
  go_wp2_with (first | (go_at_call 172; refine (need_of (m := n) (by omega) (by omega) _).mono ?_; rintro e w' ⟨rfl, rfl⟩) | (go_at_call 40; refine (d_len (H.out.below HB1.out)).mono ?_; rintro e w' ⟨rfl, rfl⟩))
  all_goals go_ret
  all_goals exact ⟨retBd (by rw [Bool.eq_iff_iff]; simp; omega), HB1.out⟩
end Go.Proofs.YtjfoflbaoceemaaGreat
namespace Go.Proofs.YtjfoflbaoceemaaGreat
open Go.RowKit
theorem told_ {w : World} {K : Nat → Prop} {A : Option Addr} {n c : Nat} {xs : List UInt8} (h : Has w K A xs) (hl : xs.length = n) (hn : n ≤ 1000000) (hA : A = none → c = 0) :
    Calls Tryz.prog 167 #[.slice A n c] w fun e w' => e = .returned (.tuple #[.int .i64 (toldE xs), .int .i64 (toldN xs)]) ∧ Below w.heap.size w w' := by
  have hr := has_rb h hl
  clear h
  go_enter Tryz.func167, Tryz.ntmps167
  go_wp2_with fail
  refine (newReader w A n c xs hr hn hA).mono ?_
  rintro e w1 ⟨q, rfl, hq, hR1, hb1⟩
  have HR1 := Lib.hid hR1
  have HB1 := Lib.hid hb1
  clear hR1 hb1 hr
  go_wp2_with fail
  refine (rdText w1 q q _ HR1.out).mono ?_
  rintro e w2 ⟨rfl, hR2, hk2⟩
  have HR2 := Lib.hid hR2
  have HB2 := Lib.hid (but_below HB1.out hk2 hq)
  clear hR2 hk2
  go_wp2_with fail
  refine (rdInt w2 q q _ HR2.out).mono ?_
  rintro e w3 ⟨rfl, hR3, hk3⟩
  have HR3 := Lib.hid hR3
  have HB3 := Lib.hid (but_below HB2.out hk3 hq)
  clear hR3 hk3
  go_wp2_with fail
  refine (rdInt w3 q q _ HR3.out).mono ?_
  rintro e w4 ⟨rfl, _, hk4⟩
  have HB4 := Lib.hid (but_below HB3.out hk4 hq)
  clear hk4
  go_wp2
  go_ret2
  exact ⟨rfl, HB4.out⟩
theorem root_blk {W : World} {b : Nat} {ys : List UInt8} (h : Blk W b 5 (cellsB (zeros 64)).toArray) (hy : ys.length = 22) : Blk (W.setCells b 0 (cellsB ys)) b 5 (cellsB (ys ++ zeros 42)).toArray := by
  have := blk_setCells (g := b) (t := 5) (cellsB ys) [] (cellsB (zeros 22)) (cellsB (zeros 42)) W (by rw [cellsB_length, cellsB_length, zeros_length, hy]) (by
    rw [List.nil_append, ← cellsB_append]
    have e : zeros 22 ++ zeros 42 = zeros 64 := by unfold zeros; rw [List.replicate_append_replicate]
    rw [e]; exact h)
  rw [List.nil_append, ← cellsB_append] at this
  exact this
theorem rootBytes_ {e n : Int} (he : i64r e) (hn : i64r n) (w : World) :
    Calls Tryz.prog 171 #[.int .i64 e, .int .i64 n] w fun r w' => ∃ b, r = .returned (.slice (some ⟨b, 0, none⟩) 64 64) ∧ w.heap.size ≤ b ∧ Blk w' b 5 (cellsB (rootB e n)).toArray ∧ Below w.heap.size w w' := by
  have hmk := fun W => make64 W
  have hw0 : WriterAt (w.alloc (.cells #[.pointer none, .int .i64 0] 151)) w.heap.size [] := ⟨[], .pointer none, Blk.new w _ _, rfl, rfl⟩
  have HW0 := Lib.hid hw0
  have HB0 := Lib.hid (alloc_below w (.cells #[.pointer none, .int .i64 0] 151))
  clear hw0
  obtain ⟨hn1, hn2⟩ := hn
  obtain ⟨he1, he2⟩ := he
  go_enter Tryz.func171, Tryz.ntmps171
  go_wp2_with fail
  refine (wText _ _ _ ⟨#[114, 111, 111, 116]⟩ HW0.out (by simp) (by decide)).mono ?_
  rintro r w1 ⟨rfl, hw1, hk1⟩
  have HW1 := Lib.hid hw1
  have HB1 := Lib.hid (but_below HB0.out hk1 (Nat.le_refl _))
  clear hw1 hk1
  go_wp2_with fail
  refine (wInt _ _ _ e HW1.out (by decide)).mono ?_
  rintro r w2 ⟨rfl, hw2, hk2⟩
  have HW2 := Lib.hid hw2
  have HB2 := Lib.hid (but_below HB1.out hk2 (Nat.le_refl _))
  clear hw2 hk2
  go_wp2_with fail
  refine (wInt _ _ _ n HW2.out (by simp [encText_len, encInt_len])).mono ?_
  rintro r w4 ⟨rfl, hw4, hk4⟩
  have HW4 := Lib.hid hw4
  have HB4 := Lib.hid (but_below HB2.out hk4 (Nat.le_refl _))
  have HS4 := Lib.hid (Blk.new w4 5 (cellsB (zeros 64)).toArray)
  clear hw4 hk4
  go_wp2_with fail
  refine (wBytes _ _ _ (writer_below HW4.out (alloc_below w4 (.cells (cellsB (zeros 64)).toArray 5))) (by simp [encText_len, encInt_len])).mono ?_
  rintro r w5 ⟨rfl, hb5, hbel5⟩
  have hq : ([] ++ encText (ByteArray.mk #[114, 111, 111, 116]).data.toList ++ encInt e ++ encInt n).length = 22 := by simp [encText_len, encInt_len]
  have hz : [] ++ encText (ByteArray.mk #[114, 111, 111, 116]).data.toList ++ encInt e ++ encInt n ++ zeros 42 = rootB e n := by rw [List.nil_append]; exact rootB_written _ _
  generalize [] ++ encText (ByteArray.mk #[114, 111, 111, 116]).data.toList ++ encInt e ++ encInt n = ys at *
  have HE := Lib.hid hz
  have HQ := Lib.hid hq
  have hs5 := HS4.out.below hbel5 (by simp)
  have ht := blk_there hs5
  rw [cellsB_length, zeros_length] at ht
  have hcp := copy_some (W := w5) (b := w4.heap.size) (o := 0) (n := 64) (dc := 64) (m := ys.length) (c := ys.length) (a := ⟨(w4.alloc (.cells (cellsB (zeros 64)).toArray 5)).heap.size, 0, none⟩) (xs := ys) (ys := ys) rfl (fun j u hu => by rw [Addr.add_mid, hb5.cell, Nat.zero_add, List.getElem?_toArray]; exact hu) ht (List.take_of_length_le (by omega))
  simp only [World.size_alloc] at hcp
  have HS5 := Lib.hid hs5
  have HB5 := Lib.hid ((HB4.out.alloc HB4.out.size (.cells (cellsB (zeros 64)).toArray 5)).trans (hbel5.mono (by simp; exact Nat.le_succ_of_le HB4.out.size)))
  have HZ := Lib.hid HB4.out.size
  clear hz hq hs5 ht hb5 hbel5
  go_wp2
  go_ret
  exact ⟨w4.heap.size, rfl, HZ.out, by rw [← HE.out]; exact root_blk HS5.out HQ.out, below_setCells HZ.out _ _ _ HB5.out⟩
end Go.Proofs.YtjfoflbaoceemaaGreat
