/- Images written one epoch behind the other: plain facts on which one is read. -/
import Derived.Test.YteilbaabnhogbaaRootP
namespace Go.Proofs.Yteilbaabnhogbaa
section
variable {p : Pl} {s t : St} {e k m : Nat} {b b' : List UInt8} {b1 : Bool}
/-- k epochs were written, the last one's image is b; of none both roots are bytes 0 -/
def Sits (p : Pl) (s : St) (k : Nat) (b : List UInt8) : Prop := (k = 0 ∧ ∀ t, t < 2 → s.at_ (p.a + t) = zeros 64) ∨ (1 ≤ k ∧ Img p s k b ∧ Eld p s k)
theorem root_two (p : Pl) (k : Nat) : p.root (k + 2) = p.root k := by unfold Pl.root; omega
theorem root_ne (p : Pl) {e k : Nat} (h : e % 2 ≠ k % 2) : p.root e ≠ p.root k := by unfold Pl.root; omega
theorem root_image (p : Pl) (e k : Nat) : p.root e < p.image k := by
  have := (image_le p k).1
  unfold Pl.root; omega
/-- areas of two turns are apart -/
theorem areas (p : Pl) {e k n j : Nat} (h : e % 2 ≠ k % 2) (hn : n ≤ p.ar) (hj : j < p.ar) : p.image k + j < p.image e ∨ p.image e + n ≤ p.image k + j := by
  unfold Pl.image
  rcases (by omega : (e % 2 = 0 ∧ k % 2 = 1) ∨ (e % 2 = 1 ∧ k % 2 = 0)) with ⟨h1, h2⟩ | ⟨h1, h2⟩ <;> rw [h1, h2] <;> omega
theorem root_epoch {e n e' n' : Int} (h1 : i64r e) (h2 : i64r e') (h : rootB e n = rootB e' n') : e = e' := by
  have := congrArg toldE h
  rwa [toldE_root h1, toldE_root h2] at this
theorem wrote_img (h : Wrote p s e b t) : Img p t e b := ⟨h.root, h.body⟩
theorem sits_next (h : Sits p s k b) (hk : k ≤ 1000000) (hw : Wrote p s (k + 1) b' t) : Img p t (k + 1) b' ∧ Eld p t (k + 1) := by
  refine ⟨wrote_img hw, fun e n he _ hr => ?_⟩
  rw [root_two] at hr
  rw [hw.rest _ (root_ne p (by omega)) (.inl (root_image p k (k + 1)))] at hr
  rcases h with ⟨rfl, h⟩ | ⟨hk1, h, _⟩
  · have := h 0 (by omega)
    rw [show p.a + 0 = p.root 0 from rfl, hr] at this
    exact absurd this rootB_zero
  · rw [h.root] at hr
    have := root_epoch ⟨by omega, by omega⟩ he hr
    omega
theorem sits_cut (h : Sits p s k b) (hb : b.length ≤ p.ar * 64) (hb' : b'.length ≤ p.ar * 64) (hc : ∀ i, i < p.image (k + 1) ∨ p.image (k + 1) + need b'.length ≤ i → t.at_ i = s.at_ i) : Sits p t k b := by
  have hi := (image_le p (k + 1)).1
  rcases h with ⟨rfl, h⟩ | ⟨hk1, h, he⟩
  · exact .inl ⟨rfl, fun t ht => by rw [hc _ (.inl (by omega))]; exact h t ht⟩
  · refine .inr ⟨hk1, ⟨?_, fun j hj => ?_⟩, fun e n h1 h2 hr => ?_⟩
    · rw [hc _ (.inl (root_image p k (k + 1)))]; exact h.root
    · have := need_area hb
      have := need_area hb'
      rw [hc _ (areas p (by omega) (by omega) (by omega))]; exact h.body j hj
    · rw [hc _ (.inl (root_image p (k + 1) (k + 1)))] at hr
      exact he e n h1 h2 hr
theorem img_elder (h : Img p s k b) (hk : k ≤ 1000000) (hb : b.length ≤ p.ar * 64) (hb' : b'.length ≤ p.ar * 64) (hek : e < k) (hp : e % 2 ≠ k % 2) (hw : Wrote p s e b' t) : Img p t k b ∧ Eld p t k := by
  refine ⟨⟨?_, fun j hj => ?_⟩, fun e' n h1 _ hr => ?_⟩
  · rw [hw.rest _ (root_ne p (fun h => hp h.symm)) (.inl (root_image p k e))]; exact h.root
  · have := need_area hb
    have := need_area hb'
    have hne : p.image k + j ≠ p.root e := by have := root_image p e k; omega
    rw [hw.rest _ hne (areas p hp (by omega) (by omega))]; exact h.body j hj
  · have e1 : p.root (k + 1) = p.root e := by unfold Pl.root; omega
    rw [e1, hw.root] at hr
    have := root_epoch ⟨by omega, by omega⟩ h1 hr
    omega
theorem sits_of (h : Sits p s k b) (he : ∀ i, t.at_ i = s.at_ i) : Sits p t k b := by
  rcases h with ⟨rfl, h⟩ | ⟨hk1, h, h2⟩
  · exact .inl ⟨rfl, fun t ht => by rw [he]; exact h t ht⟩
  · exact .inr ⟨hk1, ⟨by rw [he]; exact h.root, fun j hj => by rw [he]; exact h.body j hj⟩, fun e n h3 h4 hr => h2 e n h3 h4 (by rw [← he]; exact hr)⟩
theorem sits_img (h : Sits p s k b) (hk : 1 ≤ k) : Img p s k b ∧ Eld p s k := by
  rcases h with ⟨rfl, _⟩ | ⟨_, h⟩
  · omega
  · exact h
theorem read_sits (h : Sits p s k b) (hk : 1 ≤ k) (hk2 : k ≤ 1000000) (hb : b.length ≤ p.ar * 64) (hp : p.on s) : p.read s = some ((k : Int), b) :=
  read_img hk (by omega) (sits_img h hk).1 (sits_img h hk).2 hb hp
theorem read_sits0 (h : Sits p s 0 b) : p.read s = none := by
  rcases h with ⟨_, h⟩ | ⟨h, _⟩
  · exact read_none fun t ht e n _ _ hr => rootB_zero (hr.symm.trans (h t ht))
  · omega
/-- a disk that is whole, all sure -/
structure Calm (p : Pl) (m : Nat) (s : St) : Prop where
  ok : s.ok
  l : s.l = []
  ends : s.ends = false
  on : p.on s
  lim : s.lim m
theorem on_of {p : Pl} {s t : St} (h : p.on s) (hn : t.n = s.n) : p.on t := ⟨by rw [hn]; exact h.n, by rw [hn]; exact h.many, h.lo, h.hi⟩
theorem area_fits {p : Pl} {s : St} (h : p.on s) (hb : b.length ≤ p.ar * 64) (e : Nat) : p.image e + need b.length ≤ s.n := by
  have := need_area hb
  have := (image_le p e).2
  have := h.n
  omega
/-- a Write on such a disk -/
theorem calm_lay (h : Calm p m s) (hb : b.length ≤ p.ar * 64) : ∃ s1, p.lay s e b = (s1, true) ∧ Calm p (m + (p.ar + 1)) s1 ∧ Wrote p s e b s1 := by
  obtain ⟨s1, b1, h1⟩ : ∃ s1 b1, p.lay s e b = (s1, b1) := ⟨_, _, rfl⟩
  obtain ⟨a1, a2, a3, a4, _, a6⟩ := rlay_all h.ok h.l (area_fits h.on hb e) h1
  obtain rfl := a6 h.ends
  have hn := need_area hb
  exact ⟨s1, h1, ⟨a1, (a4 rfl).1, a3.trans h.ends, on_of h.on a2, lim_mono (rlay_lim h.lim h.ok h1) (by omega)⟩, (a4 rfl).2⟩
theorem calm_next (h : Calm p m s) (hs : Sits p s k b) (hk : k ≤ 1000000) (hb : b'.length ≤ p.ar * 64) : ∃ s1, p.lay s (k + 1) b' = (s1, true) ∧ Calm p (m + (p.ar + 1)) s1 ∧ Sits p s1 (k + 1) b' ∧ p.read s1 = some (((k + 1 : Nat) : Int), b') := by
  obtain ⟨s1, h1, h2, h3⟩ := calm_lay (e := k + 1) h hb
  obtain ⟨h4, h5⟩ := sits_next hs hk h3
  exact ⟨s1, h1, h2, .inr ⟨by omega, h4, h5⟩, read_img (by omega) (by omega) h4 h5 hb h2.on⟩
theorem calm_elder (h : Calm p m s) (hs : Sits p s k b) (hk : k ≤ 1000000) (hb : b.length ≤ p.ar * 64) (hb' : b'.length ≤ p.ar * 64) (hek : e < k) (hp : e % 2 ≠ k % 2) : ∃ s1, p.lay s e b' = (s1, true) ∧ Calm p (m + (p.ar + 1)) s1 ∧ p.read s1 = some ((k : Int), b) := by
  obtain ⟨s1, h1, h2, h3⟩ := calm_lay (e := e) h hb'
  obtain ⟨h4, h5⟩ := img_elder (sits_img hs (by omega)).1 hk hb hb' hek hp h3
  exact ⟨s1, h1, h2, read_img (by omega) (by omega) h4 h5 hb h2.on⟩
theorem calm_new {n : Nat} (hn : p.a + 2 + 2 * p.ar ≤ n) (hm : n ≤ 4096) (hl : 1 ≤ p.ar) (hh : p.ar ≤ 1000) (k : Nat) : Calm p k (St.new n) ∧ Sits p (St.new n) 0 [] :=
  ⟨⟨St.ok.new hm, rfl, rfl, ⟨by rw [St.n_new]; exact hn, by rw [St.n_new]; exact hm, hl, hh⟩, new_lim n k⟩, .inl ⟨rfl, fun t ht => new_at (by omega)⟩⟩
/-- what is read behind a Write that a crash cut -/
theorem turn_read (h : Calm p m s) (hs : Sits p s k b) (hk : k ≤ 1000000) (hb : b.length ≤ p.ar * 64) (hb' : b'.length ≤ p.ar * 64) (left : Nat) (hleft : left ≤ 9223372036854775807) : ∃ s1 b1, p.lay (s.brk left) (k + 1) b' = (s1, b1) ∧ s1.lim (m + (p.ar + 1)) ∧
    ∀ f, p.read (s1.crash f) = some (((k + 1 : Nat) : Int), b') ∨ (b1 = false ∧ ((k = 0 ∧ p.read (s1.crash f) = none) ∨ (1 ≤ k ∧ p.read (s1.crash f) = some ((k : Int), b)))) := by
  obtain ⟨s1, b1, h1⟩ : ∃ s1 b1, p.lay (s.brk left) (k + 1) b' = (s1, b1) := ⟨_, _, rfl⟩
  have hon : p.on (s.brk left) := on_of h.on (St.n_brk _ _)
  have hsb : Sits p (s.brk left) k b := sits_of hs fun i => rfl
  have hlb : (s.brk left).lim m := ⟨h.lim.1, h.lim.2.1, hleft⟩
  obtain ⟨a1, a2, a3, a4, a5, _⟩ := rlay_all (h.ok.brk left) h.l (area_fits hon hb' (k + 1)) h1
  have hn := need_area hb'
  refine ⟨s1, b1, h1, lim_mono (rlay_lim hlb (h.ok.brk left) h1) (by omega), fun f => ?_⟩
  have honf : p.on (s1.crash f) := on_of hon ((St.n_crash _ _).trans a2)
  have key : ∀ t, p.on t → CutW p (s.brk left) (k + 1) b' t → p.read t = some (((k + 1 : Nat) : Int), b') ∨ ((k = 0 ∧ p.read t = none) ∨ (1 ≤ k ∧ p.read t = some ((k : Int), b))) := fun t ht hc => by
    rcases hc with hc | hc
    · right
      have hst := sits_cut hsb hb hb' hc
      rcases Nat.eq_zero_or_pos k with h0 | h0
      · subst h0
        exact .inl ⟨rfl, read_sits0 hst⟩
      · exact .inr ⟨h0, read_sits hst h0 hk hb ht⟩
    · left
      obtain ⟨h4, h5⟩ := sits_next hsb hk hc
      exact read_img (by omega) (by omega) h4 h5 hb' ht
  cases b1
  · rcases key _ honf (a5 rfl f) with h | h
    · exact .inl h
    · exact .inr ⟨rfl, h⟩
  · left
    obtain ⟨hl0, hw⟩ := a4 rfl
    have e3 : ∀ i, (s1.crash f).at_ i = s1.at_ i := fun i => by
      rw [crash_at f (fun x hx => by rw [hl0] at hx; cases hx), ← now_sure hl0]; rfl
    have hw2 : Wrote p (s.brk left) (k + 1) b' (s1.crash f) := ⟨by rw [e3]; exact hw.root, fun j hj => by rw [e3]; exact hw.body j hj, fun i hi hi2 => by rw [e3]; exact hw.rest i hi hi2⟩
    obtain ⟨h4, h5⟩ := sits_next hsb hk hw2
    exact read_img (by omega) (by omega) h4 h5 hb' honf
end
end Go.Proofs.Yteilbaabnhogbaa
