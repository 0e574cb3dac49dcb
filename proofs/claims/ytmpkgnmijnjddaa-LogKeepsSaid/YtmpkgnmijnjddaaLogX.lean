/- Plain facts on what Open finds behind Appends and crashes. -/
import Derived.Test.YtmpkgnmijnjddaaLogQ
namespace Go.Proofs.Ytmpkgnmijnjddaa
section
variable {s t s1 : St} {L L' : Lg} {b : List UInt8} {rs : List (List UInt8)} {e : Int} {m : Nat}
theorem open_stop (h : L.find s = none) (ho : Opens s L L') : L' = L := ho.det (.stop h)
theorem find_zero (h : s.at_ L.p = zeros 64) : L.find s = none := find_none fun _ _ e => headB_zero (e.symm.trans h)
theorem find_other {e' k' n' : Int} (h : s.at_ L.p = headB e' k' n') (h1 : i64r L.e) (h2 : i64r e') (he : e' ≠ L.e) : L.find s = none := find_none fun _ _ e => he (headB_epoch h2 h1 (h.symm.trans e))
/-- from p to q lie these records, one behind the other, k of them ahead -/
def Lies (s : St) (e : Int) : List (List UInt8) → Nat → Nat → Nat → Prop
  | [], _, p, q => p = q
  | b :: r, k, p, q => s.at_ p = headB e ((k : Nat) + 1 : Int) b.length ∧ (∀ j, j < need b.length → s.at_ (p + 1 + j) = chunk b j) ∧ Lies s e r (k + 1) (p + (1 + need b.length)) q
theorem Lies.le : ∀ {rs : List (List UInt8)} {k p q : Nat}, Lies s e rs k p q → p ≤ q
  | [], _, _, _, h => Nat.le_of_eq h
  | b :: r, _, _, _, h => by have := Lies.le h.2.2; omega
theorem Lies.congr : ∀ {rs : List (List UInt8)} {k p q : Nat}, Lies s e rs k p q → (∀ i, i < q → t.at_ i = s.at_ i) → Lies t e rs k p q
  | [], _, _, _, h, _ => h
  | b :: r, _, p, q, h, ht => by
    have hq := Lies.le h.2.2
    exact ⟨(ht _ (by omega)).trans h.1, fun j hj => (ht _ (by omega)).trans (h.2.1 j hj), h.2.2.congr ht⟩
theorem Lies.snoc : ∀ {rs : List (List UInt8)} {k p q : Nat}, Lies s e rs k p q → s.at_ q = headB e (((k + rs.length : Nat) : Int) + 1) b.length → (∀ j, j < need b.length → s.at_ (q + 1 + j) = chunk b j) → Lies s e (rs ++ [b]) k p (q + (1 + need b.length))
  | [], k, p, q, h, h1, h2 => by
    obtain rfl : p = q := h
    exact ⟨h1, h2, rfl⟩
  | c :: r, k, p, q, h, h1, h2 => ⟨h.1, h.2.1, Lies.snoc h.2.2 (by rw [h1]; congr 2; simp; omega) h2⟩
/-- what lies is found -/
theorem Lies.opens (hok : s.ok) : ∀ {rs : List (List UInt8)} {L L' : Lg} {q : Nat}, Lies s L.e rs L.ls.length L.p q → q ≤ L.fin → L.fin ≤ s.n → Opens s L L' → Opens s { L with p := q, ls := L.ls ++ rs } L'
  | [], L, L', q, h, _, _, ho => by
    obtain rfl : L.p = q := h
    simpa using ho
  | b :: r, L, L', q, h, hq, hn, ho => by
    have hle := Lies.le h.2.2
    have hf : L.find s = some b := find_some hn hok.many (by unfold Lg.left; omega) h.1 h.2.1
    have h2 : Lies s (L.add b).e r (L.add b).ls.length (L.add b).p q := by simpa [Lg.add] using h.2.2
    cases ho with
    | stop h' => rw [hf] at h'; cases h'
    | step h' k =>
      have e := Option.some.inj (hf.symm.trans h')
      subst e
      have := Lies.opens hok (L := L.add b) h2 hq hn k
      simpa [Lg.add] using this
/-- the record that lies behind others -/
theorem Lies.done (h : Lies s L.e L.ls 0 m L.p) (hd : Done s L b t) : Lies t L.e (L.ls ++ [b]) 0 m (L.next b.length) := by
  refine (h.congr hd.low).snoc ?_ hd.body
  rw [hd.head]
  unfold Lg.head
  rw [Nat.zero_add]
theorem lay_lim (h : s.lim m) (hok : s.ok) {s5 : St} {b5 : Bool} (hl : L.lay s b = (s5, b5)) : s5.lim (m + (need b.length + 2)) := by
  obtain ⟨s1, b1, h1⟩ : ∃ s1 b1, s.put ((L.p : Int) + 1) b = (s1, b1) := ⟨_, _, rfl⟩
  obtain ⟨l1, _, _⟩ := put_lim h hok h1
  cases b1
  · rw [lay_1 h1] at hl
    cases hl
    exact lim_mono l1 (by omega)
  · obtain ⟨s2, b2, h2⟩ : ∃ s2 b2, L.tail b.length s1 = (s2, b2) := ⟨_, _, rfl⟩
    have l2 : s2.lim (m + need b.length + 1) := by
      unfold Lg.tail at h2
      split at h2
      · cases h2; exact lim_mono l1 (by omega)
      · exact (tryW_lim l1 h2).1
    cases b2
    · rw [lay_2 h1 h2] at hl
      cases hl
      exact lim_mono l2 (by omega)
    · obtain ⟨s3, b3, h3⟩ : ∃ s3 b3, s2.tryS = (s3, b3) := ⟨_, _, rfl⟩
      have l3 := (tryS_lim l2 h3).1
      cases b3
      · rw [lay_3 h1 h2 h3] at hl
        cases hl
        exact lim_mono l3 (by omega)
      · obtain ⟨s4, b4, h4⟩ : ∃ s4 b4, s3.tryW L.p (L.head b.length) = (s4, b4) := ⟨_, _, rfl⟩
        have l4 := (tryW_lim l3 h4).1
        cases b4
        · rw [lay_4 h1 h2 h3 h4] at hl
          cases hl
          exact lim_mono l4 (by omega)
        · obtain ⟨s6, b6, h6⟩ : ∃ s6 b6, s4.tryS = (s6, b6) := ⟨_, _, rfl⟩
          rw [lay_5 h1 h2 h3 h4 h6] at hl
          cases hl
          exact lim_mono (tryS_lim l4 h6).1 (by omega)
theorem app_long' (h : L.dead = false) (hf : L.fits b.length = false) : L.append s b = (s, L, 6) := by simp [Lg.append, h, hf]
theorem app_lay' (h : L.dead = false) (hf : L.fits b.length = true) (hl : L.lay s b = (s1, true)) : L.append s b = (s1, L.add b, 0) := by simp [Lg.append, h, hf, hl]
theorem app_fail' (h : L.dead = false) (hf : L.fits b.length = true) (hl : L.lay s b = (s1, false)) : L.append s b = (s1, { L with dead := true }, 12) := by simp [Lg.append, h, hf, hl]
/-- what an Append comes to -/
inductive App (s : St) (L : Lg) (b : List UInt8) : St × Lg × Nat → Prop
  | long : L.fits b.length = false → App s L b (s, L, 6)
  | ok {s1 : St} : L.fits b.length = true → s1.ok → s1.n = s.n → s1.ends = s.ends → s1.l = [] → Done s L b s1 → s1.lim (m + (need b.length + 2)) → App s L b (s1, L.add b, 0)
  | fail {s1 : St} : L.fits b.length = true → s.ends = true → (∀ k, Cut s L b (s1.crash k)) → s1.ok → s1.n = s.n → s1.lim (m + (need b.length + 2)) → App s L b (s1, { L with dead := true }, 12)
theorem fits_next (hp : L.p ≤ L.fin) (h : L.fits b.length = true) : L.next b.length ≤ L.fin := by
  have h1 := (fits_iff.1 h).2
  rw [Int.toNat_natCast] at h1
  unfold Lg.left at h1
  unfold Lg.next; omega
theorem append_all (hd : L.dead = false) (hok : s.ok) (hs : s.l = []) (hp : L.p ≤ L.fin) (hn : L.fin ≤ s.n) (hl : s.lim m) : App (m := m) s L b (L.append s b) := by
  cases hf : L.fits b.length
  · rw [app_long' hd hf]; exact .long hf
  · obtain ⟨s1, b1, h1⟩ : ∃ s1 b1, L.lay s b = (s1, b1) := ⟨_, _, rfl⟩
    obtain ⟨a1, a2, a3, a4, a5, a6⟩ := lay_all hok hs (fits_next hp hf) hn h1
    have hlm := lay_lim hl hok h1
    cases b1
    · rw [app_fail' hd hf h1]
      refine .fail hf ?_ (a5 rfl) a1 a2 hlm
      cases he : s.ends
      · have := a6 he; cases this
      · rfl
    · rw [app_lay' hd hf h1]
      exact .ok hf a1 a2 a3 (a4 rfl).1 (a4 rfl).2 hlm
end
end Go.Proofs.Ytmpkgnmijnjddaa
