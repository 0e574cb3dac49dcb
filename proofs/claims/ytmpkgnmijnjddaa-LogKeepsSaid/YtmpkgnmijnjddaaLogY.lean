/- Plain facts for LogKeeps: what an elder epoch leaves, and what a crash leaves of a log. -/
import Derived.Test.YtmpkgnmijnjddaaLogV
namespace Go.Proofs.Ytmpkgnmijnjddaa
section
variable {s t s1 : St} {L L' L1 : Lg} {b : List UInt8} {m : Nat}
theorem find_congr (h : t.at_ L.p = s.at_ L.p) (hn : L.find s = none) : L.find t = none := by
  unfold Lg.find at hn ⊢
  rw [h]
  split at hn
  · cases hn
  · rename_i hf
    rw [if_neg hf]
/-- a log of epoch 7, on a disk all of whose writes are sure, on sectors 2 to 51 -/
structure Kp (m : Nat) (s : St) (L : Lg) : Prop where
  dead : L.dead = false
  ok : s.ok
  l : s.l = []
  pf : L.p ≤ L.fin
  fin : L.fin = 52
  n : s.n = 60
  lim : s.lim m
  e : L.e = 7
  lies : Lies s 7 L.ls 0 2 L.p
  no : L.find s = none
theorem kp_is (h : Kp m s L) : (⟨(lg0 7 2 50).e, L.p, (lg0 7 2 50).fin, (lg0 7 2 50).ls ++ L.ls, (lg0 7 2 50).dead⟩ : Lg) = L := by
  obtain ⟨e, p, fin, ls, dead⟩ := L
  have h1 := h.dead
  have h2 := h.fin
  have h3 := h.e
  simp only at h1 h2 h3
  subst h1 h2 h3
  simp [lg0]
theorem kp_found (h : Kp m s L) (ht : ∀ i, i ≤ L.p → t.at_ i = s.at_ i) (hok : t.ok) (hn : t.n = 60) (ho : Opens t (lg0 7 2 50) L') : L'.ls = L.ls := by
  have h1 : Lies t (lg0 7 2 50).e L.ls (lg0 7 2 50).ls.length (lg0 7 2 50).p L.p := h.lies.congr fun i hi => ht i (by omega)
  have h2 := h1.opens hok (by have := h.pf; have := h.fin; show L.p ≤ 52; omega) (by rw [hn]; simp [lg0]) ho
  rw [kp_is h] at h2
  have := open_stop (find_congr (ht _ (Nat.le_refl _)) h.no) h2
  rw [this]
theorem crash_same (k : Nat → Bool) (h : s.l = []) (i : Nat) : (s.crash k).at_ i = s.at_ i := by
  unfold St.at_
  rw [St.crash_now, now_sure h, h]; rfl
theorem kp_end (h : Kp m s L) (k : Nat → Bool) (ho : Opens (s.crash k) (lg0 7 2 50) L') : L'.ls = L.ls :=
  kp_found h (fun i _ => crash_same k h.l i) (h.ok.crash k) (by rw [St.n_crash]; exact h.n) ho
theorem kp_done {u : St} (h : Kp m s L) (hd : Done s L b t) (hf : L.next b.length ≤ L.fin) (hok : t.ok) (hn : t.n = 60) (hu : u = t) (ho : Opens u (lg0 7 2 50) L') : L'.ls = L.ls ++ [b] := by
  subst hu
  have he := h.e
  have := done_open (L := L) (e := 7) (a := 2) (n := 50) hok (by rw [hn]; omega) he h.fin (by rw [he]; exact h.lies) hd hf ho
  rw [this]
/-- what an Append leaves, whatever a crash does then -/
theorem kp_append (h : Kp m s L) (hb : b.length ≤ 700) : (∃ s1, L.append s b = (s1, L.add b, 0) ∧ Kp (m + 13) s1 (L.add b)) ∨
    (∃ s1 L1 c, L.append s b = (s1, L1, c) ∧ 0 < c ∧ c ≤ 12 ∧ s1.n = 60 ∧ s1.lim (m + 13) ∧ ∀ k L', Opens (s1.crash k) (lg0 7 2 50) L' → L'.ls = L.ls ∨ L'.ls = L.ls ++ [b]) := by
  have h7 : need b.length ≤ 11 := by unfold need; omega
  have ha := append_all (m := m) (b := b) h.dead h.ok h.l h.pf (by rw [h.n, h.fin]; omega) h.lim
  revert ha
  generalize hr : L.append s b = r
  intro ha
  cases ha with
  | long hf => exact .inr ⟨s, L, 6, rfl, by omega, by omega, h.n, lim_mono h.lim (by omega), fun k L' ho => .inl (kp_end h k ho)⟩
  | ok hf a1 a2 a3 a4 a5 a6 =>
    have hnx := fits_next h.pf hf
    refine .inl ⟨_, rfl, ⟨h.dead, a1, a4, hnx, h.fin, a2.trans h.n, lim_mono a6 (by omega), h.e, ?_, ?_⟩⟩
    · have := Lies.done (m := 2) (by rw [h.e]; exact h.lies) a5
      rw [h.e] at this
      exact this
    · by_cases hlt : L.next b.length < L.fin
      · exact find_zero (L := L.add b) (a5.tail hlt)
      · exact find_end (L := L.add b) (by show L.fin ≤ L.next b.length; omega)
  | fail hf he hc a1 a2 a6 =>
    rename_i s1
    have hnx := fits_next h.pf hf
    refine .inr ⟨_, _, 12, rfl, by omega, by omega, a2.trans h.n, lim_mono a6 (by omega), fun k L' ho => ?_⟩
    have hok := a1.crash k
    have hn : (s1.crash k).n = 60 := by rw [St.n_crash, a2]; exact h.n
    rcases hc k with hlow | hd
    · exact .inl (kp_found h hlow hok hn ho)
    · exact .inr (kp_done h hd hnx hok hn rfl ho)
/-- the elder log: its first head stands at sector 2, or nothing -/
def El (s : St) (L : Lg) : Prop := L.e = 6 ∧ ((L.p = 2 ∧ L.ls = [] ∧ s.at_ 2 = zeros 64) ∨ (2 < L.p ∧ ∃ n : Int, s.at_ 2 = headB 6 1 n))
theorem el_new : El (St.new 60) (lg0 6 2 50) := ⟨rfl, .inl ⟨rfl, rfl, new_at (by omega)⟩⟩
theorem el_find (h : El s L) : (lg0 7 2 50).find s = none := by
  rcases h.2 with ⟨_, _, h⟩ | ⟨_, n, h⟩
  · exact find_zero h
  · exact find_other h ⟨by decide, by decide⟩ ⟨by decide, by decide⟩ (by decide)
theorem el_done (h : El s L) (hd : Done s L b s1) : El s1 (L.add b) := by
  refine ⟨h.1, .inr ⟨?_, ?_⟩⟩
  · rcases h.2 with ⟨h, _⟩ | ⟨h, _⟩ <;> simp only [Lg.add] <;> omega
  · rcases h.2 with ⟨h2, h3, _⟩ | ⟨h2, n, h3⟩
    · refine ⟨b.length, ?_⟩
      have := hd.head
      rw [h2] at this
      rw [this]
      unfold Lg.head
      rw [h.1, h3]
      rfl
    · exact ⟨n, by rw [hd.low 2 h2]; exact h3⟩
/-- what elder Appends leave -/
theorem el_append {k : Nat} (h : El s L) (hdead : L.dead = false) (hok : s.ok) (hl : s.l = []) (he : s.ends = false) (hp : L.p ≤ L.fin) (hf : L.fin = 52) (hn : s.n = 60) (hlim : s.lim k) (hb : b.length ≤ 700) :
    ∃ s2 L2 c, L.append s b = (s2, L2, c) ∧ El s2 L2 ∧ L2.dead = false ∧ s2.ok ∧ s2.l = [] ∧ s2.ends = false ∧ L2.p ≤ L2.fin ∧ L2.fin = 52 ∧ s2.n = 60 ∧ s2.lim (k + 13) := by
  have h7 : need b.length ≤ 11 := by unfold need; omega
  have ha := append_all (m := k) (b := b) hdead hok hl hp (by rw [hn, hf]; omega) hlim
  revert ha
  generalize L.append s b = r
  intro ha
  cases ha with
  | long _ => exact ⟨_, _, _, rfl, h, hdead, hok, hl, he, hp, hf, hn, lim_mono hlim (by omega)⟩
  | ok hft a1 a2 a3 a4 a5 a6 => exact ⟨_, _, _, rfl, el_done h a5, hdead, a1, a4, a3.trans he, fits_next hp hft, hf, a2.trans hn, lim_mono a6 (by omega)⟩
  | fail _ h' => rw [he] at h'; cases h'
/-- the new log, on a disk that will break -/
theorem kp_new {k n : Nat} (h : El s L) (hok : s.ok) (hl : s.l = []) (hn : s.n = 60) (hlim : s.lim k) (hle : n ≤ 9223372036854775807) : Kp k (s.brk n) (lg0 7 2 50) :=
  ⟨rfl, hok.brk n, hl, by simp [lg0], rfl, hn, ⟨hlim.1, hlim.2.1, hle⟩, rfl, rfl, find_congr (s := s) rfl (el_find h)⟩
end
end Go.Proofs.Ytmpkgnmijnjddaa
