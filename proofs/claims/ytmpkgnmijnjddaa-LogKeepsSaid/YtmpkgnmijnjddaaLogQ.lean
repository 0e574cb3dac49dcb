/- Plain facts on what lay leaves of a disk, sure or crashed, and on records that lie one behind the other. -/
import Derived.Test.YtmpkgnmijnjddaaLogC
namespace Go.Proofs.Ytmpkgnmijnjddaa
section
variable {s s1 s2 s3 s4 s5 : St} {b1 b2 b3 b4 b5 : Bool} {L L' : Lg} {b : List UInt8}
theorem now_sure (h : s.l = []) : s.now = s.sure := by unfold St.now; rw [h]; rfl
theorem settle_far (k : Nat → Bool) {i : Nat} : ∀ (l : List Wr) (j : Nat) (S : List Sec), (∀ x ∈ l, x.1 ≠ i) → (settle k j S l).getD i [] = S.getD i []
  | [], _, _, _ => rfl
  | x :: l, j, S, h => by
    rw [settle, settle_far k l (j + 1) _ fun y hy => h y (by simp [hy])]
    split
    · have := h x (by simp)
      rw [List.getD_eq_getElem?_getD, List.getElem?_set_ne this, ← List.getD_eq_getElem?_getD]
    · rfl
theorem crash_at {i : Nat} (k : Nat → Bool) (h : ∀ x ∈ s.l, x.1 ≠ i) : (s.crash k).at_ i = s.sure.getD i [] := by
  unfold St.at_
  rw [St.crash_now]
  exact settle_far k _ _ _ h
theorem wr_at {i : Nat} {x : Sec} (hi : i < s.n) (j : Nat) : (s.wr i x).at_ j = if j = i then x else s.at_ j := wr_getD hi j
theorem putGo_gen (a : Nat) (xs : List UInt8) : ∀ (k : Nat) (s s1 : St) (i : Nat) (v : Bool), s.ok → a + i + k ≤ s.n → putGo a xs s i k = (s1, v) → s1.sure = s.sure ∧ s1.ends = s.ends ∧ (∀ x ∈ s1.l, x ∈ s.l ∨ (a + i ≤ x.1 ∧ x.1 < a + i + k)) ∧
    (v = true → ∀ j, s1.at_ j = if a + i ≤ j ∧ j < a + i + k then chunk xs (j - a) else s.at_ j) ∧ (s.ends = false → v = true)
  | 0, s, s1, i, v, hok, _, h => by
    cases h
    exact ⟨rfl, rfl, fun x hx => .inl hx, fun _ j => by rw [if_neg (by omega)], fun _ => rfl⟩
  | k + 1, s, s1, i, v, hok, hn, h => by
    rw [putGo] at h
    cases hb : s.broken
    · rw [hb] at h
      obtain ⟨h1, h2, h3, h4, h5⟩ := putGo_gen a xs k (s.wr (a + i) (chunk xs i)) s1 (i + 1) v (hok.wr (by omega) (chunk_length _ _)) (by rw [St.n_wr]; omega) h
      refine ⟨h1, h2, fun x hx => ?_, fun hv j => ?_, h5⟩
      · rcases h3 x hx with hx | hx
        · rcases List.mem_append.1 hx with hx | hx
          · exact .inl hx
          · rw [List.mem_singleton.1 hx]; right; exact ⟨by simp, by simp⟩
        · right; omega
      · rw [h4 hv, wr_at (by omega)]
        by_cases e : j = a + i
        · subst e
          rw [if_neg (by omega), if_pos rfl, if_pos (by omega)]
          congr 1; omega
        · rw [if_neg e]
          by_cases h : a + (i + 1) ≤ j ∧ j < a + (i + 1) + k
          · rw [if_pos h, if_pos (by omega)]
          · rw [if_neg h, if_neg (by omega)]
    · rw [hb] at h
      simp only [if_true] at h
      cases h
      refine ⟨rfl, rfl, fun x hx => .inl hx, (fun h => by cases h), fun he => ?_⟩
      simp [St.broken, he] at hb
theorem put_all {a : Nat} (hok : s.ok) (hn : a + need b.length ≤ s.n) (h : s.put (a : Int) b = (s1, b1)) : s1.sure = s.sure ∧ s1.ends = s.ends ∧ (∀ x ∈ s1.l, x ∈ s.l ∨ (a ≤ x.1 ∧ x.1 < a + need b.length)) ∧
    (b1 = true → ∀ j, s1.at_ j = if a ≤ j ∧ j < a + need b.length then chunk b (j - a) else s.at_ j) ∧ (s.ends = false → b1 = true) := by
  unfold St.put at h
  split at h
  · rename_i h0
    cases h
    exact ⟨rfl, rfl, fun x hx => .inl hx, fun _ j => by rw [if_neg (by omega)], fun _ => rfl⟩
  · rw [if_pos (St.fits_iff.2 ⟨by omega, by omega⟩)] at h
    have := putGo_gen a b (need b.length) s s1 0 b1 hok (by omega) h
    simpa using this
theorem tryW_true {i : Nat} {x : Sec} (h : s.tryW i x = (s1, true)) : s1 = s.wr i x := by
  unfold St.tryW at h
  split at h
  · cases h
  · cases h; rfl
theorem tryW_false {i : Nat} {x : Sec} (h : s.tryW i x = (s1, false)) : s1 = s := by
  unfold St.tryW at h
  split at h
  · cases h; rfl
  · cases h
theorem tryS_true (h : s.tryS = (s1, true)) : s1 = s.sync := by
  unfold St.tryS at h
  split at h
  · cases h
  · cases h; rfl
theorem tryS_false (h : s.tryS = (s1, false)) : s1 = s := by
  unfold St.tryS at h
  split at h
  · cases h; rfl
  · cases h
theorem tryW_go {i : Nat} {x : Sec} (h : s.ends = false) : s.tryW i x = (s.wr i x, true) := by simp [St.tryW, St.broken, h]
theorem tryS_go (h : s.ends = false) : s.tryS = (s.sync, true) := by simp [St.tryS, St.broken, h]
theorem sync_at (i : Nat) : s.sync.at_ i = s.at_ i := rfl
theorem sync_sure : s.sync.sure = s.now := rfl
/-- what the body of a record, and the sector behind it, leave -/
structure Body (s : St) (L : Lg) (b : List UInt8) (t : St) : Prop where
  ok : t.ok
  n : t.n = s.n
  ends : t.ends = s.ends
  sure : t.sure = s.sure
  l : ∀ x ∈ t.l, L.p < x.1
def Full (s : St) (L : Lg) (b : List UInt8) (t : St) : Prop :=
  (∀ j, j < need b.length → t.at_ (L.p + 1 + j) = chunk b j) ∧ (L.next b.length < L.fin → t.at_ (L.next b.length) = zeros 64) ∧ ∀ i, i ≤ L.p → t.at_ i = s.at_ i
theorem body_put (hok : s.ok) (hs : s.l = []) (hf : L.next b.length ≤ L.fin) (hn : L.fin ≤ s.n) (h1 : s.put ((L.p : Int) + 1) b = (s1, b1)) : Body s L b s1 ∧
    (b1 = true → (∀ j, j < need b.length → s1.at_ (L.p + 1 + j) = chunk b j) ∧ ∀ i, i ≤ L.p → s1.at_ i = s.at_ i) ∧ (s.ends = false → b1 = true) := by
  unfold Lg.next at hf
  have hk := put_keep hok ((L.p : Int) + 1) b
  rw [h1] at hk
  obtain ⟨a1, a2, a3, a4, a5⟩ := put_all (a := L.p + 1) hok (by omega) h1
  refine ⟨⟨hk.1, hk.2.1, a2, a1, fun x hx => ?_⟩, fun hb => ⟨fun j hj => ?_, fun i hi => ?_⟩, a5⟩
  · rcases a3 x hx with hx | hx
    · rw [hs] at hx; cases hx
    · omega
  · rw [a4 hb, if_pos (by omega)]
    congr 1; omega
  · rw [a4 hb, if_neg (by omega)]
theorem body_tail (hb : Body s L b s1) (hf : L.next b.length ≤ L.fin) (hn : L.fin ≤ s.n) (hv : (∀ j, j < need b.length → s1.at_ (L.p + 1 + j) = chunk b j) ∧ ∀ i, i ≤ L.p → s1.at_ i = s.at_ i) (h2 : L.tail b.length s1 = (s2, b2)) :
    Body s L b s2 ∧ (b2 = true → Full s L b s2) ∧ (s.ends = false → b2 = true) := by
  have hnx : L.p < L.next b.length := by unfold Lg.next; omega
  unfold Lg.tail at h2
  split at h2
  · rename_i he
    cases h2
    exact ⟨hb, fun _ => ⟨hv.1, fun h => by omega, hv.2⟩, fun _ => rfl⟩
  · rename_i he
    cases b2
    · obtain rfl := tryW_false h2
      refine ⟨hb, (fun h => by cases h), fun h => ?_⟩
      rw [tryW_go (by rw [hb.ends]; exact h)] at h2
      exact absurd (congrArg Prod.snd h2) (by simp)
    · obtain rfl := tryW_true h2
      have hlt : L.next b.length < s1.n := by rw [hb.n]; omega
      refine ⟨⟨hb.ok.wr hlt (zeros_length 64), hb.n, hb.ends, hb.sure, fun x hx => ?_⟩, fun _ => ⟨fun j hj => ?_, fun _ => ?_, fun i hi => ?_⟩, fun _ => rfl⟩
      · rcases List.mem_append.1 hx with hx | hx
        · exact hb.l x hx
        · rw [List.mem_singleton.1 hx]; exact hnx
      · rw [wr_at hlt, if_neg (by unfold Lg.next; omega)]; exact hv.1 j hj
      · rw [wr_at hlt, if_pos rfl]
      · rw [wr_at hlt, if_neg (by omega)]; exact hv.2 i hi
/-- a record that lies on the disk, all sure -/
structure Done (s : St) (L : Lg) (b : List UInt8) (t : St) : Prop where
  head : t.at_ L.p = L.head b.length
  body : ∀ j, j < need b.length → t.at_ (L.p + 1 + j) = chunk b j
  tail : L.next b.length < L.fin → t.at_ (L.next b.length) = zeros 64
  low : ∀ i, i < L.p → t.at_ i = s.at_ i
/-- what a crash leaves of a lay that failed -/
def Cut (s : St) (L : Lg) (b : List UInt8) (t : St) : Prop := (∀ i, i ≤ L.p → t.at_ i = s.at_ i) ∨ Done s L b t
theorem lay_all (hok : s.ok) (hs : s.l = []) (hf : L.next b.length ≤ L.fin) (hn : L.fin ≤ s.n) (h : L.lay s b = (s5, b5)) :
    s5.ok ∧ s5.n = s.n ∧ s5.ends = s.ends ∧ (b5 = true → s5.l = [] ∧ Done s L b s5) ∧ (b5 = false → ∀ k, Cut s L b (s5.crash k)) ∧ (s.ends = false → b5 = true) := by
  have hpn : L.p < s.n := by unfold Lg.next at hf; omega
  have low : ∀ t, Body s L b t → ∀ k, Cut s L b (t.crash k) := fun t ht k => .inl fun i hi => by
    rw [crash_at k (fun x hx => by have := ht.l x hx; omega), ht.sure, ← now_sure hs]; rfl
  obtain ⟨s1, b1, h1⟩ : ∃ s1 b1, s.put ((L.p : Int) + 1) b = (s1, b1) := ⟨_, _, rfl⟩
  obtain ⟨B1, V1, E1⟩ := body_put hok hs hf hn h1
  cases b1
  · rw [lay_1 h1] at h
    cases h
    exact ⟨B1.ok, B1.n, B1.ends, (fun h => by cases h), fun _ => low _ B1, E1⟩
  · obtain ⟨s2, b2, h2⟩ : ∃ s2 b2, L.tail b.length s1 = (s2, b2) := ⟨_, _, rfl⟩
    obtain ⟨B2, V2, E2⟩ := body_tail B1 hf hn (V1 rfl) h2
    cases b2
    · rw [lay_2 h1 h2] at h
      cases h
      exact ⟨B2.ok, B2.n, B2.ends, (fun h => by cases h), fun _ => low _ B2, E2⟩
    · obtain ⟨s3, b3, h3⟩ : ∃ s3 b3, s2.tryS = (s3, b3) := ⟨_, _, rfl⟩
      have F2 := V2 rfl
      cases b3
      · rw [lay_3 h1 h2 h3] at h
        cases h
        obtain rfl := tryS_false h3
        refine ⟨B2.ok, B2.n, B2.ends, (fun h => by cases h), fun _ => low _ B2, fun he => ?_⟩
        rw [tryS_go (by rw [B2.ends]; exact he)] at h3
        exact absurd (congrArg Prod.snd h3) (by simp)
      · obtain rfl := tryS_true h3
        obtain ⟨s4, b4, h4⟩ : ∃ s4 b4, s2.sync.tryW L.p (L.head b.length) = (s4, b4) := ⟨_, _, rfl⟩
        have hn3 : s2.sync.n = s.n := by rw [St.n_sync]; exact B2.n
        have hp3 : L.p < s2.sync.n := by rw [hn3]; exact hpn
        cases b4
        · rw [lay_4 h1 h2 h3 h4] at h
          cases h
          obtain rfl := tryW_false h4
          refine ⟨B2.ok.sync, hn3, B2.ends, (fun h => by cases h), fun _ k => .inl fun i hi => ?_, fun he => ?_⟩
          · rw [crash_at k (fun x hx => by cases hx), sync_sure]
            exact F2.2.2 i hi
          · rw [tryW_go (show s2.sync.ends = false by exact B2.ends.trans he)] at h4
            exact absurd (congrArg Prod.snd h4) (by simp)
        · obtain rfl := tryW_true h4
          obtain ⟨s6, b6, h6⟩ : ∃ s6 b6, (s2.sync.wr L.p (L.head b.length)).tryS = (s6, b6) := ⟨_, _, rfl⟩
          rw [lay_5 h1 h2 h3 h4 h6] at h
          have hok4 := B2.ok.sync.wr hp3 (headB_length L.e ((L.ls.length : Nat) + 1 : Int) (b.length : Int))
          have hd : Done s L b (s2.sync.wr L.p (L.head b.length)) := by
            refine ⟨by rw [wr_at hp3, if_pos rfl], fun j hj => by rw [wr_at hp3, if_neg (by omega)]; exact F2.1 j hj, fun ht => by rw [wr_at hp3, if_neg (by unfold Lg.next; omega)]; exact F2.2.1 ht, fun i hi => by rw [wr_at hp3, if_neg (by omega)]; exact F2.2.2 i (by omega)⟩
          cases b6
          · cases h
            obtain rfl := tryS_false h6
            refine ⟨hok4, hn3, B2.ends, (fun h => by cases h), fun _ k => ?_, fun he => ?_⟩
            · have e : ((s2.sync.wr L.p (L.head b.length)).crash k).now = if k 0 then s2.now.set L.p (L.head b.length) else s2.now := by
                rw [St.crash_now]; rfl
              cases hk : k 0
              · rw [hk] at e
                left
                intro i hi
                unfold St.at_
                rw [e]
                exact F2.2.2 i hi
              · rw [hk] at e
                right
                have e2 : ((s2.sync.wr L.p (L.head b.length)).crash k).now = (s2.sync.wr L.p (L.head b.length)).now := by
                  rw [e, St.wr_now]; rfl
                have e3 : ∀ i, ((s2.sync.wr L.p (L.head b.length)).crash k).at_ i = (s2.sync.wr L.p (L.head b.length)).at_ i := fun i => by unfold St.at_; rw [e2]
                exact ⟨by rw [e3]; exact hd.head, fun j hj => by rw [e3]; exact hd.body j hj, fun ht => by rw [e3]; exact hd.tail ht, fun i hi => by rw [e3]; exact hd.low i hi⟩
            · rw [tryS_go (show (s2.sync.wr L.p (L.head b.length)).ends = false by exact B2.ends.trans he)] at h6
              exact absurd (congrArg Prod.snd h6) (by simp)
          · cases h
            obtain rfl := tryS_true h6
            exact ⟨hok4.sync, by rw [St.n_sync]; exact hn3, B2.ends, fun _ => ⟨rfl, ⟨hd.head, hd.body, hd.tail, hd.low⟩⟩, (fun h => by cases h), fun _ => rfl⟩
end
end Go.Proofs.Ytmpkgnmijnjddaa
