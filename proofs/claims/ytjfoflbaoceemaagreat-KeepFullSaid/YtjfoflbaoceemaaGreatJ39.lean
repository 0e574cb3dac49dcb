/- . . -/
import Derived.Test.YtjfoflbaoceemaaGreatJ33
import Derived.Test.YtjfoflbaoceemaaGreatJ38
set_option maxRecDepth 4000
namespace Go.Proofs.YtjfoflbaoceemaaGreat
inductive Mild : St → List (List UInt8) → St → Prop
  | nil {s : St} : Base s → Mild s [] s
  | cons {s t u : St} {b : List UInt8} {l : List Ef} {r : List (List UInt8)} : Base s → readsE b = some l → applyS s l = (0, t) → Mild t r u → Mild s (b :: r) u
theorem Mild.first {s u : St} {r : List (List UInt8)} (h : Mild s r u) : Base s := by cases h <;> assumption
theorem Mild.last {s u : St} {r : List (List UInt8)} (h : Mild s r u) : Base u := by
  induction h with
  | nil h => exact h
  | cons _ _ _ _ ih => exact ih
theorem Mild.run {s u : St} {r : List (List UInt8)} (h : Mild s r u) : runK s r = some u := by
  induction h with
  | nil _ => rfl
  | cons _ h2 h3 _ ih => rw [runK_some (stepK_some h2 h3)]; exact ih
theorem Mild.snoc {s u v : St} {r : List (List UInt8)} (h : Mild s r u) {b : List UInt8} {l : List Ef} (hb : readsE b = some l) (ha : applyS u l = (0, v)) (hv : Base v) : Mild s (r ++ [b]) v := by
  induction h with
  | nil h => exact .cons h hb ha (.nil hv)
  | cons h1 h2 h3 _ ih => exact .cons h1 h2 h3 (ih ha)
theorem lies_congr {s t : Dk} {e : Int} : ∀ {rs : List (List UInt8)} {k p q : Nat}, Lies s e rs k p q → (∀ i, p ≤ i → i < q → t.at_ i = s.at_ i) → Lies t e rs k p q
  | [], _, _, _, h, _ => h
  | b :: r, _, p, q, h, ht => by
    have hq := Lies.le h.2.2
    exact ⟨(ht _ (by omega) (by omega)).trans h.1, fun j hj => (ht _ (by omega) (by omega)).trans (h.2.1 j hj), lies_congr h.2.2 fun i h1 h2 => ht i (by omega) h2⟩
theorem find_same {s t : Dk} {L : Lg} (h : t.at_ L.p = s.at_ L.p) (hn : L.find s = none) : L.find t = none := by
  unfold Lg.find at hn ⊢
  split at hn
  · cases hn
  · rename_i hf
    rw [h, if_neg hf]
theorem crash_lim {s : Dk} {m : Nat} (h : s.lim m) (k : Nat → Bool) : (s.crash k).lim m := ⟨Nat.zero_le _, h.2.1, by show (0 : Nat) ≤ _; omega⟩
theorem sits_low {p : Pl} {s t : Dk} {k : Nat} {b : List UInt8} (h : Sits p s k b) (hb : b.length ≤ p.ar * 64) (ht : ∀ i, i < p.a + 2 + 2 * p.ar → t.at_ i = s.at_ i) : Sits p t k b := by
  have hm : k % 2 < 2 := Nat.mod_lt _ (by omega)
  rcases h with ⟨h0, h⟩ | ⟨h1, ⟨h2, h3⟩, h4⟩
  · exact .inl ⟨h0, fun j hj => (ht _ (by omega)).trans (h j hj)⟩
  · refine .inr ⟨h1, ⟨(ht _ (by unfold Pl.root; omega)).trans h2, fun j hj => (ht _ ?_).trans (h3 j hj)⟩, fun e n he hn hr => h4 e n he hn ((ht _ (by unfold Pl.root; omega)).symm.trans hr)⟩
    have := need_area hb
    have := (rimage_le p k).2
    unfold Pl.image at *
    have : k % 2 * p.ar ≤ p.ar := by
      have := Nat.mul_le_mul_right p.ar (show k % 2 ≤ 1 by omega)
      omega
    omega
theorem keepP_image (e : Nat) : 2 ≤ keepP.image e ∧ keepP.image e ≤ 98 := by
  have := rimage_le keepP e
  exact this
theorem keepP_root (e : Nat) : keepP.root e < 2 := by
  show 0 + e % 2 < 2
  omega
theorem logK_head (e : Nat) (n : Int) : (logK e).head n = lheadB (e : Int) 1 n := rfl
theorem Base.bytes {s : St} (h : Base s) : bytesK s = imageB s.next s.objs ∧ (bytesK s).length ≤ 6000 ∧ readI (bytesK s) = some (s.next, s.objs) := by
  have e : bytesK s = imageB s.next s.objs := by
    unfold bytesK imgS
    exact if_pos h.right.d.right
  refine ⟨e, ?_, ?_⟩
  · rw [e]
    exact Nat.le_trans (image_le _ _) h.size
  · rw [e]
    exact h.img.back
theorem lay_fits {d : Dk} {e : Nat} {s : St} (h : Base s) : layK d e s = keepP.lay d e (bytesK s) := if_pos (by have := h.bytes.2.1; omega)
theorem base_new : Base ⟨1, []⟩ := ⟨⟨Int.le_refl 1, by show (1 : Int) ≤ 1099511627776; decide, by simp, fun o ho => (by cases ho), List.Pairwise.nil, List.nodup_nil⟩, by decide⟩
structure Rest (m : Nat) (d : Dk) (K : Ks) : Prop where
  ok : d.ok
  l : d.l = []
  n : 354 ≤ d.n
  lim : d.lim m
  dead : K.dead = false
  ldead : K.L.dead = false
  le : K.L.e = (K.e : Int)
  fin : K.L.fin = 354
  pf : K.L.p ≤ 354
  lies : Lies d (K.e : Int) K.L.ls 0 194 K.L.p
  no : K.L.find d = none
  base : ∃ s0 : St, Mild s0 K.L.ls K.st ∧ Sits keepP d K.e (bytesK s0) ∧ (K.e = 0 → s0 = ⟨1, []⟩)
  eb : K.e ≤ m
  high : ∀ k n : Int, i64r k → (K.e : Int) < k → d.at_ 194 ≠ lheadB k 1 n
section
variable {m m2 : Nat} {d d1 t : Dk} {K K1 : Ks} {s : St} {b : List UInt8} {l : List Ef} {v : Bool}
theorem Rest.st (h : Rest m d K) : Base K.st := by
  obtain ⟨s0, h1, _⟩ := h.base
  exact h1.last
theorem Rest.on (h : Rest m d K) : keepP.on d := ⟨by have := h.n; show 0 + 2 + 2 * 96 ≤ d.n; omega, h.ok.many, by decide, by decide⟩
theorem Rest.more (h : Rest m d K) (hm : m ≤ m2) : Rest m2 d K := ⟨h.ok, h.l, h.n, lim_mono h.lim hm, h.dead, h.ldead, h.le, h.fin, h.pf, h.lies, h.no, h.base, Nat.le_trans h.eb hm, h.high⟩
theorem rest_is (h1 : K.L.e = (K.e : Int)) (h2 : K.L.fin = 354) (h3 : K.L.dead = false) : (⟨(logK K.e).e, K.L.p, (logK K.e).fin, (logK K.e).ls ++ K.L.ls, (logK K.e).dead⟩ : Lg) = K.L := by
  obtain ⟨⟨e, p, fin, ls, dead⟩, st, ep, dd⟩ := K
  simp only at h1 h2 h3
  subst h1 h2 h3
  simp [logK]
theorem Rest.opk (h : Rest m d K) : opK d K.e = K.L := by
  have h2 := Lies.opens h.ok (L := logK K.e) (L' := opK d K.e) (q := K.L.p) h.lies h.pf h.n (opK_opens d K.e)
  rw [rest_is h.le h.fin h.ldead] at h2
  exact open_stop h.no h2
theorem nat_cast (n : Nat) : ((n : Nat) : Int).toNat = n := Int.toNat_natCast n
theorem Rest.read (h : Rest m d K) (hm : m ≤ 900000) (he : 1 ≤ K.e) : ∃ s0, Mild s0 K.L.ls K.st ∧ keepP.read d = some ((K.e : Int), bytesK s0) := by
  obtain ⟨s0, h1, h2, _⟩ := h.base
  exact ⟨s0, h1, read_sits h2 he (by have := h.eb; omega) (by have := h1.first.bytes.2.1; show _ ≤ 6144; omega) h.on⟩
theorem Rest.read0 (h : Rest m d K) (he : K.e = 0) : keepP.read d = none ∧ Mild ⟨1, []⟩ K.L.ls K.st := by
  obtain ⟨s0, h1, h2, h3⟩ := h.base
  have := h3 he
  subst this
  rw [he] at h2
  exact ⟨read_sits0 h2, h1⟩
theorem Rest.baseK (h : Rest m d K) (hm : m ≤ 900000) : ∃ s0, Mild s0 K.L.ls K.st ∧ baseK d = some (s0, K.e) := by
  rcases Nat.eq_zero_or_pos K.e with he | he
  · obtain ⟨h1, h2⟩ := h.read0 he
    exact ⟨_, h2, by rw [baseK_new h1, he]⟩
  · obtain ⟨s0, h1, h2⟩ := h.read hm he
    exact ⟨s0, h1, by rw [baseK_img h2 h1.first.bytes.2.2, nat_cast]⟩
theorem Rest.found (h : Rest m d K) (hm : m ≤ 900000) : foundK d = some K := by
  obtain ⟨s0, h1, h2⟩ := h.baseK hm
  have h3 := h1.run
  rw [← h.opk] at h3
  rw [foundK_yes h2 h3, h.opk]
  have := h.dead
  obtain ⟨L, st, e, dead⟩ := K
  simp only at this
  rw [this]
theorem Rest.there (h : Rest m d K) (hm : m ≤ 900000) : thereK d K = true := by
  unfold thereK
  rw [h.opk, decide_eq_true (Nat.le_refl _), Bool.and_true]
  rcases Nat.eq_zero_or_pos K.e with he | he
  · rw [(h.read0 he).1, he]
    rfl
  · obtain ⟨s0, _, h2⟩ := h.read hm he
    rw [h2]
    exact decide_eq_true (Int.le_refl _)
theorem Rest.next (h : Rest m d K) (hm : m ≤ 900000) : (logK (K.e + 1)).find d = none := find_none fun n _ => by
  rw [logK_head]
  have := h.eb
  exact h.high _ n ⟨by omega, by omega⟩ (by omega)
theorem Rest.clear (h : Rest m d K) (hm : m ≤ 900000) : clK d (K.e + 1) = (d, true) := by
  have h2 : opK d (K.e + 1) = logK (K.e + 1) := open_stop (h.next hm) (opK_opens d (K.e + 1))
  unfold clK
  rw [h2]
  exact if_pos rfl
theorem Rest.wrote (h : Rest m d K) (hm : m + 1 ≤ m2) (hm2 : m2 ≤ 900000) (hs : Base s) (hw : Wrote keepP d (K.e + 1) (bytesK s) t) (ok : t.ok) (tl : t.l = []) (tn : t.n = d.n) (lim : t.lim m2) :
    Rest m2 t ⟨logK (K.e + 1), s, K.e + 1, false⟩ ∧ opK t (K.e + 1) = logK (K.e + 1) := by
  obtain ⟨s0, h1, h2, _⟩ := h.base
  have hlen := hs.bytes.2.1
  have heb := h.eb
  have h194 : t.at_ 194 = d.at_ 194 := hw.rest 194 (by have := keepP_root (K.e + 1); omega) (.inr (by have := (keepP_image (K.e + 1)).2; have := need_area (n := (bytesK s).length) (ar := 96) (by omega); omega))
  obtain ⟨w1, w2⟩ := sits_next h2 (by omega) hw
  have hn : (logK (K.e + 1)).find t = none := find_same (s := d) (L := logK (K.e + 1)) h194 (h.next (by omega))
  refine ⟨⟨ok, tl, by rw [tn]; exact h.n, lim, rfl, rfl, rfl, rfl, by show 194 ≤ 354; decide, rfl, hn, ⟨s, .nil hs, .inr ⟨Nat.le_add_left 1 K.e, w1, w2⟩, fun e => by simp at e⟩, by show K.e + 1 ≤ m2; omega, fun k n hk hlt => ?_⟩, open_stop hn (opK_opens t (K.e + 1))⟩
  rw [h194]
  have hlt : ((K.e + 1 : Nat) : Int) < k := hlt
  exact h.high k n hk (by omega)
theorem Rest.kept (h : Rest m d K) (hm : m ≤ m2) (ht : ∀ i, 194 ≤ i → i ≤ K.L.p → t.at_ i = d.at_ i) (hst : ∀ s0, Base s0 → Sits keepP d K.e (bytesK s0) → Sits keepP t K.e (bytesK s0)) (ok : t.ok) (tl : t.l = []) (tn : t.n = d.n) (lim : t.lim m2) : Rest m2 t K := by
  obtain ⟨s0, h1, h2, h3⟩ := h.base
  have hp := Lies.le h.lies
  exact ⟨ok, tl, by rw [tn]; exact h.n, lim, h.dead, h.ldead, h.le, h.fin, h.pf, lies_congr h.lies fun i a b => ht i a (by omega), find_same (ht _ hp (Nat.le_refl _)) h.no, ⟨s0, h1, hst s0 h1.first h2, h3⟩, Nat.le_trans h.eb hm, fun k n hk hlt => by
    rw [ht 194 (Nat.le_refl _) hp]
    exact h.high k n hk hlt⟩
theorem need_small {n : Nat} (h : n ≤ 6144) : need n ≤ 96 := need_area (n := n) (ar := 96) (by omega)
theorem Rest.lay (h : Rest m d K) (hm : m + 97 ≤ 900000) (hs : Base s) (hl : layK d (K.e + 1) s = (d1, v)) : d1.ok ∧ d1.n = d.n ∧ d1.lim (m + 97) ∧ d1.ends = d.ends ∧
    (v = true → Rest (m + 97) d1 ⟨logK (K.e + 1), s, K.e + 1, false⟩ ∧ opK d1 (K.e + 1) = logK (K.e + 1)) ∧
    (v = false → d.ends = true ∧ ∀ f, Rest (m + 97) (d1.crash f) K ∨ Rest (m + 97) (d1.crash f) ⟨logK (K.e + 1), s, K.e + 1, false⟩) := by
  rw [lay_fits hs] at hl
  have hlen := hs.bytes.2.1
  have hnd := need_small (show (bytesK s).length ≤ 6144 by omega)
  have himg := keepP_image (K.e + 1)
  have heb := h.eb
  obtain ⟨a1, a2, a3, a4, a5, a6⟩ := rlay_all h.ok h.l (by have := h.n; omega) hl
  have alim : d1.lim (m + 97) := lim_mono (rlay_lim h.lim h.ok hl) (by omega)
  refine ⟨a1, a2, alim, a3, fun hv => ?_, fun hv => ⟨?_, fun f => ?_⟩⟩
  · obtain ⟨b1, b2⟩ := a4 hv
    exact h.wrote (by omega) hm hs b2 a1 b1 a2 alim
  · cases he : d.ends
    · have := a6 he
      rw [hv] at this
      cases this
    · rfl
  · rcases a5 hv f with hc | hw
    · refine .inl (h.kept (by omega) (fun i h1 _ => hc i (.inr (by omega))) (fun s0 hb0 hs0 => sits_cut hs0 (by have := hb0.bytes.2.1; show _ ≤ 6144; omega) (by show _ ≤ 6144; omega) hc) (a1.crash f) rfl ((Dk.n_crash _ _).trans a2) (crash_lim alim f))
    · exact .inr (h.wrote (by omega) hm hs hw (a1.crash f) rfl ((Dk.n_crash _ _).trans a2) (crash_lim alim f)).1
theorem Rest.add (h : Rest m d K) (hm : m ≤ m2) (hm2 : m2 ≤ 900000) (hb : readsE b = some l) (ha : applyS K.st l = (0, s)) (hs : Base s) (hf : K.L.fits b.length = true) (hd : LDone d K.L b t) (ok : t.ok) (tl : t.l = []) (tn : t.n = d.n) (lim : t.lim m2) :
    Rest m2 t ⟨K.L.add b, s, K.e, false⟩ := by
  obtain ⟨s0, h1, h2, h3⟩ := h.base
  have hp := Lies.le h.lies
  have hnx := fits_next (by rw [h.fin]; exact h.pf) hf
  have heb := h.eb
  have hlies : Lies t (K.e : Int) (K.L.ls ++ [b]) 0 194 (K.L.next b.length) := by
    have := Lies.done (m := 194) (by rw [h.le]; exact h.lies) hd
    rw [h.le] at this
    exact this
  refine ⟨ok, tl, by rw [tn]; exact h.n, lim, rfl, h.ldead, h.le, h.fin, by rw [h.fin] at hnx; exact hnx, hlies, ?_, ⟨s0, h1.snoc hb ha hs, sits_low h2 (by have := h1.first.bytes.2.1; show _ ≤ 6144; omega) fun i hi => hd.low i (by have hi : i < 0 + 2 + 2 * 96 := hi; omega), h3⟩, by show K.e ≤ m2; omega, fun k n hk hlt => ?_⟩
  · by_cases hlt : K.L.next b.length < K.L.fin
    · exact find_zero (L := K.L.add b) (hd.tail hlt)
    · exact find_end (L := K.L.add b) (by show K.L.fin ≤ K.L.next b.length; omega)
  · have hlt : (K.e : Int) < k := hlt
    rcases Nat.eq_or_lt_of_le hp with e | e
    · rw [e, hd.head]
      unfold Lg.head
      rw [h.le]
      intro he
      have := headB_epoch (e := (K.e : Int)) (e' := k) ⟨by omega, by omega⟩ hk he
      omega
    · rw [hd.low 194 e]
      exact h.high k n hk hlt
theorem Rest.app (h : Rest m d K) (hm : m + 162 ≤ 900000) (hb : readsE b = some l) (ha : applyS K.st l = (0, s)) (hs : Base s) (hlen : b.length ≤ 10176) :
    (K.L.fits b.length = false ∧ K.L.append d b = (d, K.L, 6)) ∨
    (∃ t, K.L.append d b = (t, K.L.add b, 0) ∧ t.ends = d.ends ∧ t.n = d.n ∧ Rest (m + 162) t ⟨K.L.add b, s, K.e, false⟩) ∨
    (∃ t, K.L.append d b = (t, { K.L with dead := true }, 12) ∧ d.ends = true ∧ t.ok ∧ t.n = d.n ∧ t.lim (m + 162) ∧ ∀ f, Rest (m + 162) (t.crash f) K ∨ Rest (m + 162) (t.crash f) ⟨K.L.add b, s, K.e, false⟩) := by
  have hnd : need b.length ≤ 159 := by unfold need; omega
  have hp := Lies.le h.lies
  have hap := append_all (m := m) (b := b) h.ldead h.ok h.l (by rw [h.fin]; exact h.pf) (by rw [h.fin]; exact h.n) h.lim
  revert hap
  generalize hr : K.L.append d b = r
  intro hap
  cases hap with
  | long hf => exact .inl ⟨hf, rfl⟩
  | ok hf a1 a2 a3 a4 a5 a6 => exact .inr (.inl ⟨_, rfl, a3, a2, h.add (by omega) hm hb ha hs hf a5 a1 a4 a2 (lim_mono a6 (by omega))⟩)
  | fail hf he hc a1 a2 a6 =>
    rename_i t
    refine .inr (.inr ⟨_, rfl, he, a1, a2, lim_mono a6 (by omega), fun f => ?_⟩)
    have lim : (t.crash f).lim (m + 162) := crash_lim (lim_mono a6 (by omega)) f
    rcases hc f with hlow | hd
    · exact .inl (h.kept (by omega) (fun i _ hi => hlow i hi) (fun s0 hb0 hs0 => sits_low hs0 (by have := hb0.bytes.2.1; show _ ≤ 6144; omega) fun i hi => hlow i (by have hi : i < 0 + 2 + 2 * 96 := hi; omega)) (a1.crash f) rfl ((Dk.n_crash _ _).trans a2) lim)
    · exact .inr (h.add (by omega) hm hb ha hs hf hd (a1.crash f) rfl ((Dk.n_crash _ _).trans a2) lim)
theorem rest_new {n : Nat} (h1 : 354 ≤ n) (h2 : n ≤ 4096) (m : Nat) : Rest m (Dk.new n) ⟨logK 0, ⟨1, []⟩, 0, false⟩ := by
  have hz : ∀ i, i < 354 → (Dk.new n).at_ i = zeros 64 := fun i hi => new_at (by omega)
  refine ⟨Dk.ok.new h2, rfl, by rw [Dk.n_new]; exact h1, new_lim n m, rfl, rfl, rfl, rfl, by show 194 ≤ 354; decide, rfl, find_zero (L := logK 0) (hz 194 (by omega)), ⟨_, .nil base_new, .inl ⟨rfl, fun t ht => hz _ (by show 0 + t < 354; omega)⟩, fun _ => rfl⟩, Nat.zero_le _, fun k n _ _ => ?_⟩
  rw [hz 194 (by omega)]
  exact fun e => headB_zero e.symm
end
end Go.Proofs.YtjfoflbaoceemaaGreat
namespace Go.Proofs.YtjfoflbaoceemaaGreat
theorem putK_congr {im im2 : Dk → Ks → Dk × Ks × Bool} {d : Dk} {K : Ks} {b : List UInt8} (h : im d K = im2 d K) : putK im d K b = putK im2 d K b := by unfold putK; rw [h]
theorem doK_congr {p p2 : Dk → Ks → List UInt8 → Dk × Ks × Bool} {d : Dk} {K : Ks} {l : List Ef} (h : p d K (bytesE l) = p2 d K (bytesE l)) : doK p d K l = doK p2 d K l := by unfold doK; rw [h]
theorem openK_congr {im im2 : Dk → Ks → Dk × Ks × Bool} {d : Dk} (h : ∀ K, foundK d = some K → im d { K with st := freedK K.st } = im2 d { K with st := freedK K.st }) : openK im d = openK im2 d := by
  unfold openK
  cases hf : foundK d with
  | none => rfl
  | some K =>
    rw [hf] at h
    have := h K rfl
    simp only [this]
section
variable {m : Nat} {d d1 : Dk} {K : Ks} {s : St} {l : List Ef} {b : List UInt8}
theorem Rest.rn (h : Rest m d K) (hm : m ≤ 900000) {K2 : Ks} (he : K2.e = K.e) : rnK d K2 = imK d K2 := rnK_yes (by rw [he]; exact h.clear hm)
theorem Rest.layP (h : Rest m d K) (hm : m ≤ 900000) : layP d K b = putK imK d K b := by
  unfold Proofs.YtjfoflbaoceemaaGreat.layP
  rw [if_pos (h.there hm)]
  exact putK_congr (h.rn hm rfl)
theorem Rest.doK (h : Rest m d K) (hm : m ≤ 900000) : doK Proofs.YtjfoflbaoceemaaGreat.layP d K l = Proofs.YtjfoflbaoceemaaGreat.doK (putK imK) d K l := doK_congr (h.layP hm)
theorem Rest.openK (h : Rest m d K) (hm : m ≤ 900000) : openK rnK d = Proofs.YtjfoflbaoceemaaGreat.openK imK d := openK_congr fun K2 hf => by
  rw [h.found hm] at hf
  obtain rfl := Option.some.inj hf
  exact h.rn hm rfl
theorem Rest.im (h : Rest m d K) (hm : m + 97 ≤ 900000) (hs : Base s) :
    (∃ t, imK d { K with st := s } = (t, ⟨logK (K.e + 1), s, K.e + 1, false⟩, true) ∧ t.ends = d.ends ∧ t.n = d.n ∧ Rest (m + 97) t ⟨logK (K.e + 1), s, K.e + 1, false⟩) ∨
    (∃ t, imK d { K with st := s } = (t, { K with st := s }, false) ∧ d.ends = true ∧ t.ok ∧ t.n = d.n ∧ t.lim (m + 97) ∧ ∀ f, Rest (m + 97) (t.crash f) K ∨ Rest (m + 97) (t.crash f) ⟨logK (K.e + 1), s, K.e + 1, false⟩) := by
  obtain ⟨t, v, hl⟩ : ∃ t v, layK d (K.e + 1) s = (t, v) := ⟨_, _, rfl⟩
  obtain ⟨a1, a2, a3, a4, a5, a6⟩ := h.lay hm hs hl
  cases v
  · obtain ⟨b1, b2⟩ := a6 rfl
    exact .inr ⟨t, imK_no hl, b1, a1, a2, a3, b2⟩
  · obtain ⟨b1, b2⟩ := a5 rfl
    refine .inl ⟨t, ?_, a4, a2, b1⟩
    have := imK_yes (K := { K with st := s }) hl
    rw [this]
    simp only [b2, h.dead]
inductive DidK (m : Nat) (d : Dk) (K : Ks) (l : List Ef) : Dk × Ks × Int → Prop
  | no {c : Int} : c ≠ 0 → c ≠ 12 → DidK m d K l (d, K, c)
  | ok {t : Dk} {K1 : Ks} : applyS K.st l = (0, K1.st) → sizeD K1.st.objs ≤ 6000 → t.ends = d.ends → t.n = d.n → Rest (m + 300) t K1 → DidK m d K l (t, K1, 0)
  | fail {t : Dk} {K1 : Ks} {s : St} : applyS K.st l = (0, s) → K1.st = K.st → K1.dead = true → d.ends = true → t.ok → t.n = d.n → t.lim (m + 300) → (∀ f, ∃ K2, Rest (m + 300) (t.crash f) K2 ∧ (K2.st = K.st ∨ K2.st = s)) → DidK m d K l (t, K1, 12)
theorem with_code {next : Int} {l : List Ob} {o : Ob} {e : Ef} : (withinO next l o e).1 ≠ 12 := by
  unfold withinO
  split
  · simp
  split
  · split <;> simp
  split
  · split
    · simp
    · split <;> simp
  split
  · split <;> simp
  split
  · split
    · split <;> simp
    · simp
  split
  · split <;> simp
  · simp
theorem one_code {s : St} {e : Ef} : (oneS s e).1 ≠ 12 := by
  unfold oneS
  split
  · simp
  split
  · simp only
    unfold makeO
    split
    · simp
    · split <;> simp
  split
  · split <;> simp
  split
  · simp
  · split
    · exact with_code
    · simp
theorem run_code : ∀ {l : List Ef} {s : St}, (runS s l).1 ≠ 12
  | [], _ => by simp [runS]
  | e :: l, s => by
    rw [runS]
    split
    · exact run_code
    · exact one_code
theorem apply_code : (applyS s l).1 ≠ 12 := by
  unfold applyS
  split
  · exact run_code
  · simp
theorem Rest.did (h : Rest m d K) (hm : m + 300 ≤ 900000) (hl : l.length ≤ 10000) : DidK m d K l (Proofs.YtjfoflbaoceemaaGreat.doK (putK imK) d K l) := by
  obtain ⟨c, s, ha⟩ : ∃ c s, applyS K.st l = (c, s) := ⟨_, _, rfl⟩
  have hd := h.dead
  have hcode : c ≠ 12 := by
    have := apply_code (s := K.st) (l := l)
    rw [ha] at this
    exact this
  by_cases hc : c = 0
  rotate_left
  · rw [doK_err hd ha hc]
    exact .no hc hcode
  subst hc
  by_cases hf : 6000 < sizeD s.objs ∨ 10176 < (bytesE l).length
  · rw [doK_full hd ha hf]
    exact .no (by decide) (by decide)
  have hz : sizeD s.objs ≤ 6000 := by omega
  have hz2 : (bytesE l).length ≤ 10176 := by omega
  have h1 : (applyS K.st l).1 = 0 := by rw [ha]
  have hrt := apply_right h1
  have hb := back_tight hrt hl
  have hs : Base s := ⟨by have := (apply_n h1).2; rw [ha] at this; exact this, hz⟩
  by_cases hn : l = []
  · rw [doK_nil hd ha hz hn]
    subst hn
    rw [apply_nil h.st.right] at ha
    obtain ⟨_, rfl⟩ := Prod.mk.inj ha
    exact .ok (apply_nil h.st.right) hz rfl rfl (h.more (by omega))
  rcases h.app (by omega) hb ha hs hz2 with ⟨hnf, hap⟩ | ⟨t, hap, e1, e2, hr⟩ | ⟨t, hap, he, e1, e2, e3, hr⟩
  · rcases h.im (by omega) h.st with ⟨t, him, e1, e2, hr⟩ | ⟨t, him, he, e1, e2, e3, hr⟩
    · have hfit : (logK (K.e + 1)).fits (bytesE l).length = true := fits_iff.2 ⟨by omega, by
        rw [Int.toNat_natCast]
        have : need (bytesE l).length ≤ 159 := by unfold need; omega
        unfold Lg.left logK
        simp only
        omega⟩
      rcases hr.app (by omega) hb ha hs hz2 with ⟨hnf2, _⟩ | ⟨t2, hap2, f1, f2, hr2⟩ | ⟨t2, hap2, hf0, f1, f2, f3, hr2⟩
      · rw [hfit] at hnf2; cases hnf2
      · have hp : putK imK d K (bytesE l) = (t2, ⟨(logK (K.e + 1)).add (bytesE l), K.st, K.e + 1, false⟩, true) := putK_im hap him hap2
        rw [doK_ok hd ha hz hz2 hn hp]
        exact .ok ha hz (f1.trans e1) (f2.trans e2) (hr2.more (by omega))
      · have hp : putK imK d K (bytesE l) = (t2, ⟨{ (logK (K.e + 1)) with dead := true }, K.st, K.e + 1, false⟩, false) := putK_im hap him hap2
        rw [doK_fail hd ha hz hz2 hn hp]
        refine .fail ha rfl rfl (by rw [← e1]; exact hf0) f1 (f2.trans e2) (lim_mono f3 (by omega)) fun f => ?_
        rcases hr2 f with h | h
        · exact ⟨_, h.more (by omega), .inl rfl⟩
        · exact ⟨_, h.more (by omega), .inr rfl⟩
    · rw [doK_fail hd ha hz hz2 hn (putK_no hap him)]
      refine .fail ha rfl rfl he e1 e2 (lim_mono e3 (by omega)) fun f => ?_
      rcases hr f with h | h
      · exact ⟨_, h.more (by omega), .inl rfl⟩
      · exact ⟨_, h.more (by omega), .inl rfl⟩
  · have hp : putK imK d K (bytesE l) = (t, { K with L := K.L.add (bytesE l) }, true) := putK_app hap (by decide)
    rw [doK_ok hd ha hz hz2 hn hp]
    refine .ok ha hz e1 e2 ?_
    have := hr.more (m2 := m + 300) (by omega)
    simp only [hd]
    exact this
  · have hp : putK imK d K (bytesE l) = (t, { K with L := { K.L with dead := true } }, false) := putK_app hap (by decide)
    rw [doK_fail hd ha hz hz2 hn hp]
    refine .fail ha rfl rfl he e1 e2 (lim_mono e3 (by omega)) fun f => ?_
    rcases hr f with h | h
    · exact ⟨_, h.more (by omega), .inl rfl⟩
    · exact ⟨_, h.more (by omega), .inr rfl⟩
/-! Open -/
theorem part_sum (lim : Int) : ∀ l : List Mg, ((l.filterMap (leftM lim)).map fun m => 60 + m.corr.size + m.body.size).sum + ((l.filterMap (goneM lim)).map fun m => 60 + m.corr.size + m.body.size).sum = (l.map fun m => 60 + m.corr.size + m.body.size).sum
  | [] => rfl
  | m :: l => by
    have ih := part_sum lim l
    cases hc : m.claimed
    · have e1 : leftM lim m = some m := by unfold leftM; rw [hc]; rfl
      have e2 : goneM lim m = none := by unfold goneM; rw [hc]; rfl
      rw [List.filterMap_cons_some e1, List.filterMap_cons_none e2, List.map_cons, List.map_cons, List.sum_cons, List.sum_cons]
      omega
    · cases ht : triedB m.retry lim
      · have e1 : leftM lim m = some m.tried := by unfold leftM; rw [hc, ht]; rfl
        have e2 : goneM lim m = none := by unfold goneM; rw [hc, ht]; rfl
        rw [List.filterMap_cons_some e1, List.filterMap_cons_none e2, List.map_cons, List.map_cons, List.sum_cons, List.sum_cons]
        show 60 + m.corr.size + m.body.size + _ + _ = _
        omega
      · have e1 : leftM lim m = none := by unfold leftM; rw [hc, ht]; rfl
        have e2 : goneM lim m = some m.tried := by unfold goneM; rw [hc, ht]; rfl
        rw [List.filterMap_cons_none e1, List.filterMap_cons_some e2, List.map_cons, List.map_cons, List.sum_cons, List.sum_cons]
        show _ + (60 + m.corr.size + m.body.size + _) = _
        omega
theorem end_size (o : Ob) : sizeO (endO o) = sizeO o := by
  have h := part_sum o.limit o.msgs
  unfold sizeO
  rw [end_msgs, end_dead, List.map_append, List.sum_append]
  show 50 + o.name.size + (o.rows.map _).sum + _ + _ = _
  omega
theorem freed_is (h : RightN s.next s.objs) : applyS s (claimsS s.objs) = (0, ⟨s.next, s.objs.map endO⟩) ∧ freedK s = ⟨s.next, s.objs.map endO⟩ := by
  have e : applyS s (claimsS s.objs) = (0, ⟨s.next, s.objs.map endO⟩) := by
    rw [apply_run h]
    exact claims_run h.d.good s.next
  exact ⟨e, by unfold freedK; rw [e]⟩
theorem Base.freed (h : Base s) : Base (freedK s) := by
  obtain ⟨e1, e2⟩ := freed_is h.right
  refine ⟨?_, ?_⟩
  · have := (apply_n (s := s) (l := claimsS s.objs) (by rw [e1])).2
    rw [e1] at this
    rw [e2]
    exact this
  · rw [e2]
    have := h.size
    unfold sizeD at this ⊢
    rw [List.map_map, show (sizeO ∘ endO) = sizeO from funext end_size]
    exact this
theorem end_same {o : Ob} (h : claimsO o = []) : endO o = o := by
  have hc : ∀ m ∈ o.msgs, m.claimed = false := fun m hm => by
    cases e : m.claimed
    · rfl
    · have : freeE o.name m ∈ claimsO o := List.mem_map_of_mem (List.mem_filter.2 ⟨hm, e⟩)
      rw [h] at this
      cases this
  have e1 : ∀ l : List Mg, (∀ m ∈ l, m.claimed = false) → l.filterMap (leftM o.limit) = l ∧ l.filterMap (goneM o.limit) = [] := fun l => by
    induction l with
    | nil => exact fun _ => ⟨rfl, rfl⟩
    | cons m l ih =>
      intro hl
      obtain ⟨i1, i2⟩ := ih fun x hx => hl x (List.mem_cons_of_mem _ hx)
      have hm := hl m List.mem_cons_self
      have e1 : leftM o.limit m = some m := by unfold leftM; rw [hm]; rfl
      have e2 : goneM o.limit m = none := by unfold goneM; rw [hm]; rfl
      rw [List.filterMap_cons_some e1, List.filterMap_cons_none e2, i1, i2]
      exact ⟨rfl, rfl⟩
  obtain ⟨a1, a2⟩ := e1 o.msgs hc
  have m1 := end_msgs o
  have m2 := end_dead o
  rw [a1] at m1
  rw [a2, List.append_nil] at m2
  obtain ⟨nm, k, li, rs, ms, ds⟩ := o
  unfold endO partO at m1 m2 ⊢
  simp only at m1 m2 ⊢
  rw [m1, m2]
theorem freed_same (h : RightN s.next s.objs) (hc : claimsS s.objs = []) : freedK s = s := by
  rw [(freed_is h).2]
  have : s.objs.map endO = s.objs := by
    conv => rhs; rw [← List.map_id s.objs]
    refine List.map_congr_left fun o ho => end_same ?_
    unfold claimsS at hc
    rw [List.flatMap_eq_nil_iff] at hc
    exact hc o ho
  rw [this]
inductive Opd (m : Nat) (d : Dk) (K : Ks) : Dk × Option Ks × Int → Prop
  | ok {t : Dk} {K1 : Ks} : K1.st = freedK K.st → 1 ≤ K1.e → claimsS K1.st.objs = [] → t.ends = d.ends → t.n = d.n → Rest (m + 100) t K1 → (K.e = 0 ∨ claimsS K.st.objs ≠ [] → K1.e = K.e + 1) → (0 < K.e → claimsS K.st.objs = [] → t = d ∧ K1 = K) → Opd m d K (t, some K1, 0)
  | fail {t : Dk} : d.ends = true → t.ok → t.n = d.n → t.lim (m + 100) → (∀ f, ∃ K2, Rest (m + 100) (t.crash f) K2 ∧ (K2 = K ∨ K2.st = freedK K.st)) → Opd m d K (t, none, 12)
end
end Go.Proofs.YtjfoflbaoceemaaGreat
