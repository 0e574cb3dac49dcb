/- . . -/
import Derived.Test.YtjfoflbaoceemaaGreatJ07
import Derived.Test.YtjfoflbaoceemaaGreatJ12
import Derived.Test.YtjfoflbaoceemaaGreatJ36
import Derived.Test.YtjfoflbaoceemaaGreatJ37
import Derived.Test.YtjfoflbaoceemaaGreatJ32
set_option maxRecDepth 4000
namespace Go.Proofs.YtjfoflbaoceemaaGreat
def keepP : Pl := ⟨0, 96⟩
structure Ks where
  L : Lg
  st : St
  e : Nat
  dead : Bool
def logK (e : Nat) : Lg := ⟨(e : Int), 194, 354, [], false⟩
theorem opens_ex {s : Dk} : ∀ (n : Nat) (L : Lg), L.left ≤ n → ∃ L', Opens s L L'
  | 0, L, h => ⟨L, .stop (find_end (by unfold Lg.left at h; omega))⟩
  | n + 1, L, h => by
    cases hf : L.find s with
    | none => exact ⟨L, .stop hf⟩
    | some b =>
      obtain ⟨L', h'⟩ := opens_ex n (L.add b) (by
        unfold Lg.left at *
        simp only [Lg.add]
        omega)
      exact ⟨L', .step hf h'⟩
noncomputable def opK (d : Dk) (e : Nat) : Lg := Classical.choose (opens_ex (s := d) (logK e).left (logK e) (Nat.le_refl _))
theorem opK_opens (d : Dk) (e : Nat) : Opens d (logK e) (opK d e) := Classical.choose_spec (opens_ex (s := d) (logK e).left (logK e) (Nat.le_refl _))
theorem opK_of {d : Dk} {e : Nat} {L : Lg} (h : Opens d (logK e) L) : L = opK d e := h.det (opK_opens d e)
def afterK (s : St) (l : List Ef) : Option St := if (applyS s l).1 = 0 then some (applyS s l).2 else none
def stepK (s : St) (b : List UInt8) : Option St := (readsE b).bind (afterK s)
def runK (s : St) : List (List UInt8) → Option St
  | [] => some s
  | b :: r => (stepK s b).bind fun t => runK t r
theorem after_no {s : St} {l : List Ef} (h : (applyS s l).1 ≠ 0) : afterK s l = none := if_neg h
theorem after_yes {s t : St} {l : List Ef} (h : applyS s l = (0, t)) : afterK s l = some t := by
  unfold afterK
  rw [h]
  exact if_pos rfl
theorem stepK_is {s : St} {b : List UInt8} {o : Option (List Ef)} (h : readsE b = o) : stepK s b = o.bind (afterK s) := congrArg (fun o => Option.bind o (afterK s)) h
theorem stepK_none {s : St} {b : List UInt8} (h : readsE b = none) : stepK s b = none := stepK_is h
theorem stepK_no {s : St} {b : List UInt8} {l : List Ef} (h : readsE b = some l) (h2 : (applyS s l).1 ≠ 0) : stepK s b = none := (stepK_is h).trans (after_no h2)
theorem stepK_some {s t : St} {b : List UInt8} {l : List Ef} (h : readsE b = some l) (h2 : applyS s l = (0, t)) : stepK s b = some t := (stepK_is h).trans (after_yes h2)
theorem runK_none {s : St} {b : List UInt8} {r : List (List UInt8)} (h : stepK s b = none) : runK s (b :: r) = none := congrArg (fun o => Option.bind o fun t => runK t r) h
theorem runK_some {s t : St} {b : List UInt8} {r : List (List UInt8)} (h : stepK s b = some t) : runK s (b :: r) = runK t r := congrArg (fun o => Option.bind o fun t => runK t r) h
def imgK (p : Int × List UInt8) : Option (St × Nat) := (readI p.2).map fun q => (⟨q.1, q.2⟩, p.1.toNat)
def baseOf (o : Option (Int × List UInt8)) : Option (St × Nat) := o.elim (some (⟨1, []⟩, 0)) imgK
def baseK (d : Dk) : Option (St × Nat) := baseOf (keepP.read d)
theorem baseK_new {d : Dk} (h : keepP.read d = none) : baseK d = some (⟨1, []⟩, 0) := congrArg baseOf h
theorem baseOf_some (p : Int × List UInt8) : baseOf (some p) = imgK p := by unfold baseOf; rw [Option.elim_some]
theorem imgK_is {e : Int} {b : List UInt8} {o : Option (Int × List Ob)} (h : readI b = o) : imgK (e, b) = o.map fun q => ((⟨q.1, q.2⟩, e.toNat) : St × Nat) := by
  subst h
  rfl
theorem baseK_bad {d : Dk} {e : Int} {b : List UInt8} (h : keepP.read d = some (e, b)) (h2 : readI b = none) : baseK d = none :=
  (congrArg baseOf h).trans ((baseOf_some _).trans (imgK_is h2))
theorem baseK_img {d : Dk} {e : Int} {b : List UInt8} {n : Int} {l : List Ob} (h : keepP.read d = some (e, b)) (h2 : readI b = some (n, l)) : baseK d = some (⟨n, l⟩, e.toNat) :=
  (congrArg baseOf h).trans ((baseOf_some _).trans (imgK_is h2))
noncomputable def lieK (d : Dk) (p : St × Nat) : Option Ks := (runK p.1 (opK d p.2).ls).map fun t => ⟨opK d p.2, t, p.2, false⟩
noncomputable def foundK (d : Dk) : Option Ks := (baseK d).bind (lieK d)
theorem foundK_bad {d : Dk} (h : baseK d = none) : foundK d = none := congrArg (fun o => Option.bind o (lieK d)) h
theorem foundK_no {d : Dk} {s : St} {e : Nat} (h : baseK d = some (s, e)) (h2 : runK s (opK d e).ls = none) : foundK d = none :=
  (congrArg (fun o => Option.bind o (lieK d)) h).trans (congrArg (Option.map fun t => (⟨opK d e, t, e, false⟩ : Ks)) h2)
theorem foundK_yes {d : Dk} {s t : St} {e : Nat} (h : baseK d = some (s, e)) (h2 : runK s (opK d e).ls = some t) : foundK d = some ⟨opK d e, t, e, false⟩ :=
  (congrArg (fun o => Option.bind o (lieK d)) h).trans (congrArg (Option.map fun t => (⟨opK d e, t, e, false⟩ : Ks)) h2)
def bytesK (s : St) : List UInt8 := imgS s.next s.objs
def layK (d : Dk) (e : Nat) (s : St) : Dk × Bool := if (bytesK s).length ≤ 6144 then keepP.lay d e (bytesK s) else (d, false)
noncomputable def imK (d : Dk) (K : Ks) : Dk × Ks × Bool :=
  if (layK d (K.e + 1) K.st).2 = true then ((layK d (K.e + 1) K.st).1, { K with e := K.e + 1, L := opK (layK d (K.e + 1) K.st).1 (K.e + 1) }, true) else ((layK d (K.e + 1) K.st).1, K, false)
theorem imK_yes {d d1 : Dk} {K : Ks} (h : layK d (K.e + 1) K.st = (d1, true)) : imK d K = (d1, { K with e := K.e + 1, L := opK d1 (K.e + 1) }, true) := by unfold imK; rw [h]; simp
theorem imK_no {d d1 : Dk} {K : Ks} (h : layK d (K.e + 1) K.st = (d1, false)) : imK d K = (d1, K, false) := by unfold imK; rw [h]; simp
noncomputable def clK (d : Dk) (e : Nat) : Dk × Bool := if (opK d e).ls.isEmpty = true then (d, true) else d.tryW 194 (zeros 64)
noncomputable def rnK (d : Dk) (K : Ks) : Dk × Ks × Bool := if (clK d (K.e + 1)).2 = true then imK (clK d (K.e + 1)).1 K else ((clK d (K.e + 1)).1, K, false)
theorem rnK_yes {d d1 : Dk} {K : Ks} (h : clK d (K.e + 1) = (d1, true)) : rnK d K = imK d1 K := by unfold rnK; rw [h]; simp
theorem rnK_no {d d1 : Dk} {K : Ks} (h : clK d (K.e + 1) = (d1, false)) : rnK d K = (d1, K, false) := by unfold rnK; rw [h]; simp
def putK (im : Dk → Ks → Dk × Ks × Bool) (d : Dk) (K : Ks) (b : List UInt8) : Dk × Ks × Bool :=
  if (K.L.append d b).2.2 = 6 then
    (if (im d K).2.2 = true then (((im d K).2.1.L.append (im d K).1 b).1, { (im d K).2.1 with L := ((im d K).2.1.L.append (im d K).1 b).2.1 }, decide (((im d K).2.1.L.append (im d K).1 b).2.2 = 0)) else im d K)
  else ((K.L.append d b).1, { K with L := (K.L.append d b).2.1 }, decide ((K.L.append d b).2.2 = 0))
section
variable {im : Dk → Ks → Dk × Ks × Bool} {d d1 d2 : Dk} {K K1 : Ks} {b : List UInt8} {L1 L2 : Lg} {c c2 : Nat}
theorem putK_app (h : K.L.append d b = (d1, L1, c)) (hc : c ≠ 6) : putK im d K b = (d1, { K with L := L1 }, decide (c = 0)) := by unfold putK; rw [h]; exact if_neg hc
theorem putK_no (h : K.L.append d b = (d, K.L, 6)) (hi : im d K = (d1, K1, false)) : putK im d K b = (d1, K1, false) := by unfold putK; rw [h, hi]; rfl
theorem putK_im (h : K.L.append d b = (d, K.L, 6)) (hi : im d K = (d1, K1, true)) (h2 : K1.L.append d1 b = (d2, L2, c2)) : putK im d K b = (d2, { K1 with L := L2 }, decide (c2 = 0)) := by unfold putK; rw [h, hi]; simp only [h2, if_true]
end
noncomputable def thereK (d : Dk) (K : Ks) : Bool := decide ((K.e : Int) ≤ ((keepP.read d).map (·.1)).getD 0) && decide (K.L.ls.length ≤ (opK d K.e).ls.length)
noncomputable def layP (d : Dk) (K : Ks) (b : List UInt8) : Dk × Ks × Bool := if thereK d K = true then putK rnK d K b else (d, K, false)
noncomputable def doK (put : Dk → Ks → List UInt8 → Dk × Ks × Bool) (d : Dk) (K : Ks) (l : List Ef) : Dk × Ks × Int :=
  if K.dead = true then (d, K, 12) else if (applyS K.st l).1 ≠ 0 then (d, K, (applyS K.st l).1)
  else if 6000 < sizeD (applyS K.st l).2.objs ∨ 10176 < (bytesE l).length then (d, K, 9) else if l = [] then (d, K, 0)
  else if (put d K (bytesE l)).2.2 = true then ((put d K (bytesE l)).1, { (put d K (bytesE l)).2.1 with st := (applyS K.st l).2 }, 0) else ((put d K (bytesE l)).1, { (put d K (bytesE l)).2.1 with dead := true }, 12)
section
variable {put : Dk → Ks → List UInt8 → Dk × Ks × Bool} {d d1 : Dk} {K K1 : Ks} {l : List Ef} {s : St} {c : Int}
theorem doK_err (h : K.dead = false) (ha : applyS K.st l = (c, s)) (hc : c ≠ 0) : doK put d K l = (d, K, c) := by unfold doK; rw [if_neg (by simp [h]), ha]; exact if_pos hc
theorem doK_full (h : K.dead = false) (ha : applyS K.st l = (0, s)) (hf : 6000 < sizeD s.objs ∨ 10176 < (bytesE l).length) : doK put d K l = (d, K, 9) := by
  unfold doK; rw [if_neg (by simp [h]), ha, if_neg (by simp)]; exact if_pos hf
theorem none_len : (bytesE []).length = 8 := by unfold bytesE bytesAll; simp [encInt_len]
theorem doK_nil (h : K.dead = false) (ha : applyS K.st l = (0, s)) (hf : sizeD s.objs ≤ 6000) (hl : l = []) : doK put d K l = (d, K, 0) := by
  unfold doK; rw [if_neg (by simp [h]), ha, if_neg (by simp), if_neg (by subst hl; rw [none_len]; simp only []; omega), if_pos hl]
theorem doK_ok (h : K.dead = false) (ha : applyS K.st l = (0, s)) (hf : sizeD s.objs ≤ 6000) (hb : (bytesE l).length ≤ 10176) (hl : l ≠ []) (hp : put d K (bytesE l) = (d1, K1, true)) : doK put d K l = (d1, { K1 with st := s }, 0) := by
  unfold doK; rw [if_neg (by simp [h]), ha, if_neg (by simp), if_neg (by simp only []; omega), if_neg hl, hp]; rfl
theorem doK_fail (h : K.dead = false) (ha : applyS K.st l = (0, s)) (hf : sizeD s.objs ≤ 6000) (hb : (bytesE l).length ≤ 10176) (hl : l ≠ []) (hp : put d K (bytesE l) = (d1, K1, false)) : doK put d K l = (d1, { K1 with dead := true }, 12) := by
  unfold doK; rw [if_neg (by simp [h]), ha, if_neg (by simp), if_neg (by simp only []; omega), if_neg hl, hp]; rfl
end
def freedK (s : St) : St := (applyS s (claimsS s.objs)).2
noncomputable def openK (im : Dk → Ks → Dk × Ks × Bool) (d : Dk) : Dk × Option Ks × Int :=
  if d.n < 354 then (d, none, 1) else match foundK d with
    | none => (d, none, 11)
    | some K => if claimsS K.st.objs = [] ∧ 0 < K.e then (d, some K, 0) else
      if (im d { K with st := freedK K.st }).2.2 = true then ((im d { K with st := freedK K.st }).1, some (im d { K with st := freedK K.st }).2.1, 0) else ((im d { K with st := freedK K.st }).1, none, 12)
section
variable {im : Dk → Ks → Dk × Ks × Bool} {d d1 : Dk} {K K1 : Ks}
theorem openK_bytes (h : 354 ≤ d.n) (hf : foundK d = none) : openK im d = (d, none, 11) := by unfold openK; rw [if_neg (by omega), hf]
theorem openK_as (h : 354 ≤ d.n) (hf : foundK d = some K) (hc : claimsS K.st.objs = []) (he : 0 < K.e) : openK im d = (d, some K, 0) := by unfold openK; rw [if_neg (by omega), hf]; exact if_pos ⟨hc, he⟩
theorem openK_new (h : 354 ≤ d.n) (hf : foundK d = some K) (hc : claimsS K.st.objs ≠ [] ∨ K.e = 0) (hi : im d { K with st := freedK K.st } = (d1, K1, true)) : openK im d = (d1, some K1, 0) := by
  unfold openK; rw [if_neg (by omega), hf]
  show (if claimsS K.st.objs = [] ∧ 0 < K.e then _ else _) = _
  rw [if_neg (by rintro ⟨a, b⟩; rcases hc with h | h; exact h a; omega), hi]; rfl
theorem openK_fail (h : 354 ≤ d.n) (hf : foundK d = some K) (hc : claimsS K.st.objs ≠ [] ∨ K.e = 0) (hi : im d { K with st := freedK K.st } = (d1, K1, false)) : openK im d = (d1, none, 12) := by
  unfold openK; rw [if_neg (by omega), hf]
  show (if claimsS K.st.objs = [] ∧ 0 < K.e then _ else _) = _
  rw [if_neg (by rintro ⟨a, b⟩; rcases hc with h | h; exact h a; omega), hi]; rfl
end
end Go.Proofs.YtjfoflbaoceemaaGreat
namespace Go.Proofs.YtjfoflbaoceemaaGreat
structure Tight (e : Ef) : Prop where
  obj : e.obj.size ≤ 16
  key : e.key.size ≤ 40
  val : e.val.size ≤ 100
  corr : e.msg.corr.size ≤ 40
  body : e.msg.body.size ≤ 100
  fits : e.fits
theorem size_nil {a : ByteArray} (h : (a.toList == (⟨#[]⟩ : ByteArray).toList) = true) : a.size = 0 := by
  rw [beq_iff_eq] at h
  rw [size_toList, h, ← size_toList]
  rfl
theorem same_parts {e f : Ef} (h : e.same f = true) : (e.obj.toList == f.obj.toList) = true ∧ (e.key.toList == f.key.toList) = true ∧ (e.val.toList == f.val.toList) = true ∧ e.n = f.n ∧ e.limit = f.limit ∧ e.msg.same f.msg = true := by
  unfold Ef.same at h
  simp only [Bool.and_eq_true] at h
  obtain ⟨_, h1, h2, h3, h4, h5, _, h6⟩ := h
  exact ⟨h1, h2, h3, by simpa using h4, by simpa using h5, h6⟩
theorem zero_parts {m : Mg} (h : m.same Mg.zero = true) : m.corr.size = 0 ∧ m.body.size = 0 ∧ m.fits := by
  unfold Mg.same at h
  simp only [Bool.and_eq_true, beq_iff_eq] at h
  obtain ⟨h1, h2, h3, _, h5, h6⟩ := h
  have z : ∀ a : ByteArray, a.toList = (⟨#[]⟩ : ByteArray).toList → a.size = 0 := fun a ha => by rw [size_toList, ha, ← size_toList]; rfl
  refine ⟨z _ h5, z _ h6, ?_⟩
  unfold Mg.fits
  rw [h1, h2, h3]
  simp [Mg.zero]
theorem msg_parts {m : Mg} (h : m.right = true) : m.corr.size ≤ 40 ∧ m.body.size ≤ 100 := by
  unfold Mg.right corrB bodyB at h
  simp only [Bool.and_eq_true, decide_eq_true_eq] at h
  omega
theorem name_size {n : ByteArray} (h : nameB n = true) : n.size ≤ 16 := by
  unfold nameB at h
  simp only [Bool.and_eq_true, decide_eq_true_eq] at h
  omega
theorem key_size {n : ByteArray} (h : keyLB n = true) : n.size ≤ 40 := by
  unfold keyLB at h
  simp only [Bool.and_eq_true, decide_eq_true_eq] at h
  omega
theorem id_range {n : Int} (h : idB n = true) : 1 ≤ n ∧ n ≤ 1099511627776 := by
  unfold idB at h
  simpa using h
theorem kind_range {k l : Int} (h : kindB k l = true) : 1 ≤ k ∧ k ≤ 2 ∧ 0 ≤ l ∧ l ≤ 1000 := by
  unfold kindB at h
  split at h
  · rw [decide_eq_true_eq] at h; omega
  · split at h
    · simp only [Bool.and_eq_true, decide_eq_true_eq] at h; omega
    · cases h
theorem right_tight {e : Ef} (h : e.right = true) : Tight e := by
  have hk := kind_of h
  have g := good_of h
  unfold Ef.right at h
  rw [Bool.and_eq_true] at h
  have hs := h.2
  clear h
  unfold Ef.good at g
  unfold Ef.bare at hs
  by_cases h1 : e.kind = 1
  · rw [if_pos h1] at g hs
    rw [Bool.and_eq_true] at g
    obtain ⟨_, b, c, _, _, m⟩ := same_parts hs
    obtain ⟨m1, m2, m3⟩ := zero_parts m
    have b := size_nil b
    have c := size_nil c
    have n := name_size g.1
    obtain ⟨k1, k2, k3, k4⟩ := kind_range g.2
    exact ⟨n, by omega, by omega, by omega, by omega, ⟨by omega, by omega⟩, ⟨by omega, by omega⟩, ⟨by omega, by omega⟩, m3⟩
  rw [if_neg h1] at g hs
  by_cases h2 : e.kind = 2
  · rw [if_pos h2] at g hs
    simp only [Bool.and_eq_true] at g
    obtain ⟨_, _, _, p, q, m⟩ := same_parts hs
    obtain ⟨m1, m2, m3⟩ := zero_parts m
    have n := name_size g.1
    have b := key_size g.2.1
    have c : e.val.size ≤ 100 := by have := g.2.2; unfold bodyB at this; rw [decide_eq_true_eq] at this; omega
    simp only at p q
    exact ⟨n, b, c, by omega, by omega, ⟨by omega, by omega⟩, ⟨by omega, by omega⟩, ⟨by omega, by omega⟩, m3⟩
  rw [if_neg h2] at g hs
  by_cases h3 : e.kind = 3
  · rw [if_pos h3] at g hs
    simp only [Bool.and_eq_true] at g
    obtain ⟨_, _, c, p, q, m⟩ := same_parts hs
    obtain ⟨m1, m2, m3⟩ := zero_parts m
    have n := name_size g.1
    have b := key_size g.2
    have c := size_nil c
    simp only at p q
    exact ⟨n, b, by omega, by omega, by omega, ⟨by omega, by omega⟩, ⟨by omega, by omega⟩, ⟨by omega, by omega⟩, m3⟩
  rw [if_neg h3] at g hs
  by_cases h4 : e.kind = 4
  · rw [if_pos h4] at g hs
    simp only [Bool.and_eq_true] at g
    obtain ⟨_, b, c, p, q, m⟩ := same_parts hs
    have n := name_size g.1
    have b := size_nil b
    have c := size_nil c
    obtain ⟨m1, m2⟩ := msg_parts g.2
    simp only at p q
    exact ⟨n, by omega, by omega, m1, m2, ⟨by omega, by omega⟩, ⟨by omega, by omega⟩, ⟨by omega, by omega⟩, mright_fits g.2⟩
  rw [if_neg h4] at g hs
  by_cases h5 : e.kind = 5
  · rw [if_pos h5] at g hs
    simp only [Bool.and_eq_true] at g
    obtain ⟨_, b, c, p, q, m⟩ := same_parts hs
    obtain ⟨m1, m2, m3⟩ := zero_parts m
    have n := name_size g.1
    have b := size_nil b
    have c := size_nil c
    have i := id_range g.2
    simp only at q
    exact ⟨n, by omega, by omega, by omega, by omega, ⟨by omega, by omega⟩, ⟨by omega, by omega⟩, ⟨by omega, by omega⟩, m3⟩
  rw [if_neg h5] at g hs
  by_cases h6 : e.kind = 6
  · rw [if_pos h6] at g hs
    simp only [Bool.and_eq_true] at g
    obtain ⟨_, b, c, p, q, m⟩ := same_parts hs
    obtain ⟨m1, m2, m3⟩ := zero_parts m
    have n := name_size g.1
    have b := size_nil b
    have c := size_nil c
    have i := id_range g.2
    simp only at q
    exact ⟨n, by omega, by omega, by omega, by omega, ⟨by omega, by omega⟩, ⟨by omega, by omega⟩, ⟨by omega, by omega⟩, m3⟩
  rw [if_neg h6] at g hs
  by_cases h7 : e.kind = 7
  · rw [if_pos h7] at g hs
    simp only [Bool.and_eq_true] at g
    obtain ⟨_, b, c, p, q, m⟩ := same_parts hs
    obtain ⟨m1, m2, m3⟩ := zero_parts m
    have n := name_size g.1
    have b := size_nil b
    have c := size_nil c
    have i := id_range g.2
    simp only at q
    exact ⟨n, by omega, by omega, by omega, by omega, ⟨by omega, by omega⟩, ⟨by omega, by omega⟩, ⟨by omega, by omega⟩, m3⟩
  rw [if_neg h7] at g hs
  have h8 : e.kind = 8 := by omega
  rw [if_pos h8] at g hs
  obtain ⟨a, b, c, p, q, m⟩ := same_parts hs
  obtain ⟨m1, m2, m3⟩ := zero_parts m
  have a := size_nil a
  have b := size_nil b
  have c := size_nil c
  have i := id_range g
  simp only at q
  exact ⟨by omega, by omega, by omega, by omega, by omega, ⟨by omega, by omega⟩, ⟨by omega, by omega⟩, ⟨by omega, by omega⟩, m3⟩
theorem Tight.short {e : Ef} (h : Tight e) : e.short := ⟨by have := h.obj; omega, by have := h.key; omega, by have := h.val; omega, by have := h.corr; omega, by have := h.body; omega⟩
theorem Tight.len {e : Ef} (h : Tight e) : e.bytes.length ≤ 356 := by
  rw [ebytes_len e h.short]
  have := h.obj; have := h.key; have := h.val; have := h.corr; have := h.body
  omega
theorem one_right {s : St} {e : Ef} (h : (oneS s e).1 = 0) : e.right = true := by
  unfold oneS at h
  cases hr : e.right
  · rw [if_pos hr] at h; cases h
  · rfl
theorem run_right : ∀ {l : List Ef} {s : St}, (runS s l).1 = 0 → ∀ e ∈ l, e.right = true
  | [], _, _ => fun e he => by cases he
  | f :: l, s, h => fun e he => by
    rw [runS] at h
    by_cases h0 : (oneS s f).1 = 0
    · rw [if_pos h0] at h
      rcases List.mem_cons.1 he with rfl | he
      · exact one_right h0
      · exact run_right h e he
    · rw [if_neg h0] at h
      exact absurd h h0
theorem apply_right {s : St} {l : List Ef} (h : (applyS s l).1 = 0) : ∀ e ∈ l, e.right = true := by
  obtain ⟨hr, _⟩ := apply_n h
  rw [apply_run hr] at h
  exact run_right h
theorem bytesE_tight {l : List Ef} (h : ∀ e ∈ l, e.right = true) : (bytesAll l).length ≤ l.length * 356 := by
  unfold bytesAll
  exact flat_le Ef.bytes fun e he => (right_tight (h e he)).len
theorem back_tight {l : List Ef} (h : ∀ e ∈ l, e.right = true) (hn : l.length ≤ 10000) : readsE (bytesE l) = some l := by
  rw [reads_back l (fun e he => (right_tight (h e he)).fits) (fun e he => (right_tight (h e he)).short) hn, if_pos (List.all_eq_true.2 h)]
theorem Bears.run : ∀ {l : List Ef} {s : St} {n : Nat}, Bears n s → (runS s l).1 = 0 → Bears (n + l.length) (runS s l).2
  | [], _, _, h, _ => h
  | e :: l, s, n, h, hz => by
    rw [runS] at hz ⊢
    by_cases h0 : (oneS s e).1 = 0
    · rw [if_pos h0] at hz ⊢
      exact (Bears.run (h.one e) hz).more (by rw [List.length_cons]; omega)
    · rw [if_neg h0] at hz
      exact absurd hz h0
/-! how great a state is -/
theorem sum_ge_n {α : Type} (f : α → Nat) {n : Nat} {l : List α} (h : ∀ x ∈ l, n ≤ f x) : l.length * n ≤ (l.map f).sum := by
  induction l with
  | nil => simp
  | cons a t ih =>
    have h1 := h a List.mem_cons_self
    have h2 := ih fun x hx => h x (List.mem_cons_of_mem _ hx)
    rw [List.map_cons, List.sum_cons, List.length_cons, Nat.add_mul]
    omega
theorem sum_mem {α : Type} (f : α → Nat) {l : List α} {x : α} (h : x ∈ l) : f x ≤ (l.map f).sum := by
  induction l with
  | nil => cases h
  | cons a t ih =>
    rw [List.map_cons, List.sum_cons]
    rcases List.mem_cons.1 h with rfl | h
    · omega
    · have := ih h; omega
theorem sizeO_ge (o : Ob) : 20 * o.rows.length + 60 * o.msgs.length + 60 * o.dead.length ≤ sizeO o := by
  have a := sum_ge_n (fun r : Rw => 20 + r.1.size + r.2.size) (n := 20) (l := o.rows) fun r _ => by omega
  have b := sum_ge_n (fun m : Mg => 60 + m.corr.size + m.body.size) (n := 60) (l := o.msgs) fun m _ => by omega
  have c := sum_ge_n (fun m : Mg => 60 + m.corr.size + m.body.size) (n := 60) (l := o.dead) fun m _ => by omega
  unfold sizeO
  omega
theorem size_short {l : List Ob} {n : Nat} (h : sizeD l ≤ n) : ∀ o ∈ l, o.short (n / 20) := fun o ho => by
  have h1 := sum_mem sizeO ho
  have h2 := sizeO_ge o
  unfold sizeD at h
  exact ⟨by omega, by omega, by omega⟩
theorem RightN.fits {next : Int} {l : List Ob} (h : RightN next l) : ∀ o ∈ l, o.fits := fun o ho =>
  ⟨fun m hm => mright_fits ((h.ok o ho).msgs m hm).1, fun m hm => mright_fits ((h.ok o ho).dead m hm).1⟩
theorem row_size {r : Rw} (h : rightR r = true) : r.1.size ≤ 40 ∧ r.2.size ≤ 100 := by
  unfold rightR at h
  simp only [Bool.and_eq_true, decide_eq_true_eq] at h
  omega
theorem RightN.keys {next : Int} {l : List Ob} (h : RightN next l) : ∀ o ∈ l, ∀ r ∈ o.rows, r.1.size ≤ maxLen := fun o ho r hr => by
  have := (row_size ((h.ok o ho).rows r hr)).1
  unfold maxLen
  omega
theorem RightN.bound {next : Int} {l : List Ob} (h : RightN next l) (hs : ∀ o ∈ l, o.short 450) : sizeD l ≤ 6000000 := by
  have e : ∀ o ∈ l, sizeO o ≤ 260000 := fun o ho => by
    have d := h.ok o ho
    obtain ⟨s1, s2, s3⟩ := hs o ho
    have a := sum_le (fun r : Rw => 20 + r.1.size + r.2.size) (n := 160) (l := o.rows) fun r hr => by have := row_size (d.rows r hr); omega
    have b := sum_le (fun m : Mg => 60 + m.corr.size + m.body.size) (n := 200) (l := o.msgs) fun m hm => by have := msg_parts (d.msgs m hm).1; omega
    have c := sum_le (fun m : Mg => 60 + m.corr.size + m.body.size) (n := 200) (l := o.dead) fun m hm => by have := msg_parts (d.dead m hm).1; omega
    have n := name_size d.name
    unfold sizeO
    omega
  have := sum_le sizeO e
  have := h.len
  unfold sizeD
  omega
structure Base (s : St) : Prop where
  right : RightN s.next s.objs
  size : sizeD s.objs ≤ 6000
theorem Base.short {s : St} (h : Base s) : ∀ o ∈ s.objs, o.short 300 := size_short h.size
theorem Base.bears {s : St} (h : Base s) : Bears 300 s := ⟨h.right.len, h.short, h.right.fits⟩
theorem Base.img {s : St} (h : Base s) : ImgOk s.next s.objs := ⟨h.right.d, h.right.fits, fun o ho => by obtain ⟨a, b, c⟩ := h.short o ho; exact ⟨by omega, by omega, by omega⟩⟩
theorem Base.apply {s t : St} (h : Base s) {l : List Ef} (hl : l.length ≤ 150) (ha : applyS s l = (0, t)) : RightN t.next t.objs ∧ (∀ o ∈ t.objs, o.short 450) := by
  have h1 : (applyS s l).1 = 0 := by rw [ha]
  have h2 := (apply_n h1).2
  rw [ha] at h2
  rw [apply_run h.right] at h1 ha
  have h3 := h.bears.run h1
  rw [ha] at h3
  exact ⟨h2, fun o ho => by obtain ⟨a, b, c⟩ := h3.short o ho; exact ⟨by omega, by omega, by omega⟩⟩
end Go.Proofs.YtjfoflbaoceemaaGreat
