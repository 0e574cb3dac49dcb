/- What the reading of a slice of changes gives, where no text that is read is longer than the form's own reach. -/
import Derived.Test.YtlapicjbnheioaaHeld
import Derived.Test.YtlapicjbnheioaaEfE
import Derived.Test.YtlapicjbnheioaaOpenG
import Derived.Deep.Slices
import Derived.ChangeArms
import Derived.SizedLaws
set_option maxRecDepth 4000
namespace Go.Proofs.Ytlapicjbnheioaa
open Go.ChangeShapes Go.WideShapes Go.ChangeAt Go.RowKit Go.Deep
theorem weightsAll_in {H : Type} {P : Program} {e : TypeId} {d : DataW H} {n : Nat} (hn : n ∈ d.weights P e) : ∀ {l : List (DataW H)}, d ∈ l → n ∈ DataW.weightsAll P e l
  | x :: r, h => by
    rw [DataW.weightsAll, List.mem_append]
    rcases List.mem_cons.1 h with rfl | h
    · exact .inl hn
    · exact .inr (weightsAll_in hn h)
section
variable {H : Type} {enc : TypeId × Value → H} {w : World} {base b0 : Nat} {spare : Nat → Bool} {held : Bool} {r : Reach} {v : Value} {d : DataW H} {p : List MemPlace}
/-- a slice of whatever structs, by an Enc: what the reading of one gives, where its weights are within the reach -/
theorem open_sized {α : Type} (E : Enc α) {T S : TypeId} (und : Try.prog.underlying S = some (.slice T)) (ck : Try.prog.cellsOf T = E.k) (P : α → Prop) (inh : α)
    (hopen : ∀ (fuel : Nat) (cs : List Value) (x : DataW H × List MemPlace), cs.length = E.k → DataW.trod enc Try.prog w base spare held fuel T cs = some x → (∀ n ∈ x.1.weights Try.prog T, n ≤ reachBytes) → ∃ s, cs = E.enc s ∧ P s)
    (hv : Value.okWide Try.prog w r b0 S v) (h : DataW.Trod enc Try.prog w base spare held S v d p) (hz : ∀ n ∈ d.weights Try.prog S, n ≤ reachBytes) :
    ∃ A n c l, v = .slice A n c ∧ Lst w (fun i => i < w.heap.size) E A l ∧ l.length = n ∧ n ≤ c ∧ c ≤ maxLen ∧ (A = none → c = 0) ∧ ∀ s ∈ l, P s := by
  obtain ⟨a1, n1, c1, rfl⟩ := okWide_slice und hv
  obtain ⟨fuel, hf⟩ := h
  rcases open_slice und hf with ⟨hcs, _⟩ | ⟨a, len, cap, m, n, D, Pl, hcs, _, hl, hm, hmm, hx, hat⟩
  · simp [Value.cells] at hcs
    obtain ⟨rfl, rfl, rfl⟩ := hcs
    exact ⟨none, 0, 0, [], rfl, Lst.nil _ _ _ _, rfl, Nat.le_refl _, by unfold maxLen; omega, fun _ => rfl, fun s hs => by cases hs⟩
  · simp [Value.cells] at hcs
    obtain ⟨rfl, rfl, rfl⟩ := hcs
    have hlm : n1 ≤ m := by rw [hmm]; split <;> omega
    have hd := congrArg Prod.fst hx
    simp only at hd
    have hzi : ∀ i, i < n1 → ∀ q ∈ (D i).weights Try.prog T, q ≤ reachBytes := fun i hi q hq => by
      have hmem : D i ∈ (List.range n1).map D := List.mem_map.2 ⟨i, List.mem_range.2 hi, rfl⟩
      refine hz q ?_
      rw [hd]
      simp only [DataW.weights, und]
      exact List.mem_cons_of_mem _ (List.mem_append_left _ (weightsAll_in hq hmem))
    have key : ∀ i, ∃ s : α, i < n1 → (∀ t v, (E.enc s)[t]? = some v → w.cell? (a.add (i * E.k + t)) = some v) ∧ P s := fun i => by
      by_cases hi : i < n1
      · obtain ⟨cs', h1, h2⟩ := hat i (by omega)
        rw [ck] at h1
        obtain ⟨_, hlen, hat⟩ := World.cells?_some h1
        obtain ⟨s, e, hp⟩ := hopen _ _ _ hlen h2 (hzi i hi)
        subst e
        refine ⟨s, fun _ => ⟨fun t v htv => ?_, hp⟩⟩
        obtain ⟨ht, e⟩ := List.getElem?_eq_some_iff.1 htv
        have := hat t (by rw [← hlen]; exact ht)
        rw [Go.Deep.add_add] at this
        rw [this]
        exact htv
      · exact ⟨inh, fun h => absurd h hi⟩
    obtain ⟨f, hfun⟩ := Classical.axiomOfChoice key
    refine ⟨some a, n1, c1, (List.range n1).map f, rfl, fun h0 => ?_, by simp, hl, hm, fun h => (by cases h), fun s hs => ?_⟩
    · obtain ⟨ab, ao, spot⟩ := a
      have hl0 : 0 < n1 := by simpa using h0
      have hk0 : 0 < (E.enc (f 0)).length := by rw [E.len]; exact E.pos
      have hc0 := (hfun 0 hl0).1 0 _ (List.getElem?_eq_getElem hk0)
      have hspot : spot = none := by simpa [Addr.add] using World.cell?_spot hc0
      subst hspot
      have hbl : ab < w.heap.size := by simpa [Addr.add] using block_of_cell hc0
      refine ⟨ab, ao, rfl, hbl, hbl, fun z u hzz => ?_⟩
      have hzl := (List.getElem?_eq_some_iff.1 hzz).1
      rw [cellsE_length, List.length_map, List.length_range] at hzl
      have hdm := Nat.div_add_mod z E.k
      have hmk : z % E.k < E.k := Nat.mod_lt _ E.pos
      have hj : z / E.k < n1 := by
        rw [Nat.div_lt_iff_lt_mul E.pos]; exact hzl
      have hj2 : z / E.k < ((List.range n1).map f).length := by simpa using hj
      have hfj : ((List.range n1).map f)[z / E.k] = f (z / E.k) := by simp
      have hil : z % E.k < (E.enc (f (z / E.k))).length := by rw [E.len]; exact hmk
      have hc := cellsE_at E hj2 (i := z % E.k) (v := (E.enc (f (z / E.k)))[z % E.k]) (by rw [hfj]; exact List.getElem?_eq_getElem hil)
      have he : z / E.k * E.k + z % E.k = z := by rw [Nat.mul_comm]; exact hdm
      rw [he, hzz] at hc
      injection hc with hc
      have := (hfun (z / E.k) hj).1 (z % E.k) _ (List.getElem?_eq_getElem hil)
      rw [he, add_none] at this
      rw [this, hc]
    · obtain ⟨i, hi, rfl⟩ := List.mem_map.1 hs
      exact (hfun i (List.mem_range.1 hi)).2
/-- its texts are within the form's own reach -/
def Ef.reach (e : Ef) : Prop := e.obj.size ≤ reachBytes ∧ e.key.size ≤ reachBytes ∧ e.val.size ≤ reachBytes ∧ e.msg.corr.size ≤ reachBytes ∧ e.msg.body.size ≤ reachBytes
theorem trod_msg_sized {fuel : Nat} {cs : List Value} {x : DataW H × List MemPlace} (hl : cs.length = 6) (h : DataW.trod enc Try.prog w base spare held fuel 27 cs = some x) (hz : ∀ n ∈ x.1.weights Try.prog 27, n ≤ reachBytes) :
    ∃ m : Mg, cs = m.cells.toList ∧ m.fits ∧ m.corr.size ≤ reachBytes ∧ m.body.size ≤ reachBytes := by
  obtain ⟨ys, n', _, rfl, _, hys, hg⟩ := DataW.trod_struct Try.underlying27 h
  have k3 : Try.prog.cellsOf 3 = 1 := by kernel_rfl
  have k9 : Try.prog.cellsOf 9 = 1 := by kernel_rfl
  have k4 : Try.prog.cellsOf 4 = 1 := by kernel_rfl
  match cs, hl, ys, hys with
  | [c0, c1, c2, c3, c4, c5], _, [y0, y1, y2, y3, y4, y5], _ =>
    obtain ⟨z0, e0, _, wf0⟩ := DataW.trod_int Try.underlying3 ((hg 0 _ rfl).trans (show [y0, y1, y2, y3, y4, y5][0]? = some y0 from rfl))
    obtain ⟨z1, e1, _, wf1⟩ := DataW.trod_int Try.underlying3 ((hg 1 _ rfl).trans (show [y0, y1, y2, y3, y4, y5][1]? = some y1 from rfl))
    obtain ⟨z2, e2, _, wf2⟩ := DataW.trod_int Try.underlying3 ((hg 2 _ rfl).trans (show [y0, y1, y2, y3, y4, y5][2]? = some y2 from rfl))
    obtain ⟨z3, e3, _⟩ := DataW.trod_bool Try.underlying4 ((hg 3 _ rfl).trans (show [y0, y1, y2, y3, y4, y5][3]? = some y3 from rfl))
    obtain ⟨z4, e4, f4, _⟩ := DataW.trod_string Try.underlying9 ((hg 4 _ rfl).trans (show [y0, y1, y2, y3, y4, y5][4]? = some y4 from rfl))
    obtain ⟨z5, e5, f5, _⟩ := DataW.trod_string Try.underlying9 ((hg 5 _ rfl).trans (show [y0, y1, y2, y3, y4, y5][5]? = some y5 from rfl))
    simp [k3, k4, k9] at e0 e1 e2 e3 e4 e5
    subst f4 f5
    have hw : ∀ n ∈ DataW.weightsEach Try.prog [3, 3, 3, 4, 9, 9] [y0.1, y1.1, y2.1, y3.1, DataW.lit (Lit.string z4.data.toList), DataW.lit (Lit.string z5.data.toList)], n ≤ reachBytes := fun n hn => hz n (by
      simp only [DataW.weights, Try.underlying27]
      exact hn)
    have s4 : z4.size ≤ reachBytes := hw z4.size (DataW.weights_mem_each (j := 4) rfl rfl _ (by simp [DataW.weights]))
    have s5 : z5.size ≤ reachBytes := hw z5.size (DataW.weights_mem_each (j := 5) rfl rfl _ (by simp [DataW.weights]))
    exact ⟨⟨z0, z1, z2, z3, z4, z5⟩, by rw [e0, e1, e2, e3, e4, e5], ⟨⟨wf_lo wf0, wf_hi wf0⟩, ⟨wf_lo wf1, wf_hi wf1⟩, ⟨wf_lo wf2, wf_hi wf2⟩⟩, s4, s5⟩
theorem trod_ef {fuel : Nat} {cs : List Value} {x : DataW H × List MemPlace} (hl : cs.length = 13) (h : DataW.trod enc Try.prog w base spare held fuel 29 cs = some x) (hz : ∀ n ∈ x.1.weights Try.prog 29, n ≤ reachBytes) :
    ∃ e : Ef, cs = eE.enc e ∧ e.fits ∧ e.reach := by
  obtain ⟨ys, n', _, rfl, _, hys, hg⟩ := DataW.trod_struct Try.underlying29 h
  have k3 : Try.prog.cellsOf 3 = 1 := by kernel_rfl
  have k9 : Try.prog.cellsOf 9 = 1 := by kernel_rfl
  have k4 : Try.prog.cellsOf 4 = 1 := by kernel_rfl
  have k27 : Try.prog.cellsOf 27 = 6 := by kernel_rfl
  match cs, hl, ys, hys with
  | [c0, c1, c2, c3, c4, c5, c6, c7, c8, c9, c10, c11, c12], _, [y0, y1, y2, y3, y4, y5, y6, y7], _ =>
    obtain ⟨z0, e0, _, wf0⟩ := DataW.trod_int Try.underlying3 ((hg 0 _ rfl).trans (show [y0, y1, y2, y3, y4, y5, y6, y7][0]? = some y0 from rfl))
    obtain ⟨z1, e1, f1, _⟩ := DataW.trod_string Try.underlying9 ((hg 1 _ rfl).trans (show [y0, y1, y2, y3, y4, y5, y6, y7][1]? = some y1 from rfl))
    obtain ⟨z2, e2, f2, _⟩ := DataW.trod_string Try.underlying9 ((hg 2 _ rfl).trans (show [y0, y1, y2, y3, y4, y5, y6, y7][2]? = some y2 from rfl))
    obtain ⟨z3, e3, f3, _⟩ := DataW.trod_string Try.underlying9 ((hg 3 _ rfl).trans (show [y0, y1, y2, y3, y4, y5, y6, y7][3]? = some y3 from rfl))
    obtain ⟨z4, e4, _, wf4⟩ := DataW.trod_int Try.underlying3 ((hg 4 _ rfl).trans (show [y0, y1, y2, y3, y4, y5, y6, y7][4]? = some y4 from rfl))
    obtain ⟨z5, e5, _, wf5⟩ := DataW.trod_int Try.underlying3 ((hg 5 _ rfl).trans (show [y0, y1, y2, y3, y4, y5, y6, y7][5]? = some y5 from rfl))
    obtain ⟨z6, e6, _⟩ := DataW.trod_bool Try.underlying4 ((hg 6 _ rfl).trans (show [y0, y1, y2, y3, y4, y5, y6, y7][6]? = some y6 from rfl))
    have h7 := (hg 7 _ rfl).trans (show [y0, y1, y2, y3, y4, y5, y6, y7][7]? = some y7 from rfl)
    subst f1 f2 f3
    have hw : ∀ n ∈ DataW.weightsEach Try.prog [3, 9, 9, 9, 3, 3, 4, 27] [y0.1, DataW.lit (Lit.string z1.data.toList), DataW.lit (Lit.string z2.data.toList), DataW.lit (Lit.string z3.data.toList), y4.1, y5.1, y6.1, y7.1], n ≤ reachBytes := fun n hn => hz n (by
      simp only [DataW.weights, Try.underlying29]
      exact hn)
    have s1 : z1.size ≤ reachBytes := hw z1.size (DataW.weights_mem_each (j := 1) rfl rfl _ (by simp [DataW.weights]))
    have s2 : z2.size ≤ reachBytes := hw z2.size (DataW.weights_mem_each (j := 2) rfl rfl _ (by simp [DataW.weights]))
    have s3 : z3.size ≤ reachBytes := hw z3.size (DataW.weights_mem_each (j := 3) rfl rfl _ (by simp [DataW.weights]))
    have s7 : ∀ n ∈ y7.1.weights Try.prog 27, n ≤ reachBytes := fun n hn => hw n (DataW.weights_mem_each (j := 7) rfl rfl _ hn)
    simp [k3, k4, k9, k27] at e0 e1 e2 e3 e4 e5 e6 h7
    obtain ⟨m, em, hmf, hmc, hmb⟩ := trod_msg_sized (by simp) h7 s7
    refine ⟨⟨z0, z1, z2, z3, z4, z5, z6, m⟩, ?_, ⟨⟨wf_lo wf0, wf_hi wf0⟩, ⟨wf_lo wf4, wf_hi wf4⟩, ⟨wf_lo wf5, wf_hi wf5⟩, hmf⟩, s1, s2, s3, hmc, hmb⟩
    simp only [List.cons.injEq, and_true] at em
    obtain ⟨m0, m1, m2, m3, m4, m5⟩ := em
    rw [e0, e1, e2, e3, e4, e5, e6, m0, m1, m2, m3, m4, m5]
    rfl
theorem open_efs (hv : Value.okWide Try.prog w r b0 22 v) (h : DataW.Trod enc Try.prog w base spare held 22 v d p) (hz : ∀ n ∈ d.weights Try.prog 22, n ≤ reachBytes) :
    ∃ A n c l, v = .slice A n c ∧ Lst w (fun i => i < w.heap.size) eE A l ∧ l.length = n ∧ n ≤ c ∧ c ≤ maxLen ∧ (A = none → c = 0) ∧ ∀ s ∈ l, s.fits ∧ s.reach :=
  open_sized eE Try.underlying22 (by kernel_rfl) (fun s => s.fits ∧ s.reach) Ef.zero (fun _ _ _ hl ht hz => trod_ef hl ht hz) hv h hz
end
end Go.Proofs.Ytlapicjbnheioaa
