/- What the reading of a state gives, where no slice of it is longer than the form's own reach. -/
import Derived.Test.YtpggnklbgkdjcaaJ19
import Derived.SizedLaws
set_option maxRecDepth 4000
namespace Go.Proofs.Ytpggnklbgkdjcaa
open Go.ChangeShapes Go.WideShapes Go.ChangeAt Go.RowKit Go.Deep
theorem weightsAll_in2 {H : Type} {P : Program} {e : TypeId} {d : DataW H} {n : Nat} (hn : n ∈ d.weights P e) : ∀ {l : List (DataW H)}, d ∈ l → n ∈ DataW.weightsAll P e l
  | x :: r, h => by
    rw [DataW.weightsAll, List.mem_append]
    rcases List.mem_cons.1 h with rfl | h
    · exact .inl hn
    · exact .inr (weightsAll_in2 hn h)
/-- what is known of an object that was read, its lists being within the reach -/
structure OcSz (w : World) (x : Oc) : Prop where
  inn : OcIn w x
  sz : x.o.short reachBytes
section
variable {H : Type} {enc : TypeId × Value → H} {w : World} {base b0 : Nat} {spare : Nat → Bool} {held : Bool} {r : Reach} {v : Value} {d : DataW H} {p : List MemPlace}
theorem trod_sl_sized {α : Type} (E : Enc α) {T S : TypeId} (und : Try.prog.underlying S = some (.slice T)) (ck : Try.prog.cellsOf T = E.k) (hby : 1 ≤ Try.prog.bytesOf T) (P : α → Prop) (inh : α)
    (hopen : ∀ (fuel : Nat) (cs : List Value) (x : DataW H × List MemPlace), cs.length = E.k → DataW.trod enc Try.prog w base spare held fuel T cs = some x → (∀ n ∈ x.1.weights Try.prog T, n ≤ reachBytes) → ∃ s, cs = E.enc s ∧ P s)
    {fuel : Nat} {cs : List Value} {x : DataW H × List MemPlace} (h : DataW.trod enc Try.prog w base spare held fuel S cs = some x) (hz : ∀ n ∈ x.1.weights Try.prog S, n ≤ reachBytes) : ∃ v l, cs = [v] ∧ Sl w E v l ∧ l.length ≤ reachBytes ∧ ∀ s ∈ l, P s := by
  rcases open_slice und h with ⟨hcs, _⟩ | ⟨a, len, cap, m, n, D, Pl, hcs, _, hl, hm, hmm, hx0, hx⟩
  · exact ⟨_, [], hcs, Sl.nil _ _, Nat.zero_le _, fun s hs => by cases hs⟩
  · have hlm : len ≤ m := by rw [hmm]; split <;> omega
    have hd0 := congrArg Prod.fst hx0
    simp only at hd0
    have hzi : ∀ i, i < len → ∀ q ∈ (D i).weights Try.prog T, q ≤ reachBytes := fun i hi q hq => by
      have hmem : D i ∈ (List.range len).map D := List.mem_map.2 ⟨i, List.mem_range.2 hi, rfl⟩
      refine hz q ?_
      rw [hd0]
      simp only [DataW.weights, und]
      exact List.mem_cons_of_mem _ (List.mem_append_left _ (weightsAll_in2 hq hmem))
    have hlen0 : len ≤ reachBytes := by
      have h1 := hz _ (by rw [hd0]; simp only [DataW.weights, und]; exact List.mem_cons_self)
      rw [List.length_map, List.length_range] at h1
      exact Nat.le_trans (Nat.le_trans (Nat.le_add_right _ _) (Nat.le_mul_of_pos_right _ hby)) h1
    have key : ∀ i, ∃ s : α, i < len → (∀ t v, (E.enc s)[t]? = some v → w.cell? (a.add (i * E.k + t)) = some v) ∧ P s := fun i => by
      by_cases hi : i < len
      · obtain ⟨cs', h1, h2⟩ := hx i (by omega)
        rw [ck] at h1
        obtain ⟨_, hlen, hat⟩ := World.cells?_some h1
        obtain ⟨s, e, hp⟩ := hopen _ _ _ hlen h2 (hzi i hi)
        subst e
        refine ⟨s, fun _ => ⟨fun t v htv => ?_, hp⟩⟩
        obtain ⟨ht, e⟩ := List.getElem?_eq_some_iff.1 htv
        have := hat t (by rw [← hlen]; exact ht)
        rw [Go.Deep.add_add] at this
        rw [this]
        exact htv
      · exact ⟨inh, fun h => absurd h hi⟩
    obtain ⟨f, hfun⟩ := Classical.axiomOfChoice key
    refine ⟨_, (List.range len).map f, hcs, ⟨some a, cap, by simp, fun h0 => ?_, by simpa using hl, hm, fun h => by cases h⟩, by simpa using hlen0, fun s hs => ?_⟩
    · obtain ⟨ab, ao, spot⟩ := a
      have hl0 : 0 < len := by simpa using h0
      have hk0 : 0 < (E.enc (f 0)).length := by rw [E.len]; exact E.pos
      have hc0 := (hfun 0 hl0).1 0 _ (List.getElem?_eq_getElem hk0)
      have hspot : spot = none := by simpa [Addr.add] using World.cell?_spot hc0
      subst hspot
      have hbl : ab < w.heap.size := by simpa [Addr.add] using block_of_cell hc0
      refine ⟨ab, ao, rfl, trivial, hbl, fun z u hzz => ?_⟩
      have hzl := (List.getElem?_eq_some_iff.1 hzz).1
      rw [cellsE_length, List.length_map, List.length_range] at hzl
      have hd := Nat.div_add_mod z E.k
      have hmk : z % E.k < E.k := Nat.mod_lt _ E.pos
      have hj : z / E.k < len := by
        rw [Nat.div_lt_iff_lt_mul E.pos]; exact hzl
      have hj2 : z / E.k < ((List.range len).map f).length := by simpa using hj
      have hfj : ((List.range len).map f)[z / E.k] = f (z / E.k) := by simp
      have hil : z % E.k < (E.enc (f (z / E.k))).length := by rw [E.len]; exact hmk
      have hc := cellsE_at E hj2 (i := z % E.k) (v := (E.enc (f (z / E.k)))[z % E.k]) (by rw [hfj]; exact List.getElem?_eq_getElem hil)
      have he : z / E.k * E.k + z % E.k = z := by rw [Nat.mul_comm]; exact hd
      rw [he, hzz] at hc
      injection hc with hc
      have := (hfun (z / E.k) hj).1 (z % E.k) _ (List.getElem?_eq_getElem hil)
      rw [he, add_none] at this
      rw [this, hc]
    · obtain ⟨i, hi, rfl⟩ := List.mem_map.1 hs
      exact (hfun i (List.mem_range.1 hi)).2
theorem trod_oc_sized {fuel : Nat} {cs : List Value} {x : DataW H × List MemPlace} (hl : cs.length = 6) (h : DataW.trod enc Try.prog w base spare held fuel 39 cs = some x) (hz : ∀ n ∈ x.1.weights Try.prog 39, n ≤ reachBytes) :
    ∃ s : Oc, cs = eO.enc s ∧ OcSz w s := by
  obtain ⟨ys, n', _, rfl, _, hys, hg⟩ := DataW.trod_struct Try.underlying39 h
  have k3 : Try.prog.cellsOf 3 = 1 := by kernel_rfl
  have k9 : Try.prog.cellsOf 9 = 1 := by kernel_rfl
  have kr : Try.prog.cellsOf 36 = 1 := by kernel_rfl
  have km : Try.prog.cellsOf 37 = 1 := by kernel_rfl
  match cs, hl, ys, hys with
  | [c0, c1, c2, c3, c4, c5], _, [y0, y1, y2, y3, y4, y5], _ =>
    obtain ⟨z0, e0, f0, wf0⟩ := DataW.trod_string Try.underlying9 ((hg 0 _ rfl).trans (show [y0, y1, y2, y3, y4, y5][0]? = some y0 from rfl))
    obtain ⟨z1, e1, _, wf1⟩ := DataW.trod_int Try.underlying3 ((hg 1 _ rfl).trans (show [y0, y1, y2, y3, y4, y5][1]? = some y1 from rfl))
    obtain ⟨z2, e2, _, wf2⟩ := DataW.trod_int Try.underlying3 ((hg 2 _ rfl).trans (show [y0, y1, y2, y3, y4, y5][2]? = some y2 from rfl))
    have hw : ∀ n ∈ DataW.weightsEach Try.prog [9, 3, 3, 36, 37, 37] [y0.1, y1.1, y2.1, y3.1, y4.1, y5.1], n ≤ reachBytes := fun n hn => hz n (by
      simp only [DataW.weights, Try.underlying39]
      exact hn)
    obtain ⟨v3, l3, e3, h3, n3, g3⟩ := trod_sl_sized eR Try.underlying36 (by kernel_rfl) (by decide +kernel) (fun s : Rw => s.1.size ≤ maxLen ∧ s.2.size ≤ maxLen) (⟨#[]⟩, ⟨#[]⟩) (fun _ _ _ hl h _ => trod_row hl h) ((hg 3 _ rfl).trans (show [y0, y1, y2, y3, y4, y5][3]? = some y3 from rfl)) (fun n hn => hw n (DataW.weights_mem_each (j := 3) rfl rfl _ hn))
    obtain ⟨v4, l4, e4, h4, n4, f4⟩ := trod_sl_sized eM Try.underlying37 (by kernel_rfl) (by decide +kernel) (fun m : Mg => m.fits ∧ m.corr.size ≤ maxLen ∧ m.body.size ≤ maxLen) Mg.zero (fun _ _ _ hl h _ => trod_msg hl h) ((hg 4 _ rfl).trans (show [y0, y1, y2, y3, y4, y5][4]? = some y4 from rfl)) (fun n hn => hw n (DataW.weights_mem_each (j := 4) rfl rfl _ hn))
    obtain ⟨v5, l5, e5, h5, n5, f5⟩ := trod_sl_sized eM Try.underlying37 (by kernel_rfl) (by decide +kernel) (fun m : Mg => m.fits ∧ m.corr.size ≤ maxLen ∧ m.body.size ≤ maxLen) Mg.zero (fun _ _ _ hl h _ => trod_msg hl h) ((hg 5 _ rfl).trans (show [y0, y1, y2, y3, y4, y5][5]? = some y5 from rfl)) (fun n hn => hw n (DataW.weights_mem_each (j := 5) rfl rfl _ hn))
    simp [k3, k9, kr, km] at e0 e1 e2 e3 e4 e5
    obtain ⟨s3, rfl, q3⟩ := h3.k
    obtain ⟨s4, rfl, q4⟩ := h4.k
    obtain ⟨s5, rfl, q5⟩ := h5.k
    exact ⟨⟨⟨z0, z1, z2, l3, l4, l5⟩, s3, s4, s5⟩, by rw [e0, e1, e2, e3, e4, e5]; rfl, ⟨⟨q3, q4, q5⟩, ⟨fun m hm => (f4 m hm).1, fun m hm => (f5 m hm).1⟩, fun r hr => (g3 r hr).1⟩, ⟨n3, n4, n5⟩⟩
theorem trod_objs_sized {fuel : Nat} {cs : List Value} {x : DataW H × List MemPlace} (h : DataW.trod enc Try.prog w base spare held fuel 22 cs = some x) (hz : ∀ n ∈ x.1.weights Try.prog 22, n ≤ reachBytes) : ∃ v l, cs = [v] ∧ Sl w eO v l ∧ l.length ≤ reachBytes ∧ ∀ s ∈ l, OcSz w s :=
  trod_sl_sized eO Try.underlying22 (by kernel_rfl) (by decide +kernel) (OcSz w) ⟨⟨⟨#[]⟩, 0, 0, [], [], []⟩, ⟨none, 0, 0⟩, ⟨none, 0, 0⟩, ⟨none, 0, 0⟩⟩ (fun _ _ _ hl h hz => trod_oc_sized hl h hz) h hz
theorem open_state_sized (hv : Value.okWide Try.prog w r b0 24 v) (h : DataW.Trod enc Try.prog w base spare held 24 v d p) (hz : ∀ n ∈ d.weights Try.prog 24, n ≤ reachBytes) :
    ∃ (next : Int) (s : Sv) (xs : List Oc), v = .agg #[.int .i64 next, .slice s.a s.n s.c] ∧ ObsAt w (fun _ => True) s xs ∧ xs.length ≤ reachBytes ∧ ∀ x ∈ xs, OcSz w x := by
  obtain ⟨cs, rfl, hsz⟩ := okWide_struct Try.underlying24 hv
  have hsz' : cs.toList.length = 2 := by rw [Array.length_toList, hsz]; kernel_rfl
  obtain ⟨fuel, hf⟩ := h
  have hf2 : DataW.trod enc Try.prog w base spare held fuel 24 cs.toList = some (d, p) := by simpa [Value.cells] using hf
  obtain ⟨ys, n', _, hdp, _, hys, hg⟩ := DataW.trod_struct Try.underlying24 hf2
  have hd0 := congrArg Prod.fst hdp
  simp only at hd0
  subst hd0
  have k3 : Try.prog.cellsOf 3 = 1 := by kernel_rfl
  have ko : Try.prog.cellsOf 22 = 1 := by kernel_rfl
  obtain ⟨c0, c1, hcs⟩ : ∃ c0 c1, cs.toList = [c0, c1] := by
    match hm : cs.toList, hsz' with
    | [c0, c1], _ => exact ⟨c0, c1, rfl⟩
  rw [hcs] at hg
  match ys, hys with
  | [y0, y1], _ =>
  obtain ⟨z0, e0, _, _⟩ := DataW.trod_int Try.underlying3 ((hg 0 _ rfl).trans (show [y0, y1][0]? = some y0 from rfl))
  have hw : ∀ n ∈ DataW.weightsEach Try.prog [3, 22] [y0.1, y1.1], n ≤ reachBytes := fun n hn => hz n (by
    simp only [DataW.weights, Try.underlying24]
    exact hn)
  obtain ⟨v1, xs, e1, h1, n1, g1⟩ := trod_objs_sized ((hg 1 _ rfl).trans (show [y0, y1][1]? = some y1 from rfl)) (fun n hn => hw n (DataW.weights_mem_each (j := 1) rfl rfl _ hn))
  simp [k3, ko] at e0 e1
  obtain ⟨s, rfl, hk⟩ := h1.k
  refine ⟨z0, s, xs, ?_, ⟨hk, fun x hx => (g1 x hx).inn.k⟩, n1, g1⟩
  have : cs = #[.int .i64 z0, .slice s.a s.n s.c] := Array.ext' (by rw [hcs, e0, e1])
  rw [this]
end
end Go.Proofs.Ytpggnklbgkdjcaa
