/- What the reading of a row of calls gives; a copy of a row of bools. -/
import Derived.Test.YtkgafnfbnpbacaaOpens
import Derived.Test.YtkgafnfbnpbacaaPlayC
namespace Go.Proofs.Ytkgafnfbnpbacaa
open Go.ChangeShapes Go.WideShapes Go.ChangeAt Go.RowKit Go.Deep
structure Ac where
  way : Int
  at_ : Int
  n : Int
  c : Nat
  bad : Bool
  A : Option Addr
  len : Nat
  cap : Nat
  ks : List Bool
def Ac.cells (x : Ac) : Array Value := #[.int .i64 x.way, .int .i64 x.at_, .int .i64 x.n, .int .u8 (x.c : Int), .bool x.bad, .slice x.A x.len x.cap]
/-- the calls at this slice, as they lie -/
def ActsAt (w : World) (L : Option Addr) (k : Nat) (ac : Nat → Ac) : Prop :=
  ∀ i, i < k → ∃ b o, L = some ⟨b, o, none⟩ ∧ b < w.heap.size ∧ (w.cell? ⟨b, o + i * 6, none⟩ = some (.int .i64 (ac i).way) ∧ w.cell? ⟨b, o + i * 6 + 1, none⟩ = some (.int .i64 (ac i).at_) ∧ w.cell? ⟨b, o + i * 6 + 2, none⟩ = some (.int .i64 (ac i).n) ∧
    w.cell? ⟨b, o + i * 6 + 3, none⟩ = some (.int .u8 ((ac i).c : Int)) ∧ w.cell? ⟨b, o + i * 6 + 4, none⟩ = some (.bool (ac i).bad) ∧ w.cell? ⟨b, o + i * 6 + 5, none⟩ = some (.slice (ac i).A (ac i).len (ac i).cap))
def Ac.ok (w : World) (x : Ac) : Prop := x.n ≤ 9223372036854775807 ∧ x.c < 256 ∧ Bools w (fun i => i < w.heap.size) x.A x.len x.ks ∧ x.len ≤ x.cap ∧ x.cap ≤ maxLen ∧ (x.A = none → x.cap = 0)
theorem cells30 : Try.prog.cellsOf 30 = 6 := by kernel_rfl
section
variable {H : Type} {enc : TypeId × Value → H} {w : World} {base b0 : Nat} {spare : Nat → Bool} {held : Bool} {r : Reach} {v : Value} {d : DataW H} {p : List MemPlace}
theorem bools_trod {fuel : Nat} {x : DataW H × List MemPlace} (hf : DataW.trod enc Try.prog w base spare held fuel 28 [v] = some x) : ∃ A n c ks, v = .slice A n c ∧ Bools w (fun i => i < w.heap.size) A n ks ∧ n ≤ c ∧ c ≤ maxLen ∧ (A = none → c = 0) := by
  rcases open_slice1 Try.underlying28 cells4 hf with ⟨hcs, _⟩ | ⟨a, len, cap, m, n, V, D, Pl, hcs, _, hl, hm, hmm, _, hx⟩
  · simp at hcs
    exact ⟨none, 0, 0, [], hcs, Bools.nil_ _ _ _, Nat.le_refl _, by unfold maxLen; omega, fun _ => rfl⟩
  · simp at hcs
    have hlm : len ≤ m := by rw [hmm]; split <;> omega
    have key : ∀ i, ∃ x : Bool, i < len → w.cell? (a.add i) = some (.bool x) := fun i => by
      by_cases hi : i < len
      · obtain ⟨h1, h2⟩ := hx i (by omega)
        obtain ⟨z, hz, _⟩ := DataW.trod_bool Try.underlying4 h2
        simp only [List.cons.injEq, and_true] at hz
        exact ⟨z, fun _ => by rw [h1, hz]⟩
      · exact ⟨false, fun h => absurd h hi⟩
    obtain ⟨f, hfun⟩ := Classical.axiomOfChoice key
    refine ⟨some a, len, cap, (List.range len).map f, hcs, ⟨by simp, fun h0 => ?_⟩, hl, hm, fun h => by cases h⟩
    obtain ⟨ab, ao, spot⟩ := a
    have hc0 := hfun 0 h0
    have hspot : spot = none := by simpa [Addr.add] using World.cell?_spot hc0
    subst hspot
    have hbl : ab < w.heap.size := by simpa [Addr.add] using block_of_cell hc0
    refine ⟨ab, ao, rfl, hbl, hbl, fun j x hjx => ?_⟩
    have hj : j < len := by have := (List.getElem?_eq_some_iff.1 hjx).1; simpa using this
    have := hfun j hj
    rw [Addr.add_mid] at this
    rw [this]
    simp [hj] at hjx
    rw [hjx]
theorem open_acts (hv : Value.okWide Try.prog w r b0 22 v) (h : DataW.Trod enc Try.prog w base spare held 22 v d p) :
    ∃ L k c ac, v = .slice L k c ∧ ActsAt w L k ac ∧ k ≤ c ∧ c ≤ maxLen ∧ ∀ i, i < k → (ac i).ok w := by
  obtain ⟨a1, len, cap, rfl⟩ := okWide_slice Try.underlying22 hv
  obtain ⟨fuel, hf⟩ := h
  rcases open_slice Try.underlying22 hf with ⟨hcs, _⟩ | ⟨a, len', cap', m, n, D, Pl, hcs, _, hl, hm, hmm, _, hx⟩
  · simp [Value.cells] at hcs
    obtain ⟨rfl, rfl, rfl⟩ := hcs
    exact ⟨none, 0, 0, fun _ => ⟨0, 0, 0, 0, false, none, 0, 0, []⟩, rfl, fun i hi => absurd hi (by omega), Nat.le_refl _, by unfold maxLen; omega, fun i hi => absurd hi (by omega)⟩
  · simp [Value.cells] at hcs
    obtain ⟨rfl, rfl, rfl⟩ := hcs
    have hlm : len ≤ m := by rw [hmm]; split <;> omega
    have key : ∀ i, ∃ x : Ac, i < len → (w.cell? (a.add (i * 6)) = some (.int .i64 x.way) ∧ w.cell? (a.add (i * 6 + 1)) = some (.int .i64 x.at_) ∧ w.cell? (a.add (i * 6 + 2)) = some (.int .i64 x.n) ∧ w.cell? (a.add (i * 6 + 3)) = some (.int .u8 (x.c : Int)) ∧ w.cell? (a.add (i * 6 + 4)) = some (.bool x.bad) ∧ w.cell? (a.add (i * 6 + 5)) = some (.slice x.A x.len x.cap)) ∧ x.ok w := fun i => by
      by_cases hi : i < len
      · obtain ⟨cs, h1, h2⟩ := hx i (by omega)
        rw [cells30] at h1
        obtain ⟨_, hlen, hat⟩ := World.cells?_some h1
        obtain ⟨ys, n', _, _, _, hys, hg⟩ := DataW.trod_struct Try.underlying30 h2
        have k3 : Try.prog.cellsOf 3 = 1 := by kernel_rfl
        have k5 : Try.prog.cellsOf 5 = 1 := by kernel_rfl
        have k4 : Try.prog.cellsOf 4 = 1 := by kernel_rfl
        have k28 : Try.prog.cellsOf 28 = 1 := by kernel_rfl
        match cs, hlen with
        | [c0, c1, c2, c3, c4, c5], _ =>
          have y0 : ys[0]? = some (ys[0]'(by rw [hys]; decide)) := List.getElem?_eq_getElem _
          have y1 : ys[1]? = some (ys[1]'(by rw [hys]; decide)) := List.getElem?_eq_getElem _
          have y2 : ys[2]? = some (ys[2]'(by rw [hys]; decide)) := List.getElem?_eq_getElem _
          have y3 : ys[3]? = some (ys[3]'(by rw [hys]; decide)) := List.getElem?_eq_getElem _
          have y4 : ys[4]? = some (ys[4]'(by rw [hys]; decide)) := List.getElem?_eq_getElem _
          have y5 : ys[5]? = some (ys[5]'(by rw [hys]; decide)) := List.getElem?_eq_getElem _
          obtain ⟨z0, e0, _, _⟩ := DataW.trod_int Try.underlying3 ((hg 0 _ rfl).trans y0)
          obtain ⟨z1, e1, _, _⟩ := DataW.trod_int Try.underlying3 ((hg 1 _ rfl).trans y1)
          obtain ⟨z2, e2, _, wf2⟩ := DataW.trod_int Try.underlying3 ((hg 2 _ rfl).trans y2)
          obtain ⟨z3, e3, _, wf3⟩ := DataW.trod_int Try.underlying5 ((hg 3 _ rfl).trans y3)
          obtain ⟨z4, e4, _⟩ := DataW.trod_bool Try.underlying4 ((hg 4 _ rfl).trans y4)
          have h5 := (hg 5 _ rfl).trans y5
          simp [k3, k5, k4] at e0 e1 e2 e3 e4
          simp [k28] at h5
          obtain ⟨KA, kn, kc, ks, e5, hb, hnc, hcm, hnil⟩ := bools_trod h5
          have a0 := hat 0 (by omega)
          have a1 := hat 1 (by omega)
          have a2 := hat 2 (by omega)
          have a3 := hat 3 (by omega)
          have a4 := hat 4 (by omega)
          have a5 := hat 5 (by omega)
          rw [Go.Deep.add_add] at a0 a1 a2 a3 a4 a5
          simp [Lit.wf, IntKind.min, IntKind.max, IntKind.signed, IntKind.bits] at wf3
          have hz3 : ((z3.toNat : Nat) : Int) = z3 := by omega
          exact ⟨⟨z0, z1, z2, z3.toNat, z4, KA, kn, kc, ks⟩, fun _ => ⟨⟨by rw [Nat.add_zero] at a0; rw [a0, ← e0]; rfl, by rw [a1, ← e1]; rfl, by rw [a2, ← e2]; rfl, by rw [a3, hz3, ← e3]; rfl, by rw [a4, ← e4]; rfl, by rw [a5, ← e5]; rfl⟩, wf_hi wf2, by show z3.toNat < 256; omega, hb, hnc, hcm, hnil⟩⟩
      · exact ⟨⟨0, 0, 0, 0, false, none, 0, 0, []⟩, fun h => absurd h hi⟩
    obtain ⟨f, hfun⟩ := Classical.axiomOfChoice key
    refine ⟨some a, len, cap, f, rfl, fun i hi => ?_, hl, hm, fun i hi => (hfun i hi).2⟩
    obtain ⟨ab, ao, spot⟩ := a
    have hc0 := (hfun 0 (by omega)).1.1
    have hspot : spot = none := by simpa [Addr.add] using World.cell?_spot hc0
    subst hspot
    have hci := (hfun i hi).1
    simp only [Addr.add_mid, ← Nat.add_assoc] at hci
    exact ⟨ab, ao, rfl, by simpa [Addr.add] using block_of_cell hc0, hci⟩
end
theorem info4 : (Try.prog.info? 4).map (fun i => (i.zero, i.size, i.bytes)) = some (some (.bool false), 1, 1) := by kernel_rfl
theorem own_bools {w : World} {v : Value} {n : Nat} {ks : List Bool} {K : Nat → Prop} (h : w.ownsRow 0 4 1 v n (ks.map Value.bool)) (hK : ∀ k, v.ownBlock = some k → K k) : ∃ A c, v = .slice A n c ∧ Bools w K A n ks := by
  have hl : ks.length = n := by have := h.1; simp at this; exact this
  rcases h.2 with ⟨rfl, rfl⟩ | ⟨g, cap, cur, rfl, _, hg, _⟩
  · exact ⟨none, 0, rfl, hl, fun h => absurd h (by omega)⟩
  · refine ⟨_, cap, rfl, hl, fun _ => ⟨g, 0, rfl, hK g rfl, lt_of_some hg, fun j x hx => ?_⟩⟩
    have := h.cells (g := g) rfl j (.bool x) (by simp [hx])
    rw [Addr.add_mid] at this
    exact this
/-- a copy of a row of bools in new memory -/
theorem fresh_bools {w : World} {K : Nat → Prop} {A : Option Addr} {n c : Nat} {ks : List Bool} (h : Bools w K A n ks) (hn : n ≤ 1000000) (hA : A = none → c = 0) :
    ∃ A' c' W', (Builtin.append_ #[28, 28] 28 #[.slice none 0 0, .slice A n c]).run Try.prog w = .ok (.slice A' n c') W' ∧ Bools W' (fun i => w.heap.size ≤ i) A' n ks ∧ Below w.heap.size w W' := by
  obtain ⟨i0, hi0, hz0, hz1, hz2⟩ := info_parts info4
  by_cases h0 : n = 0
  · subst h0
    obtain rfl : ks = [] := List.eq_nil_of_length_eq_zero h.1
    refine ⟨none, 0, w, ?_, Bools.nil_ _ _ _, Below.refl _ _⟩
    cases A with
    | none => simp [Builtin.append_, run_underlying Try.underlying28, sizeOf, typeInfo, hi0, Builtin.lenOf, Builtin.firstCells]
    | some a => simp [Builtin.append_, run_underlying Try.underlying28, sizeOf, typeInfo, hi0, Builtin.lenOf, Builtin.firstCells, loadCells, loadCellsFrom]
  · obtain ⟨b, o, rfl, _, _, hc⟩ := h.2 (by omega)
    obtain ⟨v', W', hrun, hown, hgrow, hnil, hat⟩ := run_append_own_at (P := Try.prog) w 0 28 28 4 i0 _ 1 1 Try.underlying28 hi0 hz0 hz1 hz2 rfl (by omega) (.slice none 0 0) 0 [] (World.ownsRow_nil _ _ _ _) ⟨b, o, none⟩ n c (ks.map Value.bool) (by simp [h.1]) (fun j u hu => by
      rw [Addr.add_mid]
      simp only [List.getElem?_map] at hu
      cases hx : ks[j]? with
      | none => rw [hx] at hu; cases hu
      | some x => rw [hx] at hu; simp at hu; subst hu; exact hc j x hx) (fun u hu => by obtain ⟨x, _, rfl⟩ := List.mem_map.1 hu; rfl) (by unfold maxLen; omega) (by omega) (Nat.zero_le _)
    rw [List.nil_append, Nat.zero_add] at hown
    obtain ⟨A', c', rfl, hb⟩ := own_bools (K := fun i => w.heap.size ≤ i) hown (fun k hk => by
      rcases hat with e | e
      · rw [e] at hk; cases hk
      · rw [e] at hk; injection hk with hk; omega)
    exact ⟨A', c', W', hrun, hb, ⟨hgrow.os, hgrow.tape, hgrow.output, hgrow.size, fun i hi => hgrow.block i hi (by simp [Value.ownBlock])⟩⟩
/-- a Crash of a copy of keep, in new memory -/
theorem pCrashN {w W : World} {F : Nat → Prop} {gd go gr : Nat} {s so r : St} (h : Sh w F gd go gr s so r) (hb : Below w.heap.size w W) (hl : s.l.length ≤ 1000000) (A : Option Addr) (n c : Nat) (ks : List Bool) (hks : Bools W (fun i => w.heap.size ≤ i) A n ks) (hn : n ≤ 9223372036854775807) :
    Calls Try.prog 15 #[ptr gd, .slice A n c] W fun e w' => e = .returned (.tuple #[]) ∧ Sh w' F gd go gr (s.crash (stays ks)) so r ∧ Keep (KF F) w w' := by
  obtain ⟨Od, Oo, Or, hm⟩ := h
  have hk : Keep (fun _ _ => True) w W := Keep.of_below hb
  have hW : ShM W F Od Oo Or gd go gr s so r := ⟨hm.d.below hb, hm.o.below hb, hm.r.below hb, hm.d1, hm.d2, hm.d3, fun i hi => Nat.lt_of_lt_of_le (hm.ld i hi) hk.size, fun i hi => Nat.lt_of_lt_of_le (hm.lo i hi) hk.size, fun i hi => Nat.lt_of_lt_of_le (hm.lr i hi) hk.size, hm.fd, hm.fo, hm.fr, fun i hi => Nat.lt_of_lt_of_le (hm.fl i hi) hk.size⟩
  exact (crash_ hW.d hl A n c ks (hks.more fun i _ hi ho => by have := hm.ld i ho; omega) hn).mono fun _ _ ⟨a, hd, hk2⟩ => ⟨a, (hW.turnD (hd.more fun _ hi => .inl hi) hk2).1, (Keep.of_below hb).trans (hW.turnD (hd.more fun _ hi => .inl hi) hk2).2⟩
end Go.Proofs.Ytkgafnfbnpbacaa
