/- Plain facts: edges in their order, told by whoever waits. The document's table: Edges. The document's table: what each call answers and leaves, told by its locks alone. -/
import Derived.Test.YtnjhhndggfjjdaaGreatDoorJ23
import Derived.Test.YtnjhhndggfjjdaaGreatDoorJ12
import Derived.Test.YtnjhhndggfjjdaaGreatDoorJ17
import Derived.Test.YtnjhhndggfjjdaaGreatDoorJ19
import Derived.Test.YtnjhhndggfjjdaaGreatDoorJ22
set_option maxRecDepth 4000
namespace Go.Proofs.YtnjhhndggfjjdaaGreatDoor
open Go Go.Sort
/-- two lists that rise strictly and have the same members are one -/
theorem strict_eq {α : Type} {R : α → α → Prop} (hi : ∀ a, ¬ R a a) (ht : ∀ a b c, R a b → R b c → R a c) : ∀ {l m : List α}, l.Pairwise R → m.Pairwise R → (∀ x, x ∈ l ↔ x ∈ m) → l = m
  | [], [], _, _, _ => rfl
  | [], y :: m, _, _, h => absurd ((h y).2 (by simp)) (by simp)
  | x :: l, [], _, _, h => absurd ((h x).1 (by simp)) (by simp)
  | x :: l, y :: m, hl, hm, h => by
    rw [List.pairwise_cons] at hl hm
    have hxy : x = y := by
      have h1 := (h x).1 (by simp)
      have h2 := (h y).2 (by simp)
      rw [List.mem_cons] at h1 h2
      rcases h1 with h1 | h1
      · exact h1
      · rcases h2 with h2 | h2
        · exact h2.symm
        · exact absurd (ht _ _ _ (hl.1 y h2) (hm.1 x h1)) (hi x)
    subst hxy
    rw [strict_eq hi ht hl.2 hm.2 fun z => ?_]
    have hz := h z
    rw [List.mem_cons, List.mem_cons] at hz
    constructor
    · intro hzl
      rcases hz.1 (.inr hzl) with e | e
      · subst e
        exact absurd (hl.1 z hzl) (hi z)
      · exact e
    · intro hzm
      rcases hz.2 (.inr hzm) with e | e
      · subst e
        exact absurd (hm.1 z hzm) (hi z)
      · exact e
def ltEd (x y : Int × Int) : Prop := x.1 < y.1 ∨ x.1 = y.1 ∧ x.2 < y.2
theorem ltEd_irr (x : Int × Int) : ¬ ltEd x x := fun h => by
  unfold ltEd at h
  omega
theorem ltEd_trans (x y z : Int × Int) (h1 : ltEd x y) (h2 : ltEd y z) : ltEd x z := by
  unfold ltEd at *
  omega
theorem sortedE_strict {l : List (Int × Int)} (hn : l.Nodup) : (sortedE l).Pairwise ltEd := by
  have hs : (sortedE l).Pairwise fun x y => (!(ltOf cmpE) y x) = true := List.pairwise_mergeSort (fun a b c h1 h2 => by
    rw [ltE] at *
    simp only [Bool.not_eq_true', decide_eq_false_iff_not] at *
    omega) (fun a b => by
    rw [ltE, ltE]
    by_cases h : b.1 < a.1 ∨ b.1 = a.1 ∧ b.2 < a.2
    · have : ¬ (a.1 < b.1 ∨ a.1 = b.1 ∧ a.2 < b.2) := by omega
      simp [this]
    · simp [h]) l
  have hn2 : (sortedE l).Nodup := (List.mergeSort_perm l _).nodup_iff.2 hn
  refine (hs.and hn2).imp fun {x y} h => ?_
  obtain ⟨h1, h2⟩ := h
  rw [ltE] at h1
  simp only [Bool.not_eq_true', decide_eq_false_iff_not] at h1
  unfold ltEd
  have h3 : ¬ (x.1 = y.1 ∧ x.2 = y.2) := fun h => h2 (Prod.ext h.1 h.2)
  omega
theorem sortedE_mem {l : List (Int × Int)} {x : Int × Int} : x ∈ sortedE l ↔ x ∈ l := by
  unfold sortedE
  rw [List.mem_mergeSort]
def whoE (s : TS) : List Int := foldI (s.flatMap fun e => e.2.2.map (·.1))
def toE (s : TS) (w : Int) : List Int := foldI (s.flatMap fun e => waitsP e.2 w)
def refE (s : TS) : List (Int × Int) := (whoE s).flatMap fun w => (toE s w).map fun o => (w, o)
theorem foldI_rises (zs : List Int) : (foldI zs).Pairwise (· < ·) := foldl_rises zs List.Pairwise.nil
theorem foldI_mem {zs : List Int} {y : Int} : y ∈ foldI zs ↔ y ∈ zs := by
  unfold foldI
  rw [foldl_mem]
  simp
theorem refE_strict (s : TS) : (refE s).Pairwise ltEd := by
  unfold refE
  rw [List.pairwise_flatMap]
  refine ⟨fun w _ => ?_, (foldI_rises _).imp fun {a b} hab x hx y hy => ?_⟩
  · rw [List.pairwise_map]
    exact (foldI_rises _).imp fun {a b} hab => .inr ⟨rfl, hab⟩
  · obtain ⟨o, _, rfl⟩ := List.mem_map.1 hx
    obtain ⟨o', _, rfl⟩ := List.mem_map.1 hy
    exact .inl hab
theorem waits_line {l : Lk} {w o : Int} (h : o ∈ waitsP l w) : hasP l.2 w = true := by
  cases hh : hasP l.2 w
  · obtain ⟨H, L⟩ := l
    have hm : waitsP (H, L) w = [] := waits_miss fun h1 => by
      have h2 := List.findIdx_getElem (w := h1)
      exact List.any_eq_false.1 hh _ (List.getElem_mem h1) h2
    rw [hm] at h
    cases h
  · rfl
theorem refE_mem {s : TS} {x : Int × Int} : x ∈ refE s ↔ ∃ e ∈ s, x.2 ∈ waitsP e.2 x.1 := by
  unfold refE
  rw [List.mem_flatMap]
  constructor
  · rintro ⟨w, _, hx⟩
    obtain ⟨o, ho, rfl⟩ := List.mem_map.1 hx
    unfold toE at ho
    rw [foldI_mem, List.mem_flatMap] at ho
    exact ho
  · rintro ⟨e, he, ho⟩
    refine ⟨x.1, ?_, List.mem_map.2 ⟨x.2, ?_, rfl⟩⟩
    · unfold whoE
      rw [foldI_mem, List.mem_flatMap]
      exact ⟨e, he, has_mem.1 (waits_line ho)⟩
    · unfold toE
      rw [foldI_mem, List.mem_flatMap]
      exact ⟨e, he, ho⟩
theorem rawE_mem {s : TS} (hi : TInv s) {x : Int × Int} : x ∈ rawE s ↔ ∃ e ∈ s, x.2 ∈ waitsP e.2 x.1 := by
  unfold rawE
  rw [List.mem_flatMap]
  constructor
  · rintro ⟨e, he, hx⟩
    obtain ⟨h, _, hx⟩ := List.mem_flatMap.1 hx
    obtain ⟨o, ho, rfl⟩ := List.mem_map.1 hx
    exact ⟨e, he, ho⟩
  · rintro ⟨e, he, ho⟩
    have hw := (whos_mem (hi.ok e he) x.1).2 (.inr (waits_line ho))
    obtain ⟨h, hh, h1⟩ := List.mem_map.1 hw
    exact ⟨e, he, List.mem_flatMap.2 ⟨h, hh, List.mem_map.2 ⟨x.2, by rw [h1]; exact ho, by rw [h1]⟩⟩⟩
theorem waits_rises (l : Lk) (w : Int) : (waitsP l w).Pairwise (· < ·) := by
  unfold waitsP
  split
  · exact (uniqI_spec _).1
  · exact List.Pairwise.nil
theorem rawE_nodup {s : TS} (hi : TInv s) : (rawE s).Nodup := by
  unfold rawE List.Nodup
  rw [List.pairwise_flatMap]
  refine ⟨fun e he => ?_, hi.one.imp_of_mem fun {a b} _ _ hab x hx y hy hxy => ?_⟩
  · rw [List.pairwise_flatMap]
    have hn := holds_nodup (hi.ok e he)
    rw [List.Nodup, List.pairwise_map] at hn
    refine ⟨fun h _ => ?_, hn.imp fun {a b} hab x hx y hy hxy => ?_⟩
    · rw [List.pairwise_map]
      refine (waits_rises _ _).imp fun {a b} hab e => ?_
      injection e with _ e
      omega
    · obtain ⟨_, _, rfl⟩ := List.mem_map.1 hx
      obtain ⟨_, _, rfl⟩ := List.mem_map.1 hy
      injection hxy with h1 _
      exact hab h1
  · obtain ⟨h, _, hx⟩ := List.mem_flatMap.1 hx
    obtain ⟨o, ho, rfl⟩ := List.mem_map.1 hx
    obtain ⟨h', _, hy⟩ := List.mem_flatMap.1 hy
    obtain ⟨o', ho', rfl⟩ := List.mem_map.1 hy
    injection hxy with h1 _
    have h1 : h.1 = h'.1 := h1
    refine hab h.1 ⟨waits_line ho, ?_⟩
    rw [h1]
    exact waits_line ho'
theorem edges_eq {s : TS} (hi : TInv s) : refE s = sortedE (rawE s) :=
  strict_eq ltEd_irr ltEd_trans (refE_strict s) (sortedE_strict (rawE_nodup hi)) fun x => by rw [refE_mem, sortedE_mem, rawE_mem hi]
end Go.Proofs.YtnjhhndggfjjdaaGreatDoor
namespace Go.Proofs.YtnjhhndggfjjdaaGreatDoor
open Go.RowKit
def linesR (rs : List Rw) : List Int := rs.flatMap fun r => r.l.2.map (·.1)
theorem linesR_snoc (rs : List Rw) (r : Rw) : linesR (rs ++ [r]) = linesR rs ++ r.l.2.map (·.1) := by
  unfold linesR
  simp
/-- the first loop: so many locks looked at -/
def EdA (w : World) (rs : List Rw) (k : Nat) (v i : Value) (wr : World) : Prop :=
  ∃ j, j + k = rs.length ∧ i = .int .i64 (j : Int) ∧ Own wr w.heap.size eI 3 v (foldI (linesR (rs.take j))) ∧ Below w.heap.size w wr
/-- the loop in it: so many of the lock's line -/
def EdB (w : World) (zs : List Int) (L : List Cl) (k : Nat) (v i : Value) (wr : World) : Prop :=
  ∃ j, j + k = L.length ∧ i = .int .i64 (j : Int) ∧ Own wr w.heap.size eI 3 v (foldI (zs ++ (L.take j).map (·.1))) ∧ Below w.heap.size w wr
theorem who_ent (rs : List Rw) : whoE (rs.map Rw.ent) = foldI (linesR rs) := by
  unfold whoE linesR
  rw [List.flatMap_map]
  rfl
def waitsR (rs : List Rw) (w : Int) : List Int := rs.flatMap fun r => waitsP r.l w
theorem to_ent (rs : List Rw) (w : Int) : toE (rs.map Rw.ent) w = foldI (waitsR rs w) := by
  unfold toE waitsR
  rw [List.flatMap_map]
  rfl
theorem waitsR_snoc (rs : List Rw) (r : Rw) (w : Int) : waitsR (rs ++ [r]) w = waitsR rs w ++ waitsP r.l w := by
  unfold waitsR
  simp
theorem waitsR_take (rs : List Rw) (j : Nat) (w : Int) : (waitsR (rs.take j) w).length ≤ (waitsR rs w).length := by
  have : waitsR rs w = waitsR (rs.take j) w ++ waitsR (rs.drop j) w := by
    unfold waitsR
    rw [← List.flatMap_append, List.take_append_drop]
  rw [this, List.length_append]
  omega
/-- the loop over whom one waits for at one lock -/
def EdF (w w5 : World) (zs L : List Int) (k : Nat) (v i : Value) (wr : World) : Prop :=
  ∃ j, j + k = L.length ∧ i = .int .i64 (j : Int) ∧ Own wr w.heap.size eI 3 v (foldI (zs ++ L.take j)) ∧ Below w5.heap.size w5 wr
/-- the last loop: so many of whom one waits for -/
def EdG (w w1 : World) (out : List (Int × Int)) (y : Int) (T : List Int) (v8 : Value) (k : Nat) (v i : Value) (wr : World) : Prop :=
  ∃ j, j + k = T.length ∧ i = .int .i64 (j : Int) ∧ Own wr w1.heap.size eE 80 v (out ++ (T.take j).map fun o => (y, o)) ∧ Own wr w.heap.size eI 3 v8 T ∧ Below w1.heap.size w1 wr
theorem edge_one (W : World) (y z : Int) : Lst (W.alloc (.cells #[.int .i64 y, .int .i64 z] 80)) (fun i => W.heap.size ≤ i) eE (some ⟨W.heap.size, 0, none⟩) [(y, z)] := fun _ =>
  ⟨_, 0, rfl, Nat.le_refl _, by simp, fun j u hu => by rw [(Blk.new W 80 _).cell, Nat.zero_add]; simpa [cellsE, eE, encE] using hu⟩
/-- what is told of so many of those that wait -/
def outE (rs : List Rw) (ws : List Int) : List (Int × Int) := ws.flatMap fun w => (foldI (waitsR rs w)).map fun o => (w, o)
theorem outE_snoc (rs : List Rw) (ws : List Int) (w : Int) : outE rs (ws ++ [w]) = outE rs ws ++ (foldI (waitsR rs w)).map fun o => (w, o) := by
  unfold outE
  simp
theorem outE_all (rs : List Rw) : outE rs (foldI (linesR rs)) = refE (rs.map Rw.ent) := by
  unfold outE refE
  rw [who_ent]
  simp only [to_ent]
theorem outE_take (rs : List Rw) (ws : List Int) (j : Nat) : (outE rs (ws.take j)).length ≤ (outE rs ws).length := by
  have : outE rs ws = outE rs (ws.take j) ++ outE rs (ws.drop j) := by
    unfold outE
    rw [← List.flatMap_append, List.take_append_drop]
  rw [this, List.length_append]
  omega
/-- the third loop: so many of those that wait -/
def EdC (w1 : World) (rs : List Rw) (ws : List Int) (k : Nat) (v i : Value) (wr : World) : Prop :=
  ∃ j, j + k = ws.length ∧ i = .int .i64 (j : Int) ∧ Own wr w1.heap.size eE 80 v (outE rs (ws.take j)) ∧ Below w1.heap.size w1 wr
/-- the loop over all locks for one of them -/
def EdD (w w1 : World) (rs : List Rw) (who : Int) (k : Nat) (v i : Value) (wr : World) : Prop :=
  ∃ j, j + k = rs.length ∧ i = .int .i64 (j : Int) ∧ Own wr w.heap.size eI 3 v (foldI (waitsR (rs.take j) who)) ∧ Below w1.heap.size w1 wr
set_option maxHeartbeats 4000000 in
theorem rtedges_ {w : World} {base b : Nat} {v : Value} {rs : List Rw} (h : TB0 base b v rs w) (hs : SmallR rs) (hln : (linesR rs).length ≤ 10000) (hwl2 : ∀ who, (waitsR rs who).length ≤ 10000) (hre : (refE (rs.map Rw.ent)).length ≤ 500000) :
    Calls Tryz.prog 20 #[.pointer (some ⟨b, 0, none⟩)] w fun e w' => ∃ v, e = .returned v ∧ Own w' w.heap.size eE 80 v (refE (rs.map Rw.ent)) ∧ Below w.heap.size w w' := by
  obtain ⟨A, c, rfl, hc, hcm⟩ := h.see
  unfold maxLen at hcm
  have p0 := h.blk.cell 0
  obtain ⟨m, hm⟩ : ∃ m, rs.length = m := ⟨_, rfl⟩
  have hn := hs.len
  rw [hm] at hn hc p0 h
  have hbs := h.blk.lt
  have H2 := Lib.hid h
  have HM := Lib.hid hm
  have HS := Lib.hid hs
  have HLN := Lib.hid hln
  have hP := Lib.hid p0
  clear h hm hs p0 hln
  go_enter Tryz.func20, Tryz.ntmps20
  go_wp2_with fail
  go_loopg [3, 4, 5] m (fun k v i _ wr => EdA w rs k v i wr)
  case atStart => exact ⟨0, by rw [HM.out]; omega, rfl, own_nil _ _, Below.refl _ _⟩
  case round =>
    obtain ⟨j, hj, rfl, ho, hb⟩ := hrel
    have HJ := Lib.hid hj
    have HBR := Lib.hid hb
    have HO := Lib.hid ho
    have p0 := (cell_of_heap (hb.block b hbs) _).trans hP.out
    clear hj hb ho
    by_cases hlt : j < m
    · have hx : j < rs.length := by rw [HM.out]; exact hlt
      have htk : rs.take (j + 1) = rs.take j ++ [rs[j]] := List.take_succ_eq_append_getElem hx
      have hsn := linesR_snoc (rs.take j) rs[j]
      rw [← htk] at hsn
      have HSN := Lib.hid hsn
      have hmem := List.getElem_mem hx
      have hok := (H2.out.lk _ hmem)
      have hln2 := (HS.out.sm _ hmem).2
      have hrow := fun W (k : Below w.heap.size w W) => H2.out.row k hx
      have HROW := Lib.hid hrow
      have HOK := Lib.hid hok
      clear hsn hok hmem htk hrow
      generalize rs[j] = x at *
      go_wp2_with fail
      go_loopg [3, 5] x.l.2.length (fun k v i wr => EdB w (linesR (rs.take j)) x.l.2 k v i wr)
      case atStart => exact ⟨0, by omega, rfl, by rw [List.take_zero, List.map_nil, List.append_nil]; exact HO.out, HBR.out⟩
      case round =>
        obtain ⟨i, hi, rfl, ho2, hb2⟩ := hrel
        have HI2 := Lib.hid hi
        have HB2 := Lib.hid hb2
        have HO2 := Lib.hid ho2
        obtain ⟨g, o, hA, _, _, _, d3⟩ := HROW.out _ hb2
        have q0 := (cell_of_heap (hb2.block b hbs) _).trans hP.out
        obtain ⟨AH, cH, AL, cL, h2r, _, hL⟩ := (HOK.out.below hb2).rows
        have r1 := h2r.c1
        have HLL := Lib.hid hL
        subst hA
        clear hi hb2 ho2 hL h2r
        by_cases hlt2 : i < x.l.2.length
        · obtain ⟨gL, oL, rfl, _, m0, _, _⟩ := HLL.out.atH (j := i) (by rw [List.length_map]; exact hlt2)
          rw [List.getElem_map] at m0
          have hm0 : (lnA x.l.2[i]).1 = x.l.2[i].1 := rfl
          rw [hm0] at m0
          have hsn2 : foldI (linesR (rs.take j) ++ (x.l.2.take (i + 1)).map (·.1)) = insI (foldI (linesR (rs.take j) ++ (x.l.2.take i).map (·.1))) x.l.2[i].1 := by
            rw [List.take_succ_eq_append_getElem hlt2, List.map_append, ← List.append_assoc]
            exact foldI_snoc _ _
          have hlen2 : (foldI (linesR (rs.take j) ++ (x.l.2.take i).map (·.1))).length ≤ 100000 := by
            have h1 := foldl_length (linesR (rs.take j) ++ (x.l.2.take i).map (·.1)) []
            rw [List.length_append, List.length_map, List.length_take] at h1
            have h2 : (linesR (rs.take j)).length ≤ (linesR rs).length := by
              have : linesR rs = linesR (rs.take j) ++ linesR (rs.drop j) := by
                unfold linesR
                rw [← List.flatMap_append, List.take_append_drop]
              rw [this, List.length_append]
              omega
            have h3 := HLN.out
            unfold foldI
            simp only [List.length_nil] at h1
            omega
          have hin := rinsert2_ HO2.out HB2.out.size hlen2 x.l.2[i].1
          rw [← hsn2] at hin
          have HIN := Lib.hid hin
          clear hm0 hsn2 hlen2 hin
          generalize x.l.2[i].1 = y at *
          go_wp2_with fail
          refine HIN.out.mono ?_
          rintro e w3 ⟨v3, rfl, ho3, hb3, _⟩
          have HO3 := Lib.hid ho3
          have HB3 := Lib.hid (HB2.out.trans (hb3.mono HB2.out.size))
          clear ho3 hb3
          go_wp2_with fail
          go_roundg (x.l.2.length - (i + 1))
          case measure => have := HI2.out; omega
          case rel => exact ⟨i + 1, by have := HI2.out; omega, by go_num, HO3.out, HB3.out⟩
        · obtain rfl : i = x.l.2.length := by have := HI2.out; omega
          rw [List.take_length, ← HSN.out] at HO2
          go_wp2_with fail
          go_roundg (m - (j + 1))
          case measure => have := HJ.out; have := HM.out; omega
          case rel => exact ⟨j + 1, by have := HM.out; omega, by go_num, HO2.out, HB2.out⟩
    · obtain rfl : j = m := by have := HJ.out; have := HM.out; omega
      rw [List.take_of_length_le (by have := HM.out; omega)] at HO
      rename World => w1
      obtain ⟨A3, c3, e3, hW, hWc, hWm, _⟩ := own_lst HO.out
      subst e3
      unfold maxLen at hWm
      have hwl : (foldI (linesR rs)).length ≤ 10000 := by
        have h1 := foldl_length (linesR rs) []
        have h2 := HLN.out
        unfold foldI
        simp only [List.length_nil] at h1
        omega
      have HW := Lib.hid hW
      have HOA := Lib.hid (outE_all rs)
      clear hW
      generalize foldI (linesR rs) = ws at *
      obtain ⟨n, hws⟩ : ∃ n, ws.length = n := ⟨_, rfl⟩
      rw [hws] at hWc hwl
      have HWS := Lib.hid hws
      rw [hws]
      clear hws
      go_wp2_with fail
      go_loopg [6, 7, 8, 9, 10, 11, 12] n (fun k v i _ _ _ _ _ w' => EdC w1 rs ws k v i w')
      case atStart => exact ⟨0, by rw [HWS.out]; omega, rfl, own_nil _ _, Below.refl _ _⟩
      case round =>
        obtain ⟨j2, hj2, rfl, ho2, hb2⟩ := hrel
        have HJ2 := Lib.hid hj2
        have HO2 := Lib.hid ho2
        have HB2 := Lib.hid hb2
        clear hj2 ho2 hb2
        by_cases hlt2 : j2 < n
        · have hx2 : j2 < ws.length := by rw [HWS.out]; exact hlt2
          have hsn := outE_snoc rs (ws.take j2) ws[j2]
          rw [← List.take_succ_eq_append_getElem hx2] at hsn
          have HSN := Lib.hid hsn
          have HWY := Lib.hid fun W (k : Below w1.heap.size w1 W) => (HW.out.below k).atI hx2
          clear hsn
          generalize ws[j2] = y at *
          rename World => w3
          go_wp2_with fail
          go_loopg [8, 9, 10, 11] j (fun k v i _ _ W => EdD w w3 rs y k v i W)
          case atStart => exact ⟨0, by rw [HM.out]; omega, rfl, own_nil _ _, Below.refl _ _⟩
          case round =>
            obtain ⟨j4, hj4, rfl, ho4, hb4⟩ := hrel
            have HJ4 := Lib.hid hj4
            have HO4 := Lib.hid ho4
            have HB4 := Lib.hid hb4
            have hb41 := HB2.out.trans (hb4.mono HB2.out.size)
            have b4 := HBR.out.trans (hb41.mono HBR.out.size)
            have hs4 := b4.size
            have q0 := (cell_of_heap (b4.block b hbs) _).trans hP.out
            clear hj4 ho4
            by_cases hlt4 : j4 < j
            · have hx4 : j4 < rs.length := by rw [HM.out]; exact hlt4
              obtain ⟨g, o, hA, _, _, _, d3⟩ := H2.out.row b4 hx4
              have hmem := List.getElem_mem hx4
              have hok := (H2.out.lk _ hmem).below b4
              obtain ⟨AH, cH, AL, cL, h2r, hH, hL⟩ := (hok.below (Below.refl _ _).drew).rows
              have hwt := rwaits_ h2r hH hL rfl rfl (HS.out.sm _ hmem).1 (HS.out.sm _ hmem).2 (HS.out.ok _ hmem) y
              have hws2 := waitsR_snoc (rs.take j4) rs[j4] y
              rw [← List.take_succ_eq_append_getElem hx4] at hws2
              have HWT := Lib.hid hwt
              have HWS2 := Lib.hid hws2
              obtain ⟨g3, o3, hA3, _, y0⟩ := HWY.out _ hb41
              subst hA hA3
              clear hb4 hb41 b4 hok hmem h2r hH hL hwt hws2
              generalize rs[j4] = x at *
              go_wp2_with fail
              have hS0 : (fun W : World => W.cell? ⟨b, 0, none⟩ = some (.slice (some ⟨g, o, none⟩) j c) ∧ W.cell? ⟨g, o + j4 * 4 + 3, none⟩ = some (.pointer (some ⟨x.q, 0, none⟩)) ∧ W.cell? ⟨g3, o3 + j2, none⟩ = some (.int .i64 y)) wr.drew := ⟨q0, d3, y0⟩
              have hg0 := block_of_cell q0
              have hg1 := block_of_cell d3
              have hg2 := block_of_cell y0
              go_region_held3 (fun W : World => W.cell? ⟨b, 0, none⟩ = some (.slice (some ⟨g, o, none⟩) j c) ∧ W.cell? ⟨g, o + j4 * 4 + 3, none⟩ = some (.pointer (some ⟨x.q, 0, none⟩)) ∧ W.cell? ⟨g3, o3 + j2, none⟩ = some (.int .i64 y))
                (first | exact hS0 | exact hS1)
                (first | (go_at_call 45; refine HWT.out.mono ?_; rintro e w5 ⟨v5, rfl, ho5, hb5⟩; have HO5 := Lib.hid ho5; have HB5 := Lib.hid hb5; have hS1 : (fun W : World => W.cell? ⟨b, 0, none⟩ = some (.slice (some ⟨g, o, none⟩) j c) ∧ W.cell? ⟨g, o + j4 * 4 + 3, none⟩ = some (.pointer (some ⟨x.q, 0, none⟩)) ∧ W.cell? ⟨g3, o3 + j2, none⟩ = some (.int .i64 y)) w5 := ⟨(cell_of_heap (hb5.block _ hg0) _).trans q0, (cell_of_heap (hb5.block _ hg1) _).trans d3, (cell_of_heap (hb5.block _ hg2) _).trans y0⟩; clear hb5 ho5))
              obtain ⟨A5, c5, e5, hl5, hc5, hm5, _⟩ := own_lst HO5.out
              subst e5
              unfold maxLen at hm5
              have HL5 := Lib.hid hl5
              have b5 := (Below.refl wr.heap.size wr).drew.trans HB5.out
              have HO6 := Lib.hid (own_belowE HO4.out b5)
              have HB6 := Lib.hid (HB4.out.trans (b5.mono HB4.out.size))
              have hbd : (waitsR (rs.take j4) y).length + (waitsP x.l y).length ≤ 10000 := by
                have h1 := congrArg List.length HWS2.out
                rw [List.length_append] at h1
                have h2 := waitsR_take rs (j4 + 1) y
                have h3 := hwl2 y
                omega
              have hse := b5.size
              have hsw := Nat.le_trans hs4 hse
              clear hl5 b5 HWT hS0 hS1
              rename World => w5'
              generalize waitsP x.l y = L at *
              generalize waitsR (rs.take j4) y = zs at *
              go_wp2_with fail
              go_loopg [8, 11] L.length (fun k v i W => EdF w w5' zs L k v i W)
              case atStart => exact ⟨0, by omega, rfl, by rw [List.take_zero, List.append_nil]; exact HO6.out, Below.refl _ _⟩
              case round =>
                obtain ⟨i5, hi5, rfl, ho7, hb7⟩ := hrel
                have HI5 := Lib.hid hi5
                have HB7 := Lib.hid hb7
                have HO7 := Lib.hid ho7
                clear hi5 ho7
                by_cases hlt5 : i5 < L.length
                · obtain ⟨g7, o7, rfl, _, z0⟩ := (HL5.out.below hb7).atI hlt5
                  have hsn2 : foldI (zs ++ L.take (i5 + 1)) = insI (foldI (zs ++ L.take i5)) L[i5] := by
                    rw [List.take_succ_eq_append_getElem hlt5, ← List.append_assoc]
                    exact foldI_snoc _ _
                  have hlen2 : (foldI (zs ++ L.take i5)).length ≤ 100000 := by
                    have h1 := foldl_length (zs ++ L.take i5) []
                    rw [List.length_append, List.length_take] at h1
                    unfold foldI
                    simp only [List.length_nil] at h1
                    omega
                  have hin := rinsert2_ HO7.out (Nat.le_trans hsw hb7.size) hlen2 L[i5]
                  rw [← hsn2] at hin
                  have HIN := Lib.hid hin
                  clear hsn2 hlen2 hin hb7
                  generalize L[i5] = z at *
                  go_wp2_with fail
                  refine HIN.out.mono ?_
                  rintro e w8 ⟨v8, rfl, ho8, hb8, _⟩
                  have HO8 := Lib.hid ho8
                  have HB8 := Lib.hid (HB7.out.trans (hb8.mono HB7.out.size))
                  clear ho8 hb8
                  go_wp2_with fail
                  go_roundg (L.length - (i5 + 1))
                  case measure => have := HI5.out; omega
                  case rel => exact ⟨i5 + 1, by have := HI5.out; omega, by go_num, HO8.out, HB8.out⟩
                · obtain rfl : i5 = L.length := by have := HI5.out; omega
                  rw [List.take_length, ← HWS2.out] at HO7
                  have HB9 := Lib.hid (HB6.out.trans (hb7.mono HB6.out.size))
                  clear hb7
                  go_wp2_with fail
                  go_roundg (j - (j4 + 1))
                  case measure => have := HJ4.out; have := HM.out; omega
                  case rel => exact ⟨j4 + 1, by have := HM.out; omega, by go_num, HO7.out, HB9.out⟩
            · obtain rfl : j4 = j := by have := HJ4.out; have := HM.out; omega
              rw [List.take_of_length_le (by have := HM.out; omega)] at HO4
              obtain ⟨A8, c8, e8, _, _, _, _⟩ := own_lst HO4.out
              subst e8
              go_wp2_with fail
              go_loopg [6, 12] (foldI (waitsR rs y)).length (fun k v i W => EdG w w1 (outE rs (ws.take j2)) y (foldI (waitsR rs y)) (.slice A8 (foldI (waitsR rs y)).length c8) k v i W)
              case atStart => exact ⟨0, by omega, rfl, by rw [List.take_zero, List.map_nil, List.append_nil]; exact own_belowE HO2.out HB4.out, HO4.out, hb41⟩
              case round =>
                obtain ⟨i6, hi6, rfl, ho6, ht6, hb6⟩ := hrel
                have HI6 := Lib.hid hi6
                have HO6 := Lib.hid ho6
                have HT6 := Lib.hid ht6
                have HB6 := Lib.hid hb6
                clear hi6 ho6
                by_cases hlt6 : i6 < (foldI (waitsR rs y)).length
                · obtain ⟨A9, c9, e9, ht, _⟩ := own_lst ht6
                  injection e9 with e9 e10 e11
                  clear e10 e11
                  subst e9
                  obtain ⟨g9, o9, rfl, _, z0⟩ := ht.atI hlt6
                  obtain ⟨g3, o3, hA3, _, y0⟩ := HWY.out _ hb6
                  subst hA3
                  have hbd6 : (outE rs (ws.take j2) ++ ((foldI (waitsR rs y)).take i6).map fun o => (y, o)).length + 1 ≤ 1000000 := by
                    have h1 := congrArg List.length HSN.out
                    have h2 := outE_take rs ws (j2 + 1)
                    rw [HOA.out] at h2
                    rw [List.length_append, List.length_map] at h1
                    rw [List.length_append, List.length_map, List.length_take]
                    omega
                  have htk6 : (outE rs (ws.take j2) ++ ((foldI (waitsR rs y)).take i6).map fun o => (y, o)) ++ [(y, (foldI (waitsR rs y))[i6])] = outE rs (ws.take j2) ++ ((foldI (waitsR rs y)).take (i6 + 1)).map fun o => (y, o) := by
                    rw [List.take_succ_eq_append_getElem hlt6, List.map_append, List.append_assoc]
                    rfl
                  have hi6b : i6 ≤ 1000000 := by
                    have h1 := hbd6
                    rw [List.length_append, List.length_map, List.length_take] at h1
                    omega
                  have HI6B := Lib.hid hi6b
                  have HTK6 := Lib.hid htk6
                  have HLT6 := Lib.hid hlt6
                  have hw16 := hb6.size
                  clear ht ht6 hb6 htk6
                  generalize (foldI (waitsR rs y))[i6] = z at *
                  go_wp2_with fail
                  go_region_law (first
                    | (refine step_append_own tyE rfl (.tmp 101) (.tmp 111) rfl rfl (own_belowE HO6.out ((alloc_below wr (.cells #[.int .i64 y, .int .i64 z] 80)).drew)) rfl ((edge_one wr y z).below (Below.refl (wr.alloc (.cells #[.int .i64 y, .int .i64 z] 80)).heap.size _).drew) rfl hbd6 (Nat.le_trans hw16 (alloc_below wr (.cells #[.int .i64 y, .int .i64 z] 80)).size) ?_; intro v9 W9 ho9 hg9; rw [HTK6.out] at ho9; have HO9 := Lib.hid ho9; have HG9 := Lib.hid hg9; clear ho9 hg9))
                  all_goals
                    have kal := (alloc_below wr (.cells #[.int .i64 y, .int .i64 z] 80)).drew
                    have k9 := Lib.hid ((HB6.out.trans (kal.mono HB6.out.size)).trans (grown_own (own_belowE HO6.out kal) HG9.out (Nat.le_trans hw16 kal.size)))
                    have t9 := Lib.hid (own_keep (own_belowE HT6.out kal) fun g hg => by
                      obtain ⟨_, hgl, cur, hc⟩ := own_blk (own_belowE HT6.out kal) hg
                      exact HG9.out.block g hgl fun e => by
                        obtain ⟨_, _, cur', hc'⟩ := own_blk (own_belowE HO6.out kal) e.symm
                        exact ne_of_types (g := _) hc hc' (by decide) rfl)
                    clear kal
                    go_wp2_with fail
                    go_roundg ((foldI (waitsR rs y)).length - (i6 + 1))
                    case measure => have := HI6.out; have := HLT6.out; omega
                    case rel => exact ⟨i6 + 1, Nat.add_sub_of_le HLT6.out, by have := HI6B.out; go_num, HO9.out, t9.out, k9.out⟩
                · obtain rfl : i6 = (foldI (waitsR rs y)).length := by have := HI6.out; omega
                  rw [List.take_length, ← HSN.out] at HO6
                  clear hb6 ht6
                  go_wp2_with fail
                  go_roundg (n - (j2 + 1))
                  case measure => have := HJ2.out; have := HWS.out; omega
                  case rel => exact ⟨j2 + 1, by have := HWS.out; have := HJ2.out; omega, by go_num, HO6.out, HB6.out⟩
        · obtain rfl : j2 = n := by have := HJ2.out; have := HWS.out; omega
          rw [List.take_of_length_le (by have := HWS.out; omega), HOA.out] at HO2
          have HBE := Lib.hid (HBR.out.trans (HB2.out.mono HBR.out.size))
          go_wp2_with fail
          go_ret
          exact ⟨_, rfl, own_base HO2.out HBR.out.size, HBE.out⟩
end Go.Proofs.YtnjhhndggfjjdaaGreatDoor
namespace Go.Proofs.YtnjhhndggfjjdaaGreatDoor
open Go.RowKit
section
variable {w : World} {base b : Nat} {s : TS} {rs : List Rw}
theorem lock_ent (hi : TInv (rs.map Rw.ent)) (m : Nm) : lockN (rs.map Rw.ent) m = nmLock rs m := by
  rcases idx_cases (isNm m) rs with ⟨_, hany⟩ | ⟨hlt, _, _, hnm⟩
  · rw [lock_miss fun j hj => by simpa using List.any_eq_false.1 hany _ (List.getElem_mem hj)]
    exact (spot_abs fun e he h2 => by
      obtain ⟨r, hr, rfl⟩ := List.mem_map.1 he
      have := List.any_eq_false.1 hany r hr
      unfold isNm at this
      exact this (decide_eq_true h2)).2
  · rw [lock_hit hlt, (spot_pres hi.rise (j := rs.findIdx (isNm m)) (m := m) (by rw [List.length_map]; exact hlt) (by rw [List.getElem_map]; exact of_decide_eq_true hnm)).2.2, List.getElem_map]
    rfl
theorem mode_ent (hi : TInv (rs.map Rw.ent)) (who : Int) (n : Nm) : modeP (nmLock rs (plainN n)).1 who = modeN (rs.map Rw.ent) who n := by
  unfold modeN
  rw [← lock_ent hi]
  rcases hk : knownP n with _ | m
  · have hn : ∀ e ∈ rs.map Rw.ent, e.1 ≠ plainN n := fun e he h2 => by
      have h1 := hi.norm e he
      rw [h2] at h1
      have h3 := known_plain n
      have h4 := known_plain (plainN n)
      rw [hk] at h3
      rw [h1] at h4
      have h5 : n.1 < 0 ∨ 2 < n.1 := by
        by_cases h : n.1 < 0 ∨ 2 < n.1
        · exact h
        · rw [if_neg h] at h3; cases h3
      have h6 : plainN n = n := by
        unfold plainN
        rw [if_neg (by omega), if_neg (by omega)]
      rw [h6, if_pos h5] at h4
      cases h4
    rw [(spot_abs hn).2]
    rfl
  · have h3 := known_plain n
    rw [hk] at h3
    by_cases h : n.1 < 0 ∨ 2 < n.1
    · rw [if_pos h] at h3; cases h3
    · rw [if_neg h] at h3
      injection h3 with h3
      rw [h3]
theorem TB.waiting (h : TB base b s w) (hi : TInv s) (hc : countP s ≤ 1000) (who : Int) :
    Calls Tryz.prog 13 #[.pointer (some ⟨b, 0, none⟩), .int .i64 who] w fun e w' => e = .returned (.tuple #[valN ((waitN s who).getD (0, noB, noB)), .bool (waitN s who).isSome]) ∧ Below w.heap.size w w' := by
  obtain ⟨v, rs, h, e⟩ := h
  have hs := small_of e hi hc
  have hw := wait_ent rs who
  rw [e] at hw
  rw [hw]
  exact rtwaiting_ h hs.len (fun r hr => (hs.sm r hr).2) who
theorem TB.mode (h : TB base b s w) (hi : TInv s) (hc : countP s ≤ 1000) (who : Int) (n : Nm) :
    Calls Tryz.prog 15 #[.pointer (some ⟨b, 0, none⟩), .int .i64 who, valN n] w fun e w' => e = .returned (.int .i64 (modeN s who n : Int)) ∧ Below w.heap.size w w' := by
  obtain ⟨v, rs, h, e⟩ := h
  have hs := small_of e hi hc
  subst e
  rw [← mode_ent hi]
  exact rtmode_ h hs.len (fun r hr => (hs.sm r hr).1) who n
theorem TB.count (h : TB base b s w) (hi : TInv s) (hc : countP s ≤ 1000) :
    Calls Tryz.prog 17 #[.pointer (some ⟨b, 0, none⟩)] w fun e w' => e = .returned (.int .i64 (countP s : Int)) ∧ Below w.heap.size w w' := by
  obtain ⟨v, rs, h, e⟩ := h
  have hs := small_of e hi hc
  subst e
  rw [cntR_ent]
  exact rtcount_ h hs
theorem TB.free (h : TB base b s w) (hbase : base ≤ w.heap.size) (hi : TInv s) (hc : countP s ≤ 1000) (who : Int) :
    Calls Tryz.prog 11 #[.pointer (some ⟨b, 0, none⟩), .int .i64 who] w fun e w' => ∃ v, e = .returned v ∧ Own w' w.heap.size eI 3 v (freeN s who).1 ∧ TB base b (freeN s who).2 w' ∧ TKeep base w w' :=
  rtfree_ h hbase hi hc who fun e => small_of e hi hc
theorem lines_le (hi : TInv (rs.map Rw.ent)) (hc : countP (rs.map Rw.ent) ≤ 100) : (linesR rs).length ≤ 10000 ∧ ∀ who, (waitsR rs who).length ≤ 10000 := by
  have hl := length_count hi.some
  rw [List.length_map] at hl
  have key : rs.length * countP (rs.map Rw.ent) ≤ 10000 := Nat.le_trans (Nat.mul_le_mul (Nat.le_trans hl hc) hc) (by omega)
  constructor
  · refine Nat.le_trans (flat_length (k := countP (rs.map Rw.ent)) fun r hr => ?_) key
    rw [List.length_map]
    exact (hi.small (List.mem_map.2 ⟨r, hr, rfl⟩)).2
  · intro who
    refine Nat.le_trans (flat_length (k := countP (rs.map Rw.ent)) fun r hr => ?_) key
    have he : r.ent ∈ rs.map Rw.ent := List.mem_map.2 ⟨r, hr, rfl⟩
    exact Nat.le_trans (waits_length (hi.ok _ he) who) (count_lock he)
theorem TB.edges (h : TB base b s w) (hi : TInv s) (hc : countP s ≤ 100) :
    Calls Tryz.prog 20 #[.pointer (some ⟨b, 0, none⟩)] w fun e w' => ∃ v, e = .returned v ∧ Own w' w.heap.size eE 80 v (sortedE (rawE s)) ∧ Below w.heap.size w w' := by
  obtain ⟨v, rs, h, e⟩ := h
  have hs := small_of e hi (by omega)
  subst e
  obtain ⟨h1, h2⟩ := lines_le hi hc
  rw [← edges_eq hi]
  refine rtedges_ h hs h1 h2 ?_
  rw [edges_eq hi, sortedE_length]
  exact Nat.le_trans (rawE_length hi) (Nat.le_trans (Nat.mul_le_mul hc hc) (by omega))
theorem TB.new (W : World) (hb : base ≤ W.heap.size) : TB base W.heap.size [] (W.alloc (.cells #[.slice none 0 0] 29)) :=
  ⟨.slice none 0 0, [], ⟨Blk.new W _ _, own_nil _ _, fun r hr => (by cases hr), List.Pairwise.nil, hb⟩, rfl⟩
end
end Go.Proofs.YtnjhhndggfjjdaaGreatDoor
