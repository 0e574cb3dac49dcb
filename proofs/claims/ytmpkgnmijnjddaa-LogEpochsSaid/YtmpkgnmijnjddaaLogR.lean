/- What Records answers: what the records have, in new memory. -/
import Derived.Test.YtmpkgnmijnjddaaLogK
namespace Go.Proofs.Ytmpkgnmijnjddaa
open Go.RowKit
/-- a slice of slices, and what these hold -/
def Lists (w : World) (K : Nat → Prop) (v : Value) (ls : List (List UInt8)) : Prop :=
  ∃ (A : Option Addr) (c : Nat) (vs : List Value), v = .slice A ls.length c ∧ (∀ (j : Nat) (x : Value), vs[j]? = some x → ∃ b o, A = some ⟨b, o, none⟩ ∧ K b ∧ b < w.heap.size ∧ w.cell? ⟨b, o + j, none⟩ = some x) ∧ Holds w K vs ls
section
variable {w w' : World} {K K' : Nat → Prop} {v : Value} {ls : List (List UInt8)}
theorem Lists.keep (h : Lists w K v ls) (k : Keep (fun i _ => K i) w w') : Lists w' K v ls := by
  obtain ⟨A, c, vs, e, hc, hh⟩ := h
  refine ⟨A, c, vs, e, fun j x hx => ?_, hh.keep k⟩
  obtain ⟨b, o, e, hk, hb, hcell⟩ := hc j x hx
  have hbl : w'.heap[b]? = w.heap[b]? := by
    rw [Array.getElem?_eq_getElem hb]
    exact k.block b _ (Array.getElem?_eq_getElem hb) hk
  exact ⟨b, o, e, hk, Nat.lt_of_lt_of_le hb k.size, (cell_of_heap hbl _).trans hcell⟩
theorem Lists.below (h : Lists w K v ls) (k : Below w.heap.size w w') : Lists w' K v ls := h.keep (Keep.of_below k)
theorem Lists.more (h : Lists w K v ls) (hk : ∀ i, i < w.heap.size → K i → K' i) : Lists w K' v ls := by
  obtain ⟨A, c, vs, e, hc, hh⟩ := h
  refine ⟨A, c, vs, e, fun j x hx => ?_, hh.more hk⟩
  obtain ⟨b, o, e, h1, hb, hcell⟩ := hc j x hx
  exact ⟨b, o, e, hk b hb h1, hb, hcell⟩
theorem Lists.slice (h : Lists w K v ls) : ∃ A c, v = .slice A ls.length c := by
  obtain ⟨A, c, _, e, _⟩ := h
  exact ⟨A, c, e⟩
/-- the j-th of them -/
theorem Lists.at_ {A : Option Addr} {n c : Nat} (h : Lists w K (.slice A n c) ls) {j : Nat} {xs : List UInt8} (hx : ls[j]? = some xs) : ∃ b o A' c', A = some ⟨b, o, none⟩ ∧ w.cell? ⟨b, o + j, none⟩ = some (.slice A' xs.length c') ∧ Has w K A' xs ∧ (A' = none → c' = 0) := by
  obtain ⟨A1, c1, vs, e, hc, hh⟩ := h
  injection e with e1 e2 e3
  subst e1
  obtain ⟨A', c', hv, hH, _, _, hA⟩ := hh.2 j xs hx
  obtain ⟨b, o, e, _, _, hcell⟩ := hc j _ hv
  exact ⟨b, o, A', c', e, hcell, hH, hA⟩
theorem Lists.len {A : Option Addr} {n c : Nat} (h : Lists w K (.slice A n c) ls) : n = ls.length := by
  obtain ⟨A1, c1, vs, e, _⟩ := h
  injection e
end
theorem own_lists {w : World} {K R : Nat → Prop} {v : Value} {vs : List Value} {ls : List (List UInt8)} (h : w.ownsRow 0 30 1 v ls.length vs) (hh : Holds w R vs ls) (hK : ∀ k, v.ownBlock = some k → K k) (hR : ∀ i, R i → K i) : Lists w K v ls := by
  have hh' := hh.more (K' := K) fun i _ hi => hR i hi
  rcases h.2 with ⟨rfl, h0⟩ | ⟨q, cap, cur, rfl, _, hq, hc, _, _, ht⟩
  · refine ⟨none, 0, vs, by rw [h0], fun j x hx => ?_, hh'⟩
    have h1 := h.1
    rw [h0] at h1
    obtain rfl : vs = [] := List.eq_nil_of_length_eq_zero (by omega)
    simp at hx
  · refine ⟨_, cap, vs, rfl, fun j x hx => ⟨q, 0, rfl, hK q rfl, lt_of_some hq, ?_⟩, hh'⟩
    rw [show w.cell? ⟨q, 0 + j, none⟩ = cur[0 + j]? from cell_of_row w q _ cur _ (0, 0) hq, Nat.zero_add]
    have hj : j < ls.length := by have := (List.getElem?_eq_some_iff.1 hx).1; have := hh.1; omega
    rw [← ht, List.getElem?_take_of_lt (by omega)] at hx
    simpa using hx
theorem LogAt.lists {w : World} {g gd : Nat} {R : Nat → Prop} {s : St} {L : Lg} (h : LogAt w g gd R s L) : ∃ A c, w.cell? ⟨g, 4, none⟩ = some (.slice A L.ls.length c) ∧ Lists w (fun _ => True) (.slice A L.ls.length c) L.ls ∧ (∀ x ∈ L.ls, x.length ≤ 262144) ∧ L.ls.length ≤ 4096 := by
  have hl := h.cells
  obtain ⟨O, vr, vs, h⟩ := h
  have hk := own_lists (K := fun _ => True) h.rows h.held (fun _ _ => trivial) (fun _ _ => trivial)
  obtain ⟨A, c, rfl⟩ := hk.slice
  obtain ⟨_, _, _, _, _, _, _, _, _, _, _, _, h4, _⟩ := hl
  exact ⟨A, c, by rw [h.head.cell]; rfl, hk, h.long, h4⟩
theorem made37 (n : Nat) (hn : n ≤ 100000) (w : World) : (Instr.makeSlice 37 (.int .i64 (n : Int)) (.int .i64 (n : Int))).run Try.prog w =
    .ok (.slice (some ⟨w.heap.size, 0, none⟩) n n) (w.alloc (.cells (List.replicate n (Value.slice none 0 0)).toArray 30)) := by
  obtain ⟨i0, hi, hz0, hz1, hz2⟩ := info_parts info30
  have h := run_make (P := Try.prog) w 37 30 i0 _ Try.underlying37 hi hz0 .i64 .i64 n n (by omega) (by omega) (by rw [hz2]; omega) (by omega)
  rw [h]
  simp only [Int.toNat_natCast, hz1, Nat.mul_one]
  congr 3
  apply Array.ext
  · simp [madeCells]
  · intro i h1 h2
    simp [madeCells, Value.cells]
    simp [Nat.mod_one]
def nilS : Value := .slice none 0 0
/-- the first j records are cloned into the row at block B -/
def RecRel (w : World) (ls : List (List UInt8)) (k : Nat) (i : Value) (wr : World) : Prop :=
  ∃ (j : Nat) (vs : List Value), j + k = ls.length ∧ i = .int .i64 (j : Int) ∧ vs.length = j ∧ Blk wr w.heap.size 30 (vs ++ List.replicate k nilS).toArray ∧ Holds wr (fun i => w.heap.size < i) vs (ls.take j) ∧ Below w.heap.size w wr
theorem rec_step {w wr w1 : World} {j k : Nat} {vs : List Value} {ls : List (List UInt8)} {xs : List UInt8} {A : Option Addr} {c : Nat} (hx : ls[j]? = some xs) (hl : vs.length = j) (hb : Blk wr w.heap.size 30 (vs ++ List.replicate (k + 1) nilS).toArray) (hh : Holds wr (fun i => w.heap.size < i) vs (ls.take j))
    (hw : Below w.heap.size w wr) (h1 : Has w1 (fun i => wr.heap.size ≤ i ∧ Ty5 w1 i) A xs) (hc : xs.length ≤ c) (hm : c ≤ maxLen) (hA : A = none → c = 0) (hb1 : Below wr.heap.size wr w1) :
    Blk (w1.setCell ⟨w.heap.size, j, none⟩ (.slice A xs.length c)) w.heap.size 30 ((vs ++ [Value.slice A xs.length c]) ++ List.replicate k nilS).toArray ∧
    Holds (w1.setCell ⟨w.heap.size, j, none⟩ (.slice A xs.length c)) (fun i => w.heap.size < i) (vs ++ [Value.slice A xs.length c]) (ls.take (j + 1)) ∧ Below w.heap.size w (w1.setCell ⟨w.heap.size, j, none⟩ (.slice A xs.length c)) := by
  have hk : Keep (fun i _ => w.heap.size < i) w1 (w1.setCell ⟨w.heap.size, j, none⟩ (.slice A xs.length c)) := (Keep.refl w1).setCell (fun _ _ hk => by simp at hk) _
  have hk2 : Keep (fun i _ => i < w.heap.size) w1 (w1.setCell ⟨w.heap.size, j, none⟩ (.slice A xs.length c)) := (Keep.refl w1).setCell (fun _ _ hk => by simp at hk) _
  have hbl := hb.lt
  refine ⟨?_, ?_, ?_⟩
  · have := (hb.below hb1 hbl).set_ j (.slice A xs.length c)
    have e : (vs ++ List.replicate (k + 1) nilS).toArray.setIfInBounds j (.slice A xs.length c) = ((vs ++ [Value.slice A xs.length c]) ++ List.replicate k nilS).toArray := by
      subst hl
      simp [List.replicate_succ]
    rwa [e] at this
  · have e : ls.take (j + 1) = ls.take j ++ [xs] := take_snoc' ls j xs hx
    rw [e]
    exact ((hh.below hb1).snoc (h1.more fun i _ hi => by have := hi.1; omega) hc hm hA).keep hk
  · exact (hw.trans (hb1.mono hw.size)).trans (below_of_keep hk2 (Nat.le_trans hw.size hb1.size))
set_option maxHeartbeats 1000000 in
theorem records_ {w : World} {g gd : Nat} {R : Nat → Prop} {s : St} {L : Lg} (h : LogAt w g gd R s L) :
    Calls Try.prog 12 #[ptr g] w fun e w' => ∃ v, e = .returned v ∧ Lists w' (fun i => w.heap.size ≤ i) v L.ls ∧ Below w.heap.size w w' := by
  obtain ⟨A, c, k4, hli, hlong, hlen⟩ := h.lists
  have hlt : g < w.heap.size := by
    obtain ⟨_, _, _, _, _, _, _, _, _, _, _, _, _, hlt⟩ := h.cells
    exact hlt
  obtain ⟨ls, hls⟩ : ∃ l, L.ls = l := ⟨_, rfl⟩
  rw [hls] at k4 hli hlong hlen ⊢
  obtain ⟨n, hn⟩ : ∃ n, ls.length = n := ⟨_, rfl⟩
  rw [hn] at k4 hli hlen
  have hmk := fun W => made37 n (by omega) W
  have HLI := Lib.hid hli
  have HLG := Lib.hid hlong
  have HN := Lib.hid hn
  clear h hli hlong hls hn
  have kW := (Below.cell (p := ⟨g, 4, none⟩) (alloc_below w (.cells (List.replicate n (Value.slice none 0 0)).toArray 30)) hlt).trans k4
  go_enter Try.func12, Try.ntmps12
  go_wp2_with fail
  go_loopg [19] n (fun k i wr => RecRel w ls k i wr)
  case atStart => exact ⟨0, [], by rw [HN.out]; omega, rfl, rfl, by simpa [nilS] using Blk.new w 30 (List.replicate n (Value.slice none 0 0)).toArray, by simpa using Holds.nil _ _, alloc_below _ _⟩
  case round =>
    obtain ⟨j, vs, hj, rfl, hvl, hb, hh, hbel⟩ := hrel
    have HB := Lib.hid hb
    have HH := Lib.hid hh
    have HBL := Lib.hid hbel
    have HJ := Lib.hid hj
    have HV := Lib.hid hvl
    rw [HN.out] at hj
    clear hb hh hbel hvl
    by_cases hlt2 : j < n
    · obtain ⟨k, rfl⟩ : ∃ k', gk = k' + 1 := ⟨gk - 1, by omega⟩
      obtain ⟨xs, hx⟩ := at_of_lt ls j (by rw [HN.out]; exact hlt2)
      obtain ⟨b, o, A', c', rfl, hcell, hHas, hA'⟩ := (HLI.out.below HBL.out).at_ hx
      have hxl : xs.length ≤ 262144 := HLG.out xs (List.mem_of_getElem? hx)
      have HX := Lib.hid hx
      have HHS := Lib.hid hHas
      have HA' := Lib.hid hA'
      clear hx hHas hA'
      go_wp2_with fail
      refine (cloneN_ HHS.out rfl (by omega) HA'.out).mono ?_
      rintro e w1 ⟨A1, c1, rfl, hh1, hc1, hm1, hA1, hb1⟩
      have hS := rec_step HX.out HV.out HB.out HH.out HBL.out hh1 hc1 hm1 hA1 hb1
      have hB1 := HB.out.below hb1 HB.out.lt
      have d1 := hB1.cell j
      have d1f := hB1.frozen j
      have hd : (vs ++ List.replicate (k + 1) nilS).toArray[j]? = some nilS := by
        have := HV.out
        subst this
        simp [List.replicate_succ]
      rw [hd] at d1
      have HS := Lib.hid hS
      clear hS hB1 hd hh1 hc1 hm1 hA1 hb1
      go_wp2
      go_roundg k
      case measure => omega
      case rel => exact ⟨j + 1, _, by rw [HN.out]; omega, by go_num, by simp [HV.out], HS.out.1, HS.out.2.1, HS.out.2.2⟩
    · have e : ls.take j = ls := List.take_of_length_le (by rw [HN.out]; omega)
      have E := Lib.hid e
      have hgk : gk = 0 := by omega
      have HGK := Lib.hid hgk
      have hjn : j = n := by omega
      have HJN := Lib.hid hjn
      clear e hgk hjn
      go_wp2
      go_ret
      refine ⟨_, rfl, ⟨some ⟨w.heap.size, 0, none⟩, n, vs, by rw [HN.out]; rfl, fun i x hx => ⟨w.heap.size, 0, rfl, Nat.le_refl _, HB.out.lt, ?_⟩, ?_⟩, HBL.out⟩
      · rw [HB.out.cell, Nat.zero_add, HGK.out]
        simpa using hx
      · have := HH.out
        rw [E.out] at this
        exact this.more fun i _ hi => by omega
end Go.Proofs.Ytmpkgnmijnjddaa
