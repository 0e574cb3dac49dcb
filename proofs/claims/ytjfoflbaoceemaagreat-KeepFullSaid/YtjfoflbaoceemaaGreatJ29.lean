/- . . . . . -/
import Derived.Test.YtjfoflbaoceemaaGreatJ14
import Derived.Laws.IdiomCopy
import Derived.Laws.NewBlocks
import Derived.Test.YtjfoflbaoceemaaGreatJ16
import Derived.Lib.AppendZeros
import Derived.Lib.AppendZerosOnto
import Derived.Lib.Overlaps
import Derived.Laws.Externs
import Derived.Shelf.RegionOpenPlain
import Derived.Test.YtjfoflbaoceemaaGreatJ17
import Derived.Test.YtjfoflbaoceemaaGreatJ03
import Derived.Deep.RegionHeld3
set_option maxRecDepth 4000
namespace Go.Proofs.YtjfoflbaoceemaaGreat
open Go.RowKit
theorem cp_grown1 {w w1 : World} {g : Nat} (h : w.grownBy w1 (some g)) (i : Nat) (v : Value) : w.grownBy (w1.setCell ⟨g, i, none⟩ v) (some g) :=
  ⟨h.os, h.tape, h.output, by simpa [World.setCell] using h.size, fun k hk hne => (Below.heap_setCell w1 ⟨g, i, none⟩ v k (fun e => hne (by rw [e]))).trans (h.block k hk hne)⟩
theorem cp_grown {w : World} {g : Nat} : ∀ (vs : List Value) (i : Nat) {w1 : World}, w.grownBy w1 (some g) → w.grownBy (w1.setCells g i vs) (some g)
  | [], _, _, h => h
  | v :: r, i, _, h => by
    rw [World.setCells]
    exact cp_grown r (i + 1) (cp_grown1 h i v)
theorem cp_take {cur : Array Value} {xs : List Value} (h : ∀ (j : Nat) (u : Value), xs[j]? = some u → cur[j]? = some u) : cur.toList.take xs.length = xs := by
  apply List.ext_getElem?
  intro j
  by_cases hj : j < xs.length
  · rw [List.getElem?_take_of_lt hj, Array.getElem?_toList, List.getElem?_eq_getElem hj]
    exact h j _ (List.getElem?_eq_getElem hj)
  · rw [List.getElem?_take_eq_none (by omega), List.getElem?_eq_none (by omega)]
theorem cp_cells {cur : Array Value} {xs : List Value} {n : Nat} (h : cur.toList.take n = xs) (j : Nat) (u : Value) (hj : xs[j]? = some u) : cur[j]? = some u := by
  rw [← h] at hj
  have hl := (List.getElem?_eq_some_iff.1 hj).1
  rw [List.length_take] at hl
  rw [List.getElem?_take_of_lt (by omega)] at hj
  simpa using hj
theorem cp_put {g : Nat} {t : TypeId} : ∀ (vs : List Value) (o : Nat) {w : World} {cur : Array Value}, Blk w g t cur → o + vs.length ≤ cur.size →
    ∃ cur', Blk (w.setCells g o vs) g t cur' ∧ cur'.size = cur.size ∧ (∀ j u, vs[j]? = some u → cur'[o + j]? = some u) ∧ ∀ j, j < o ∨ o + vs.length ≤ j → cur'[j]? = cur[j]?
  | [], _, _, cur, h, _ => ⟨cur, h, rfl, fun j u hj => by simp at hj, fun _ _ => rfl⟩
  | v :: r, o, w, cur, h, hs => by
    rw [List.length_cons] at hs
    obtain ⟨cur', h1, h2, h3, h4⟩ := cp_put r (o + 1) (h.set_ o v) (by simp; omega)
    refine ⟨cur', h1, by simpa using h2, fun j u hj => ?_, fun j hj => ?_⟩
    · cases j with
      | zero => rw [Nat.add_zero, h4 o (.inl (by omega)), Array.getElem?_setIfInBounds_self_of_lt (by omega)]; simpa using hj
      | succ j => rw [show o + (j + 1) = o + 1 + j by omega]; exact h3 j u (by simpa using hj)
    · rw [List.length_cons] at hj
      rw [h4 j (by omega), Array.getElem?_setIfInBounds_ne (by omega)]
theorem cp_step {P : Program} {ops : Array Oper} {o : Oper} {a : Act} {w : World} {K : Act → World → Prop} {Q : Exit → Act → World → Prop} {E : Prop}
    (hg : o.guard = none) (d x : Operand) (dT sT : TypeId) (hop : o.op = Op.call { callee := Callee.builtin Builtin.copy, args := #[d, x], argTypes := #[dT, sT] })
    (v u : Value) (hd : a.eval d = v) (hx : a.eval x = u) {v' : Value} {w' : World} (hr : (Builtin.copy_ #[dT, sT] o.type #[v, u]).run P w = .ok v' w') (hK : K (a.put o.dst v') w') :
    if Region.wanted o (yielded ops a.tmps) = true then Oper.wp P o a w K Q else E := by
  have hw : Region.wanted o (yielded ops a.tmps) = true := by simp [Region.wanted, hg]
  rw [if_pos hw]
  unfold Oper.wp
  simp [execOp, hop, resolve, invoke, builtin, hd, hx, hr, Result.andThen]
  exact hK
end Go.Proofs.YtjfoflbaoceemaaGreat
namespace Go.Proofs.YtjfoflbaoceemaaGreat
open Go.RowKit
theorem sizeOb : ∀ w, (Go.sizeOf 77).run Tryz.prog w = .ok 6 w := Tryz.sizeOf77
def oinsP (l : List Oc) (i : Nat) (x : Oc) : List Oc := l.take i ++ x :: l.drop i
theorem oinsP_length {l : List Oc} {i : Nat} (x : Oc) : (oinsP l i x).length = l.length + 1 := by
  have := congrArg List.length (List.take_append_drop i l)
  unfold oinsP
  simp only [List.length_append, List.length_cons] at this ⊢
  omega
theorem oins_cells {l : List Oc} {i : Nat} {x : Oc} (hi : i ≤ l.length) {z : Nat} {u : Value} (hz : (cellsE eO (oinsP l i x))[z]? = some u) :
    (z < i * 6 ∧ (cellsE eO l)[z]? = some u) ∨ (∃ j, z = i * 6 + j ∧ (eO.enc x)[j]? = some u) ∨ ∃ j, z = i * 6 + 6 + j ∧ (cellsE eO (l.drop i))[j]? = some u := by
  unfold oinsP at hz
  rw [cellsE_append, cellsE] at hz
  have hl1 : (cellsE eO (l.take i)).length = i * 6 := by rw [cellsE_length, List.length_take, Nat.min_eq_left hi]; rfl
  have hl2 : (eO.enc x).length = 6 := rfl
  rcases Nat.lt_or_ge z (i * 6) with h | h
  · left
    rw [List.getElem?_append_left (by omega), cellsE_take, List.getElem?_take] at hz
    split at hz
    · exact ⟨h, hz⟩
    · cases hz
  · rw [List.getElem?_append_right (by omega), hl1] at hz
    rcases Nat.lt_or_ge z (i * 6 + 6) with h' | h'
    · right; left
      rw [List.getElem?_append_left (by omega)] at hz
      exact ⟨z - i * 6, by omega, hz⟩
    · right; right
      rw [List.getElem?_append_right (by omega), hl2] at hz
      exact ⟨z - i * 6 - 6, by omega, hz⟩
theorem oown_ins {W : World} {base g c : Nat} {cur : Array Value} {l : List Oc} {i : Nat} {x : Oc} (hi : i ≤ l.length) (hb : Blk W g 77 cur) (hbase : base ≤ g) (hc : l.length + 1 ≤ c) (hcm : c ≤ maxLen) (hs : cur.size = c * 6)
    (h1 : ∀ (z : Nat) (u : Value), z < i * 6 → (cellsE eO l)[z]? = some u → cur[z]? = some u) (h2 : ∀ (j : Nat) (u : Value), (eO.enc x)[j]? = some u → cur[i * 6 + j]? = some u) (h3 : ∀ (j : Nat) (u : Value), (cellsE eO (l.drop i))[j]? = some u → cur[i * 6 + 6 + j]? = some u) :
    Own W base eO 77 (.slice (some ⟨g, 0, none⟩) (l.length + 1) c) (oinsP l i x) := by
  refine ⟨by rw [cellsE_length], .inr ⟨g, c, cur, by rw [oinsP_length], hbase, hb, by rw [oinsP_length]; exact hc, hcm, hs, ?_⟩⟩
  rw [← cellsE_length]
  refine cp_take fun z u hz => ?_
  rcases oins_cells hi hz with ⟨hlt, h⟩ | ⟨j, rfl, h⟩ | ⟨j, rfl, h⟩
  · exact h1 z u hlt h
  · exact h2 j u h
  · exact h3 j u h
theorem ocopy_claims (w : World) (ty : TypeId) (b o dLen dCap : Nat) (a : Addr) (sLen sCap N : Nat) (cs : List Value) (hN : Nat.min sLen dLen = N) (hn : cs.length = N * 6)
    (hsrc : ∀ j v, cs[j]? = some v → w.cell? (a.add j) = some v) (hc : ∀ j, j < cs.length → (w.cell? ⟨b, o + j, none⟩).isSome = true) (hf : ∀ j, j < cs.length → w.frozen? ⟨b, o + j, none⟩ = false) (h1 : ∀ v ∈ cs, v.oneCell' = true) :
    (Builtin.copy_ #[52, 52] ty #[.slice (some ⟨b, o, none⟩) dLen dCap, .slice (some a) sLen sCap]).run Tryz.prog w = .ok (goInt N) (w.setCells b o cs) := by
  have hl := run_loadCells_list (P := Tryz.prog) w a cs hsrc
  rw [hn] at hl
  have hst := run_storeCells_cells (P := Tryz.prog) b o cs 0 w (by simpa using hc) (by simpa using hf) h1
  simp [Builtin.copy_, run_underlying Tryz.underlying52, Builtin.lenOf, Builtin.firstCells, hN, hl, hst]
theorem ooverlaps_ (w : World) {vb g : Nat} {cA cB : Array Value} (o lb cb : Nat) (hA : Blk w vb 77 cA) (hB : Blk w g 77 cB) (hne : vb ≠ g) (hs : cB.size ≠ 0) :
    (callFunc 221 #[.slice (some ⟨vb, 0, none⟩) 1 1, .slice (some ⟨g, o, none⟩) lb cb]).run Tryz.prog w = .ok (.value (.bool false)) w := by
  rw [run_callFunc_extern Tryz.func221 (by kernel_rfl) (by kernel_rfl) (by kernel_rfl) (e := Extern.SlicesOverlaps.overlaps #[52, 52] #[4]) (by kernel_rfl)]
  unfold Blk at hA hB
  rw [Lib.run_overlaps_apart w 52 4 77 Tryz.underlying52 6 sizeOb ⟨vb, 0, none⟩ ⟨g, o, none⟩ 1 1 lb cb hne 77 77 cA.size cB.size (by simp [World.shape?, hA]) (by simp [World.shape?, hB]) hs (by simp [World.frozen?, hA]) (by simp [World.frozen?, hA])]
  rfl
def oPut (w : World) (base : Nat) (v : Value) (l : List Oc) (e : Ending) (w' : World) : Prop :=
  ∃ v', e = .returned v' ∧ Own w' base eO 77 v' l ∧ w.grownBy w' v.ownBlock ∧ (v'.ownBlock = v.ownBlock ∨ ∃ N, v'.ownBlock = some N ∧ w.heap.size ≤ N)
set_option maxHeartbeats 1000000 in
theorem oinsert_end {w : World} {base vb : Nat} {v : Value} {l : List Oc} {x : Oc} (ho : Own w base eO 77 v l) (hbase : base ≤ w.heap.size) (hn : l.length ≤ 100000) (hb : Blk w vb 77 x.cells) :
    Calls Tryz.prog 198 #[v, .int .i64 (l.length : Int), .slice (some ⟨vb, 0, none⟩) 1 1] w (oPut w base v (oinsP l l.length x)) := by
  have hx : Lst w (fun _ => True) eO (some ⟨vb, 0, none⟩) [x] := fun _ => ⟨vb, 0, rfl, trivial, hb.lt, fun j u hu => by rw [hb.cell, Nat.zero_add]; simpa [cellsE, eO] using hu⟩
  obtain ⟨v', W', hap, ho', hg', hat'⟩ := append_own tyO ho hx rfl 1 (by show l.length + 1 ≤ 1000000; omega) hbase
  have e : oinsP l l.length x = l ++ [x] := by unfold oinsP; rw [List.take_length, List.drop_length]
  rw [e]
  obtain ⟨A, c, rfl, _, hlc, hcm, hnil⟩ := own_lst ho
  have HO := Lib.hid ho'
  have HG := Lib.hid hg'
  have hat2 : v'.ownBlock = (Value.slice A l.length c).ownBlock ∨ ∃ N, v'.ownBlock = some N ∧ w.heap.size ≤ N := hat'.imp id fun h => ⟨_, h, Nat.le_refl _⟩
  have HA := Lib.hid hat2
  clear hat' hat2
  clear ho ho' hg' hx hb e
  generalize l.length = n at *
  go_enter Tryz.func198, Tryz.ntmps198
  rcases A with _ | ⟨ab, ao, asp⟩
  · obtain rfl : c = 0 := hnil rfl
    obtain rfl : n = 0 := by omega
    go_wp2_with (at_builtin; refine wpList_append_run rfl (.tmp 23) (.tmp 24) 52 52 rfl _ _ rfl rfl hap ?_)
    go_ret
    exact ⟨_, rfl, HO.out, HG.out, HA.out⟩
  · go_wp2_with (at_builtin; refine wpList_append_run rfl (.tmp 23) (.tmp 24) 52 52 rfl _ _ rfl rfl hap ?_)
    all_goals (go_ret; exact ⟨_, rfl, HO.out, HG.out, HA.out⟩)
set_option maxHeartbeats 4000000 in
theorem oinsert_shift {w : World} {base g vb c i : Nat} {l : List Oc} {x : Oc} (ho : Own w base eO 77 (.slice (some ⟨g, 0, none⟩) l.length c) l) (hn : l.length ≤ 100000) (hi : i < l.length) (hroom : l.length + 1 ≤ c) (hb : Blk w vb 77 x.cells) (hne : vb ≠ g) :
    Calls Tryz.prog 198 #[.slice (some ⟨g, 0, none⟩) l.length c, .int .i64 (i : Int), .slice (some ⟨vb, 0, none⟩) 1 1] w (oPut w base (.slice (some ⟨g, 0, none⟩) l.length c) (oinsP l i x)) := by
  rcases ho.2 with ⟨e, _⟩ | ⟨g', cap, cur, hv2, hbg, hh, hnc, hcm2, hcs, htk⟩
  · cases e
  injection hv2 with e1 _ e3
  injection e1 with e1
  injection e1 with e1 _ _
  subst e1 e3
  have hcs2 : cur.size = c * 6 := hcs
  have hB : Blk w g 77 cur := hh
  have hBd : Blk w.drew g 77 cur := hh
  have hcl : ∀ (z : Nat) (u : Value), (cellsE eO l)[z]? = some u → cur[z]? = some u := cp_cells htk
  have hdl : (cellsE eO (l.drop i)).length = (l.length - i) * 6 := by rw [cellsE_length, List.length_drop]; rfl
  have hov := fun lb cb => ooverlaps_ w ((i + 1) * 6) lb cb hb hB hne (by omega)
  have hcp1 : ∀ ty dc sc, (Builtin.copy_ #[52, 52] ty #[.slice (some ⟨g, (i + 1) * 6, none⟩) (l.length + 1 - (i + 1)) dc, .slice (some ⟨g, i * 6, none⟩) (l.length + 1 - i) sc]).run Tryz.prog w.drew = .ok (goInt ((l.length - i : Nat) : Int)) (w.drew.setCells g ((i + 1) * 6) (cellsE eO (l.drop i))) := fun ty dc sc =>
    ocopy_claims w.drew ty g ((i + 1) * 6) (l.length + 1 - (i + 1)) dc ⟨g, i * 6, none⟩ (l.length + 1 - i) sc (l.length - i) _ (by show min _ _ = _; omega) hdl
      (fun j v hj => by rw [Addr.add_lit]; exact (hBd.cell _).trans (hcl _ _ (by rw [cellsE_drop, List.getElem?_drop] at hj; exact hj)))
      (fun j hj => by rw [hBd.cell, Array.getElem?_eq_getElem (by omega)]; rfl) (fun j _ => hBd.frozen _) (cellsE_one eO _)
  obtain ⟨cu1, hB1, hs1, hi1, ho1⟩ := cp_put (cellsE eO (l.drop i)) ((i + 1) * 6) hBd (by omega)
  obtain ⟨W1, hW1⟩ : ∃ W1, W1 = w.drew.setCells g ((i + 1) * 6) (cellsE eO (l.drop i)) := ⟨_, rfl⟩
  rw [← hW1] at hcp1 hB1
  have hvb1 : Blk W1 vb 77 x.cells := by rw [hW1]; exact Blk.fars (w := w.drew) hb hne _ _
  have hcp2 : ∀ ty dc, (Builtin.copy_ #[52, 52] ty #[.slice (some ⟨g, i * 6, none⟩) (l.length + 1 - i) dc, .slice (some ⟨vb, 0, none⟩) 1 1]).run Tryz.prog W1 = .ok (goInt 1) (W1.setCells g (i * 6) (eO.enc x)) := fun ty dc =>
    ocopy_claims W1 ty g (i * 6) (l.length + 1 - i) dc ⟨vb, 0, none⟩ 1 1 1 _ (by show min _ _ = _; omega) rfl
      (fun j v hj => by rw [Addr.add_lit, Nat.zero_add]; exact (hvb1.cell _).trans (by simpa [eO] using hj))
      (fun j hj => by have hj : j < 6 := hj; rw [hB1.cell, Array.getElem?_eq_getElem (by omega)]; rfl) (fun j _ => hB1.frozen _) (eO.one x)
  obtain ⟨cu2, hB2, hs2, hi2, ho2⟩ := cp_put (eO.enc x) (i * 6) hB1 (by rw [eO.len]; show i * 6 + 6 ≤ _; omega)
  have hlx : (eO.enc x).length = 6 := rfl
  have hfin : Own (W1.setCells g (i * 6) (eO.enc x)) base eO 77 (.slice (some ⟨g, 0, none⟩) (l.length + 1) c) (oinsP l i x) := by
    refine oown_ins (by omega) hB2 hbg hroom hcm2 (by omega) (fun z u hz hu => ?_) hi2 (fun j u hu => ?_)
    · rw [ho2 z (.inl hz), ho1 z (.inl (by omega))]; exact hcl z u hu
    · rw [ho2 _ (.inr (by rw [hlx]; omega)), show i * 6 + 6 + j = (i + 1) * 6 + j by omega]; exact hi1 j u hu
  have hgf : w.grownBy (W1.setCells g (i * 6) (eO.enc x)) (some g) := by
    refine cp_grown _ _ ?_
    rw [hW1]
    exact cp_grown _ _ (show w.grownBy w.drew (some g) from ⟨rfl, rfl, rfl, Nat.le_refl _, fun _ _ _ => rfl⟩)
  have HFI := Lib.hid hfin
  have HGF := Lib.hid hgf
  have hz2 : ¬ ((i : Int) = (l.length : Int)) := by omega
  clear ho hb hcs hcs2 hB hBd hcl hdl hB1 hs1 hi1 ho1 hvb1 hB2 hs2 hi2 ho2 hfin hgf hh htk hlx hW1
  generalize hnn : l.length = n at *
  have hc63 : c ≤ 9223372036854775807 := by unfold maxLen at hcm2; omega
  have hw1 : IntKind.i64.wrap ((i : Int) + 1) = (i : Int) + 1 := by rw [IntKind.wrap_i64]; omega
  have hw2 : IntKind.i64.wrap ((n : Int) + 1) = (n : Int) + 1 := by rw [IntKind.wrap_i64]; omega
  have hb1 : (0 : Int) ≤ (i : Int) + 1 := by omega
  have hin : i ≤ n := by omega
  have htn : ((i : Int) + 1).toNat = i + 1 := by omega
  have htn2 : ((n : Int) + 1).toNat = n + 1 := by omega
  have hb2 : ¬ (c = i + 1) := by omega
  have hb3 : (i : Int) ≤ (n : Int) + 1 := by omega
  have hb4 : ¬ (c = i) := by omega
  generalize eO.enc x = vx at *
  generalize cellsE eO (l.drop i) = vd at *
  go_enter Tryz.func198, Tryz.ntmps198
  have mixed : Tryz.prog.follows .mixedOrders = true := by kernel_rfl
  go_wp2_with (simp only [hov])
  go_region_law_o (refine cp_step rfl (.tmp 73) (.tmp 76) 52 52 rfl (.slice (some ⟨g, (i + 1) * 6, none⟩) (n + 1 - (i + 1)) (c - (i + 1))) (.slice (some ⟨g, i * 6, none⟩) (n + 1 - i) (c - i)) (by simp [Act.eval, Act.put]) (by simp [Act.eval, Act.put]) (hcp1 3 (c - (i + 1)) (c - i)) ?_)
  all_goals
    go_wp2_with (at_builtin; refine cp_wp rfl (.tmp 80) (.tmp 81) 52 52 rfl _ _ rfl rfl (hcp2 _ _) ?_)
    go_ret
    exact ⟨_, rfl, HFI.out, HGF.out, .inl rfl⟩
set_option maxHeartbeats 4000000 in
theorem oinsert_grow {w : World} {base g vb c i : Nat} {l : List Oc} {x : Oc} (ho : Own w base eO 77 (.slice (some ⟨g, 0, none⟩) l.length c) l) (hbase : base ≤ w.heap.size) (hn : l.length ≤ 100000) (hi : i < l.length) (hroom : c < l.length + 1) (hb : Blk w vb 77 x.cells) :
    Calls Tryz.prog 198 #[.slice (some ⟨g, 0, none⟩) l.length c, .int .i64 (i : Int), .slice (some ⟨vb, 0, none⟩) 1 1] w (oPut w base (.slice (some ⟨g, 0, none⟩) l.length c) (oinsP l i x)) := by
  rcases ho.2 with ⟨e, _⟩ | ⟨g', cap, cur, hv2, hbg, hh, hnc, hcm2, hcs, htk⟩
  · cases e
  injection hv2 with e1 _ e3
  injection e1 with e1
  injection e1 with e1 _ _
  subst e1 e3
  have hcs2 : cur.size = c * 6 := hcs
  have hB : Blk w g 77 cur := hh
  have hcl : ∀ (z : Nat) (u : Value), (cellsE eO l)[z]? = some u → cur[z]? = some u := cp_cells htk
  have hdl : (cellsE eO (l.drop i)).length = (l.length - i) * 6 := by rw [cellsE_length, List.length_drop]; rfl
  have htl : (cellsE eO (l.take i)).length = i * 6 := by rw [cellsE_length, List.length_take, Nat.min_eq_left (by omega)]; rfl
  obtain ⟨z, bb, hi0, hzc, hbb⟩ := tyO.info
  obtain ⟨i0, hi1, hz0, hz1, hz2⟩ := info_parts hi0
  have hz1' : i0.size = 6 := hz1
  have hzc' : z.cells.size = 6 := hzc
  have hik : i + (l.length + 1 - i) = l.length + 1 := by omega
  have hold : (Builtin.firstCells i0.size i (.slice (some ⟨g, 0, none⟩) i c)).run Tryz.prog w.drew = .ok (cellsE eO (l.take i)).toArray w.drew := by
    rw [hz1']
    exact run_firstCells_some w.drew 6 i ⟨g, 0, none⟩ i c (cellsE eO (l.take i)) htl (fun j v hj => by
      rw [add_none, Nat.zero_add]
      rw [cellsE_take, List.getElem?_take] at hj
      split at hj
      · exact (Blk.cell hB j).trans (hcl j v hj)
      · cases hj)
  have hrz := fun ty => Lib.run_append_grow_zeros w 52 3 ty 77 i0 z .i64 .i64 Tryz.underlying52 Tryz.underlying3 hi1 hz0 (some ⟨g, 0, none⟩) i c (cellsE eO (l.take i)) hold (l.length + 1 - i) (by omega) (by omega) (by omega) (by omega) (by rw [hz2]; exact Nat.le_trans (Nat.mul_le_mul (show l.length + 1 - i ≤ 200000 by omega) hbb) (by omega)) (by rw [hz2, hik]; exact growslice_fits hroom (Nat.le_trans (Nat.mul_le_mul (show l.length + 1 ≤ 200000 by omega) hbb) (by omega)))
  rw [hik] at hrz
  obtain ⟨G, hG⟩ : ∃ G, G = grownCap w (l.length + 1) c 77 := ⟨_, rfl⟩
  have hGn : l.length + 1 ≤ G := by rw [hG]; exact grownCap_ge w _ _ _
  have hGm : G ≤ maxLen := by rw [hG]; exact grownCap_le_maxLen w _ _ _ (by unfold maxLen; omega)
  obtain ⟨ROW, hROW⟩ : ∃ ROW : Array Value, ROW = (cellsE eO (l.take i)).toArray ++ Builtin.zeroCells z.cells (l.length + 1 - i) ++ Builtin.zeroCells z.cells (G - (l.length + 1)) := ⟨_, rfl⟩
  rw [← hG, ← hROW] at hrz
  have hRs : ROW.size = G * 6 := by
    rw [hROW]
    simp only [Array.size_append, List.size_toArray, size_zeroCells, hzc', htl]
    omega
  have hR1 : ∀ (z : Nat) (u : Value), z < i * 6 → (cellsE eO l)[z]? = some u → ROW[z]? = some u := fun z u hz hu => by
    rw [hROW, Array.append_assoc, Array.getElem?_append_left (by simp [htl]; omega)]
    simp only [List.getElem?_toArray]
    rw [cellsE_take, List.getElem?_take_of_lt (by show z < i * 6; exact hz)]
    exact hu
  obtain ⟨N, hN⟩ : ∃ N, N = w.heap.size := ⟨_, rfl⟩
  obtain ⟨W1, hW1⟩ : ∃ W1, W1 = w.drew.alloc (.cells ROW 77) := ⟨_, rfl⟩
  rw [← hW1, ← hN] at hrz
  have hB1 : Blk W1 N 77 ROW := by rw [hW1, hN]; exact Blk.new w.drew _ _
  have hvb1 : Blk W1 vb 77 x.cells := by rw [hW1]; exact Blk.alloc (w := w.drew) hb _
  have hg1 : Blk W1 g 77 cur := by rw [hW1]; exact Blk.alloc (w := w.drew) hB _
  have hNg : g ≠ N := by rw [hN]; exact Nat.ne_of_lt hB.lt
  have hlx : (eO.enc x).length = 6 := rfl
  have hcp1 : ∀ ty dc, (Builtin.copy_ #[52, 52] ty #[.slice (some ⟨N, i * 6, none⟩) (l.length + 1 - i) dc, .slice (some ⟨vb, 0, none⟩) 1 1]).run Tryz.prog W1 = .ok (goInt 1) (W1.setCells N (i * 6) (eO.enc x)) := fun ty dc =>
    ocopy_claims W1 ty N (i * 6) (l.length + 1 - i) dc ⟨vb, 0, none⟩ 1 1 1 _ (by show min _ _ = _; omega) rfl
      (fun j v hj => by rw [Addr.add_lit, Nat.zero_add]; exact (hvb1.cell _).trans (by simpa [eO] using hj))
      (fun j hj => by have hj : j < 6 := hj; rw [hB1.cell, Array.getElem?_eq_getElem (by omega)]; rfl) (fun j _ => hB1.frozen _) (eO.one x)
  obtain ⟨cu1, hB2, hs1, hi1', ho1⟩ := cp_put (eO.enc x) (i * 6) hB1 (by rw [hlx]; omega)
  obtain ⟨W2, hW2⟩ : ∃ W2, W2 = W1.setCells N (i * 6) (eO.enc x) := ⟨_, rfl⟩
  have hg2 : Blk W2 g 77 cur := by rw [hW2]; exact Blk.fars hg1 hNg _ _
  rw [← hW2] at hcp1 hB2
  have hB2d : Blk W2.drew N 77 cu1 := hB2
  have hg2d : Blk W2.drew g 77 cur := hg2
  have hcp2 : ∀ ty dc sc, (Builtin.copy_ #[52, 52] ty #[.slice (some ⟨N, (i + 1) * 6, none⟩) (l.length + 1 - (i + 1)) dc, .slice (some ⟨g, i * 6, none⟩) (l.length - i) sc]).run Tryz.prog W2.drew = .ok (goInt ((l.length - i : Nat) : Int)) (W2.drew.setCells N ((i + 1) * 6) (cellsE eO (l.drop i))) := fun ty dc sc =>
    ocopy_claims W2.drew ty N ((i + 1) * 6) (l.length + 1 - (i + 1)) dc ⟨g, i * 6, none⟩ (l.length - i) sc (l.length - i) _ (by show min _ _ = _; omega) hdl
      (fun j v hj => by rw [Addr.add_lit]; exact (hg2d.cell _).trans (hcl _ _ (by rw [cellsE_drop, List.getElem?_drop] at hj; exact hj)))
      (fun j hj => by rw [hB2d.cell, Array.getElem?_eq_getElem (by omega)]; rfl) (fun j _ => hB2d.frozen _) (cellsE_one eO _)
  obtain ⟨cu2, hB3, hs2, hi2, ho2⟩ := cp_put (cellsE eO (l.drop i)) ((i + 1) * 6) hB2d (by omega)
  have hfin : Own (W2.drew.setCells N ((i + 1) * 6) (cellsE eO (l.drop i))) base eO 77 (.slice (some ⟨N, 0, none⟩) (l.length + 1) G) (oinsP l i x) := by
    refine oown_ins (by omega) hB3 (by omega) hGn hGm (by omega) (fun z u hz hu => ?_) (fun j u hu => ?_) (fun j u hu => ?_)
    · rw [ho2 z (.inl (by omega)), ho1 z (.inl hz)]; exact hR1 z u hz hu
    · have hj := (List.getElem?_eq_some_iff.1 hu).1
      rw [hlx] at hj
      rw [ho2 _ (.inl (by omega))]; exact hi1' j u hu
    · rw [show i * 6 + 6 + j = (i + 1) * 6 + j by omega]; exact hi2 j u hu
  have hfar : ∀ (vs : List Value) (o : Nat) (W : World) (k : Nat), k < w.heap.size → (W.setCells N o vs).heap[k]? = W.heap[k]? := fun vs o W k hk => heap_setCells_far N vs o W k (by omega)
  have hgf : w.grownBy (W2.drew.setCells N ((i + 1) * 6) (cellsE eO (l.drop i))) (some g) := by
    obtain ⟨a1, a2, a3, a4⟩ := setCells_plain N (cellsE eO (l.drop i)) ((i + 1) * 6) W2.drew
    obtain ⟨b1, b2, b3, b4⟩ := setCells_plain N (eO.enc x) (i * 6) W1
    rw [← hW2] at b1 b2 b3 b4
    refine ⟨a1.trans (b1.trans (by rw [hW1]; rfl)), a2.trans (b2.trans (by rw [hW1]; rfl)), a3.trans (b3.trans (by rw [hW1]; rfl)), ?_, fun k hk _ => ?_⟩
    · rw [a4]
      show w.heap.size ≤ W2.heap.size
      rw [b4, hW1]
      simp
    · rw [hfar _ _ _ _ hk]
      show W2.heap[k]? = _
      rw [hW2, hfar _ _ _ _ hk, hW1]
      exact Below.heap_alloc w.drew _ k hk
  have HFI := Lib.hid hfin
  have HGF := Lib.hid hgf
  have HNN : Hid (w.heap.size ≤ N) := Nat.le_of_eq hN.symm
  have hz3 : ¬ ((i : Int) = (l.length : Int)) := by omega
  have hkk : ((l.length + 1 - i : Nat) : Int) = (l.length : Int) + 1 - (i : Int) := by omega
  rw [hkk] at hrz
  clear ho hb hcs hcs2 hB hcl hdl htl hold hi0 hi1 hz0 hz1 hz2 hz1' hzc hzc' hbb hG hROW hRs hR1 hB1 hvb1 hg1 hlx hB2 hs1 hi1' ho1 hg2 hB2d hg2d hB3 hs2 hi2 ho2 hfin hfar hgf hh htk hW1 hW2 hkk hik hN
  generalize hnn : l.length = n at *
  have hc63 : c ≤ 9223372036854775807 := by unfold maxLen at hcm2; omega
  have hG63 : G ≤ 9223372036854775807 := by unfold maxLen at hGm; omega
  have hw1 : IntKind.i64.wrap ((i : Int) + 1) = (i : Int) + 1 := by rw [IntKind.wrap_i64]; omega
  have hw2 : IntKind.i64.wrap ((n : Int) + 1) = (n : Int) + 1 := by rw [IntKind.wrap_i64]; omega
  have hb1 : (0 : Int) ≤ (i : Int) + 1 := by omega
  have hin : i ≤ n := by omega
  have htn : ((i : Int) + 1).toNat = i + 1 := by omega
  have hz4 : (c : Int) < (n : Int) + 1 := by omega
  have hGi : ¬ (G = i) := by omega
  have hGim : ¬ (G = i + 1) := by omega
  have hci : ¬ (c = i) := by omega
  have hb3 : (i : Int) ≤ (n : Int) := by omega
  have mixed : Tryz.prog.follows .mixedOrders = true := by kernel_rfl
  generalize eO.enc x = vx at *
  generalize cellsE eO (l.drop i) = vd at *
  generalize cellsE eO (l.take i) = vt at *
  go_enter Tryz.func198, Tryz.ntmps198
  go_wp2_with (first
    | (at_builtin; refine Lib.wpList_append_run _ rfl (.tmp 34) (.tmp 39) 52 3 rfl _ _ rfl rfl _ _ (hrz _) ?_)
    | (at_builtin; refine cp_wp rfl (.tmp 43) (.tmp 44) 52 52 rfl _ _ rfl rfl (hcp1 _ _) ?_))
  go_region_law_o (refine cp_step rfl (.tmp 50) (.tmp 53) 52 52 rfl (.slice (some ⟨N, (i + 1) * 6, none⟩) (n + 1 - (i + 1)) (G - (i + 1))) (.slice (some ⟨g, i * 6, none⟩) (n - i) (c - i)) (by simp [Act.eval, Act.put]) (by simp [Act.eval, Act.put]) (hcp2 3 (G - (i + 1)) (c - i)) ?_)
  all_goals
    go_wp2_with fail
    go_ret
    exact ⟨_, rfl, HFI.out, HGF.out, .inr ⟨N, rfl, HNN.out⟩⟩
theorem oinsert_ {w : World} {base vb : Nat} {v : Value} {l : List Oc} {x : Oc} {i : Nat} (ho : Own w base eO 77 v l) (hbase : base ≤ w.heap.size) (hn : l.length ≤ 100000) (hi : i ≤ l.length) (hb : Blk w vb 77 x.cells) (hne : v.ownBlock ≠ some vb) :
    Calls Tryz.prog 198 #[v, .int .i64 (i : Int), .slice (some ⟨vb, 0, none⟩) 1 1] w (oPut w base v (oinsP l i x)) := by
  rcases Nat.lt_or_ge i l.length with h | h
  · obtain ⟨A, c, hv, _, _, _, _⟩ := own_lst ho
    have ho2 := ho
    rcases ho.2 with ⟨_, h0⟩ | ⟨g, cap, cur, hv2, _⟩
    · omega
    · subst hv2
      have hvg : vb ≠ g := fun e => hne (by rw [e]; rfl)
      rcases Nat.lt_or_ge cap (l.length + 1) with hr | hr
      · exact oinsert_grow ho2 hbase hn h hr hb
      · exact oinsert_shift ho2 hn h hr hb hvg
  · obtain rfl : i = l.length := by omega
    exact oinsert_end ho hbase hn hb
end Go.Proofs.YtjfoflbaoceemaaGreat
namespace Go.Proofs.YtjfoflbaoceemaaGreat
open Go.RowKit
theorem tyEf : RowTy eEf 46 37 := ⟨Tryz.underlying37, Ef.zero.val_, 144, by kernel_rfl, rfl, by omega⟩
abbrev OwnE (w : World) (base : Nat) (v : Value) (l : List Ef) : Prop := Own w base eEf 46 v l
end Go.Proofs.YtjfoflbaoceemaaGreat
namespace Go.Proofs.YtjfoflbaoceemaaGreat
open Go
section
variable {P : Program} {ops : Array Oper} {Q : Exit → Act → World → Prop} {md : Region.Mode} {S : World → Prop} {k : Nat}
theorem wpOp_if {i : Nat} {o : Oper} {a : Act} {w : World} {K : Act → World → Prop} {E : Prop} (ho : ops[i]? = some o) (hw : Region.wanted o (yielded ops a.tmps) = true)
    (h : if Region.wanted o (yielded ops a.tmps) = true then Oper.wp P o a w K Q else E) : wpOp P ops Q i K a w := by
  rw [if_pos hw] at h
  unfold wpOp
  simp only [ho, hw, if_true]
  exact .inl h
theorem wpAnyK_step {i : Nat} {o : Oper} {fuel : Nat} {listed : Array Bool} {a : Act} {w : World} {E : Prop} (hr : Region.ready md ops listed = [i]) (ho : ops[i]? = some o) (hw : Region.wanted o (yielded ops a.tmps) = true)
    (h : if Region.wanted o (yielded ops a.tmps) = true then Oper.wp P o a w (fun a' w' => (i ≠ k → listed.getD k true = false → S w') ∧ wpAnyK P md ops Q S k fuel (listed.setIfInBounds i true) a' w') Q else E) :
    wpAnyK P md ops Q S k (fuel + 1) listed a w := by
  refine ⟨fun h0 => absurd (hr ▸ h0) (by simp), fun j hj => ?_⟩
  rw [hr] at hj
  obtain rfl := List.mem_singleton.1 hj
  exact wpOp_if ho hw h
end
end Go.Proofs.YtjfoflbaoceemaaGreat
namespace Go.Proofs.YtjfoflbaoceemaaGreat
open Go.RowKit
theorem step_call {P : Program} {ops : Array Oper} {o : Oper} {a : Act} {w : World} {K : Act → World → Prop} {Q : Exit → Act → World → Prop} {E : Prop} (hg : o.guard = none) {f : Nat} {args : Array Value}
    (he : (execOp a.eval o).run P w = .ok (.enter f args) w) (h : Calls P f args w fun e w' => ∃ u, e = .returned u ∧ K (a.put o.dst u) w') : if Region.wanted o (yielded ops a.tmps) = true then Oper.wp P o a w K Q else E := by
  have hw : Region.wanted o (yielded ops a.tmps) = true := by simp [Region.wanted, hg]
  rw [if_pos hw]
  unfold Oper.wp
  simp only [he, Oper.upon]
  refine h.mono fun e w' ⟨u, hu, hk⟩ => ?_
  subst hu
  exact hk
end Go.Proofs.YtjfoflbaoceemaaGreat
