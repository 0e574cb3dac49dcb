/- A claim put into a list at a place: the library's Insert at claims. -/
import Derived.Test.YtnjhhndggfjjdaaDoorGqW
import Derived.Lib.AppendZeros
import Derived.Lib.AppendZerosOnto
import Derived.Lib.Overlaps
import Derived.Laws.Externs
import Derived.Laws.IdiomCopy
import Derived.Laws.NewBlocks
import Derived.Shelf.RegionOpenPlain
set_option maxRecDepth 4000
namespace Go.Proofs.YtnjhhndggfjjdaaDoor
open Go.RowKit
def insP (l : List Cl) (i : Nat) (x : Cl) : List Cl := l.take i ++ x :: l.drop i
theorem insP_length {l : List Cl} {i : Nat} (x : Cl) : (insP l i x).length = l.length + 1 := by
  have := congrArg List.length (List.take_append_drop i l)
  unfold insP
  simp only [List.length_append, List.length_cons] at this ⊢
  omega
theorem blk_put {g : Nat} {t : TypeId} : ∀ (vs : List Value) (o : Nat) {w : World} {cur : Array Value}, Blk w g t cur → o + vs.length ≤ cur.size →
    ∃ cur', Blk (w.setCells g o vs) g t cur' ∧ cur'.size = cur.size ∧ (∀ j u, vs[j]? = some u → cur'[o + j]? = some u) ∧ ∀ j, j < o ∨ o + vs.length ≤ j → cur'[j]? = cur[j]?
  | [], _, _, cur, h, _ => ⟨cur, h, rfl, fun j u hj => by simp at hj, fun _ _ => rfl⟩
  | v :: r, o, w, cur, h, hs => by
    rw [List.length_cons] at hs
    obtain ⟨cur', h1, h2, h3, h4⟩ := blk_put r (o + 1) (h.set_ o v) (by simp; omega)
    refine ⟨cur', h1, by simpa using h2, fun j u hj => ?_, fun j hj => ?_⟩
    · cases j with
      | zero => rw [Nat.add_zero, h4 o (.inl (by omega)), Array.getElem?_setIfInBounds_self_of_lt (by omega)]; simpa using hj
      | succ j => rw [show o + (j + 1) = o + 1 + j by omega]; exact h3 j u (by simpa using hj)
    · rw [List.length_cons] at hj
      rw [h4 j (by omega), Array.getElem?_setIfInBounds_ne (by omega)]
theorem ins_cells {l : List Cl} {i : Nat} {x : Cl} (hi : i ≤ l.length) {z : Nat} {u : Value} (hz : (cellsE eC (insP l i x))[z]? = some u) :
    (z < i * 2 ∧ (cellsE eC l)[z]? = some u) ∨ (∃ j, z = i * 2 + j ∧ (eC.enc x)[j]? = some u) ∨ ∃ j, z = i * 2 + 2 + j ∧ (cellsE eC (l.drop i))[j]? = some u := by
  unfold insP at hz
  rw [cellsE_append, cellsE] at hz
  have hl1 : (cellsE eC (l.take i)).length = i * 2 := by rw [cellsE_length, List.length_take, Nat.min_eq_left hi]; rfl
  have hl2 : (eC.enc x).length = 2 := rfl
  rcases Nat.lt_or_ge z (i * 2) with h | h
  · left
    rw [List.getElem?_append_left (by omega), cellsE_take, List.getElem?_take] at hz
    split at hz
    · exact ⟨h, hz⟩
    · cases hz
  · rw [List.getElem?_append_right (by omega), hl1] at hz
    rcases Nat.lt_or_ge z (i * 2 + 2) with h' | h'
    · right; left
      rw [List.getElem?_append_left (by omega)] at hz
      exact ⟨z - i * 2, by omega, hz⟩
    · right; right
      rw [List.getElem?_append_right (by omega), hl2] at hz
      exact ⟨z - i * 2 - 2, by omega, hz⟩
theorem own_ins {W : World} {base g c : Nat} {cur : Array Value} {l : List Cl} {i : Nat} {x : Cl} (hi : i ≤ l.length) (hb : Blk W g 78 cur) (hbase : base ≤ g) (hc : l.length + 1 ≤ c) (hcm : c ≤ maxLen) (hs : cur.size = c * 2)
    (h1 : ∀ (z : Nat) (u : Value), z < i * 2 → (cellsE eC l)[z]? = some u → cur[z]? = some u) (h2 : ∀ (j : Nat) (u : Value), (eC.enc x)[j]? = some u → cur[i * 2 + j]? = some u) (h3 : ∀ (j : Nat) (u : Value), (cellsE eC (l.drop i))[j]? = some u → cur[i * 2 + 2 + j]? = some u) :
    Own W base eC 78 (.slice (some ⟨g, 0, none⟩) (l.length + 1) c) (insP l i x) := by
  refine ⟨by rw [cellsE_length], .inr ⟨g, c, cur, by rw [insP_length], hbase, hb, by rw [insP_length]; exact hc, hcm, hs, ?_⟩⟩
  rw [← cellsE_length]
  refine take_of_cells fun z u hz => ?_
  rcases ins_cells hi hz with ⟨hlt, h⟩ | ⟨j, rfl, h⟩ | ⟨j, rfl, h⟩
  · exact h1 z u hlt h
  · exact h2 j u h
  · exact h3 j u h
theorem sizeC : ∀ w, (Go.sizeOf 78).run Tryd.prog w = .ok 2 w := Tryd.sizeOf78
/-- a copy of claims whose cells are known -/
theorem copy_claims (w : World) (ty : TypeId) (b o dLen dCap : Nat) (a : Addr) (sLen sCap N : Nat) (cs : List Value) (hN : Nat.min sLen dLen = N) (hn : cs.length = N * 2)
    (hsrc : ∀ j v, cs[j]? = some v → w.cell? (a.add j) = some v) (hc : ∀ j, j < cs.length → (w.cell? ⟨b, o + j, none⟩).isSome = true) (hf : ∀ j, j < cs.length → w.frozen? ⟨b, o + j, none⟩ = false) (h1 : ∀ v ∈ cs, v.oneCell' = true) :
    (Builtin.copy_ #[58, 58] ty #[.slice (some ⟨b, o, none⟩) dLen dCap, .slice (some a) sLen sCap]).run Tryd.prog w = .ok (goInt N) (w.setCells b o cs) := by
  have hl := run_loadCells_list (P := Tryd.prog) w a cs hsrc
  rw [hn] at hl
  have hst := run_storeCells_cells (P := Tryd.prog) b o cs 0 w (by simpa using hc) (by simpa using hf) h1
  simp [Builtin.copy_, run_underlying Tryd.underlying58, Builtin.lenOf, Builtin.firstCells, hN, hl, hst]
theorem overlaps_ (w : World) {vb g : Nat} {cA cB : Array Value} (o lb cb : Nat) (hA : Blk w vb 78 cA) (hB : Blk w g 78 cB) (hne : vb ≠ g) (hs : cB.size ≠ 0) :
    (callFunc 79 #[.slice (some ⟨vb, 0, none⟩) 1 1, .slice (some ⟨g, o, none⟩) lb cb]).run Tryd.prog w = .ok (.value (.bool false)) w := by
  rw [run_callFunc_extern Tryd.func79 (by kernel_rfl) (by kernel_rfl) (by kernel_rfl) (e := Extern.SlicesOverlaps.overlaps #[58, 58] #[4]) (by kernel_rfl)]
  unfold Blk at hA hB
  rw [Lib.run_overlaps_apart w 58 4 78 Tryd.underlying58 2 sizeC ⟨vb, 0, none⟩ ⟨g, o, none⟩ 1 1 lb cb hne 78 78 cA.size cB.size (by simp [World.shape?, hA]) (by simp [World.shape?, hB]) hs (by simp [World.frozen?, hA]) (by simp [World.frozen?, hA])]
  rfl
def Put (w : World) (base : Nat) (v : Value) (l : List Cl) (e : Ending) (w' : World) : Prop :=
  ∃ v', e = .returned v' ∧ Own w' base eC 78 v' l ∧ w.grownBy w' v.ownBlock
set_option maxHeartbeats 1000000 in
theorem insert_end {w : World} {base vb : Nat} {v : Value} {l : List Cl} {x : Cl} (ho : Own w base eC 78 v l) (hbase : base ≤ w.heap.size) (hn : l.length ≤ 100000) (hb : Blk w vb 78 #[.int .i64 x.1, .int .i64 (x.2 : Int)]) :
    Calls Tryd.prog 60 #[v, .int .i64 (l.length : Int), .slice (some ⟨vb, 0, none⟩) 1 1] w (Put w base v (insP l l.length x)) := by
  have hx : Lst w (fun _ => True) eC (some ⟨vb, 0, none⟩) [x] := fun _ => ⟨vb, 0, rfl, trivial, hb.lt, fun j u hu => by rw [hb.cell, Nat.zero_add]; simpa [cellsE, eC] using hu⟩
  obtain ⟨v', W', hap, ho', hg', _⟩ := append_own tyC ho hx rfl 1 (by show l.length + 1 ≤ 1000000; omega) hbase
  have e : insP l l.length x = l ++ [x] := by unfold insP; rw [List.take_length, List.drop_length]
  rw [e]
  obtain ⟨A, c, rfl, _, hlc, hcm, hnil⟩ := own_lst ho
  have HO := Lib.hid ho'
  have HG := Lib.hid hg'
  clear ho ho' hg' hx hb e
  generalize l.length = n at *
  go_enter Tryd.func60, Tryd.ntmps60
  rcases A with _ | ⟨ab, ao, asp⟩
  · obtain rfl : c = 0 := hnil rfl
    obtain rfl : n = 0 := by omega
    go_wp2_with (at_builtin; refine wpList_append_run rfl (.tmp 23) (.tmp 24) 58 58 rfl _ _ rfl rfl hap ?_)
    go_ret
    exact ⟨_, rfl, HO.out, HG.out⟩
  · go_wp2_with (at_builtin; refine wpList_append_run rfl (.tmp 23) (.tmp 24) 58 58 rfl _ _ rfl rfl hap ?_)
    all_goals (go_ret; exact ⟨_, rfl, HO.out, HG.out⟩)
theorem step_copy_at {P : Program} {ops : Array Oper} {o : Oper} {a : Act} {w : World} {K : Act → World → Prop} {Q : Exit → Act → World → Prop} {E : Prop}
    (hg : o.guard = none) (d x : Operand) (dT sT : TypeId) (hop : o.op = Op.call { callee := Callee.builtin Builtin.copy, args := #[d, x], argTypes := #[dT, sT] })
    (v u : Value) (hd : a.eval d = v) (hx : a.eval x = u) {v' : Value} {w' : World} (hr : (Builtin.copy_ #[dT, sT] o.type #[v, u]).run P w = .ok v' w') (hK : K (a.put o.dst v') w') :
    if Region.wanted o (yielded ops a.tmps) = true then Oper.wp P o a w K Q else E := by
  have hw : Region.wanted o (yielded ops a.tmps) = true := by simp [Region.wanted, hg]
  rw [if_pos hw]
  unfold Oper.wp
  simp [execOp, hop, resolve, invoke, builtin, hd, hx, hr, Result.andThen]
  exact hK
theorem wpList_copy_at {P : Program} {w : World} {ops : Array Oper} {rest : List Oper} {o : Oper} {a : Act} {Q : Exit → Act → World → Prop} (hgd : o.guard = none) (d s : Operand) (t t' : TypeId)
    (ho : o.op = .call { callee := .builtin .copy, args := #[d, s], argTypes := #[t, t'] }) (v u : Value) (hd : a.eval d = v) (hs : a.eval s = u) {v' : Value} {w' : World}
    (hr : (Builtin.copy_ #[t, t'] o.type #[v, u]).run P w = .ok v' w') (h : wpList P ops Q rest (a.put o.dst v') w') : wpList P ops Q (o :: rest) a w := by
  refine wpList_plain hgd fun K hK => ?_
  unfold Oper.wp execOp
  simp only [ho, resolve, invoke, builtin, Sem.run_bind, Sem.run_pure, Result.andThen_ok, List.map_toArray, List.map_cons, List.map_nil, hd, hs, hr]
  exact hK _ _ h
set_option maxHeartbeats 4000000 in
theorem insert_shift {w : World} {base g vb c i : Nat} {l : List Cl} {x : Cl} (ho : Own w base eC 78 (.slice (some ⟨g, 0, none⟩) l.length c) l) (hn : l.length ≤ 100000) (hi : i < l.length) (hroom : l.length + 1 ≤ c) (hb : Blk w vb 78 #[.int .i64 x.1, .int .i64 (x.2 : Int)]) (hne : vb ≠ g) :
    Calls Tryd.prog 60 #[.slice (some ⟨g, 0, none⟩) l.length c, .int .i64 (i : Int), .slice (some ⟨vb, 0, none⟩) 1 1] w (Put w base (.slice (some ⟨g, 0, none⟩) l.length c) (insP l i x)) := by
  rcases ho.2 with ⟨e, _⟩ | ⟨g', cap, cur, hv2, hbg, hh, hnc, hcm2, hcs, htk⟩
  · cases e
  injection hv2 with e1 _ e3
  injection e1 with e1
  injection e1 with e1 _ _
  subst e1 e3
  have hcs2 : cur.size = c * 2 := hcs
  have hB : Blk w g 78 cur := hh
  have hBd : Blk w.drew g 78 cur := hh
  have hcl : ∀ (z : Nat) (u : Value), (cellsE eC l)[z]? = some u → cur[z]? = some u := cells_of_take htk
  have hdl : (cellsE eC (l.drop i)).length = (l.length - i) * 2 := by rw [cellsE_length, List.length_drop]; rfl
  have hov := fun lb cb => overlaps_ w ((i + 1) * 2) lb cb hb hB hne (by omega)
  have hcp1 : ∀ ty dc sc, (Builtin.copy_ #[58, 58] ty #[.slice (some ⟨g, (i + 1) * 2, none⟩) (l.length + 1 - (i + 1)) dc, .slice (some ⟨g, i * 2, none⟩) (l.length + 1 - i) sc]).run Tryd.prog w.drew = .ok (goInt ((l.length - i : Nat) : Int)) (w.drew.setCells g ((i + 1) * 2) (cellsE eC (l.drop i))) := fun ty dc sc =>
    copy_claims w.drew ty g ((i + 1) * 2) (l.length + 1 - (i + 1)) dc ⟨g, i * 2, none⟩ (l.length + 1 - i) sc (l.length - i) _ (by show min _ _ = _; omega) hdl
      (fun j v hj => by rw [Addr.add_lit]; exact (hBd.cell _).trans (hcl _ _ (by rw [cellsE_drop, List.getElem?_drop] at hj; exact hj)))
      (fun j hj => by rw [hBd.cell, Array.getElem?_eq_getElem (by omega)]; rfl) (fun j _ => hBd.frozen _) (cellsE_one eC _)
  obtain ⟨cu1, hB1, hs1, hi1, ho1⟩ := blk_put (cellsE eC (l.drop i)) ((i + 1) * 2) hBd (by omega)
  obtain ⟨W1, hW1⟩ : ∃ W1, W1 = w.drew.setCells g ((i + 1) * 2) (cellsE eC (l.drop i)) := ⟨_, rfl⟩
  rw [← hW1] at hcp1 hB1
  have hvb1 : Blk W1 vb 78 #[.int .i64 x.1, .int .i64 (x.2 : Int)] := by rw [hW1]; exact Blk.fars (w := w.drew) hb hne _ _
  have hcp2 : ∀ ty dc, (Builtin.copy_ #[58, 58] ty #[.slice (some ⟨g, i * 2, none⟩) (l.length + 1 - i) dc, .slice (some ⟨vb, 0, none⟩) 1 1]).run Tryd.prog W1 = .ok (goInt 1) (W1.setCells g (i * 2) (eC.enc x)) := fun ty dc =>
    copy_claims W1 ty g (i * 2) (l.length + 1 - i) dc ⟨vb, 0, none⟩ 1 1 1 _ (by show min _ _ = _; omega) rfl
      (fun j v hj => by rw [Addr.add_lit, Nat.zero_add]; exact (hvb1.cell _).trans (by simpa [eC] using hj))
      (fun j hj => by have hj : j < 2 := hj; rw [hB1.cell, Array.getElem?_eq_getElem (by omega)]; rfl) (fun j _ => hB1.frozen _) (eC.one x)
  obtain ⟨cu2, hB2, hs2, hi2, ho2⟩ := blk_put (eC.enc x) (i * 2) hB1 (by rw [eC.len]; show i * 2 + 2 ≤ _; omega)
  have hlx : (eC.enc x).length = 2 := rfl
  have hfin : Own (W1.setCells g (i * 2) (eC.enc x)) base eC 78 (.slice (some ⟨g, 0, none⟩) (l.length + 1) c) (insP l i x) := by
    refine own_ins (by omega) hB2 hbg hroom hcm2 (by omega) (fun z u hz hu => ?_) hi2 (fun j u hu => ?_)
    · rw [ho2 z (.inl hz), ho1 z (.inl (by omega))]; exact hcl z u hu
    · rw [ho2 _ (.inr (by rw [hlx]; omega)), show i * 2 + 2 + j = (i + 1) * 2 + j by omega]; exact hi1 j u hu
  have hgf : w.grownBy (W1.setCells g (i * 2) (eC.enc x)) (some g) := by
    refine grown_cells _ _ ?_
    rw [hW1]
    exact grown_cells _ _ (show w.grownBy w.drew (some g) from ⟨rfl, rfl, rfl, Nat.le_refl _, fun _ _ _ => rfl⟩)
  have HFI := Lib.hid hfin
  have HGF := Lib.hid hgf
  have hz2 : ¬ ((i : Int) = (l.length : Int)) := by omega
  clear ho hb hcs hcs2 hB hBd hcl hdl hB1 hs1 hi1 ho1 hvb1 hB2 hs2 hi2 ho2 hfin hgf hh htk hlx hW1
  generalize hnn : l.length = n at *
  have hc63 : c ≤ 9223372036854775807 := by unfold maxLen at hcm2; omega
  have hw1 : IntKind.i64.wrap ((i : Int) + 1) = (i : Int) + 1 := by rw [IntKind.wrap_i64]; omega
  have hw2 : IntKind.i64.wrap ((n : Int) + 1) = (n : Int) + 1 := by rw [IntKind.wrap_i64]; omega
  have hb1 : (0 : Int) ≤ (i : Int) + 1 := by omega
  have hin : i ≤ n := by omega
  have htn : ((i : Int) + 1).toNat = i + 1 := by omega
  have htn2 : ((n : Int) + 1).toNat = n + 1 := by omega
  have hb2 : ¬ (c = i + 1) := by omega
  have hb3 : (i : Int) ≤ (n : Int) + 1 := by omega
  have hb4 : ¬ (c = i) := by omega
  generalize eC.enc x = vx at *
  generalize cellsE eC (l.drop i) = vd at *
  go_enter Tryd.func60, Tryd.ntmps60
  have mixed : Tryd.prog.follows .mixedOrders = true := by kernel_rfl
  go_wp2_with (simp only [hov])
  go_region_law_o (refine step_copy_at rfl (.tmp 73) (.tmp 76) 58 58 rfl (.slice (some ⟨g, (i + 1) * 2, none⟩) (n + 1 - (i + 1)) (c - (i + 1))) (.slice (some ⟨g, i * 2, none⟩) (n + 1 - i) (c - i)) (by simp [Act.eval, Act.put]) (by simp [Act.eval, Act.put]) (hcp1 3 (c - (i + 1)) (c - i)) ?_)
  all_goals
    go_wp2_with (at_builtin; refine wpList_copy_at rfl (.tmp 80) (.tmp 81) 58 58 rfl _ _ rfl rfl (hcp2 _ _) ?_)
    go_ret
    exact ⟨_, rfl, HFI.out, HGF.out⟩
set_option maxHeartbeats 4000000 in
theorem insert_grow {w : World} {base g vb c i : Nat} {l : List Cl} {x : Cl} (ho : Own w base eC 78 (.slice (some ⟨g, 0, none⟩) l.length c) l) (hbase : base ≤ w.heap.size) (hn : l.length ≤ 100000) (hi : i < l.length) (hroom : c < l.length + 1) (hb : Blk w vb 78 #[.int .i64 x.1, .int .i64 (x.2 : Int)]) :
    Calls Tryd.prog 60 #[.slice (some ⟨g, 0, none⟩) l.length c, .int .i64 (i : Int), .slice (some ⟨vb, 0, none⟩) 1 1] w (Put w base (.slice (some ⟨g, 0, none⟩) l.length c) (insP l i x)) := by
  rcases ho.2 with ⟨e, _⟩ | ⟨g', cap, cur, hv2, hbg, hh, hnc, hcm2, hcs, htk⟩
  · cases e
  injection hv2 with e1 _ e3
  injection e1 with e1
  injection e1 with e1 _ _
  subst e1 e3
  have hcs2 : cur.size = c * 2 := hcs
  have hB : Blk w g 78 cur := hh
  have hcl : ∀ (z : Nat) (u : Value), (cellsE eC l)[z]? = some u → cur[z]? = some u := cells_of_take htk
  have hdl : (cellsE eC (l.drop i)).length = (l.length - i) * 2 := by rw [cellsE_length, List.length_drop]; rfl
  have htl : (cellsE eC (l.take i)).length = i * 2 := by rw [cellsE_length, List.length_take, Nat.min_eq_left (by omega)]; rfl
  obtain ⟨z, bb, hi0, hzc, hbb⟩ := tyC.info
  obtain ⟨i0, hi1, hz0, hz1, hz2⟩ := info_parts hi0
  have hz1' : i0.size = 2 := hz1
  have hzc' : z.cells.size = 2 := hzc
  have hik : i + (l.length + 1 - i) = l.length + 1 := by omega
  have hold : (Builtin.firstCells i0.size i (.slice (some ⟨g, 0, none⟩) i c)).run Tryd.prog w.drew = .ok (cellsE eC (l.take i)).toArray w.drew := by
    rw [hz1']
    exact run_firstCells_some w.drew 2 i ⟨g, 0, none⟩ i c (cellsE eC (l.take i)) htl (fun j v hj => by
      rw [add_none, Nat.zero_add]
      rw [cellsE_take, List.getElem?_take] at hj
      split at hj
      · exact (Blk.cell hB j).trans (hcl j v hj)
      · cases hj)
  have hrz := fun ty => Lib.run_append_grow_zeros w 58 3 ty 78 i0 z .i64 .i64 Tryd.underlying58 Tryd.underlying3 hi1 hz0 (some ⟨g, 0, none⟩) i c (cellsE eC (l.take i)) hold (l.length + 1 - i) (by omega) (by omega) (by omega) (by omega) (by rw [hz2]; exact Nat.le_trans (Nat.mul_le_mul (show l.length + 1 - i ≤ 200000 by omega) hbb) (by omega)) (by rw [hz2, hik]; exact growslice_fits hroom (Nat.le_trans (Nat.mul_le_mul (show l.length + 1 ≤ 200000 by omega) hbb) (by omega)))
  rw [hik] at hrz
  obtain ⟨G, hG⟩ : ∃ G, G = grownCap w (l.length + 1) c 78 := ⟨_, rfl⟩
  have hGn : l.length + 1 ≤ G := by rw [hG]; exact grownCap_ge w _ _ _
  have hGm : G ≤ maxLen := by rw [hG]; exact grownCap_le_maxLen w _ _ _ (by unfold maxLen; omega)
  obtain ⟨ROW, hROW⟩ : ∃ ROW : Array Value, ROW = (cellsE eC (l.take i)).toArray ++ Builtin.zeroCells z.cells (l.length + 1 - i) ++ Builtin.zeroCells z.cells (G - (l.length + 1)) := ⟨_, rfl⟩
  rw [← hG, ← hROW] at hrz
  have hRs : ROW.size = G * 2 := by
    rw [hROW]
    simp only [Array.size_append, List.size_toArray, size_zeroCells, hzc', htl]
    omega
  have hR1 : ∀ (z : Nat) (u : Value), z < i * 2 → (cellsE eC l)[z]? = some u → ROW[z]? = some u := fun z u hz hu => by
    rw [hROW, Array.append_assoc, Array.getElem?_append_left (by simp [htl]; omega)]
    simp only [List.getElem?_toArray]
    rw [cellsE_take, List.getElem?_take_of_lt (by show z < i * 2; exact hz)]
    exact hu
  obtain ⟨N, hN⟩ : ∃ N, N = w.heap.size := ⟨_, rfl⟩
  obtain ⟨W1, hW1⟩ : ∃ W1, W1 = w.drew.alloc (.cells ROW 78) := ⟨_, rfl⟩
  rw [← hW1, ← hN] at hrz
  have hB1 : Blk W1 N 78 ROW := by rw [hW1, hN]; exact Blk.new w.drew _ _
  have hvb1 : Blk W1 vb 78 #[.int .i64 x.1, .int .i64 (x.2 : Int)] := by rw [hW1]; exact Blk.alloc (w := w.drew) hb _
  have hg1 : Blk W1 g 78 cur := by rw [hW1]; exact Blk.alloc (w := w.drew) hB _
  have hNg : g ≠ N := by rw [hN]; exact Nat.ne_of_lt hB.lt
  have hlx : (eC.enc x).length = 2 := rfl
  have hcp1 : ∀ ty dc, (Builtin.copy_ #[58, 58] ty #[.slice (some ⟨N, i * 2, none⟩) (l.length + 1 - i) dc, .slice (some ⟨vb, 0, none⟩) 1 1]).run Tryd.prog W1 = .ok (goInt 1) (W1.setCells N (i * 2) (eC.enc x)) := fun ty dc =>
    copy_claims W1 ty N (i * 2) (l.length + 1 - i) dc ⟨vb, 0, none⟩ 1 1 1 _ (by show min _ _ = _; omega) rfl
      (fun j v hj => by rw [Addr.add_lit, Nat.zero_add]; exact (hvb1.cell _).trans (by simpa [eC] using hj))
      (fun j hj => by have hj : j < 2 := hj; rw [hB1.cell, Array.getElem?_eq_getElem (by omega)]; rfl) (fun j _ => hB1.frozen _) (eC.one x)
  obtain ⟨cu1, hB2, hs1, hi1', ho1⟩ := blk_put (eC.enc x) (i * 2) hB1 (by rw [hlx]; omega)
  obtain ⟨W2, hW2⟩ : ∃ W2, W2 = W1.setCells N (i * 2) (eC.enc x) := ⟨_, rfl⟩
  have hg2 : Blk W2 g 78 cur := by rw [hW2]; exact Blk.fars hg1 hNg _ _
  rw [← hW2] at hcp1 hB2
  have hB2d : Blk W2.drew N 78 cu1 := hB2
  have hg2d : Blk W2.drew g 78 cur := hg2
  have hcp2 : ∀ ty dc sc, (Builtin.copy_ #[58, 58] ty #[.slice (some ⟨N, (i + 1) * 2, none⟩) (l.length + 1 - (i + 1)) dc, .slice (some ⟨g, i * 2, none⟩) (l.length - i) sc]).run Tryd.prog W2.drew = .ok (goInt ((l.length - i : Nat) : Int)) (W2.drew.setCells N ((i + 1) * 2) (cellsE eC (l.drop i))) := fun ty dc sc =>
    copy_claims W2.drew ty N ((i + 1) * 2) (l.length + 1 - (i + 1)) dc ⟨g, i * 2, none⟩ (l.length - i) sc (l.length - i) _ (by show min _ _ = _; omega) hdl
      (fun j v hj => by rw [Addr.add_lit]; exact (hg2d.cell _).trans (hcl _ _ (by rw [cellsE_drop, List.getElem?_drop] at hj; exact hj)))
      (fun j hj => by rw [hB2d.cell, Array.getElem?_eq_getElem (by omega)]; rfl) (fun j _ => hB2d.frozen _) (cellsE_one eC _)
  obtain ⟨cu2, hB3, hs2, hi2, ho2⟩ := blk_put (cellsE eC (l.drop i)) ((i + 1) * 2) hB2d (by omega)
  have hfin : Own (W2.drew.setCells N ((i + 1) * 2) (cellsE eC (l.drop i))) base eC 78 (.slice (some ⟨N, 0, none⟩) (l.length + 1) G) (insP l i x) := by
    refine own_ins (by omega) hB3 (by omega) hGn hGm (by omega) (fun z u hz hu => ?_) (fun j u hu => ?_) (fun j u hu => ?_)
    · rw [ho2 z (.inl (by omega)), ho1 z (.inl hz)]; exact hR1 z u hz hu
    · have hj := (List.getElem?_eq_some_iff.1 hu).1
      rw [hlx] at hj
      rw [ho2 _ (.inl (by omega))]; exact hi1' j u hu
    · rw [show i * 2 + 2 + j = (i + 1) * 2 + j by omega]; exact hi2 j u hu
  have hfar : ∀ (vs : List Value) (o : Nat) (W : World) (k : Nat), k < w.heap.size → (W.setCells N o vs).heap[k]? = W.heap[k]? := fun vs o W k hk => heap_setCells_far N vs o W k (by omega)
  have hgf : w.grownBy (W2.drew.setCells N ((i + 1) * 2) (cellsE eC (l.drop i))) (some g) := by
    obtain ⟨a1, a2, a3, a4⟩ := setCells_plain N (cellsE eC (l.drop i)) ((i + 1) * 2) W2.drew
    obtain ⟨b1, b2, b3, b4⟩ := setCells_plain N (eC.enc x) (i * 2) W1
    rw [← hW2] at b1 b2 b3 b4
    refine ⟨a1.trans (b1.trans (by rw [hW1]; rfl)), a2.trans (b2.trans (by rw [hW1]; rfl)), a3.trans (b3.trans (by rw [hW1]; rfl)), ?_, fun k hk _ => ?_⟩
    · rw [a4]
      show w.heap.size ≤ W2.heap.size
      rw [b4, hW1]
      simp
    · rw [hfar _ _ _ _ hk]
      show W2.heap[k]? = _
      rw [hW2, hfar _ _ _ _ hk, hW1]
      exact Below.heap_alloc w.drew _ k hk
  have HFI := Lib.hid hfin
  have HGF := Lib.hid hgf
  have hz3 : ¬ ((i : Int) = (l.length : Int)) := by omega
  have hkk : ((l.length + 1 - i : Nat) : Int) = (l.length : Int) + 1 - (i : Int) := by omega
  rw [hkk] at hrz
  clear ho hb hcs hcs2 hB hcl hdl htl hold hi0 hi1 hz0 hz1 hz2 hz1' hzc hzc' hbb hG hROW hRs hR1 hB1 hvb1 hg1 hlx hB2 hs1 hi1' ho1 hg2 hB2d hg2d hB3 hs2 hi2 ho2 hfin hfar hgf hh htk hW1 hW2 hkk hik hN
  generalize hnn : l.length = n at *
  have hc63 : c ≤ 9223372036854775807 := by unfold maxLen at hcm2; omega
  have hG63 : G ≤ 9223372036854775807 := by unfold maxLen at hGm; omega
  have hw1 : IntKind.i64.wrap ((i : Int) + 1) = (i : Int) + 1 := by rw [IntKind.wrap_i64]; omega
  have hw2 : IntKind.i64.wrap ((n : Int) + 1) = (n : Int) + 1 := by rw [IntKind.wrap_i64]; omega
  have hb1 : (0 : Int) ≤ (i : Int) + 1 := by omega
  have hin : i ≤ n := by omega
  have htn : ((i : Int) + 1).toNat = i + 1 := by omega
  have hz4 : (c : Int) < (n : Int) + 1 := by omega
  have hGi : ¬ (G = i) := by omega
  have hGim : ¬ (G = i + 1) := by omega
  have hci : ¬ (c = i) := by omega
  have hb3 : (i : Int) ≤ (n : Int) := by omega
  have mixed : Tryd.prog.follows .mixedOrders = true := by kernel_rfl
  generalize eC.enc x = vx at *
  generalize cellsE eC (l.drop i) = vd at *
  generalize cellsE eC (l.take i) = vt at *
  go_enter Tryd.func60, Tryd.ntmps60
  go_wp2_with (first
    | (at_builtin; refine Lib.wpList_append_run _ rfl (.tmp 34) (.tmp 39) 58 3 rfl _ _ rfl rfl _ _ (hrz _) ?_)
    | (at_builtin; refine wpList_copy_at rfl (.tmp 43) (.tmp 44) 58 58 rfl _ _ rfl rfl (hcp1 _ _) ?_))
  go_region_law_o (refine step_copy_at rfl (.tmp 50) (.tmp 53) 58 58 rfl (.slice (some ⟨N, (i + 1) * 2, none⟩) (n + 1 - (i + 1)) (G - (i + 1))) (.slice (some ⟨g, i * 2, none⟩) (n - i) (c - i)) (by simp [Act.eval, Act.put]) (by simp [Act.eval, Act.put]) (hcp2 3 (G - (i + 1)) (c - i)) ?_)
  all_goals
    go_wp2_with fail
    go_ret
    exact ⟨_, rfl, HFI.out, HGF.out⟩
/-- a claim put into a list, at any place -/
theorem insert_ {w : World} {base vb : Nat} {v : Value} {l : List Cl} {x : Cl} {i : Nat} (ho : Own w base eC 78 v l) (hbase : base ≤ w.heap.size) (hn : l.length ≤ 100000) (hi : i ≤ l.length) (hb : Blk w vb 78 #[.int .i64 x.1, .int .i64 (x.2 : Int)]) (hne : v.ownBlock ≠ some vb) :
    Calls Tryd.prog 60 #[v, .int .i64 (i : Int), .slice (some ⟨vb, 0, none⟩) 1 1] w (Put w base v (insP l i x)) := by
  rcases Nat.lt_or_ge i l.length with h | h
  · obtain ⟨A, c, hv, _, _, _, _⟩ := own_lst ho
    have ho2 := ho
    rcases ho.2 with ⟨_, h0⟩ | ⟨g, cap, cur, hv2, _⟩
    · omega
    · subst hv2
      have hvg : vb ≠ g := fun e => hne (by rw [e]; rfl)
      rcases Nat.lt_or_ge cap (l.length + 1) with hr | hr
      · exact insert_grow ho2 hbase hn h hr hb
      · exact insert_shift ho2 hn h hr hb hvg
  · obtain rfl : i = l.length := by omega
    exact insert_end ho hbase hn hb
end Go.Proofs.YtnjhhndggfjjdaaDoor
