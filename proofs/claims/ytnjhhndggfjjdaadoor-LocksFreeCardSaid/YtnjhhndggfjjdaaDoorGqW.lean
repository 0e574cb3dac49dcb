/- A list less somebody, in the list's own memory: the library's DeleteFunc at claims, and package grant's without. -/
import Derived.Test.YtnjhhndggfjjdaaDoorGqO
import Derived.Lib.SliceRun
set_option maxRecDepth 4000
namespace Go.Proofs.YtnjhhndggfjjdaaDoor
open Go.RowKit
theorem grown_below {w w1 w2 : World} {row : Option Nat} (h : w.grownBy w1 row) (k : Below w1.heap.size w1 w2) : w.grownBy w2 row :=
  ⟨k.os.trans h.os, k.tape.trans h.tape, k.output.trans h.output, Nat.le_trans h.size k.size, fun i hi hne => (k.block i (Nat.lt_of_lt_of_le hi h.size)).trans (h.block i hi hne)⟩
theorem grown_cell {w w1 : World} {g : Nat} (h : w.grownBy w1 (some g)) (i : Nat) (v : Value) : w.grownBy (w1.setCell ⟨g, i, none⟩ v) (some g) :=
  ⟨h.os, h.tape, h.output, by simpa [World.setCell] using h.size, fun k hk hne => (Below.heap_setCell w1 ⟨g, i, none⟩ v k (fun e => hne (by rw [e]))).trans (h.block k hk hne)⟩
theorem grown_cells {w : World} {g : Nat} : ∀ (vs : List Value) (i : Nat) {w1 : World}, w.grownBy w1 (some g) → w.grownBy (w1.setCells g i vs) (some g)
  | [], _, _, h => h
  | v :: r, i, _, h => by
    rw [World.setCells]
    exact grown_cells r (i + 1) (grown_cell h i v)
theorem blk_sets {g : Nat} {t : TypeId} : ∀ (vs : List Value) (o : Nat) {w : World} {cur : Array Value}, Blk w g t cur → ∃ cur', Blk (w.setCells g o vs) g t cur' ∧ cur'.size = cur.size ∧ ∀ j, j < o → cur'[j]? = cur[j]?
  | [], _, _, cur, h => ⟨cur, h, rfl, fun _ _ => rfl⟩
  | v :: r, o, w, cur, h => by
    obtain ⟨cur', h1, h2, h3⟩ := blk_sets r (o + 1) (h.set_ o v)
    exact ⟨cur', h1, by simpa using h2, fun j hj => by rw [h3 j (by omega), Array.getElem?_setIfInBounds_ne (by omega)]⟩
theorem take_of_cells {cur : Array Value} {xs : List Value} (h : ∀ (j : Nat) (u : Value), xs[j]? = some u → cur[j]? = some u) : cur.toList.take xs.length = xs := by
  apply List.ext_getElem?
  intro j
  by_cases hj : j < xs.length
  · rw [List.getElem?_take_of_lt hj, Array.getElem?_toList, List.getElem?_eq_getElem hj]
    exact h j _ (List.getElem?_eq_getElem hj)
  · rw [List.getElem?_take_eq_none (by omega), List.getElem?_eq_none (by omega)]
theorem cells_of_take {cur : Array Value} {xs : List Value} {n : Nat} (h : cur.toList.take n = xs) (j : Nat) (u : Value) (hj : xs[j]? = some u) : cur[j]? = some u := by
  rw [← h] at hj
  have hl := (List.getElem?_eq_some_iff.1 hj).1
  rw [List.length_take] at hl
  rw [List.getElem?_take_of_lt (by omega)] at hj
  simpa using hj
/-- what 'clear' writes over n claims -/
def zc (n : Nat) : List Value := (Builtin.zeroCells (Value.agg #[.int .i64 0, .int .i64 0]).cells n).toList
theorem zc_length (n : Nat) : (zc n).length = n * 2 := by
  unfold zc
  rw [Array.length_toList, size_zeroCells]
  rfl
theorem zc_one (n : Nat) : ∀ v ∈ zc n, v.oneCell' = true := by
  intro v hv
  unfold zc Builtin.zeroCells at hv
  rw [Array.toList_map, List.mem_map] at hv
  obtain ⟨i, _, rfl⟩ := hv
  have : i % 2 = 0 ∨ i % 2 = 1 := by omega
  change (#[Value.int .i64 0, Value.int .i64 0][i % 2]!).oneCell' = true
  rcases this with h | h <;> rw [h] <;> rfl
theorem clear_ (w : World) (ty : TypeId) (b o n c : Nat) (hn : 0 < n) (hc : ∀ j, j < n * 2 → (w.cell? ⟨b, o + j, none⟩).isSome = true) (hf : ∀ j, j < n * 2 → w.frozen? ⟨b, o + j, none⟩ = false) :
    (Builtin.clear_ #[58] ty #[.slice (some ⟨b, o, none⟩) n c]).run Tryd.prog w = .ok (.tuple #[]) (w.setCells b o (zc n)) := by
  have hst := run_storeCells_cells (P := Tryd.prog) b o (zc n) 0 w (by simpa [zc_length] using hc) (by simpa [zc_length] using hf) (zc_one n)
  simp only [Nat.add_zero] at hst
  obtain ⟨m, rfl⟩ : ∃ m, n = m + 1 := ⟨n - 1, by omega⟩
  unfold zc at hst ⊢
  simp [Builtin.clear_, run_underlying Tryd.underlying58, Tryd.zeroValue78, hst]
theorem call_without (who : Int) (B : Nat) (W : World) (hB : B < W.heap.size) (hc : W.cell? ⟨B, 0, none⟩ = some (.int .i64 who)) (x : Cl) :
    Calls Tryd.prog 62 #[valC x, .pointer (some ⟨B, 0, none⟩)] W fun e w' => e = .returned (.bool (isW who x)) ∧ Below W.heap.size W w' :=
  pred_without who B W hB hc [x] W x (by simp) (Below.refl _ _)
theorem without_hit {l : List Cl} {k : Nat} {who : Int} (h : k < l.length) (hk : isW who l[k] = true) : withoutP (l.take (k + 1)) who = withoutP (l.take k) who := by
  unfold withoutP
  rw [List.take_succ_eq_append_getElem h, List.filter_append]
  simp [hk]
theorem without_pass {l : List Cl} {k : Nat} {who : Int} (h : k < l.length) (hk : isW who l[k] = false) : withoutP (l.take (k + 1)) who = withoutP (l.take k) who ++ [l[k]] := by
  unfold withoutP
  rw [List.take_succ_eq_append_getElem h, List.filter_append]
  simp [hk]
theorem without_none {l : List Cl} {who : Int} (h : l.any (isW who) = false) : withoutP l who = l := by
  unfold withoutP
  rw [List.filter_eq_self]
  intro x hx
  have := List.any_eq_false.1 h x hx
  simpa using this
def Del (w : World) (g c : Nat) (l : List Cl) (who : Int) (m : Nat) (i j : Value) (wr : World) : Prop :=
  ∃ (q k : Nat) (cur : Array Value), i = .int .i64 (q : Int) ∧ j = .int .i64 (k : Int) ∧ k + m = l.length ∧ q = (withoutP (l.take k) who).length ∧ q < k ∧ Blk wr g 78 cur ∧ cur.size = c * 2 ∧
    (∀ (z : Nat) (u : Value), (cellsE eC (withoutP (l.take k) who))[z]? = some u → cur[z]? = some u) ∧ (∀ (z : Nat) (u : Value), k * 2 ≤ z → (cellsE eC l)[z]? = some u → cur[z]? = some u) ∧ w.grownBy wr (some g)
def Gone (w : World) (base : Nat) (v : Value) (l : List Cl) (e : Ending) (w' : World) : Prop :=
  ∃ v', e = .returned v' ∧ Own w' base eC 78 v' l ∧ v'.ownBlock = v.ownBlock ∧ w.grownBy w' v.ownBlock
theorem del_step {w wr : World} {g c : Nat} {l : List Cl} {who : Int} {q k : Nat} {cur : Array Value} (hq : q = (withoutP (l.take k) who).length) (hk : k < l.length) (hqk : q < k) (hb : Blk wr g 78 cur) (hcs : cur.size = c * 2) (hlc : l.length ≤ c)
    (h1 : ∀ (z : Nat) (u : Value), (cellsE eC (withoutP (l.take k) who))[z]? = some u → cur[z]? = some u) (h2 : ∀ (z : Nat) (u : Value), k * 2 ≤ z → (cellsE eC l)[z]? = some u → cur[z]? = some u) (hg : w.grownBy wr (some g)) (hx : isW who l[k] = false) :
    Del w g c l who (l.length - (k + 1)) (.int .i64 ((q : Int) + 1)) (.int .i64 ((k : Int) + 1)) ((wr.setCell ⟨g, q * 2, none⟩ (.int .i64 l[k].1)).setCell ⟨g, q * 2 + 1, none⟩ (.int .i64 (l[k].2 : Int))) := by
  refine ⟨q + 1, k + 1, _, by go_num, by go_num, by omega, ?_, by omega, (hb.set_ (q * 2) _).set_ (q * 2 + 1) _, by simpa using hcs, ?_, ?_, grown_cell (grown_cell hg _ _) _ _⟩
  · rw [without_pass hk hx, List.length_append, ← hq]; rfl
  · intro z u hz
    rw [without_pass hk hx, cellsE_append] at hz
    have hle : (cellsE eC (withoutP (l.take k) who)).length = q * 2 := by rw [cellsE_length, ← hq]; rfl
    rcases Nat.lt_or_ge z (q * 2) with h | h
    · rw [List.getElem?_append_left (by omega)] at hz
      rw [Array.getElem?_setIfInBounds_ne (by omega), Array.getElem?_setIfInBounds_ne (by omega)]
      exact h1 z u hz
    · rw [List.getElem?_append_right (by omega), hle] at hz
      have hz2 := (List.getElem?_eq_some_iff.1 hz).1
      have hz3 : (cellsE eC [l[k]]).length = 2 := by rw [cellsE_length]; rfl
      rcases (show z = q * 2 ∨ z = q * 2 + 1 by omega) with e | e
      · subst e
        rw [Nat.sub_self] at hz
        rw [Array.getElem?_setIfInBounds_ne (by omega), Array.getElem?_setIfInBounds_self_of_lt (by omega)]
        exact hz
      · subst e
        rw [show q * 2 + 1 - q * 2 = 1 by omega] at hz
        rw [Array.getElem?_setIfInBounds_self_of_lt (by simp; omega)]
        exact hz
  · intro z u hz hu
    rw [Array.getElem?_setIfInBounds_ne (by omega), Array.getElem?_setIfInBounds_ne (by omega)]
    exact h2 z u (by omega) hu
set_option maxHeartbeats 2000000 in
theorem delete_ {w : World} {base B : Nat} {v : Value} {l : List Cl} {who : Int} (ho : Own w base eC 78 v l) (hn : l.length ≤ 100000) (hB : B < w.heap.size) (hc : w.cell? ⟨B, 0, none⟩ = some (.int .i64 who)) (hBv : v.ownBlock ≠ some B) :
    Calls Tryd.prog 61 #[v, .func (.func 62) #[] #[.pointer (some ⟨B, 0, none⟩)]] w (Gone w base v (withoutP l who)) := by
  obtain ⟨A, c, hv, hlst, hlc, hcm, hnil⟩ := own_lst ho
  have hi := index_ (c := c) hlst rfl (by omega) enters_without (pred_without who B w hB hc l)
  have HO := Lib.hid ho
  rcases idx_cases (isW who) l with ⟨e0, hany⟩ | ⟨hlt, e0, hany, hhit⟩
  · rw [e0] at hi
    rw [without_none hany]
    have HI := Lib.hid hi
    subst hv
    clear hi hlst hc hBv e0 hany ho
    generalize l.length = n at *
    go_enter Tryd.func61, Tryd.ntmps61
    go_wp2_with (go_at_call 63; refine HI.out.mono ?_; rintro e w1 ⟨rfl, hb1⟩)
    go_ret
    exact ⟨_, rfl, own_keep HO.out fun g hg => hb1.block g (own_blk HO.out hg).2.1, rfl, hb1.os, hb1.tape, hb1.output, hb1.size, fun k hk _ => hb1.block k hk⟩
  · rcases ho.2 with ⟨_, h0⟩ | ⟨g, cap, cur, hv2, hbg, hh, hnc, hcm2, hcs, htk⟩
    · omega
    have hcc : v = .slice (some ⟨g, 0, none⟩) l.length c := by
      rw [hv] at hv2 ⊢
      injection hv2 with h1 _ h3
      rw [h1]
    obtain rfl : cap = c := by rw [hcc] at hv2; injection hv2 with _ _ h3; exact h3.symm
    rw [e0] at hi
    rw [hv] at hcc
    injection hcc with hA _ _
    subst hA
    subst hv
    have hq0 : l.findIdx (isW who) = (withoutP (l.take (l.findIdx (isW who) + 1)) who).length := by
      rw [without_hit hlt hhit]
      have : withoutP (l.take (l.findIdx (isW who))) who = l.take (l.findIdx (isW who)) := without_none (by
        rw [List.any_eq_false]
        intro x hx
        obtain ⟨j, hj, rfl⟩ := List.getElem_of_mem hx
        rw [List.length_take] at hj
        rw [List.getElem_take]
        have := List.not_of_lt_findIdx (p := isW who) (xs := l) (show j < l.findIdx (isW who) by omega)
        simpa using this)
      rw [this, List.length_take]
      omega
    have hp0 : ∀ (z : Nat) (u : Value), (cellsE eC (withoutP (l.take (l.findIdx (isW who) + 1)) who))[z]? = some u → (cellsE eC l)[z]? = some u := by
      intro z u hz
      rw [without_hit hlt hhit] at hz
      have : withoutP (l.take (l.findIdx (isW who))) who = l.take (l.findIdx (isW who)) := without_none (by
        rw [List.any_eq_false]
        intro x hx
        obtain ⟨j, hj, rfl⟩ := List.getElem_of_mem hx
        rw [List.length_take] at hj
        rw [List.getElem_take]
        have := List.not_of_lt_findIdx (p := isW who) (xs := l) (show j < l.findIdx (isW who) by omega)
        simpa using this)
      rw [this, cellsE_take] at hz
      have hl := (List.getElem?_eq_some_iff.1 hz).1
      rw [List.length_take] at hl
      rwa [List.getElem?_take_of_lt (by omega)] at hz
    have HI := Lib.hid hi
    have hgB : g ≠ B := fun e => hBv (by rw [← e]; rfl)
    have HT := Lib.hid htk
    have HH := Lib.hid hh
    have HQ := Lib.hid hq0
    have HP := Lib.hid hp0
    have HC := Lib.hid hc
    have HCS := Lib.hid hcs
    have HBG := Lib.hid hbg
    generalize hqq : l.findIdx (isW who) = q0 at *
    clear hi hlst hc hBv e0 hany ho hhit hqq hq0 hp0 hv2 htk hh hcs hbg hnil hnc
    generalize hnl : l.length = n at *
    have HN := Lib.hid hnl
    go_enter Tryd.func61, Tryd.ntmps61
    go_wp2_with (go_at_call 63; refine HI.out.mono ?_; rintro e w1 ⟨rfl, hb1⟩)
    have HB1 := Lib.hid hb1
    clear hb1
    go_loopg [5, 6, 7] (n - (q0 + 1)) (fun m i j _ wr => Del w g cap l who m i j wr)
    case atStart =>
      refine ⟨q0, q0 + 1, cur, rfl, by go_num, by have := HN.out; omega, HQ.out, by omega, (HB1.out.block g (lt_of_some HH.out)).trans HH.out, HCS.out, fun z u hz => cells_of_take HT.out z u (HP.out z u hz), fun z u _ hz => cells_of_take HT.out z u hz, HB1.out.os, HB1.out.tape, HB1.out.output, HB1.out.size, fun k hk _ => HB1.out.block k hk⟩
    case round =>
      obtain ⟨q, k, cu, rfl, rfl, hkm, hql, hqk, hblk, hcz, h1, h2, hg⟩ := hrel
      have hBr : B < wr.heap.size := Nat.lt_of_lt_of_le hB hg.size
      have hcB : wr.cell? ⟨B, 0, none⟩ = some (.int .i64 who) := (cell_of_heap (hg.block B hB (fun e => hgB (by injection e with e; exact e.symm))) 0).trans HC.out
      have HKM := Lib.hid hkm
      have HQL := Lib.hid hql
      have HBK := Lib.hid hblk
      have HCZ := Lib.hid hcz
      have H1 := Lib.hid h1
      have H2 := Lib.hid h2
      have HG := Lib.hid hg
      clear hkm hql hblk hcz h1 h2 hg
      by_cases hkn : k < n
      · have hx : k < l.length := by rw [HN.out]; exact hkn
        have c1 : wr.cell? ⟨g, k * 2, none⟩ = some (.int .i64 l[k].1) := (Blk.cell HBK.out _).trans (H2.out _ _ (by omega) (cellsE_at eC hx (i := 0) rfl))
        have c2 : wr.cell? ⟨g, k * 2 + 1, none⟩ = some (.int .i64 (l[k].2 : Int)) := (Blk.cell HBK.out _).trans (H2.out _ _ (by omega) (cellsE_at eC hx (i := 1) rfl))
        have hcall := fun W (hb : Below wr.heap.size wr W) => call_without who B W (Nat.lt_of_lt_of_le hBr hb.size) ((cell_of_heap (hb.block B hBr) 0).trans hcB) l[k]
        have hstep := fun (wr' : World) (hb : Below wr.heap.size wr wr') (hf : isW who l[k] = false) => del_step (c := cap) HQL.out hx hqk (Blk.below HBK.out hb (Blk.lt HBK.out)) HCZ.out (by have := HN.out; omega) H1.out H2.out (grown_below HG.out hb) hf
        have hskip : isW who l[k] = true → (withoutP (l.take (k + 1)) who) = (withoutP (l.take k) who) := without_hit hx
        unfold valC at hcall
        generalize hb : isW who l[k] = bb at *
        generalize l[k].1 = x1 at *
        generalize l[k].2 = x2 at *
        have HCA := Lib.hid hcall
        have HST := Lib.hid hstep
        have HSK := Lib.hid hskip
        clear hcall hstep hskip hcB
        have hne : g ≠ wr.heap.size := Nat.ne_of_lt (Blk.lt HBK.out)
        go_wp2_with fail
        have hal := alloc_below wr (.cells #[.int .i64 x1, .int .i64 (x2 : Int)] 78)
        refine (HCA.out _ hal).mono ?_
        rintro e w2 ⟨rfl, hb2⟩
        have d0 : w2.cell? ⟨wr.heap.size, 0, none⟩ = some (.int .i64 x1) := (cell_of_heap (hb2.block _ (by simp)) 0).trans ((Blk.new wr _ _).cell 0)
        have d1 : w2.cell? ⟨wr.heap.size, 1, none⟩ = some (.int .i64 (x2 : Int)) := (cell_of_heap (hb2.block _ (by simp)) 1).trans ((Blk.new wr _ _).cell 1)
        have hb3 : Below wr.heap.size wr w2 := hal.trans (hb2.mono hal.size)
        have HB3 := Lib.hid hb3
        have hbk2 : Blk w2 g 78 cu := Blk.below HBK.out hb3 (Blk.lt HBK.out)
        have f0 := hbk2.frozen (q * 2)
        have f1 := hbk2.frozen (q * 2 + 1)
        have hs2 : q * 2 + 1 < cu.size := by rw [HCZ.out]; omega
        have o0 : w2.cell? ⟨g, q * 2, none⟩ = some cu[q * 2] := (hbk2.cell _).trans (Array.getElem?_eq_getElem (by omega))
        have o1 : w2.cell? ⟨g, q * 2 + 1, none⟩ = some cu[q * 2 + 1] := (hbk2.cell _).trans (Array.getElem?_eq_getElem hs2)
        generalize cu[q * 2]'(by omega) = y0 at *
        generalize cu[q * 2 + 1]'hs2 = y1 at *
        clear hal hb2 hb3 hbk2 hs2
        cases bb
        · go_wp2_with fail
          go_roundg (n - (k + 1))
          case measure => have := HKM.out; have := HN.out; omega
          case rel =>
            have := HST.out w2 HB3.out (by simp)
            rw [HN.out] at this
            obtain ⟨q', k', cu', e1, e2, hr⟩ := this
            exact ⟨q', k', cu', by rw [← e1], by rw [← e2], hr⟩
        · go_wp2_with fail
          go_roundg (n - (k + 1))
          case measure => have := HKM.out; have := HN.out; omega
          case rel =>
            refine ⟨q, k + 1, cu, rfl, by go_num, by have := HN.out; omega, by rw [HSK.out (by simp)]; exact HQL.out, by omega, Blk.below HBK.out HB3.out (Blk.lt HBK.out), HCZ.out, by rw [HSK.out (by simp)]; exact H1.out, fun z u hz => H2.out z u (by omega), grown_below HG.out HB3.out⟩
      · have he : k = n := by have := HKM.out; have := HN.out; omega
        subst he
        have hall : l.take k = l := List.take_of_length_le (by rw [HN.out]; exact Nat.le_refl _)
        have hz : k - q + q = k := by omega
        have hcl := fun (ty : TypeId) => clear_ wr ty g (q * 2) (k - q) (cap - q) (by omega)
          (fun j hj => by rw [Blk.cell HBK.out, Array.getElem?_eq_getElem (show q * 2 + j < cu.size by rw [HCZ.out]; omega)]; rfl) (fun j hj => Blk.frozen HBK.out _)
        have hfin : Own (wr.setCells g (q * 2) (zc (k - q))) base eC 78 (.slice (some ⟨g, 0, none⟩) q cap) (withoutP l who) := by
          obtain ⟨cu', hb', hs', hlow⟩ := blk_sets (zc (k - q)) (q * 2) HBK.out
          have hql : (withoutP l who).length = q := by have := HQL.out; rw [hall] at this; exact this.symm
          refine ⟨by rw [cellsE_length], .inr ⟨g, cap, cu', by rw [hql], HBG.out, hb', by rw [hql]; omega, hcm2, by rw [hs', HCZ.out]; rfl, ?_⟩⟩
          rw [← cellsE_length]
          refine take_of_cells fun z u hzu => ?_
          have hzl := (List.getElem?_eq_some_iff.1 hzu).1
          rw [cellsE_length, hql] at hzl
          rw [hlow z (by have : z < q * 2 := hzl; exact this)]
          exact H1.out z u (by rw [hall]; exact hzu)
        have hgf : w.grownBy (wr.setCells g (q * 2) (zc (k - q))) (some g) := grown_cells _ _ HG.out
        have HFI := Lib.hid hfin
        have HGF := Lib.hid hgf
        have hne : ¬ (cap = q) := by omega
        clear hfin hgf hall hcB
        go_wp2_with fail
        go_ret
        exact ⟨_, rfl, HFI.out, rfl, HGF.out⟩
/-- a list less somebody -/
theorem without_ {w : World} {base : Nat} {v : Value} {l : List Cl} (who : Int) (ho : Own w base eC 78 v l) (hn : l.length ≤ 100000) :
    Calls Tryd.prog 42 #[v, .int .i64 who] w (Gone w base v (withoutP l who)) := by
  have hal := alloc_below w (.cells #[.int .i64 who] 3)
  have hne : v.ownBlock ≠ some w.heap.size := fun e => by
    have := (own_blk ho e).2.1
    omega
  have hd := delete_ (B := w.heap.size) (who := who) (own_keep (W' := w.alloc (.cells #[.int .i64 who] 3)) ho fun g hg => hal.block g (own_blk ho hg).2.1) hn (by simp) (by simp) hne
  obtain ⟨A, c, rfl, _, _, _, _⟩ := own_lst ho
  have HD := Lib.hid hd
  have HA := Lib.hid hal
  clear hd ho hal hne
  generalize l.length = n at *
  go_enter Tryd.func42, Tryd.ntmps42
  go_wp2_with (go_at_call 61; refine HD.out.mono ?_; rintro e w1 ⟨v1, rfl, ho1, hv1, hg1⟩; have HO1 := Lib.hid ho1; have HG1 := Lib.hid hg1; clear ho1 hg1)
  go_ret
  exact ⟨_, rfl, HO1.out, hv1, HG1.out.os.trans HA.out.os, HG1.out.tape.trans HA.out.tape, HG1.out.output.trans HA.out.output, Nat.le_trans HA.out.size HG1.out.size, fun k hk hne => (HG1.out.block k (Nat.lt_of_lt_of_le hk HA.out.size) hne).trans (HA.out.block k hk)⟩
end Go.Proofs.YtnjhhndggfjjdaaDoor
