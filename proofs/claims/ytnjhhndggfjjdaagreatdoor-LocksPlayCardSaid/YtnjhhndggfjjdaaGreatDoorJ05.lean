/- A list less somebody, in the list's own memory: the library's DeleteFunc at claims, and package grant's without. A claim put into a list at a place: the library's Insert at claims. -/
import Derived.Test.YtnjhhndggfjjdaaGreatDoorJ04
import Derived.Lib.SliceRun
import Derived.Lib.AppendZeros
import Derived.Lib.AppendZerosOnto
import Derived.Lib.Overlaps
import Derived.Laws.Externs
import Derived.Laws.IdiomCopy
import Derived.Laws.NewBlocks
import Derived.Shelf.RegionOpenPlain
set_option maxRecDepth 4000
namespace Go.Proofs.YtnjhhndggfjjdaaGreatDoor
open Go.RowKit
theorem grown_below {w w1 w2 : World} {row : Option Nat} (h : w.grownBy w1 row) (k : Below w1.heap.size w1 w2) : w.grownBy w2 row :=
  ⟨k.os.trans h.os, k.tape.trans h.tape, k.output.trans h.output, Nat.le_trans h.size k.size, fun i hi hne => (k.block i (Nat.lt_of_lt_of_le hi h.size)).trans (h.block i hi hne)⟩
theorem grown_cell {w w1 : World} {g : Nat} (h : w.grownBy w1 (some g)) (i : Nat) (v : Value) : w.grownBy (w1.setCell ⟨g, i, none⟩ v) (some g) :=
  ⟨h.os, h.tape, h.output, by simpa [World.setCell] using h.size, fun k hk hne => (Below.heap_setCell w1 ⟨g, i, none⟩ v k (fun e => hne (by rw [e]))).trans (h.block k hk hne)⟩
theorem grown_cells {w : World} {g : Nat} : ∀ (vs : List Value) (i : Nat) {w1 : World}, w.grownBy w1 (some g) → w.grownBy (w1.setCells g i vs) (some g)
  | [], _, _, h => h
  | v :: r, i, _, h => by
    rw [World.setCells]
    exact grown_cells r (i + 1) (grown_cell h i v)
theorem blk_sets {g : Nat} {t : TypeId} : ∀ (vs : List Value) (o : Nat) {w : World} {cur : Array Value}, Blk w g t cur → ∃ cur', Blk (w.setCells g o vs) g t cur' ∧ cur'.size = cur.size ∧ ∀ j, j < o → cur'[j]? = cur[j]?
  | [], _, _, cur, h => ⟨cur, h, rfl, fun _ _ => rfl⟩
  | v :: r, o, w, cur, h => by
    obtain ⟨cur', h1, h2, h3⟩ := blk_sets r (o + 1) (h.set_ o v)
    exact ⟨cur', h1, by simpa using h2, fun j hj => by rw [h3 j (by omega), Array.getElem?_setIfInBounds_ne (by omega)]⟩
theorem take_of_cells {cur : Array Value} {xs : List Value} (h : ∀ (j : Nat) (u : Value), xs[j]? = some u → cur[j]? = some u) : cur.toList.take xs.length = xs := by
  apply List.ext_getElem?
  intro j
  by_cases hj : j < xs.length
  · rw [List.getElem?_take_of_lt hj, Array.getElem?_toList, List.getElem?_eq_getElem hj]
    exact h j _ (List.getElem?_eq_getElem hj)
  · rw [List.getElem?_take_eq_none (by omega), List.getElem?_eq_none (by omega)]
theorem cells_of_take {cur : Array Value} {xs : List Value} {n : Nat} (h : cur.toList.take n = xs) (j : Nat) (u : Value) (hj : xs[j]? = some u) : cur[j]? = some u := by
  rw [← h] at hj
  have hl := (List.getElem?_eq_some_iff.1 hj).1
  rw [List.length_take] at hl
  rw [List.getElem?_take_of_lt (by omega)] at hj
  simpa using hj
/-- what 'clear' writes over n claims -/
def zc (n : Nat) : List Value := (Builtin.zeroCells (Value.agg #[.int .i64 0, .int .i64 0]).cells n).toList
theorem zc_length (n : Nat) : (zc n).length = n * 2 := by
  unfold zc
  rw [Array.length_toList, size_zeroCells]
  rfl
theorem zc_one (n : Nat) : ∀ v ∈ zc n, v.oneCell' = true := by
  intro v hv
  unfold zc Builtin.zeroCells at hv
  rw [Array.toList_map, List.mem_map] at hv
  obtain ⟨i, _, rfl⟩ := hv
  have : i % 2 = 0 ∨ i % 2 = 1 := by omega
  change (#[Value.int .i64 0, Value.int .i64 0][i % 2]!).oneCell' = true
  rcases this with h | h <;> rw [h] <;> rfl
theorem clear_ (w : World) (ty : TypeId) (b o n c : Nat) (hn : 0 < n) (hc : ∀ j, j < n * 2 → (w.cell? ⟨b, o + j, none⟩).isSome = true) (hf : ∀ j, j < n * 2 → w.frozen? ⟨b, o + j, none⟩ = false) :
    (Builtin.clear_ #[62] ty #[.slice (some ⟨b, o, none⟩) n c]).run Tryz.prog w = .ok (.tuple #[]) (w.setCells b o (zc n)) := by
  have hst := run_storeCells_cells (P := Tryz.prog) b o (zc n) 0 w (by simpa [zc_length] using hc) (by simpa [zc_length] using hf) (zc_one n)
  simp only [Nat.add_zero] at hst
  obtain ⟨m, rfl⟩ : ∃ m, n = m + 1 := ⟨n - 1, by omega⟩
  unfold zc at hst ⊢
  simp [Builtin.clear_, run_underlying Tryz.underlying62, Tryz.zeroValue94, hst]
theorem call_without (who : Int) (B : Nat) (W : World) (hB : B < W.heap.size) (hc : W.cell? ⟨B, 0, none⟩ = some (.int .i64 who)) (x : Cl) :
    Calls Tryz.prog 82 #[valC x, .pointer (some ⟨B, 0, none⟩)] W fun e w' => e = .returned (.bool (isW who x)) ∧ Below W.heap.size W w' :=
  pred_without who B W hB hc [x] W x (by simp) (Below.refl _ _)
theorem without_hit {l : List Cl} {k : Nat} {who : Int} (h : k < l.length) (hk : isW who l[k] = true) : withoutP (l.take (k + 1)) who = withoutP (l.take k) who := by
  unfold withoutP
  rw [List.take_succ_eq_append_getElem h, List.filter_append]
  simp [hk]
theorem without_pass {l : List Cl} {k : Nat} {who : Int} (h : k < l.length) (hk : isW who l[k] = false) : withoutP (l.take (k + 1)) who = withoutP (l.take k) who ++ [l[k]] := by
  unfold withoutP
  rw [List.take_succ_eq_append_getElem h, List.filter_append]
  simp [hk]
theorem without_none {l : List Cl} {who : Int} (h : l.any (isW who) = false) : withoutP l who = l := by
  unfold withoutP
  rw [List.filter_eq_self]
  intro x hx
  have := List.any_eq_false.1 h x hx
  simpa using this
def Del (w : World) (g c : Nat) (l : List Cl) (who : Int) (m : Nat) (i j : Value) (wr : World) : Prop :=
  ∃ (q k : Nat) (cur : Array Value), i = .int .i64 (q : Int) ∧ j = .int .i64 (k : Int) ∧ k + m = l.length ∧ q = (withoutP (l.take k) who).length ∧ q < k ∧ Blk wr g 94 cur ∧ cur.size = c * 2 ∧
    (∀ (z : Nat) (u : Value), (cellsE eC (withoutP (l.take k) who))[z]? = some u → cur[z]? = some u) ∧ (∀ (z : Nat) (u : Value), k * 2 ≤ z → (cellsE eC l)[z]? = some u → cur[z]? = some u) ∧ w.grownBy wr (some g)
def Gone (w : World) (base : Nat) (v : Value) (l : List Cl) (e : Ending) (w' : World) : Prop :=
  ∃ v', e = .returned v' ∧ Own w' base eC 94 v' l ∧ v'.ownBlock = v.ownBlock ∧ w.grownBy w' v.ownBlock
theorem del_step {w wr : World} {g c : Nat} {l : List Cl} {who : Int} {q k : Nat} {cur : Array Value} (hq : q = (withoutP (l.take k) who).length) (hk : k < l.length) (hqk : q < k) (hb : Blk wr g 94 cur) (hcs : cur.size = c * 2) (hlc : l.length ≤ c)
    (h1 : ∀ (z : Nat) (u : Value), (cellsE eC (withoutP (l.take k) who))[z]? = some u → cur[z]? = some u) (h2 : ∀ (z : Nat) (u : Value), k * 2 ≤ z → (cellsE eC l)[z]? = some u → cur[z]? = some u) (hg : w.grownBy wr (some g)) (hx : isW who l[k] = false) :
    Del w g c l who (l.length - (k + 1)) (.int .i64 ((q : Int) + 1)) (.int .i64 ((k : Int) + 1)) ((wr.setCell ⟨g, q * 2, none⟩ (.int .i64 l[k].1)).setCell ⟨g, q * 2 + 1, none⟩ (.int .i64 (l[k].2 : Int))) := by
  refine ⟨q + 1, k + 1, _, by go_num, by go_num, by omega, ?_, by omega, (hb.set_ (q * 2) _).set_ (q * 2 + 1) _, by simpa using hcs, ?_, ?_, grown_cell (grown_cell hg _ _) _ _⟩
  · rw [without_pass hk hx, List.length_append, ← hq]; rfl
  · intro z u hz
    rw [without_pass hk hx, cellsE_append] at hz
    have hle : (cellsE eC (withoutP (l.take k) who)).length = q * 2 := by rw [cellsE_length, ← hq]; rfl
    rcases Nat.lt_or_ge z (q * 2) with h | h
    · rw [List.getElem?_append_left (by omega)] at hz
      rw [Array.getElem?_setIfInBounds_ne (by omega), Array.getElem?_setIfInBounds_ne (by omega)]
      exact h1 z u hz
    · rw [List.getElem?_append_right (by omega), hle] at hz
      have hz2 := (List.getElem?_eq_some_iff.1 hz).1
      have hz3 : (cellsE eC [l[k]]).length = 2 := by rw [cellsE_length]; rfl
      rcases (show z = q * 2 ∨ z = q * 2 + 1 by omega) with e | e
      · subst e
        rw [Nat.sub_self] at hz
        rw [Array.getElem?_setIfInBounds_ne (by omega), Array.getElem?_setIfInBounds_self_of_lt (by omega)]
        exact hz
      · subst e
        rw [show q * 2 + 1 - q * 2 = 1 by omega] at hz
        rw [Array.getElem?_setIfInBounds_self_of_lt (by simp; omega)]
        exact hz
  · intro z u hz hu
    rw [Array.getElem?_setIfInBounds_ne (by omega), Array.getElem?_setIfInBounds_ne (by omega)]
    exact h2 z u (by omega) hu
set_option maxHeartbeats 2000000 in
theorem delete_ {w : World} {base B : Nat} {v : Value} {l : List Cl} {who : Int} (ho : Own w base eC 94 v l) (hn : l.length ≤ 100000) (hB : B < w.heap.size) (hc : w.cell? ⟨B, 0, none⟩ = some (.int .i64 who)) (hBv : v.ownBlock ≠ some B) :
    Calls Tryz.prog 81 #[v, .func (.func 82) #[] #[.pointer (some ⟨B, 0, none⟩)]] w (Gone w base v (withoutP l who)) := by
  obtain ⟨A, c, hv, hlst, hlc, hcm, hnil⟩ := own_lst ho
  have hi := index_ (c := c) hlst rfl (by omega) enters_without (pred_without who B w hB hc l)
  have HO := Lib.hid ho
  rcases idx_cases (isW who) l with ⟨e0, hany⟩ | ⟨hlt, e0, hany, hhit⟩
  · rw [e0] at hi
    rw [without_none hany]
    have HI := Lib.hid hi
    subst hv
    clear hi hlst hc hBv e0 hany ho
    generalize l.length = n at *
    go_enter Tryz.func81, Tryz.ntmps81
    go_wp2_with (go_at_call 83; refine HI.out.mono ?_; rintro e w1 ⟨rfl, hb1⟩)
    go_ret
    exact ⟨_, rfl, own_keep HO.out fun g hg => hb1.block g (own_blk HO.out hg).2.1, rfl, hb1.os, hb1.tape, hb1.output, hb1.size, fun k hk _ => hb1.block k hk⟩
  · rcases ho.2 with ⟨_, h0⟩ | ⟨g, cap, cur, hv2, hbg, hh, hnc, hcm2, hcs, htk⟩
    · omega
    have hcc : v = .slice (some ⟨g, 0, none⟩) l.length c := by
      rw [hv] at hv2 ⊢
      injection hv2 with h1 _ h3
      rw [h1]
    obtain rfl : cap = c := by rw [hcc] at hv2; injection hv2 with _ _ h3; exact h3.symm
    rw [e0] at hi
    rw [hv] at hcc
    injection hcc with hA _ _
    subst hA
    subst hv
    have hq0 : l.findIdx (isW who) = (withoutP (l.take (l.findIdx (isW who) + 1)) who).length := by
      rw [without_hit hlt hhit]
      have : withoutP (l.take (l.findIdx (isW who))) who = l.take (l.findIdx (isW who)) := without_none (by
        rw [List.any_eq_false]
        intro x hx
        obtain ⟨j, hj, rfl⟩ := List.getElem_of_mem hx
        rw [List.length_take] at hj
        rw [List.getElem_take]
        have := List.not_of_lt_findIdx (p := isW who) (xs := l) (show j < l.findIdx (isW who) by omega)
        simpa using this)
      rw [this, List.length_take]
      omega
    have hp0 : ∀ (z : Nat) (u : Value), (cellsE eC (withoutP (l.take (l.findIdx (isW who) + 1)) who))[z]? = some u → (cellsE eC l)[z]? = some u := by
      intro z u hz
      rw [without_hit hlt hhit] at hz
      have : withoutP (l.take (l.findIdx (isW who))) who = l.take (l.findIdx (isW who)) := without_none (by
        rw [List.any_eq_false]
        intro x hx
        obtain ⟨j, hj, rfl⟩ := List.getElem_of_mem hx
        rw [List.length_take] at hj
        rw [List.getElem_take]
        have := List.not_of_lt_findIdx (p := isW who) (xs := l) (show j < l.findIdx (isW who) by omega)
        simpa using this)
      rw [this, cellsE_take] at hz
      have hl := (List.getElem?_eq_some_iff.1 hz).1
      rw [List.length_take] at hl
      rwa [List.getElem?_take_of_lt (by omega)] at hz
    have HI := Lib.hid hi
    have hgB : g ≠ B := fun e => hBv (by rw [← e]; rfl)
    have HT := Lib.hid htk
    have HH := Lib.hid hh
    have HQ := Lib.hid hq0
    have HP := Lib.hid hp0
    have HC := Lib.hid hc
    have HCS := Lib.hid hcs
    have HBG := Lib.hid hbg
    generalize hqq : l.findIdx (isW who) = q0 at *
    clear hi hlst hc hBv e0 hany ho hhit hqq hq0 hp0 hv2 htk hh hcs hbg hnil hnc
    generalize hnl : l.length = n at *
    have HN := Lib.hid hnl
    go_enter Tryz.func81, Tryz.ntmps81
    go_wp2_with (go_at_call 83; refine HI.out.mono ?_; rintro e w1 ⟨rfl, hb1⟩)
    have HB1 := Lib.hid hb1
    clear hb1
    go_loopg [5, 6, 7] (n - (q0 + 1)) (fun m i j _ wr => Del w g cap l who m i j wr)
    case atStart =>
      refine ⟨q0, q0 + 1, cur, rfl, by go_num, by have := HN.out; omega, HQ.out, by omega, (HB1.out.block g (lt_of_some HH.out)).trans HH.out, HCS.out, fun z u hz => cells_of_take HT.out z u (HP.out z u hz), fun z u _ hz => cells_of_take HT.out z u hz, HB1.out.os, HB1.out.tape, HB1.out.output, HB1.out.size, fun k hk _ => HB1.out.block k hk⟩
    case round =>
      obtain ⟨q, k, cu, rfl, rfl, hkm, hql, hqk, hblk, hcz, h1, h2, hg⟩ := hrel
      have hBr : B < wr.heap.size := Nat.lt_of_lt_of_le hB hg.size
      have hcB : wr.cell? ⟨B, 0, none⟩ = some (.int .i64 who) := (cell_of_heap (hg.block B hB (fun e => hgB (by injection e with e; exact e.symm))) 0).trans HC.out
      have HKM := Lib.hid hkm
      have HQL := Lib.hid hql
      have HBK := Lib.hid hblk
      have HCZ := Lib.hid hcz
      have H1 := Lib.hid h1
      have H2 := Lib.hid h2
      have HG := Lib.hid hg
      clear hkm hql hblk hcz h1 h2 hg
      by_cases hkn : k < n
      · have hx : k < l.length := by rw [HN.out]; exact hkn
        have c1 : wr.cell? ⟨g, k * 2, none⟩ = some (.int .i64 l[k].1) := (Blk.cell HBK.out _).trans (H2.out _ _ (by omega) (cellsE_at eC hx (i := 0) rfl))
        have c2 : wr.cell? ⟨g, k * 2 + 1, none⟩ = some (.int .i64 (l[k].2 : Int)) := (Blk.cell HBK.out _).trans (H2.out _ _ (by omega) (cellsE_at eC hx (i := 1) rfl))
        have hcall := fun W (hb : Below wr.heap.size wr W) => call_without who B W (Nat.lt_of_lt_of_le hBr hb.size) ((cell_of_heap (hb.block B hBr) 0).trans hcB) l[k]
        have hstep := fun (wr' : World) (hb : Below wr.heap.size wr wr') (hf : isW who l[k] = false) => del_step (c := cap) HQL.out hx hqk (Blk.below HBK.out hb (Blk.lt HBK.out)) HCZ.out (by have := HN.out; omega) H1.out H2.out (grown_below HG.out hb) hf
        have hskip : isW who l[k] = true → (withoutP (l.take (k + 1)) who) = (withoutP (l.take k) who) := without_hit hx
        unfold valC at hcall
        generalize hb : isW who l[k] = bb at *
        generalize l[k].1 = x1 at *
        generalize l[k].2 = x2 at *
        have HCA := Lib.hid hcall
        have HST := Lib.hid hstep
        have HSK := Lib.hid hskip
        clear hcall hstep hskip hcB
        have hne : g ≠ wr.heap.size := Nat.ne_of_lt (Blk.lt HBK.out)
        go_wp2_with fail
        have hal := alloc_below wr (.cells #[.int .i64 x1, .int .i64 (x2 : Int)] 94)
        refine (HCA.out _ hal).mono ?_
        rintro e w2 ⟨rfl, hb2⟩
        have d0 : w2.cell? ⟨wr.heap.size, 0, none⟩ = some (.int .i64 x1) := (cell_of_heap (hb2.block _ (by simp)) 0).trans ((Blk.new wr _ _).cell 0)
        have d1 : w2.cell? ⟨wr.heap.size, 1, none⟩ = some (.int .i64 (x2 : Int)) := (cell_of_heap (hb2.block _ (by simp)) 1).trans ((Blk.new wr _ _).cell 1)
        have hb3 : Below wr.heap.size wr w2 := hal.trans (hb2.mono hal.size)
        have HB3 := Lib.hid hb3
        have hbk2 : Blk w2 g 94 cu := Blk.below HBK.out hb3 (Blk.lt HBK.out)
        have f0 := hbk2.frozen (q * 2)
        have f1 := hbk2.frozen (q * 2 + 1)
        have hs2 : q * 2 + 1 < cu.size := by rw [HCZ.out]; omega
        have o0 : w2.cell? ⟨g, q * 2, none⟩ = some cu[q * 2] := (hbk2.cell _).trans (Array.getElem?_eq_getElem (by omega))
        have o1 : w2.cell? ⟨g, q * 2 + 1, none⟩ = some cu[q * 2 + 1] := (hbk2.cell _).trans (Array.getElem?_eq_getElem hs2)
        generalize cu[q * 2]'(by omega) = y0 at *
        generalize cu[q * 2 + 1]'hs2 = y1 at *
        clear hal hb2 hb3 hbk2 hs2
        cases bb
        · go_wp2_with fail
          go_roundg (n - (k + 1))
          case measure => have := HKM.out; have := HN.out; omega
          case rel =>
            have := HST.out w2 HB3.out (by simp)
            rw [HN.out] at this
            obtain ⟨q', k', cu', e1, e2, hr⟩ := this
            exact ⟨q', k', cu', by rw [← e1], by rw [← e2], hr⟩
        · go_wp2_with fail
          go_roundg (n - (k + 1))
          case measure => have := HKM.out; have := HN.out; omega
          case rel =>
            refine ⟨q, k + 1, cu, rfl, by go_num, by have := HN.out; omega, by rw [HSK.out (by simp)]; exact HQL.out, by omega, Blk.below HBK.out HB3.out (Blk.lt HBK.out), HCZ.out, by rw [HSK.out (by simp)]; exact H1.out, fun z u hz => H2.out z u (by omega), grown_below HG.out HB3.out⟩
      · have he : k = n := by have := HKM.out; have := HN.out; omega
        subst he
        have hall : l.take k = l := List.take_of_length_le (by rw [HN.out]; exact Nat.le_refl _)
        have hz : k - q + q = k := by omega
        have hcl := fun (ty : TypeId) => clear_ wr ty g (q * 2) (k - q) (cap - q) (by omega)
          (fun j hj => by rw [Blk.cell HBK.out, Array.getElem?_eq_getElem (show q * 2 + j < cu.size by rw [HCZ.out]; omega)]; rfl) (fun j hj => Blk.frozen HBK.out _)
        have hfin : Own (wr.setCells g (q * 2) (zc (k - q))) base eC 94 (.slice (some ⟨g, 0, none⟩) q cap) (withoutP l who) := by
          obtain ⟨cu', hb', hs', hlow⟩ := blk_sets (zc (k - q)) (q * 2) HBK.out
          have hql : (withoutP l who).length = q := by have := HQL.out; rw [hall] at this; exact this.symm
          refine ⟨by rw [cellsE_length], .inr ⟨g, cap, cu', by rw [hql], HBG.out, hb', by rw [hql]; omega, hcm2, by rw [hs', HCZ.out]; rfl, ?_⟩⟩
          rw [← cellsE_length]
          refine take_of_cells fun z u hzu => ?_
          have hzl := (List.getElem?_eq_some_iff.1 hzu).1
          rw [cellsE_length, hql] at hzl
          rw [hlow z (by have : z < q * 2 := hzl; exact this)]
          exact H1.out z u (by rw [hall]; exact hzu)
        have hgf : w.grownBy (wr.setCells g (q * 2) (zc (k - q))) (some g) := grown_cells _ _ HG.out
        have HFI := Lib.hid hfin
        have HGF := Lib.hid hgf
        have hne : ¬ (cap = q) := by omega
        clear hfin hgf hall hcB
        go_wp2_with fail
        go_ret
        exact ⟨_, rfl, HFI.out, rfl, HGF.out⟩
/-- a list less somebody -/
theorem without_ {w : World} {base : Nat} {v : Value} {l : List Cl} (who : Int) (ho : Own w base eC 94 v l) (hn : l.length ≤ 100000) :
    Calls Tryz.prog 60 #[v, .int .i64 who] w (Gone w base v (withoutP l who)) := by
  have hal := alloc_below w (.cells #[.int .i64 who] 3)
  have hne : v.ownBlock ≠ some w.heap.size := fun e => by
    have := (own_blk ho e).2.1
    omega
  have hd := delete_ (B := w.heap.size) (who := who) (own_keep (W' := w.alloc (.cells #[.int .i64 who] 3)) ho fun g hg => hal.block g (own_blk ho hg).2.1) hn (by simp) (by simp) hne
  obtain ⟨A, c, rfl, _, _, _, _⟩ := own_lst ho
  have HD := Lib.hid hd
  have HA := Lib.hid hal
  clear hd ho hal hne
  generalize l.length = n at *
  go_enter Tryz.func60, Tryz.ntmps60
  go_wp2_with (go_at_call 81; refine HD.out.mono ?_; rintro e w1 ⟨v1, rfl, ho1, hv1, hg1⟩; have HO1 := Lib.hid ho1; have HG1 := Lib.hid hg1; clear ho1 hg1)
  go_ret
  exact ⟨_, rfl, HO1.out, hv1, HG1.out.os.trans HA.out.os, HG1.out.tape.trans HA.out.tape, HG1.out.output.trans HA.out.output, Nat.le_trans HA.out.size HG1.out.size, fun k hk hne => (HG1.out.block k (Nat.lt_of_lt_of_le hk HA.out.size) hne).trans (HA.out.block k hk)⟩
end Go.Proofs.YtnjhhndggfjjdaaGreatDoor
namespace Go.Proofs.YtnjhhndggfjjdaaGreatDoor
open Go.RowKit
def insP (l : List Cl) (i : Nat) (x : Cl) : List Cl := l.take i ++ x :: l.drop i
theorem insP_length {l : List Cl} {i : Nat} (x : Cl) : (insP l i x).length = l.length + 1 := by
  have := congrArg List.length (List.take_append_drop i l)
  unfold insP
  simp only [List.length_append, List.length_cons] at this ⊢
  omega
theorem blk_put {g : Nat} {t : TypeId} : ∀ (vs : List Value) (o : Nat) {w : World} {cur : Array Value}, Blk w g t cur → o + vs.length ≤ cur.size →
    ∃ cur', Blk (w.setCells g o vs) g t cur' ∧ cur'.size = cur.size ∧ (∀ j u, vs[j]? = some u → cur'[o + j]? = some u) ∧ ∀ j, j < o ∨ o + vs.length ≤ j → cur'[j]? = cur[j]?
  | [], _, _, cur, h, _ => ⟨cur, h, rfl, fun j u hj => by simp at hj, fun _ _ => rfl⟩
  | v :: r, o, w, cur, h, hs => by
    rw [List.length_cons] at hs
    obtain ⟨cur', h1, h2, h3, h4⟩ := blk_put r (o + 1) (h.set_ o v) (by simp; omega)
    refine ⟨cur', h1, by simpa using h2, fun j u hj => ?_, fun j hj => ?_⟩
    · cases j with
      | zero => rw [Nat.add_zero, h4 o (.inl (by omega)), Array.getElem?_setIfInBounds_self_of_lt (by omega)]; simpa using hj
      | succ j => rw [show o + (j + 1) = o + 1 + j by omega]; exact h3 j u (by simpa using hj)
    · rw [List.length_cons] at hj
      rw [h4 j (by omega), Array.getElem?_setIfInBounds_ne (by omega)]
theorem ins_cells {l : List Cl} {i : Nat} {x : Cl} (hi : i ≤ l.length) {z : Nat} {u : Value} (hz : (cellsE eC (insP l i x))[z]? = some u) :
    (z < i * 2 ∧ (cellsE eC l)[z]? = some u) ∨ (∃ j, z = i * 2 + j ∧ (eC.enc x)[j]? = some u) ∨ ∃ j, z = i * 2 + 2 + j ∧ (cellsE eC (l.drop i))[j]? = some u := by
  unfold insP at hz
  rw [cellsE_append, cellsE] at hz
  have hl1 : (cellsE eC (l.take i)).length = i * 2 := by rw [cellsE_length, List.length_take, Nat.min_eq_left hi]; rfl
  have hl2 : (eC.enc x).length = 2 := rfl
  rcases Nat.lt_or_ge z (i * 2) with h | h
  · left
    rw [List.getElem?_append_left (by omega), cellsE_take, List.getElem?_take] at hz
    split at hz
    · exact ⟨h, hz⟩
    · cases hz
  · rw [List.getElem?_append_right (by omega), hl1] at hz
    rcases Nat.lt_or_ge z (i * 2 + 2) with h' | h'
    · right; left
      rw [List.getElem?_append_left (by omega)] at hz
      exact ⟨z - i * 2, by omega, hz⟩
    · right; right
      rw [List.getElem?_append_right (by omega), hl2] at hz
      exact ⟨z - i * 2 - 2, by omega, hz⟩
theorem own_ins {W : World} {base g c : Nat} {cur : Array Value} {l : List Cl} {i : Nat} {x : Cl} (hi : i ≤ l.length) (hb : Blk W g 94 cur) (hbase : base ≤ g) (hc : l.length + 1 ≤ c) (hcm : c ≤ maxLen) (hs : cur.size = c * 2)
    (h1 : ∀ (z : Nat) (u : Value), z < i * 2 → (cellsE eC l)[z]? = some u → cur[z]? = some u) (h2 : ∀ (j : Nat) (u : Value), (eC.enc x)[j]? = some u → cur[i * 2 + j]? = some u) (h3 : ∀ (j : Nat) (u : Value), (cellsE eC (l.drop i))[j]? = some u → cur[i * 2 + 2 + j]? = some u) :
    Own W base eC 94 (.slice (some ⟨g, 0, none⟩) (l.length + 1) c) (insP l i x) := by
  refine ⟨by rw [cellsE_length], .inr ⟨g, c, cur, by rw [insP_length], hbase, hb, by rw [insP_length]; exact hc, hcm, hs, ?_⟩⟩
  rw [← cellsE_length]
  refine take_of_cells fun z u hz => ?_
  rcases ins_cells hi hz with ⟨hlt, h⟩ | ⟨j, rfl, h⟩ | ⟨j, rfl, h⟩
  · exact h1 z u hlt h
  · exact h2 j u h
  · exact h3 j u h
theorem sizeC : ∀ w, (Go.sizeOf 94).run Tryz.prog w = .ok 2 w := Tryz.sizeOf94
/-- a copy of claims whose cells are known -/
theorem copy_claims (w : World) (ty : TypeId) (b o dLen dCap : Nat) (a : Addr) (sLen sCap N : Nat) (cs : List Value) (hN : Nat.min sLen dLen = N) (hn : cs.length = N * 2)
    (hsrc : ∀ j v, cs[j]? = some v → w.cell? (a.add j) = some v) (hc : ∀ j, j < cs.length → (w.cell? ⟨b, o + j, none⟩).isSome = true) (hf : ∀ j, j < cs.length → w.frozen? ⟨b, o + j, none⟩ = false) (h1 : ∀ v ∈ cs, v.oneCell' = true) :
    (Builtin.copy_ #[62, 62] ty #[.slice (some ⟨b, o, none⟩) dLen dCap, .slice (some a) sLen sCap]).run Tryz.prog w = .ok (goInt N) (w.setCells b o cs) := by
  have hl := run_loadCells_list (P := Tryz.prog) w a cs hsrc
  rw [hn] at hl
  have hst := run_storeCells_cells (P := Tryz.prog) b o cs 0 w (by simpa using hc) (by simpa using hf) h1
  simp [Builtin.copy_, run_underlying Tryz.underlying62, Builtin.lenOf, Builtin.firstCells, hN, hl, hst]
theorem overlaps_ (w : World) {vb g : Nat} {cA cB : Array Value} (o lb cb : Nat) (hA : Blk w vb 94 cA) (hB : Blk w g 94 cB) (hne : vb ≠ g) (hs : cB.size ≠ 0) :
    (callFunc 99 #[.slice (some ⟨vb, 0, none⟩) 1 1, .slice (some ⟨g, o, none⟩) lb cb]).run Tryz.prog w = .ok (.value (.bool false)) w := by
  rw [run_callFunc_extern Tryz.func99 (by kernel_rfl) (by kernel_rfl) (by kernel_rfl) (e := Extern.SlicesOverlaps.overlaps #[62, 62] #[4]) (by kernel_rfl)]
  unfold Blk at hA hB
  rw [Lib.run_overlaps_apart w 62 4 94 Tryz.underlying62 2 sizeC ⟨vb, 0, none⟩ ⟨g, o, none⟩ 1 1 lb cb hne 94 94 cA.size cB.size (by simp [World.shape?, hA]) (by simp [World.shape?, hB]) hs (by simp [World.frozen?, hA]) (by simp [World.frozen?, hA])]
  rfl
def Put (w : World) (base : Nat) (v : Value) (l : List Cl) (e : Ending) (w' : World) : Prop :=
  ∃ v', e = .returned v' ∧ Own w' base eC 94 v' l ∧ w.grownBy w' v.ownBlock
set_option maxHeartbeats 1000000 in
theorem insert_end {w : World} {base vb : Nat} {v : Value} {l : List Cl} {x : Cl} (ho : Own w base eC 94 v l) (hbase : base ≤ w.heap.size) (hn : l.length ≤ 100000) (hb : Blk w vb 94 #[.int .i64 x.1, .int .i64 (x.2 : Int)]) :
    Calls Tryz.prog 80 #[v, .int .i64 (l.length : Int), .slice (some ⟨vb, 0, none⟩) 1 1] w (Put w base v (insP l l.length x)) := by
  have hx : Lst w (fun _ => True) eC (some ⟨vb, 0, none⟩) [x] := fun _ => ⟨vb, 0, rfl, trivial, hb.lt, fun j u hu => by rw [hb.cell, Nat.zero_add]; simpa [cellsE, eC] using hu⟩
  obtain ⟨v', W', hap, ho', hg', _⟩ := append_own tyC ho hx rfl 1 (by show l.length + 1 ≤ 1000000; omega) hbase
  have e : insP l l.length x = l ++ [x] := by unfold insP; rw [List.take_length, List.drop_length]
  rw [e]
  obtain ⟨A, c, rfl, _, hlc, hcm, hnil⟩ := own_lst ho
  have HO := Lib.hid ho'
  have HG := Lib.hid hg'
  clear ho ho' hg' hx hb e
  generalize l.length = n at *
  go_enter Tryz.func80, Tryz.ntmps80
  rcases A with _ | ⟨ab, ao, asp⟩
  · obtain rfl : c = 0 := hnil rfl
    obtain rfl : n = 0 := by omega
    go_wp2_with (at_builtin; refine wpList_append_run rfl (.tmp 23) (.tmp 24) 62 62 rfl _ _ rfl rfl hap ?_)
    go_ret
    exact ⟨_, rfl, HO.out, HG.out⟩
  · go_wp2_with (at_builtin; refine wpList_append_run rfl (.tmp 23) (.tmp 24) 62 62 rfl _ _ rfl rfl hap ?_)
    all_goals (go_ret; exact ⟨_, rfl, HO.out, HG.out⟩)
theorem step_copy_at {P : Program} {ops : Array Oper} {o : Oper} {a : Act} {w : World} {K : Act → World → Prop} {Q : Exit → Act → World → Prop} {E : Prop}
    (hg : o.guard = none) (d x : Operand) (dT sT : TypeId) (hop : o.op = Op.call { callee := Callee.builtin Builtin.copy, args := #[d, x], argTypes := #[dT, sT] })
    (v u : Value) (hd : a.eval d = v) (hx : a.eval x = u) {v' : Value} {w' : World} (hr : (Builtin.copy_ #[dT, sT] o.type #[v, u]).run P w = .ok v' w') (hK : K (a.put o.dst v') w') :
    if Region.wanted o (yielded ops a.tmps) = true then Oper.wp P o a w K Q else E := by
  have hw : Region.wanted o (yielded ops a.tmps) = true := by simp [Region.wanted, hg]
  rw [if_pos hw]
  unfold Oper.wp
  simp [execOp, hop, resolve, invoke, builtin, hd, hx, hr, Result.andThen]
  exact hK
theorem wpList_copy_at {P : Program} {w : World} {ops : Array Oper} {rest : List Oper} {o : Oper} {a : Act} {Q : Exit → Act → World → Prop} (hgd : o.guard = none) (d s : Operand) (t t' : TypeId)
    (ho : o.op = .call { callee := .builtin .copy, args := #[d, s], argTypes := #[t, t'] }) (v u : Value) (hd : a.eval d = v) (hs : a.eval s = u) {v' : Value} {w' : World}
    (hr : (Builtin.copy_ #[t, t'] o.type #[v, u]).run P w = .ok v' w') (h : wpList P ops Q rest (a.put o.dst v') w') : wpList P ops Q (o :: rest) a w := by
  refine wpList_plain hgd fun K hK => ?_
  unfold Oper.wp execOp
  simp only [ho, resolve, invoke, builtin, Sem.run_bind, Sem.run_pure, Result.andThen_ok, List.map_toArray, List.map_cons, List.map_nil, hd, hs, hr]
  exact hK _ _ h
set_option maxHeartbeats 4000000 in
theorem insert_shift {w : World} {base g vb c i : Nat} {l : List Cl} {x : Cl} (ho : Own w base eC 94 (.slice (some ⟨g, 0, none⟩) l.length c) l) (hn : l.length ≤ 100000) (hi : i < l.length) (hroom : l.length + 1 ≤ c) (hb : Blk w vb 94 #[.int .i64 x.1, .int .i64 (x.2 : Int)]) (hne : vb ≠ g) :
    Calls Tryz.prog 80 #[.slice (some ⟨g, 0, none⟩) l.length c, .int .i64 (i : Int), .slice (some ⟨vb, 0, none⟩) 1 1] w (Put w base (.slice (some ⟨g, 0, none⟩) l.length c) (insP l i x)) := by
  rcases ho.2 with ⟨e, _⟩ | ⟨g', cap, cur, hv2, hbg, hh, hnc, hcm2, hcs, htk⟩
  · cases e
  injection hv2 with e1 _ e3
  injection e1 with e1
  injection e1 with e1 _ _
  subst e1 e3
  have hcs2 : cur.size = c * 2 := hcs
  have hB : Blk w g 94 cur := hh
  have hBd : Blk w.drew g 94 cur := hh
  have hcl : ∀ (z : Nat) (u : Value), (cellsE eC l)[z]? = some u → cur[z]? = some u := cells_of_take htk
  have hdl : (cellsE eC (l.drop i)).length = (l.length - i) * 2 := by rw [cellsE_length, List.length_drop]; rfl
  have hov := fun lb cb => overlaps_ w ((i + 1) * 2) lb cb hb hB hne (by omega)
  have hcp1 : ∀ ty dc sc, (Builtin.copy_ #[62, 62] ty #[.slice (some ⟨g, (i + 1) * 2, none⟩) (l.length + 1 - (i + 1)) dc, .slice (some ⟨g, i * 2, none⟩) (l.length + 1 - i) sc]).run Tryz.prog w.drew = .ok (goInt ((l.length - i : Nat) : Int)) (w.drew.setCells g ((i + 1) * 2) (cellsE eC (l.drop i))) := fun ty dc sc =>
    copy_claims w.drew ty g ((i + 1) * 2) (l.length + 1 - (i + 1)) dc ⟨g, i * 2, none⟩ (l.length + 1 - i) sc (l.length - i) _ (by show min _ _ = _; omega) hdl
      (fun j v hj => by rw [Addr.add_lit]; exact (hBd.cell _).trans (hcl _ _ (by rw [cellsE_drop, List.getElem?_drop] at hj; exact hj)))
      (fun j hj => by rw [hBd.cell, Array.getElem?_eq_getElem (by omega)]; rfl) (fun j _ => hBd.frozen _) (cellsE_one eC _)
  obtain ⟨cu1, hB1, hs1, hi1, ho1⟩ := blk_put (cellsE eC (l.drop i)) ((i + 1) * 2) hBd (by omega)
  obtain ⟨W1, hW1⟩ : ∃ W1, W1 = w.drew.setCells g ((i + 1) * 2) (cellsE eC (l.drop i)) := ⟨_, rfl⟩
  rw [← hW1] at hcp1 hB1
  have hvb1 : Blk W1 vb 94 #[.int .i64 x.1, .int .i64 (x.2 : Int)] := by rw [hW1]; exact Blk.fars (w := w.drew) hb hne _ _
  have hcp2 : ∀ ty dc, (Builtin.copy_ #[62, 62] ty #[.slice (some ⟨g, i * 2, none⟩) (l.length + 1 - i) dc, .slice (some ⟨vb, 0, none⟩) 1 1]).run Tryz.prog W1 = .ok (goInt 1) (W1.setCells g (i * 2) (eC.enc x)) := fun ty dc =>
    copy_claims W1 ty g (i * 2) (l.length + 1 - i) dc ⟨vb, 0, none⟩ 1 1 1 _ (by show min _ _ = _; omega) rfl
      (fun j v hj => by rw [Addr.add_lit, Nat.zero_add]; exact (hvb1.cell _).trans (by simpa [eC] using hj))
      (fun j hj => by have hj : j < 2 := hj; rw [hB1.cell, Array.getElem?_eq_getElem (by omega)]; rfl) (fun j _ => hB1.frozen _) (eC.one x)
  obtain ⟨cu2, hB2, hs2, hi2, ho2⟩ := blk_put (eC.enc x) (i * 2) hB1 (by rw [eC.len]; show i * 2 + 2 ≤ _; omega)
  have hlx : (eC.enc x).length = 2 := rfl
  have hfin : Own (W1.setCells g (i * 2) (eC.enc x)) base eC 94 (.slice (some ⟨g, 0, none⟩) (l.length + 1) c) (insP l i x) := by
    refine own_ins (by omega) hB2 hbg hroom hcm2 (by omega) (fun z u hz hu => ?_) hi2 (fun j u hu => ?_)
    · rw [ho2 z (.inl hz), ho1 z (.inl (by omega))]; exact hcl z u hu
    · rw [ho2 _ (.inr (by rw [hlx]; omega)), show i * 2 + 2 + j = (i + 1) * 2 + j by omega]; exact hi1 j u hu
  have hgf : w.grownBy (W1.setCells g (i * 2) (eC.enc x)) (some g) := by
    refine grown_cells _ _ ?_
    rw [hW1]
    exact grown_cells _ _ (show w.grownBy w.drew (some g) from ⟨rfl, rfl, rfl, Nat.le_refl _, fun _ _ _ => rfl⟩)
  have HFI := Lib.hid hfin
  have HGF := Lib.hid hgf
  have hz2 : ¬ ((i : Int) = (l.length : Int)) := by omega
  clear ho hb hcs hcs2 hB hBd hcl hdl hB1 hs1 hi1 ho1 hvb1 hB2 hs2 hi2 ho2 hfin hgf hh htk hlx hW1
  generalize hnn : l.length = n at *
  have hc63 : c ≤ 9223372036854775807 := by unfold maxLen at hcm2; omega
  have hw1 : IntKind.i64.wrap ((i : Int) + 1) = (i : Int) + 1 := by rw [IntKind.wrap_i64]; omega
  have hw2 : IntKind.i64.wrap ((n : Int) + 1) = (n : Int) + 1 := by rw [IntKind.wrap_i64]; omega
  have hb1 : (0 : Int) ≤ (i : Int) + 1 := by omega
  have hin : i ≤ n := by omega
  have htn : ((i : Int) + 1).toNat = i + 1 := by omega
  have htn2 : ((n : Int) + 1).toNat = n + 1 := by omega
  have hb2 : ¬ (c = i + 1) := by omega
  have hb3 : (i : Int) ≤ (n : Int) + 1 := by omega
  have hb4 : ¬ (c = i) := by omega
  generalize eC.enc x = vx at *
  generalize cellsE eC (l.drop i) = vd at *
  go_enter Tryz.func80, Tryz.ntmps80
  have mixed : Tryz.prog.follows .mixedOrders = true := by kernel_rfl
  go_wp2_with (simp only [hov])
  go_region_law_o (refine step_copy_at rfl (.tmp 73) (.tmp 76) 62 62 rfl (.slice (some ⟨g, (i + 1) * 2, none⟩) (n + 1 - (i + 1)) (c - (i + 1))) (.slice (some ⟨g, i * 2, none⟩) (n + 1 - i) (c - i)) (by simp [Act.eval, Act.put]) (by simp [Act.eval, Act.put]) (hcp1 3 (c - (i + 1)) (c - i)) ?_)
  all_goals
    go_wp2_with (at_builtin; refine wpList_copy_at rfl (.tmp 80) (.tmp 81) 62 62 rfl _ _ rfl rfl (hcp2 _ _) ?_)
    go_ret
    exact ⟨_, rfl, HFI.out, HGF.out⟩
set_option maxHeartbeats 4000000 in
theorem insert_grow {w : World} {base g vb c i : Nat} {l : List Cl} {x : Cl} (ho : Own w base eC 94 (.slice (some ⟨g, 0, none⟩) l.length c) l) (hbase : base ≤ w.heap.size) (hn : l.length ≤ 100000) (hi : i < l.length) (hroom : c < l.length + 1) (hb : Blk w vb 94 #[.int .i64 x.1, .int .i64 (x.2 : Int)]) :
    Calls Tryz.prog 80 #[.slice (some ⟨g, 0, none⟩) l.length c, .int .i64 (i : Int), .slice (some ⟨vb, 0, none⟩) 1 1] w (Put w base (.slice (some ⟨g, 0, none⟩) l.length c) (insP l i x)) := by
  rcases ho.2 with ⟨e, _⟩ | ⟨g', cap, cur, hv2, hbg, hh, hnc, hcm2, hcs, htk⟩
  · cases e
  injection hv2 with e1 _ e3
  injection e1 with e1
  injection e1 with e1 _ _
  subst e1 e3
  have hcs2 : cur.size = c * 2 := hcs
  have hB : Blk w g 94 cur := hh
  have hcl : ∀ (z : Nat) (u : Value), (cellsE eC l)[z]? = some u → cur[z]? = some u := cells_of_take htk
  have hdl : (cellsE eC (l.drop i)).length = (l.length - i) * 2 := by rw [cellsE_length, List.length_drop]; rfl
  have htl : (cellsE eC (l.take i)).length = i * 2 := by rw [cellsE_length, List.length_take, Nat.min_eq_left (by omega)]; rfl
  obtain ⟨z, bb, hi0, hzc, hbb⟩ := tyC.info
  obtain ⟨i0, hi1, hz0, hz1, hz2⟩ := info_parts hi0
  have hz1' : i0.size = 2 := hz1
  have hzc' : z.cells.size = 2 := hzc
  have hik : i + (l.length + 1 - i) = l.length + 1 := by omega
  have hold : (Builtin.firstCells i0.size i (.slice (some ⟨g, 0, none⟩) i c)).run Tryz.prog w.drew = .ok (cellsE eC (l.take i)).toArray w.drew := by
    rw [hz1']
    exact run_firstCells_some w.drew 2 i ⟨g, 0, none⟩ i c (cellsE eC (l.take i)) htl (fun j v hj => by
      rw [add_none, Nat.zero_add]
      rw [cellsE_take, List.getElem?_take] at hj
      split at hj
      · exact (Blk.cell hB j).trans (hcl j v hj)
      · cases hj)
  have hrz := fun ty => Lib.run_append_grow_zeros w 62 3 ty 94 i0 z .i64 .i64 Tryz.underlying62 Tryz.underlying3 hi1 hz0 (some ⟨g, 0, none⟩) i c (cellsE eC (l.take i)) hold (l.length + 1 - i) (by omega) (by omega) (by omega) (by omega) (by rw [hz2]; exact Nat.le_trans (Nat.mul_le_mul (show l.length + 1 - i ≤ 200000 by omega) hbb) (by omega)) (by rw [hz2, hik]; exact growslice_fits hroom (Nat.le_trans (Nat.mul_le_mul (show l.length + 1 ≤ 200000 by omega) hbb) (by omega)))
  rw [hik] at hrz
  obtain ⟨G, hG⟩ : ∃ G, G = grownCap w (l.length + 1) c 94 := ⟨_, rfl⟩
  have hGn : l.length + 1 ≤ G := by rw [hG]; exact grownCap_ge w _ _ _
  have hGm : G ≤ maxLen := by rw [hG]; exact grownCap_le_maxLen w _ _ _ (by unfold maxLen; omega)
  obtain ⟨ROW, hROW⟩ : ∃ ROW : Array Value, ROW = (cellsE eC (l.take i)).toArray ++ Builtin.zeroCells z.cells (l.length + 1 - i) ++ Builtin.zeroCells z.cells (G - (l.length + 1)) := ⟨_, rfl⟩
  rw [← hG, ← hROW] at hrz
  have hRs : ROW.size = G * 2 := by
    rw [hROW]
    simp only [Array.size_append, List.size_toArray, size_zeroCells, hzc', htl]
    omega
  have hR1 : ∀ (z : Nat) (u : Value), z < i * 2 → (cellsE eC l)[z]? = some u → ROW[z]? = some u := fun z u hz hu => by
    rw [hROW, Array.append_assoc, Array.getElem?_append_left (by simp [htl]; omega)]
    simp only [List.getElem?_toArray]
    rw [cellsE_take, List.getElem?_take_of_lt (by show z < i * 2; exact hz)]
    exact hu
  obtain ⟨N, hN⟩ : ∃ N, N = w.heap.size := ⟨_, rfl⟩
  obtain ⟨W1, hW1⟩ : ∃ W1, W1 = w.drew.alloc (.cells ROW 94) := ⟨_, rfl⟩
  rw [← hW1, ← hN] at hrz
  have hB1 : Blk W1 N 94 ROW := by rw [hW1, hN]; exact Blk.new w.drew _ _
  have hvb1 : Blk W1 vb 94 #[.int .i64 x.1, .int .i64 (x.2 : Int)] := by rw [hW1]; exact Blk.alloc (w := w.drew) hb _
  have hg1 : Blk W1 g 94 cur := by rw [hW1]; exact Blk.alloc (w := w.drew) hB _
  have hNg : g ≠ N := by rw [hN]; exact Nat.ne_of_lt hB.lt
  have hlx : (eC.enc x).length = 2 := rfl
  have hcp1 : ∀ ty dc, (Builtin.copy_ #[62, 62] ty #[.slice (some ⟨N, i * 2, none⟩) (l.length + 1 - i) dc, .slice (some ⟨vb, 0, none⟩) 1 1]).run Tryz.prog W1 = .ok (goInt 1) (W1.setCells N (i * 2) (eC.enc x)) := fun ty dc =>
    copy_claims W1 ty N (i * 2) (l.length + 1 - i) dc ⟨vb, 0, none⟩ 1 1 1 _ (by show min _ _ = _; omega) rfl
      (fun j v hj => by rw [Addr.add_lit, Nat.zero_add]; exact (hvb1.cell _).trans (by simpa [eC] using hj))
      (fun j hj => by have hj : j < 2 := hj; rw [hB1.cell, Array.getElem?_eq_getElem (by omega)]; rfl) (fun j _ => hB1.frozen _) (eC.one x)
  obtain ⟨cu1, hB2, hs1, hi1', ho1⟩ := blk_put (eC.enc x) (i * 2) hB1 (by rw [hlx]; omega)
  obtain ⟨W2, hW2⟩ : ∃ W2, W2 = W1.setCells N (i * 2) (eC.enc x) := ⟨_, rfl⟩
  have hg2 : Blk W2 g 94 cur := by rw [hW2]; exact Blk.fars hg1 hNg _ _
  rw [← hW2] at hcp1 hB2
  have hB2d : Blk W2.drew N 94 cu1 := hB2
  have hg2d : Blk W2.drew g 94 cur := hg2
  have hcp2 : ∀ ty dc sc, (Builtin.copy_ #[62, 62] ty #[.slice (some ⟨N, (i + 1) * 2, none⟩) (l.length + 1 - (i + 1)) dc, .slice (some ⟨g, i * 2, none⟩) (l.length - i) sc]).run Tryz.prog W2.drew = .ok (goInt ((l.length - i : Nat) : Int)) (W2.drew.setCells N ((i + 1) * 2) (cellsE eC (l.drop i))) := fun ty dc sc =>
    copy_claims W2.drew ty N ((i + 1) * 2) (l.length + 1 - (i + 1)) dc ⟨g, i * 2, none⟩ (l.length - i) sc (l.length - i) _ (by show min _ _ = _; omega) hdl
      (fun j v hj => by rw [Addr.add_lit]; exact (hg2d.cell _).trans (hcl _ _ (by rw [cellsE_drop, List.getElem?_drop] at hj; exact hj)))
      (fun j hj => by rw [hB2d.cell, Array.getElem?_eq_getElem (by omega)]; rfl) (fun j _ => hB2d.frozen _) (cellsE_one eC _)
  obtain ⟨cu2, hB3, hs2, hi2, ho2⟩ := blk_put (cellsE eC (l.drop i)) ((i + 1) * 2) hB2d (by omega)
  have hfin : Own (W2.drew.setCells N ((i + 1) * 2) (cellsE eC (l.drop i))) base eC 94 (.slice (some ⟨N, 0, none⟩) (l.length + 1) G) (insP l i x) := by
    refine own_ins (by omega) hB3 (by omega) hGn hGm (by omega) (fun z u hz hu => ?_) (fun j u hu => ?_) (fun j u hu => ?_)
    · rw [ho2 z (.inl (by omega)), ho1 z (.inl hz)]; exact hR1 z u hz hu
    · have hj := (List.getElem?_eq_some_iff.1 hu).1
      rw [hlx] at hj
      rw [ho2 _ (.inl (by omega))]; exact hi1' j u hu
    · rw [show i * 2 + 2 + j = (i + 1) * 2 + j by omega]; exact hi2 j u hu
  have hfar : ∀ (vs : List Value) (o : Nat) (W : World) (k : Nat), k < w.heap.size → (W.setCells N o vs).heap[k]? = W.heap[k]? := fun vs o W k hk => heap_setCells_far N vs o W k (by omega)
  have hgf : w.grownBy (W2.drew.setCells N ((i + 1) * 2) (cellsE eC (l.drop i))) (some g) := by
    obtain ⟨a1, a2, a3, a4⟩ := setCells_plain N (cellsE eC (l.drop i)) ((i + 1) * 2) W2.drew
    obtain ⟨b1, b2, b3, b4⟩ := setCells_plain N (eC.enc x) (i * 2) W1
    rw [← hW2] at b1 b2 b3 b4
    refine ⟨a1.trans (b1.trans (by rw [hW1]; rfl)), a2.trans (b2.trans (by rw [hW1]; rfl)), a3.trans (b3.trans (by rw [hW1]; rfl)), ?_, fun k hk _ => ?_⟩
    · rw [a4]
      show w.heap.size ≤ W2.heap.size
      rw [b4, hW1]
      simp
    · rw [hfar _ _ _ _ hk]
      show W2.heap[k]? = _
      rw [hW2, hfar _ _ _ _ hk, hW1]
      exact Below.heap_alloc w.drew _ k hk
  have HFI := Lib.hid hfin
  have HGF := Lib.hid hgf
  have hz3 : ¬ ((i : Int) = (l.length : Int)) := by omega
  have hkk : ((l.length + 1 - i : Nat) : Int) = (l.length : Int) + 1 - (i : Int) := by omega
  rw [hkk] at hrz
  clear ho hb hcs hcs2 hB hcl hdl htl hold hi0 hi1 hz0 hz1 hz2 hz1' hzc hzc' hbb hG hROW hRs hR1 hB1 hvb1 hg1 hlx hB2 hs1 hi1' ho1 hg2 hB2d hg2d hB3 hs2 hi2 ho2 hfin hfar hgf hh htk hW1 hW2 hkk hik hN
  generalize hnn : l.length = n at *
  have hc63 : c ≤ 9223372036854775807 := by unfold maxLen at hcm2; omega
  have hG63 : G ≤ 9223372036854775807 := by unfold maxLen at hGm; omega
  have hw1 : IntKind.i64.wrap ((i : Int) + 1) = (i : Int) + 1 := by rw [IntKind.wrap_i64]; omega
  have hw2 : IntKind.i64.wrap ((n : Int) + 1) = (n : Int) + 1 := by rw [IntKind.wrap_i64]; omega
  have hb1 : (0 : Int) ≤ (i : Int) + 1 := by omega
  have hin : i ≤ n := by omega
  have htn : ((i : Int) + 1).toNat = i + 1 := by omega
  have hz4 : (c : Int) < (n : Int) + 1 := by omega
  have hGi : ¬ (G = i) := by omega
  have hGim : ¬ (G = i + 1) := by omega
  have hci : ¬ (c = i) := by omega
  have hb3 : (i : Int) ≤ (n : Int) := by omega
  have mixed : Tryz.prog.follows .mixedOrders = true := by kernel_rfl
  generalize eC.enc x = vx at *
  generalize cellsE eC (l.drop i) = vd at *
  generalize cellsE eC (l.take i) = vt at *
  go_enter Tryz.func80, Tryz.ntmps80
  go_wp2_with (first
    | (at_builtin; refine Lib.wpList_append_run _ rfl (.tmp 34) (.tmp 39) 62 3 rfl _ _ rfl rfl _ _ (hrz _) ?_)
    | (at_builtin; refine wpList_copy_at rfl (.tmp 43) (.tmp 44) 62 62 rfl _ _ rfl rfl (hcp1 _ _) ?_))
  go_region_law_o (refine step_copy_at rfl (.tmp 50) (.tmp 53) 62 62 rfl (.slice (some ⟨N, (i + 1) * 2, none⟩) (n + 1 - (i + 1)) (G - (i + 1))) (.slice (some ⟨g, i * 2, none⟩) (n - i) (c - i)) (by simp [Act.eval, Act.put]) (by simp [Act.eval, Act.put]) (hcp2 3 (G - (i + 1)) (c - i)) ?_)
  all_goals
    go_wp2_with fail
    go_ret
    exact ⟨_, rfl, HFI.out, HGF.out⟩
/-- a claim put into a list, at any place -/
theorem insert_ {w : World} {base vb : Nat} {v : Value} {l : List Cl} {x : Cl} {i : Nat} (ho : Own w base eC 94 v l) (hbase : base ≤ w.heap.size) (hn : l.length ≤ 100000) (hi : i ≤ l.length) (hb : Blk w vb 94 #[.int .i64 x.1, .int .i64 (x.2 : Int)]) (hne : v.ownBlock ≠ some vb) :
    Calls Tryz.prog 80 #[v, .int .i64 (i : Int), .slice (some ⟨vb, 0, none⟩) 1 1] w (Put w base v (insP l i x)) := by
  rcases Nat.lt_or_ge i l.length with h | h
  · obtain ⟨A, c, hv, _, _, _, _⟩ := own_lst ho
    have ho2 := ho
    rcases ho.2 with ⟨_, h0⟩ | ⟨g, cap, cur, hv2, _⟩
    · omega
    · subst hv2
      have hvg : vb ≠ g := fun e => hne (by rw [e]; rfl)
      rcases Nat.lt_or_ge cap (l.length + 1) with hr | hr
      · exact insert_grow ho2 hbase hn h hr hb
      · exact insert_shift ho2 hn h hr hb hvg
  · obtain rfl : i = l.length := by omega
    exact insert_end ho hbase hn hb
end Go.Proofs.YtnjhhndggfjjdaaGreatDoor
