/- The document's table: Free. -/
import Derived.Test.YtnjhhndggfjjdaaGreatDoorJ17
import Derived.Test.YtnjhhndggfjjdaaGreatDoorJ21
import Derived.Test.YtnjhhndggfjjdaaGreatDoorJ19
set_option maxRecDepth 4000
namespace Go.Proofs.YtnjhhndggfjjdaaGreatDoor
open Go.RowKit
theorem holds_zero {l : Lk} (ok : Ok l) : (holdsP l).length = 0 ↔ l.1.length + l.2.length = 0 := by
  constructor
  · intro h
    have hw : whosP l = [] := List.eq_nil_of_length_eq_zero (by rw [whos_length, h])
    have h1 : l.1 = [] := List.eq_nil_iff_forall_not_mem.2 fun c hc => by
      have := (whos_mem ok c.1).2 (.inl (has_mem.2 (List.mem_map.2 ⟨c, hc, rfl⟩)))
      rw [hw] at this
      cases this
    have h2 : l.2 = [] := List.eq_nil_iff_forall_not_mem.2 fun c hc => by
      have := (whos_mem ok c.1).2 (.inr (has_mem.2 (List.mem_map.2 ⟨c, hc, rfl⟩)))
      rw [hw] at this
      cases this
    rw [h1, h2]
    rfl
  · intro h
    have h1 : l.1 = [] := List.eq_nil_of_length_eq_zero (by omega)
    have h2 : l.2 = [] := List.eq_nil_of_length_eq_zero (by omega)
    obtain ⟨H, L⟩ := l
    simp only at h1 h2
    subst h1 h2
    rfl
structure FT (w : World) (base b m : Nat) (rs : List Rw) (s : TS) (who : Int) (A : Option Addr) (c j jr : Nat) (R : List Int × TS) (rs' SL : List Rw) (G : List Int) (gv lv : Value) (wr : World) : Prop where
  tb : TB0 base b (.slice A m c) rs' wr
  len : rs'.length = m
  rest : rs'.drop jr = rs.drop jr
  sub : SL.Sublist (rs'.take j)
  out : Own wr w.heap.size eI 3 gv G
  left : Own wr w.heap.size eN 76 lv (SL.map Rw.at_)
  gl : G.length ≤ jr * 1000
  keep : TKeep base w wr
  old : ∀ g, (Value.slice A m c).ownBlock = some g → g < w.heap.size
  eq : freeN s who = (G ++ R.1, SL.map Rw.ent ++ R.2)
theorem FT.up {w wr : World} {base b m : Nat} {rs rs' SL : List Rw} {s : TS} {who : Int} {A : Option Addr} {c j jr : Nat} {R : List Int × TS} {G : List Int} {gv lv : Value} (f : FT w base b m rs s who A c j jr R rs' SL G gv lv wr) : FT w base b m rs s who A c j (jr + 1) R rs' SL G gv lv wr :=
  ⟨f.tb, f.len, by
    have := congrArg (List.drop 1) f.rest
    rwa [List.drop_drop, List.drop_drop] at this, f.sub, f.out, f.left, Nat.le_trans f.gl (Nat.mul_le_mul_right _ (Nat.le_succ _)), f.keep, f.old, f.eq⟩
theorem FT.turn {w wr W : World} {base b m : Nat} {rs rs' SL : List Rw} {s : TS} {who : Int} {A : Option Addr} {c j : Nat} {R : List Int × TS} {G : List Int} {gv lv : Value} (f : FT w base b m rs s who A c j j R rs' SL G gv lv wr) (hj : j < rs'.length) {l : Lk} (hl : RLk base (Oth (rs'.take j) (rs'.drop (j + 1))) rs'[j].q l W) (k : RKeep base (Oth (rs'.take j) (rs'.drop (j + 1))) rs'[j].q wr W) :
    ∃ rs2 x', FT w base b m rs s who A c j (j + 1) R rs2 SL G gv lv W ∧ rs2[j]? = some x' ∧ x'.n = rs'[j].n ∧ x'.q = rs'[j].q ∧ x'.l = l := by
  obtain ⟨x', h1, h2, h3, h4⟩ := TB0.turn (w := wr) (by rw [cut_at hj]; exact f.tb) hl k
  have hlen : (rs'.take j).length = j := by rw [List.length_take]; omega
  have hq := (f.tb.lk _ (List.getElem_mem hj)).2.two
  have hno : ∀ {i : Nat} {T : TypeId} {cs : Array Value}, wr.heap[i]? = some (.cells cs T (0, 0)) → T ≠ 73 → T ≠ 56 → W.heap[i]? = wr.heap[i]? := fun hi h1 h2 =>
    (k.block _ _ hi ⟨ne_of_types hq hi h1, .inr (.inr fun cur e => h2 (by injection e))⟩).trans hi.symm
  refine ⟨_, x', ⟨h4, ?_, ?_, ?_, own_keep f.out fun g hg => ?_, own_keep f.left fun g hg => ?_, Nat.le_trans f.gl (Nat.mul_le_mul_right _ (Nat.le_succ _)), f.keep.trans (Keep.mono (TB0.keep_at f.tb hj k) fun _ _ _ h => h), f.old, f.eq⟩, ?_, h1, h2, h3⟩
  · rw [List.length_append, List.length_cons, hlen, List.length_drop, f.len]
    have := f.len
    omega
  · rw [List.drop_append, List.drop_eq_nil_of_le (by rw [hlen]; omega), hlen, List.nil_append, show j + 1 - j = 1 by omega, List.drop_succ_cons, List.drop_zero]
    have := congrArg (List.drop 1) f.rest
    rwa [List.drop_drop, List.drop_drop] at this
  · rw [List.take_append_of_le_length (by rw [hlen]; exact Nat.le_refl _), List.take_of_length_le (by rw [hlen]; exact Nat.le_refl _)]
    exact f.sub
  · obtain ⟨_, _, cur, hc⟩ := own_blk f.out hg
    exact hno hc (by decide) (by decide)
  · obtain ⟨_, _, cur, hc⟩ := own_blk f.left hg
    exact hno hc (by decide) (by decide)
  · rw [List.getElem?_append_right (by rw [hlen]; exact Nat.le_refl _), hlen, Nat.sub_self]
    rfl
theorem FT.more {w wr W : World} {base b m : Nat} {rs rs' SL : List Rw} {s : TS} {who : Int} {A : Option Addr} {c j : Nat} {D r1 : List Int} {r2 : TS} {G : List Int} {gv lv v9 : Value} (f : FT w base b m rs s who A c j (j + 1) (D ++ r1, r2) rs' SL G gv lv wr) (hg : wr.grownBy W gv.ownBlock) (ho : Own W w.heap.size eI 3 v9 (G ++ D)) (hl : (G ++ D).length ≤ (j + 1) * 1000) :
    FT w base b m rs s who A c j (j + 1) (r1, r2) rs' SL (G ++ D) v9 lv W := by
  have hk : Keep (fun i _ => gv.ownBlock ≠ some i) wr W := (Keep.refl wr).grown hg fun g o e _ hk => hk e
  have hL : ∀ {i : Nat} {T : TypeId} {cs : Array Value}, wr.heap[i]? = some (.cells cs T (0, 0)) → T ≠ 3 → gv.ownBlock ≠ some i := fun hi hT e => by
    obtain ⟨_, _, cur, hc⟩ := own_blk f.out e
    exact ne_of_types (g := _) hc hi hT rfl
  refine ⟨⟨f.tb.blk.keep hk (hL f.tb.blk (by decide)), own_keep f.tb.own fun g hg' => ?_, fun r hr => (f.tb.lk r hr).kept hk (hL (f.tb.lk r hr).2.two (by decide)) fun g hg' o ho' => ?_, f.tb.far, f.tb.ge⟩, f.len, f.rest, f.sub, ho, own_keep f.left fun g hg' => ?_, hl, f.keep.grown hg fun g o e ho' _ => ?_, f.old, ?_⟩
  · obtain ⟨_, _, cur, hc⟩ := own_blk f.tb.own hg'
    exact (hk.block g _ hc (hL hc (by decide))).trans hc.symm
  · obtain ⟨_, _, cur, hc⟩ := (f.tb.lk r hr).row hg'
    exact hL hc (by decide)
  · obtain ⟨_, _, cur, hc⟩ := own_blk f.left hg'
    exact (hk.block g _ hc (hL hc (by decide))).trans hc.symm
  · have h1 := (own_blk f.out e).1
    have h2 := lt_of_some ho'
    omega
  · rw [f.eq]
    simp
theorem FT.skip {w wr : World} {base b m : Nat} {rs rs' SL : List Rw} {s : TS} {who : Int} {A : Option Addr} {c j jr : Nat} {R : List Int × TS} {G : List Int} {gv lv : Value} (f : FT w base b m rs s who A c j jr R rs' SL G gv lv wr) : FT w base b m rs s who A c (j + 1) jr R rs' SL G gv lv wr :=
  ⟨f.tb, f.len, f.rest, f.sub.trans (List.take_sublist_take_left (Nat.le_succ j)), f.out, f.left, f.gl, f.keep, f.old, f.eq⟩
theorem FT.below {w wr W : World} {base b m : Nat} {rs rs' SL : List Rw} {s : TS} {who : Int} {A : Option Addr} {c j jr : Nat} {R : List Int × TS} {G : List Int} {gv lv : Value} (f : FT w base b m rs s who A c j jr R rs' SL G gv lv wr) (k : Below wr.heap.size wr W) : FT w base b m rs s who A c j jr R rs' SL G gv lv W :=
  ⟨f.tb.below k, f.len, f.rest, f.sub, own_belowE f.out k, own_belowE f.left k, f.gl, f.keep.trans (Keep.of_below k), f.old, f.eq⟩
theorem FT.stay {w wr W : World} {base b m : Nat} {rs rs' SL : List Rw} {s : TS} {who : Int} {A : Option Addr} {c j jr : Nat} {r1 : List Int} {r2 : TS} {G : List Int} {gv lv v8 : Value} {x : Rw} (f : FT w base b m rs s who A c j jr (r1, x.ent :: r2) rs' SL G gv lv wr) (hg : wr.grownBy W lv.ownBlock) (ho : Own W w.heap.size eN 76 v8 (SL.map Rw.at_ ++ [(x.n, x.q)])) (hj : j < rs'.length) (hx : rs'[j] = x) :
    FT w base b m rs s who A c (j + 1) jr (r1, r2) rs' (SL ++ [x]) G gv v8 W := by
  have hk : Keep (fun i _ => lv.ownBlock ≠ some i) wr W := (Keep.refl wr).grown hg fun g o e _ hk => hk e
  have hL : ∀ {i : Nat} {T : TypeId} {cs : Array Value}, wr.heap[i]? = some (.cells cs T (0, 0)) → T ≠ 76 → lv.ownBlock ≠ some i := fun hi hT e => by
    obtain ⟨_, _, cur, hc⟩ := own_blk f.left e
    exact ne_of_types (g := _) hc hi hT rfl
  refine ⟨⟨f.tb.blk.keep hk (hL f.tb.blk (by decide)), own_keep f.tb.own fun g hg' => ?_, fun r hr => (f.tb.lk r hr).kept hk (hL (f.tb.lk r hr).2.two (by decide)) fun g hg' o ho' => ?_, f.tb.far, f.tb.ge⟩, f.len, f.rest, ?_, own_keep f.out fun g hg' => ?_, ?_, f.gl, f.keep.grown hg fun g o e ho' _ => ?_, f.old, ?_⟩
  · obtain ⟨_, _, cur, hc⟩ := own_blk f.tb.own hg'
    exact (hk.block g _ hc fun e => by
      have h1 := (own_blk f.left e).1
      have h2 := f.old g hg'
      omega).trans hc.symm
  · obtain ⟨_, _, cur, hc⟩ := (f.tb.lk r hr).row hg'
    exact hL hc (by decide)
  · rw [List.take_succ_eq_append_getElem hj, hx]
    exact f.sub.append (List.Sublist.refl _)
  · obtain ⟨_, _, cur, hc⟩ := own_blk f.out hg'
    exact (hk.block g _ hc (hL hc (by decide))).trans hc.symm
  · rw [List.map_append]
    exact ho
  · have h1 := (own_blk f.left e).1
    have h2 := lt_of_some ho'
    omega
  · rw [f.eq]
    simp
def FrT (w : World) (base b m : Nat) (rs : List Rw) (s : TS) (who : Int) (A : Option Addr) (c k : Nat) (u5 u6 i : Value) (wr : World) : Prop :=
  ∃ j rs' SL G, j + k = m ∧ i = .int .i64 (j : Int) ∧ FT w base b m rs s who A c j j (freeN (s.drop j) who) rs' SL G u5 u6 wr
set_option maxHeartbeats 4000000 in
theorem rtfree_ {w : World} {base b : Nat} {s : TS} (h : TB base b s w) (hbase : base ≤ w.heap.size) (hi : TInv s) (hc : countP s ≤ 1000) (who : Int) (hsm : ∀ {rs : List Rw}, rs.map Rw.ent = s → SmallR rs) :
    Calls Tryz.prog 11 #[.pointer (some ⟨b, 0, none⟩), .int .i64 who] w fun e w' => ∃ v, e = .returned v ∧ Own w' w.heap.size eI 3 v (freeN s who).1 ∧ TB base b (freeN s who).2 w' ∧ TKeep base w w' := by
  obtain ⟨v, rs, h, e⟩ := h
  have hs := hsm e
  obtain ⟨A, c, rfl, hcc, hcm⟩ := h.see
  unfold maxLen at hcm
  obtain ⟨m, hm⟩ : ∃ m, rs.length = m := ⟨_, rfl⟩
  have hlen := hs.len
  rw [hm] at h hcc hlen
  have h0 : FT w base b m rs s who A c 0 0 (freeN (s.drop 0) who) rs [] [] (.slice none 0 0) (.slice none 0 0) w := ⟨h, hm, rfl, List.nil_sublist _, own_nil _ _, own_nil _ _, Nat.le_refl _, Keep.refl _, fun g hg => (own_blk h.own hg).2.1, rfl⟩
  have H0 := Lib.hid h0
  have HM := Lib.hid hm
  have HS := Lib.hid hs
  have HI := Lib.hid hi
  have HE := Lib.hid e
  have HBLK := Lib.hid h.blk
  have HGE := Lib.hid h.ge
  clear h h0 hm hs hi e
  go_enter Tryz.func11, Tryz.ntmps11
  go_wp2_with fail
  go_loopg [5, 6, 7] m (fun k u5 u6 i wr => FrT w base b m rs s who A c k u5 u6 i wr)
  case atStart => exact ⟨0, rs, [], [], by omega, rfl, H0.out⟩
  case round =>
    obtain ⟨j, rs', SL, G, hj, rfl, f⟩ := hrel
    obtain ⟨AG, nG, cG, eG⟩ := own_form f.out
    obtain ⟨AL, nL, cL, eL⟩ := own_form f.left
    subst eG eL
    have F := Lib.hid f
    have HJ := Lib.hid hj
    have p0 := f.tb.blk.cell 0
    have hbs := f.tb.blk.lt
    have f0 := Blk.frozen f.tb.blk 0
    clear f hj
    by_cases hlt : j < m
    · have hx : j < rs.length := by rw [HM.out]; exact hlt
      have hx' : j < rs'.length := by rw [F.out.len]; exact hlt
      have hr : rs'[j] = rs[j] := by
        have := congrArg (fun l => l[0]?) F.out.rest
        simp only [List.getElem?_drop, Nat.add_zero] at this
        rw [List.getElem?_eq_getElem hx', List.getElem?_eq_getElem hx] at this
        injection this
      obtain ⟨g, o, hA, d0, d1, d2, d3⟩ := F.out.tb.row (Below.refl _ wr) hx'
      have hok := F.out.tb.lk _ (List.getElem_mem hx')
      have hOk := HS.out.ok _ (List.getElem_mem hx)
      have hsz := HS.out.sm _ (List.getElem_mem hx)
      rw [← hr] at hOk hsz
      have hjs : j < s.length := by rw [← HE.out, List.length_map]; exact hx
      have hsj : s[j] = rs'[j].ent := by
        have h1 : s[j]? = some rs[j].ent := by rw [← HE.out, List.getElem?_map, List.getElem?_eq_getElem hx]; rfl
        rw [List.getElem?_eq_getElem hjs] at h1
        injection h1 with h1
        rw [h1, hr]
      have hhere : hereP rs'[j].l who = (hasP rs'[j].l.1 who || hasP rs'[j].l.2 who) := by
        rw [Bool.eq_iff_iff, here_mem, whos_mem hOk]
        simp
      have he := F.out.eq
      obtain ⟨AH, cH, AL2, cL2, h2r, hH, hL⟩ := hok.rows
      have r0 := h2r.c0
      have r1 := h2r.c1
      have hfH := rfind_ (c := cH) hH (List.length_map _) (Nat.le_trans hsz.1 (by omega)) who
      have hfL := fun W (k : Below wr.heap.size wr W) => rfind_ (c := cL2) (hL.below k) (List.length_map _) (Nat.le_trans hsz.2 (by omega)) who
      rw [idx_hd] at hfH
      simp only [idx_ln] at hfL
      have hbw := F.out.keep.size
      have HDR := Lib.hid fun W (k : Below wr.heap.size wr W) => rdrop_ (TB0.one_at (F.out.tb.below k) hx') (Nat.le_trans hbase (Nat.le_trans hbw k.size)) hOk hsz.1 hsz.2 who
      have HFH := Lib.hid hfH
      have HFL := Lib.hid hfL
      have HHERE := Lib.hid hhere
      have HSJ := Lib.hid hsj
      have HEQ := Lib.hid he
      have HR := Lib.hid hr
      subst hA
      clear hr hfH hfL hhere hsj he hH hL hok
      rcases idx_has rs'[j].l.1 who with ⟨h1, i1⟩ | ⟨h1, k1, i1⟩
      · rcases idx_has rs'[j].l.2 who with ⟨h2, i2⟩ | ⟨h2, k2, i2⟩
        · have hno : hereP s[j].2 who = false := by rw [HSJ.out]; show hereP rs'[j].l who = false; rw [HHERE.out, h1, h2]; rfl
          have hne := HI.out.some _ (List.getElem_mem hjs)
          have hfo := free_out hjs hno
          generalize hx9 : rs'[j] = x at *
          have HX9 := Lib.hid hx9
          clear hx9
          rw [i1] at HFH
          rw [i2] at HFL
          go_wp2_with fail
          refine HFH.out.mono ?_
          rintro e w2 ⟨rfl, hb2⟩
          have r1b := (cell_of_heap (hb2.block x.q (block_of_cell r1)) _).trans r1
          have HB2 := Lib.hid hb2
          clear hb2
          go_wp2_with fail
          refine (HFL.out _ HB2.out).mono ?_
          rintro e w3 ⟨rfl, hb3⟩
          have B3 := HB2.out.trans (hb3.mono HB2.out.size)
          have HB3 := Lib.hid B3
          have q0 := (cell_of_heap (B3.block _ (block_of_cell p0)) _).trans p0
          have e0 := (cell_of_heap (B3.block _ (block_of_cell d0)) _).trans d0
          have e1 := (cell_of_heap (B3.block _ (block_of_cell d1)) _).trans d1
          have e2 := (cell_of_heap (B3.block _ (block_of_cell d2)) _).trans d2
          have e3 := (cell_of_heap (B3.block _ (block_of_cell d3)) _).trans d3
          have s0 := (cell_of_heap (B3.block _ (block_of_cell r0)) _).trans r0
          have s1 := (cell_of_heap (B3.block _ (block_of_cell r1)) _).trans r1
          have hps : 0 < x.l.1.length + x.l.2.length := by
            rcases Nat.eq_zero_or_pos (x.l.1.length + x.l.2.length) with h | h
            · exact absurd ((holds_zero hOk).2 h) (by rw [HSJ.out] at hne; exact hne)
            · exact h
          have hl1 := hsz.1
          have hl2 := hsz.2
          have HFO := Lib.hid hfo
          clear hb3 B3 hne hfo hno h1 h2 i1 i2 HDR
          generalize x.l.1.length = n1 at *
          generalize x.l.2.length = n2 at *
          have hpi : (0 : Int) < (n1 : Int) + (n2 : Int) := by omega
          go_wp2_with fail
          go_quiet (fail)
          have hb4 := below_drewN HB3.out nq
          have hb5 := hb4.trans ((alloc_below (w3.drewN nq) (.cells #[.int .i64 x.n.1, .string x.n.2.1, .string x.n.2.2, .pointer (some ⟨x.q, 0, none⟩)] 76)).mono hb4.size)
          have f5 := F.out.below hb5
          rw [HFO.out, HSJ.out] at f5
          have hsl := f5.sub.length_le
          rw [List.length_take] at hsl
          obtain ⟨v8, W8, hap, ho8, hg8, _⟩ := append_own tyN f5.left (m := 1) (show Lst ((w3.drewN nq).alloc (.cells #[.int .i64 x.n.1, .string x.n.2.1, .string x.n.2.2, .pointer (some ⟨x.q, 0, none⟩)] 76)) (fun i => w3.heap.size ≤ i) eN (some ⟨w3.heap.size, 0, none⟩) [(x.n, x.q)] from ent_one (w3.drewN nq) x.n x.q) rfl 1 (by rw [List.length_map]; omega) f5.keep.size
          have hst := FT.stay f5 hg8 ho8 hx' HX9.out
          have HST := Lib.hid hst
          have HAP := Lib.hid hap
          clear hb4 hb5 f5 hsl ho8 hg8 hst hap
          go_wp2_with (at_builtin; refine wpList_append_run rfl (.tmp 59) (.tmp 67) 27 27 rfl _ _ rfl rfl HAP.out ?_)
          go_roundg (m - (j + 1))
          case measure => have := HJ.out; omega
          case rel => exact ⟨j + 1, _, _, _, by have := HJ.out; omega, by go_num, HST.out.up⟩
        · rw [i1] at HFH
          rw [i2] at HFL
          have h20 : (0 : Int) ≤ (k2 : Int) := by omega
          go_wp2_with fail
          refine HFH.out.mono ?_
          rintro e w2 ⟨rfl, hb2⟩
          have r1b := (cell_of_heap (hb2.block rs'[j].q (block_of_cell r1)) _).trans r1
          have HB2 := Lib.hid hb2
          clear hb2
          go_wp2_with fail
          refine (HFL.out _ HB2.out).mono ?_
          rintro e w3 ⟨rfl, hb3⟩
          have HBX := Lib.hid (HB2.out.trans (hb3.mono HB2.out.size))
          clear hb3 r1b HB2 HFH HFL i1 i2
          go_wp2_with fail
          have hyes : hereP s[j].2 who = true := by rw [HSJ.out]; show hereP rs'[j].l who = true; rw [HHERE.out]; rw [h2]; simp
          have hfi := free_in hjs hyes
          have hdl := drop_length rs'[j].l who
          have hokd := ok_drop hOk who
          refine (HDR.out _ HBX.out).mono ?_
          rintro e w5 ⟨v5, rfl, ho5, hl5, hk5⟩
          have f4 := F.out.below HBX.out
          obtain ⟨rs2, x', f5, hx2, hn2, hq2, hl2⟩ := FT.turn f4 hx' hl5 hk5
          have hent : s[j].1 = x'.n := by rw [HSJ.out, hn2]; rfl
          rw [hfi, HSJ.out] at f5
          have hsl2 : (Rw.ent rs'[j]).2 = rs'[j].l := rfl
          have hsl1 : (Rw.ent rs'[j]).1 = x'.n := hn2.symm
          rw [hsl2, hsl1, ← hl2] at f5
          rw [← hl2] at hokd hdl
          obtain ⟨A5, c5, rfl, hl5', _, _, _⟩ := own_lst ho5
          have hgl := f4.gl
          have hsm2 : rs'[j].l.2.length ≤ 1000 := by
            have h1 : (s[j].2).2.length ≤ countP s := (HI.out.small (List.getElem_mem hjs)).2
            rw [HSJ.out] at h1
            exact Nat.le_trans h1 hc
          have hbd : G.length + (dropP rs'[j].l who).1.length ≤ (j + 1) * 1000 := by
            have := hdl.2.2
            rw [Nat.add_mul]
            omega
          obtain ⟨v9, W9, hap, ho9, hg9, _⟩ := append_own tyI f5.out (m := (dropP rs'[j].l who).1.length) hl5' rfl c5 (Nat.le_trans hbd (Nat.le_trans (Nat.mul_le_mul_right _ (show j + 1 ≤ 1000 by omega)) (by omega))) f5.keep.size
          have f6 := FT.more f5 hg9 ho9 (by rw [List.length_append]; exact hbd)
          obtain ⟨A9, n9, c9, e9⟩ := own_form ho9
          subst e9
          obtain ⟨hj2, hx3⟩ := List.getElem?_eq_some_iff.1 hx2
          obtain ⟨g', o', hA', d0, d1, d2, d3⟩ := f6.tb.row (Below.refl _ W9) hj2
          rw [hx3] at d0 d1 d2 d3
          injection hA' with hA'
          injection hA' with eg eo _
          subst eg eo
          have p9 := f6.tb.blk.cell 0
          have hok9 := f6.tb.lk _ (List.getElem_mem hj2)
          rw [hx3] at hok9
          obtain ⟨AH9, cH9, AL9, cL9, h9r, _, _⟩ := hok9.rows
          have s0 := h9r.c0
          have s1 := h9r.c1
          have HF6 := Lib.hid f6
          have HAP := Lib.hid hap
          have HX3 := Lib.hid hx3
          have HQ2 := Lib.hid hq2
          have hz := holds_zero hokd
          rw [hq2] at d3 s0 s1
          have HZ := Lib.hid hz
          have hb1 := hdl.1
          have hb2 := hdl.2.1
          have hc1 := hsz.1
          have hc2 := hsz.2
          clear hfi hdl hokd ho5 hl5 hk5 f4 f5 hx2 hn2 hent hsl2 hsl1 hl5' hgl hsm2 hbd hap ho9 hg9 f6 hok9 h9r hz hx3 hyes hl2 hq2 hsz
          go_wp2_with (at_builtin; refine wpList_append_run rfl (.tmp 42) (.tmp 45) 39 39 rfl _ _ rfl rfl HAP.out ?_)
          rcases Nat.eq_zero_or_pos (x'.l.1.length + x'.l.2.length) with hz | hz
          · have f7 := HF6.out
            rw [if_pos (HZ.out.2 hz)] at f7
            have HST := Lib.hid f7.skip
            generalize x'.l.1.length = n1 at *
            generalize x'.l.2.length = n2 at *
            have hpi : ¬ (0 : Int) < (n1 : Int) + (n2 : Int) := by omega
            clear f7
            go_wp2_with fail
            go_quiet (fail)
            go_wp2_with fail
            go_roundg (m - (j + 1))
            case measure => have := HJ.out; omega
            case rel => exact ⟨j + 1, _, _, _, by have := HJ.out; omega, by go_num, HST.out.below (below_drewN (Below.refl _ _) nq)⟩
          · have f7 := HF6.out
            rw [if_neg (fun h => absurd (HZ.out.1 h) (by omega))] at f7
            have HST0 := Lib.hid f7
            generalize x'.l.1.length = n1 at *
            generalize x'.l.2.length = n2 at *
            have hpi : (0 : Int) < (n1 : Int) + (n2 : Int) := by omega
            clear f7
            go_wp2_with fail
            go_quiet (fail)
            have hb4 := below_drewN (Below.refl W9.heap.size W9) nq
            have f8 := HST0.out.below (hb4.trans ((alloc_below (W9.drewN nq) (.cells #[.int .i64 x'.n.1, .string x'.n.2.1, .string x'.n.2.2, .pointer (some ⟨rs'[j].q, 0, none⟩)] 76)).mono hb4.size))
            have hsl := f8.sub.length_le
            rw [List.length_take] at hsl
            obtain ⟨v8, W8, hap8, ho8, hg8, _⟩ := append_own tyN f8.left (m := 1) (show Lst ((W9.drewN nq).alloc (.cells #[.int .i64 x'.n.1, .string x'.n.2.1, .string x'.n.2.2, .pointer (some ⟨rs'[j].q, 0, none⟩)] 76)) (fun i => W9.heap.size ≤ i) eN (some ⟨W9.heap.size, 0, none⟩) [(x'.n, rs'[j].q)] from ent_one (W9.drewN nq) x'.n rs'[j].q) rfl 1 (by rw [List.length_map]; omega) f8.keep.size
            have hst := FT.stay f8 hg8 (by rw [HQ2.out]; exact ho8) hj2 HX3.out
            have HST := Lib.hid hst
            have HAP8 := Lib.hid hap8
            clear hb4 f8 hsl ho8 hg8 hst hap8
            go_wp2_with (at_builtin; refine wpList_append_run rfl (.tmp 59) (.tmp 67) 27 27 rfl _ _ rfl rfl HAP8.out ?_)
            go_roundg (m - (j + 1))
            case measure => have := HJ.out; omega
            case rel => exact ⟨j + 1, _, _, _, by have := HJ.out; omega, by go_num, HST.out⟩
      · rw [i1] at HFH
        have h20 : (0 : Int) ≤ (k1 : Int) := by omega
        go_wp2_with fail
        refine HFH.out.mono ?_
        rintro e w2 ⟨rfl, hb2⟩
        have HBX := Lib.hid hb2
        clear hb2 HFH HFL i1
        go_wp2_with fail
        have hyes : hereP s[j].2 who = true := by rw [HSJ.out]; show hereP rs'[j].l who = true; rw [HHERE.out]; rw [h1]; simp
        have hfi := free_in hjs hyes
        have hdl := drop_length rs'[j].l who
        have hokd := ok_drop hOk who
        refine (HDR.out _ HBX.out).mono ?_
        rintro e w5 ⟨v5, rfl, ho5, hl5, hk5⟩
        have f4 := F.out.below HBX.out
        obtain ⟨rs2, x', f5, hx2, hn2, hq2, hl2⟩ := FT.turn f4 hx' hl5 hk5
        have hent : s[j].1 = x'.n := by rw [HSJ.out, hn2]; rfl
        rw [hfi, HSJ.out] at f5
        have hsl2 : (Rw.ent rs'[j]).2 = rs'[j].l := rfl
        have hsl1 : (Rw.ent rs'[j]).1 = x'.n := hn2.symm
        rw [hsl2, hsl1, ← hl2] at f5
        rw [← hl2] at hokd hdl
        obtain ⟨A5, c5, rfl, hl5', _, _, _⟩ := own_lst ho5
        have hgl := f4.gl
        have hsm2 : rs'[j].l.2.length ≤ 1000 := by
          have h1 : (s[j].2).2.length ≤ countP s := (HI.out.small (List.getElem_mem hjs)).2
          rw [HSJ.out] at h1
          exact Nat.le_trans h1 hc
        have hbd : G.length + (dropP rs'[j].l who).1.length ≤ (j + 1) * 1000 := by
          have := hdl.2.2
          rw [Nat.add_mul]
          omega
        obtain ⟨v9, W9, hap, ho9, hg9, _⟩ := append_own tyI f5.out (m := (dropP rs'[j].l who).1.length) hl5' rfl c5 (Nat.le_trans hbd (Nat.le_trans (Nat.mul_le_mul_right _ (show j + 1 ≤ 1000 by omega)) (by omega))) f5.keep.size
        have f6 := FT.more f5 hg9 ho9 (by rw [List.length_append]; exact hbd)
        obtain ⟨A9, n9, c9, e9⟩ := own_form ho9
        subst e9
        obtain ⟨hj2, hx3⟩ := List.getElem?_eq_some_iff.1 hx2
        obtain ⟨g', o', hA', d0, d1, d2, d3⟩ := f6.tb.row (Below.refl _ W9) hj2
        rw [hx3] at d0 d1 d2 d3
        injection hA' with hA'
        injection hA' with eg eo _
        subst eg eo
        have p9 := f6.tb.blk.cell 0
        have hok9 := f6.tb.lk _ (List.getElem_mem hj2)
        rw [hx3] at hok9
        obtain ⟨AH9, cH9, AL9, cL9, h9r, _, _⟩ := hok9.rows
        have s0 := h9r.c0
        have s1 := h9r.c1
        have HF6 := Lib.hid f6
        have HAP := Lib.hid hap
        have HX3 := Lib.hid hx3
        have HQ2 := Lib.hid hq2
        have hz := holds_zero hokd
        rw [hq2] at d3 s0 s1
        have HZ := Lib.hid hz
        have hb1 := hdl.1
        have hb2 := hdl.2.1
        have hc1 := hsz.1
        have hc2 := hsz.2
        clear hfi hdl hokd ho5 hl5 hk5 f4 f5 hx2 hn2 hent hsl2 hsl1 hl5' hgl hsm2 hbd hap ho9 hg9 f6 hok9 h9r hz hx3 hyes hl2 hq2 hsz
        go_wp2_with (at_builtin; refine wpList_append_run rfl (.tmp 42) (.tmp 45) 39 39 rfl _ _ rfl rfl HAP.out ?_)
        rcases Nat.eq_zero_or_pos (x'.l.1.length + x'.l.2.length) with hz | hz
        · have f7 := HF6.out
          rw [if_pos (HZ.out.2 hz)] at f7
          have HST := Lib.hid f7.skip
          generalize x'.l.1.length = n1 at *
          generalize x'.l.2.length = n2 at *
          have hpi : ¬ (0 : Int) < (n1 : Int) + (n2 : Int) := by omega
          clear f7
          go_wp2_with fail
          go_quiet (fail)
          go_wp2_with fail
          go_roundg (m - (j + 1))
          case measure => have := HJ.out; omega
          case rel => exact ⟨j + 1, _, _, _, by have := HJ.out; omega, by go_num, HST.out.below (below_drewN (Below.refl _ _) nq)⟩
        · have f7 := HF6.out
          rw [if_neg (fun h => absurd (HZ.out.1 h) (by omega))] at f7
          have HST0 := Lib.hid f7
          generalize x'.l.1.length = n1 at *
          generalize x'.l.2.length = n2 at *
          have hpi : (0 : Int) < (n1 : Int) + (n2 : Int) := by omega
          clear f7
          go_wp2_with fail
          go_quiet (fail)
          have hb4 := below_drewN (Below.refl W9.heap.size W9) nq
          have f8 := HST0.out.below (hb4.trans ((alloc_below (W9.drewN nq) (.cells #[.int .i64 x'.n.1, .string x'.n.2.1, .string x'.n.2.2, .pointer (some ⟨rs'[j].q, 0, none⟩)] 76)).mono hb4.size))
          have hsl := f8.sub.length_le
          rw [List.length_take] at hsl
          obtain ⟨v8, W8, hap8, ho8, hg8, _⟩ := append_own tyN f8.left (m := 1) (show Lst ((W9.drewN nq).alloc (.cells #[.int .i64 x'.n.1, .string x'.n.2.1, .string x'.n.2.2, .pointer (some ⟨rs'[j].q, 0, none⟩)] 76)) (fun i => W9.heap.size ≤ i) eN (some ⟨W9.heap.size, 0, none⟩) [(x'.n, rs'[j].q)] from ent_one (W9.drewN nq) x'.n rs'[j].q) rfl 1 (by rw [List.length_map]; omega) f8.keep.size
          have hst := FT.stay f8 hg8 (by rw [HQ2.out]; exact ho8) hj2 HX3.out
          have HST := Lib.hid hst
          have HAP8 := Lib.hid hap8
          clear hb4 f8 hsl ho8 hg8 hst hap8
          go_wp2_with (at_builtin; refine wpList_append_run rfl (.tmp 59) (.tmp 67) 27 27 rfl _ _ rfl rfl HAP8.out ?_)
          go_roundg (m - (j + 1))
          case measure => have := HJ.out; omega
          case rel => exact ⟨j + 1, _, _, _, by have := HJ.out; omega, by go_num, HST.out⟩
    · obtain rfl : j = m := by have := HJ.out; omega
      have he := F.out.eq
      rw [List.drop_eq_nil_of_le (by rw [← HE.out, List.length_map, HM.out]; exact Nat.le_refl _)] at he
      simp only [freeN, List.append_nil] at he
      have HEQ := Lib.hid he
      have ht : TB0 base b (.slice AL nL cL) SL (wr.setCell ⟨b, 0, none⟩ (.slice AL nL cL)) := by
        have f := F.out
        have hks : Keep (fun i _ => i ≠ b) wr (wr.setCell ⟨b, 0, none⟩ (.slice AL nL cL)) := (Keep.refl wr).setCell (fun _ _ h => h rfl) _
        have hsub : SL.Sublist rs' := f.sub.trans (List.take_sublist _ _)
        refine ⟨Blk.set_ f.tb.blk 0 (.slice AL nL cL), own_base (own_keep f.left fun g hg => Below.heap_setCell wr ⟨b, 0, none⟩ _ g fun e => ?_) hbase, fun r hr => ?_, f.tb.far.sublist hsub, f.tb.ge⟩
        · subst e
          obtain ⟨_, _, cur, hc⟩ := own_blk f.left hg
          exact ne_of_types f.tb.blk hc (by decide) rfl
        · have hok := f.tb.lk r (hsub.subset hr)
          refine hok.kept hks (ne_of_types f.tb.blk hok.2.two (by decide)) fun g hg o ho => ?_
          obtain ⟨_, _, cur, hc⟩ := hok.row hg
          exact ne_of_types f.tb.blk hc (by decide)
      have hk : TKeep base w (wr.setCell ⟨b, 0, none⟩ (.slice AL nL cL)) := F.out.keep.setCell (p := ⟨b, 0, none⟩) (fun o ho hk => by
        rcases hk with hk | hk
        · have := HGE.out
          simp only at hk
          omega
        · exact hk.1 _ (by have := HBLK.out.symm.trans ho; injection this with this; exact this.symm)) _
      have ho : Own (wr.setCell ⟨b, 0, none⟩ (.slice AL nL cL)) w.heap.size eI 3 (.slice AG nG cG) G := own_keep F.out.out fun g hg => Below.heap_setCell wr ⟨b, 0, none⟩ _ g fun e => by
        subst e
        obtain ⟨_, _, cur, hc⟩ := own_blk F.out.out hg
        exact ne_of_types F.out.tb.blk hc (by decide) rfl
      have HT := Lib.hid ht
      have HK := Lib.hid hk
      have HO := Lib.hid ho
      clear he ht hk ho
      go_wp2_with fail
      go_ret
      exact ⟨.slice AG nG cG, rfl, by rw [HEQ.out]; exact HO.out, ⟨_, SL, HT.out, by rw [HEQ.out]⟩, HK.out⟩
end Go.Proofs.YtnjhhndggfjjdaaGreatDoor
