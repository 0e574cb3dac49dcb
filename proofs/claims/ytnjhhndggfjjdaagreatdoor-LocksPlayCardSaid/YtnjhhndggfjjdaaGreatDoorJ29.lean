/- The document's table: Ask. Plain facts: the lock of a name behind a change of that one, or of another one; a name that is new. The document's comparison of two rows of edges. The document's comparison of two rows of numbers. What the law on any row of calls of tables carries: two tables of package locks and the document's one. -/
import Derived.Test.YtnjhhndggfjjdaaGreatDoorJ28
import Derived.Test.YtnjhhndggfjjdaaGreatDoorJ23
import Derived.BigQuiet
import Derived.Laws.StructEq
import Derived.ChangeKeysEq
import Derived.Deep.QuietTactic
import Derived.Test.YtnjhhndggfjjdaaGreatDoorJ02
import Derived.Test.YtnjhhndggfjjdaaGreatDoorJ24
set_option maxRecDepth 4000
namespace Go.Proofs.YtnjhhndggfjjdaaGreatDoor
open Go.RowKit
set_option maxHeartbeats 4000000 in
theorem rtask_ {w : World} {base b : Nat} {s : TS} (h : TB base b s w) (hbase : base ≤ w.heap.size) (hi : TInv s) (hc : countP s ≤ 1000) (who : Int) (n : Nm) (mode : Int) (hsz : ∀ e ∈ s, e.1.2.1.size ≤ maxLen ∧ e.1.2.2.size ≤ maxLen) :
    Calls Tryz.prog 8 #[.pointer (some ⟨b, 0, none⟩), .int .i64 who, valN n, .int .i64 mode] w fun e w' => e = .returned (.int .i64 ((askN s who n mode).1 : Int)) ∧ TB base b (askN s who n mode).2 w' ∧ TKeep base w w' := by
  by_cases hcase : ¬ n.1 < 0 ∧ ¬ 2 < n.1 ∧ waitN s who = none ∧ mode ≠ 0 ∧ (∀ e ∈ s, e.1 ≠ plainN n) ∧ ¬ 200 ≤ countP s
  · exact rtask_new h hbase hi hc who n mode hsz hcase.1 hcase.2.1 hcase.2.2.1 hcase.2.2.2.1 hcase.2.2.2.2.1 hcase.2.2.2.2.2
  have HCASE := Lib.hid hcase
  clear hcase
  obtain ⟨v, rs, h, e⟩ := h
  have hs := small_of e hi hc
  have hwt := wait_ent rs who
  rw [e] at hwt
  have hal := alloc_below w (.cells #[.int .i64 n.1, .string n.2.1, .string n.2.2] 31)
  have hB := Blk.new w 31 #[.int .i64 n.1, .string n.2.1, .string n.2.2]
  have hkp := known_plain n
  have n0 := hB.cell 0
  have H := Lib.hid h
  have HAL := Lib.hid hal
  have HB := Lib.hid hB
  have HS := Lib.hid hs
  have HI := Lib.hid hi
  have HWT := Lib.hid hwt
  have HKP := Lib.hid hkp
  have HE := Lib.hid e
  clear h hal hB hs hi hwt hkp e
  by_cases hk1 : n.1 < 0
  · have hask : askN s who n mode = (1, s) := by unfold askN; rw [HKP.out, if_pos (.inl hk1)]
    rw [hask]
    unfold valN
    go_enter Tryz.func8, Tryz.ntmps8
    go_wp2_with fail
    go_ret
    exact ⟨rfl, ⟨v, rs, H.out.below HAL.out, HE.out⟩, Keep.of_below HAL.out⟩
  by_cases hk2 : 2 < n.1
  · have hask : askN s who n mode = (1, s) := by unfold askN; rw [HKP.out, if_pos (.inr hk2)]
    rw [hask]
    unfold valN
    go_enter Tryz.func8, Tryz.ntmps8
    go_wp2_with fail
    go_ret
    exact ⟨rfl, ⟨v, rs, H.out.below HAL.out, HE.out⟩, Keep.of_below HAL.out⟩
  have hkn : knownP n = some (plainN n) := by rw [HKP.out, if_neg (by rintro (h | h) <;> omega)]
  have HW1 := Lib.hid (rtwaiting_ (H.out.below HAL.out) HS.out.len (fun r hr => (HS.out.sm r hr).2) who)
  rw [← HWT.out] at HW1
  have HKN := Lib.hid hkn
  clear hkn
  unfold valN at *
  go_enter Tryz.func8, Tryz.ntmps8
  go_wp2_with fail
  refine HW1.out.mono ?_
  rintro e w1 ⟨rfl, hb1⟩
  have hB1 := HB.out.below hb1 HB.out.lt
  have hx1 := HAL.out.trans (hb1.mono HAL.out.size)
  have hx2 := fun o => hx1.trans ((alloc_below w1 o).mono hx1.size)
  have HX2 := Lib.hid hx2
  have HB1 := Lib.hid hB1
  clear hb1 hB1 hx1 hx2
  rcases hwt : waitN s who with _ | wn
  rotate_left
  · have hask : askN s who n mode = (2, s) := ask_state HKN.out (by rw [hwt]; rfl)
    simp only [Option.getD_some, Option.isSome_some]
    go_wp2_with fail
    go_ret
    rw [hask]
    exact ⟨rfl, ⟨v, rs, H.out.below (HX2.out _), HE.out⟩, Keep.of_below (HX2.out _)⟩
  simp only [Option.getD_none, Option.isSome_none]
  unfold noB
  have B2 := HB1.out.alloc (.cells #[.int .i64 0, .string ⟨#[]⟩, .string ⟨#[]⟩] 31)
  have hx3 := HX2.out (.cells #[.int .i64 0, .string ⟨#[]⟩, .string ⟨#[]⟩] 31)
  have n0 := B2.cell 0
  have n1 := B2.cell 1
  have n2 := B2.cell 2
  have HB2 := Lib.hid B2
  have HX3 := Lib.hid hx3
  clear B2 hx3 HX2
  go_wp2_with fail
  generalize w1.alloc (.cells #[.int .i64 0, .string ⟨#[]⟩, .string ⟨#[]⟩] 31) = wA at *
  refine (rplain_ n _).mono ?_
  rintro e w2 ⟨rfl, hb2⟩
  have HB3 := Lib.hid (HB2.out.below hb2 HB2.out.lt)
  have hx4 := HX3.out.trans (hb2.mono HX3.out.size)
  clear hb2
  obtain ⟨m, hm⟩ : ∃ m, plainN n = m := ⟨_, rfl⟩
  rw [hm] at HKN HCASE ⊢
  obtain ⟨m1, m2, m3⟩ := m
  unfold valN
  simp only
  have q0 := HB3.out.cell 0
  have q1 := HB3.out.cell 1
  have q2 := HB3.out.cell 2
  have f0 := HB3.out.frozen 0
  have f1 := HB3.out.frozen 1
  have f2 := HB3.out.frozen 2
  have hres2 := blk_store3 (u := .int .i64 m1) (v := .string m2) (x := .string m3) HB3.out
  have r0 := hres2.cell 0
  have r1 := hres2.cell 1
  have r2 := hres2.cell 2
  have hx5 : Below w.heap.size w (((w2.setCell ⟨w.heap.size, 0, none⟩ (.int .i64 m1)).setCell ⟨w.heap.size, 1, none⟩ (.string m2)).setCell ⟨w.heap.size, 2, none⟩ (.string m3)) := by
    refine Keep.below (K := fun i _ => i < w.heap.size) (((Keep.setCell (Keep.setCell (Keep.setCell (Keep.of_below hx4) ?_ _) ?_ _) ?_ _))) (Nat.le_refl _) (fun _ _ h => h)
    all_goals (intro _ _ h; exact absurd h (Nat.lt_irrefl _))
  have HX5 := Lib.hid hx5
  clear hx4 hx5 hres2
  go_wp2_with fail
  generalize (((w2.setCell ⟨w.heap.size, 0, none⟩ (.int .i64 m1)).setCell ⟨w.heap.size, 1, none⟩ (.string m2)).setCell ⟨w.heap.size, 2, none⟩ (.string m3)) = wB at *
  refine (rat_ (H.out.below HX5.out) HS.out.len (m1, m2, m3)).mono ?_
  rintro e w3 ⟨rfl, hb3⟩
  have hx6 := HX5.out.trans (hb3.mono HX5.out.size)
  have HX6 := Lib.hid hx6
  have n0 := (cell_of_heap (hb3.block _ (block_of_cell r0)) _).trans r0
  have n1 := (cell_of_heap (hb3.block _ (block_of_cell r1)) _).trans r1
  have n2 := (cell_of_heap (hb3.block _ (block_of_cell r2)) _).trans r2
  clear hb3 hx6 r0 r1 r2
  by_cases hm0 : mode = 0
  · subst hm0
    have hask : askN s who n 0 = (0, s) := ask_nothing HKN.out (by rw [hwt]; rfl) rfl
    go_wp2_with (go_at_call 29; refine (mode_ _ _).mono ?_; rintro e w' ⟨rfl, rfl⟩)
    go_ret
    rw [hask]
    exact ⟨rfl, ⟨v, rs, H.out.below HX6.out, HE.out⟩, Keep.of_below HX6.out⟩
  have hmn : (mdN mode : Int) ≠ 0 := by have := md_ne hm0; omega
  have HCO := Lib.hid (rtcount_ (H.out.below HX6.out) HS.out)
  rw [← cntR_ent, HE.out] at HCO
  have hp0 := fun W (k : Below w3.heap.size w3 W) => ((H.out.below (HX6.out.trans (k.mono HX6.out.size))).blk.cell 0)
  rcases idx_cases (isNm (m1, m2, m3)) rs with ⟨hix, hany⟩ | ⟨hlt, hix, hany, hnm⟩
  · rw [hix]
    have hne : ∀ e ∈ s, e.1 ≠ (m1, m2, m3) := by
      rw [← HE.out]
      intro e he h2
      obtain ⟨r, hr, rfl⟩ := List.mem_map.1 he
      have := List.any_eq_false.1 hany r hr
      unfold isNm at this
      exact this (decide_eq_true h2)
    have hl := (spot_abs hne).2
    have ha := (spot_abs hne).1
    have hh : hereP (lockN s (m1, m2, m3)) who = false := by rw [here_held HI.out hwt, hl]; rfl
    by_cases hfull : 200 ≤ countP s
    · have hask : askN s who n mode = (10, s) := ask_full HKN.out (by rw [hwt]; rfl) hm0 hh hfull
      go_wp2_with (go_at_call 29; refine (mode_ _ _).mono ?_; rintro e w' ⟨rfl, rfl⟩)
      refine HCO.out.mono ?_
      rintro e w4 ⟨rfl, hb4⟩
      have HX7 := Lib.hid (HX6.out.trans (hb4.mono HX6.out.size))
      clear hb4
      have h200 : (200 : Int) ≤ (countP s : Int) := by omega
      go_wp2_with fail
      go_ret
      rw [hask]
      exact ⟨rfl, ⟨v, rs, H.out.below HX7.out, HE.out⟩, Keep.of_below HX7.out⟩
    · exact absurd ⟨hk1, hk2, hwt, hm0, hne, hfull⟩ HCASE.out
  · rw [hix]
    have hnm2 : rs[rs.findIdx (isNm (m1, m2, m3))].n = (m1, m2, m3) := of_decide_eq_true hnm
    generalize hjj : rs.findIdx (isNm (m1, m2, m3)) = j at *
    obtain ⟨hs1, hs2, hs3⟩ : spotN s (m1, m2, m3) = j ∧ atN s (m1, m2, m3) = true ∧ lockN s (m1, m2, m3) = rs[j].l := by
      have hi := HI.out
      rw [← HE.out] at hi ⊢
      have := spot_pres hi.rise (j := j) (m := (m1, m2, m3)) (by rw [List.length_map]; exact hlt) (by rw [List.getElem_map]; exact hnm2)
      rw [List.getElem_map] at this
      exact this
    have hh : hereP (lockN s (m1, m2, m3)) who = hasP rs[j].l.1 who := by rw [here_held HI.out hwt, hs3]
    have hmem := List.getElem_mem hlt
    have hszx := HS.out.sm _ hmem
    have hokx := HS.out.ok _ hmem
    have hask := fun hor => ask_asks HKN.out (s := s) (who := who) (mode := mode) (by rw [hwt]; rfl) hm0 (m := (m1, m2, m3)) hor
    have hfu := fun h1 h2 => ask_full HKN.out (s := s) (who := who) (mode := mode) (by rw [hwt]; rfl) hm0 (m := (m1, m2, m3)) h1 h2
    rw [hh, hs3] at hask
    rw [hh] at hfu
    have hput : ∀ l, putN s (m1, m2, m3) l = s.set j ((m1, m2, m3), l) := fun l => by unfold putN; rw [hs2, if_pos rfl, hs1]
    rw [hput] at hask
    have HASK := Lib.hid hask
    have HFU := Lib.hid hfu
    have HNM := Lib.hid hnm2
    clear hask hfu hput hh hs1 hs2 hs3 hany hix hnm hnm2 hp0
    obtain ⟨A, c, rfl, hcc, hcm⟩ := H.out.see
    unfold maxLen at hcm
    have hlen := HS.out.len
    have hjc : j < c := by omega
    obtain ⟨ln, hln⟩ : ∃ ln, rs.length = ln := ⟨_, rfl⟩
    rw [hln] at hcc H hlen
    have hjl : j < ln := by omega
    have hj0 : ¬ ((j : Int) < 0) := by omega
    have HLT := Lib.hid hlt
    clear hln
    have hfin : ∀ (W W' : World) (e : Ending), Below w.heap.size w W → (hasP rs[j].l.1 who = true ∨ countP s < 200) → (e = .returned (.bool (askP rs[j].l who (mdN mode)).1) ∧ RLk base (Oth (rs.take j) (rs.drop (j + 1))) rs[j].q (askP rs[j].l who (mdN mode)).2 W' ∧ RKeep base (Oth (rs.take j) (rs.drop (j + 1))) rs[j].q W W') → TB base b (askN s who n mode).2 W' ∧ TKeep base w W' ∧ (askN s who n mode).1 = if (askP rs[j].l who (mdN mode)).1 then 0 else 13 := fun W W' e hb hor ⟨_, hl, hk⟩ => by
      obtain ⟨rs', e2, h4⟩ := TB0.turn_at (H.out.below hb) HLT.out hl hk
      rw [HASK.out hor]
      refine ⟨⟨_, rs', h4, ?_⟩, (Keep.of_below hb).trans (Keep.mono (TB0.keep_at (H.out.below hb) HLT.out hk) fun _ _ _ h => h), rfl⟩
      show _ = List.set s j ((m1, m2, m3), _)
      rw [e2, HE.out, HNM.out]
      rfl
    have HFIN := Lib.hid hfin
    clear hfin
    by_cases h200 : 200 ≤ countP s
    · have h201 : (200 : Int) ≤ (countP s : Int) := by omega
      go_wp2_with (go_at_call 29; refine (mode_ _ _).mono ?_; rintro e w' ⟨rfl, rfl⟩)
      refine HCO.out.mono ?_
      rintro e w4 ⟨rfl, hb4⟩
      have HX7 := Lib.hid (HX6.out.trans (hb4.mono HX6.out.size))
      clear hb4
      obtain ⟨g, o, rfl, _, _, _, d3⟩ := H.out.row HX7.out HLT.out
      have hbs4 := (H.out.below HX7.out).blk.lt
      have p0 := (H.out.below HX7.out).blk.cell 0
      have hok := (H.out.lk _ (List.getElem_mem HLT.out)).below HX7.out
      have HRA := Lib.hid fun W (k : Below w4.heap.size w4 W) => rask_ (TB0.one_at (H.out.below (HX7.out.trans (k.mono HX7.out.size))) HLT.out) (Nat.le_trans hbase (HX7.out.trans (k.mono HX7.out.size)).size) hokx hszx.1 hszx.2 who mode
      obtain ⟨AH, cH, AL, cL, h2r, hH, hL⟩ := hok.rows
      have r0 := h2r.c0
      clear hok h2r hL
      generalize hx : rs[j] = x at *
      have hfi := rfind_ (c := cH) hH (List.length_map _) (Nat.le_trans hszx.1 (by omega)) who
      rw [idx_hd] at hfi
      rcases idx_has x.l.1 who with ⟨hno, hi2⟩ | ⟨hyes, k2, hi2⟩
      · rw [hi2] at hfi
        have hask := HFU.out hno h200
        have HFI := Lib.hid hfi
        clear hfi hno hi2
        go_wp2_with fail
        refine HFI.out.mono ?_
        rintro e w5 ⟨rfl, hb5⟩
        have HX8 := Lib.hid (HX7.out.trans (hb5.mono HX7.out.size))
        clear hb5
        go_wp2_with fail
        go_ret
        rw [hask]
        exact ⟨rfl, ⟨_, rs, H.out.below HX8.out, HE.out⟩, Keep.of_below HX8.out⟩
      · rw [hi2] at hfi
        have HFI := Lib.hid hfi
        have h20 : ¬ ((k2 : Int) < 0) := by omega
        clear hfi hi2
        go_wp2_with fail
        refine HFI.out.mono ?_
        rintro e w5 ⟨rfl, hb5⟩
        have HB5 := Lib.hid hb5
        have q0 := (cell_of_heap (hb5.block b hbs4) _).trans p0
        have e3 := (cell_of_heap (hb5.block g (block_of_cell d3)) _).trans d3
        clear hb5
        go_wp2_with fail
        refine (HRA.out _ HB5.out).mono ?_
        rintro e w6 ⟨rfl, hl6, hk6⟩
        have hf := HFIN.out _ w6 _ (HX7.out.trans ((HB5.out).mono HX7.out.size)) (.inl hyes) ⟨rfl, hl6, hk6⟩
        clear hl6 hk6
        obtain ⟨t1, t2, t3⟩ := hf
        have T1 := Lib.hid t1
        have T2 := Lib.hid t2
        have T3 := Lib.hid t3
        clear t1 t2 t3
        generalize (askP x.l who (mdN mode)).1 = za at *
        cases za
        · go_wp2_with fail
          go_ret
          exact ⟨by rw [T3.out]; rfl, T1.out, T2.out⟩
        · go_wp2_with fail
          go_ret
          exact ⟨by rw [T3.out]; rfl, T1.out, T2.out⟩
    · have h201 : ¬ (200 : Int) ≤ (countP s : Int) := by omega
      go_wp2_with (go_at_call 29; refine (mode_ _ _).mono ?_; rintro e w' ⟨rfl, rfl⟩)
      refine HCO.out.mono ?_
      rintro e w4 ⟨rfl, hb4⟩
      have HX7 := Lib.hid (HX6.out.trans (hb4.mono HX6.out.size))
      clear hb4
      obtain ⟨g, o, rfl, _, _, _, d3⟩ := H.out.row HX7.out HLT.out
      have hbs4 := (H.out.below HX7.out).blk.lt
      have p0 := (H.out.below HX7.out).blk.cell 0
      have hok := (H.out.lk _ (List.getElem_mem HLT.out)).below HX7.out
      have HRA := Lib.hid fun W (k : Below w4.heap.size w4 W) => rask_ (TB0.one_at (H.out.below (HX7.out.trans (k.mono HX7.out.size))) HLT.out) (Nat.le_trans hbase (HX7.out.trans (k.mono HX7.out.size)).size) hokx hszx.1 hszx.2 who mode
      obtain ⟨AH, cH, AL, cL, h2r, hH, hL⟩ := hok.rows
      have r0 := h2r.c0
      clear hok h2r hL
      generalize hx : rs[j] = x at *
      clear HFU hH
      go_wp2_with fail
      refine (HRA.out _ (Below.refl w4.heap.size w4)).mono ?_
      rintro e w6 ⟨rfl, hl6, hk6⟩
      have hf := HFIN.out _ w6 _ (HX7.out.trans (((Below.refl w4.heap.size w4)).mono HX7.out.size)) (.inr (by omega)) ⟨rfl, hl6, hk6⟩
      clear hl6 hk6
      obtain ⟨t1, t2, t3⟩ := hf
      have T1 := Lib.hid t1
      have T2 := Lib.hid t2
      have T3 := Lib.hid t3
      clear t1 t2 t3
      generalize (askP x.l who (mdN mode)).1 = za at *
      cases za
      · go_wp2_with fail
        go_ret
        exact ⟨by rw [T3.out]; rfl, T1.out, T2.out⟩
      · go_wp2_with fail
        go_ret
        exact ⟨by rw [T3.out]; rfl, T1.out, T2.out⟩
end Go.Proofs.YtnjhhndggfjjdaaGreatDoor
namespace Go.Proofs.YtnjhhndggfjjdaaGreatDoor
open Go
abbrev Rise (s : TS) : Prop := s.Pairwise fun a b => cmpN a.1 b.1 < 0
theorem rise_put {s : TS} (h : Rise s) (m : Nm) (l : Lk) : Rise (putN s m l) := by
  obtain ⟨pre, mid, post, e, hp, hb, ha, _⟩ := put_split h m
  have hr := h
  unfold Rise at hr
  rw [e, List.append_assoc, List.pairwise_append, List.pairwise_append] at hr
  unfold Rise
  rw [hp, List.pairwise_append, List.pairwise_cons]
  refine ⟨hr.1, ⟨fun x hx => ha x hx, hr.2.1.2.1⟩, fun x hx y hy => ?_⟩
  rcases List.mem_cons.1 hy with rfl | hy
  · exact hb x hx
  · exact hr.2.2 x hx y (by simp [hy])
theorem lock_of_mem {s : TS} (h : Rise s) {n : Nm} {l : Lk} (hm : (n, l) ∈ s) : lockN s n = l := by
  obtain ⟨i, hi, he⟩ := List.getElem_of_mem hm
  have h0 : cmpN (s[i]).1 n = 0 := by rw [he]; exact (cmpN_eq n n).2 rfl
  have hs : spotN s n = i := (List.findIdx_eq hi).2 ⟨by simp [h0], fun j hj => by
    have := rise_at h (show j < s.length by omega) hi hj
    rw [he] at this
    simpa using this⟩
  unfold lockN
  rw [hs, List.getElem?_eq_getElem hi]
  simp only
  rw [if_pos h0, he]
theorem lock_of_not {s : TS} {n : Nm} (h : ∀ e ∈ s, e.1 ≠ n) : lockN s n = ([], []) := by
  cases hat : atN s n
  · exact lock_not hat
  · exact absurd (at_name hat) (h _ (List.getElem_mem _))
theorem lock_put_same {s : TS} (h : Rise s) (m : Nm) (l : Lk) : lockN (putN s m l) m = l := by
  refine lock_of_mem (rise_put h m l) ?_
  obtain ⟨pre, mid, post, _, hp, _⟩ := put_split h m
  rw [hp]
  simp
theorem put_mem {s : TS} (h : Rise s) {m : Nm} {l : Lk} {e : Ent} (he : e ∈ putN s m l) : e = (m, l) ∨ (e ∈ s ∧ e.1 ≠ m) := by
  obtain ⟨pre, mid, post, es, hp, hb, ha, _⟩ := put_split h m
  rw [hp] at he
  simp only [List.mem_append, List.mem_cons] at he
  rcases he with h1 | h1 | h1
  · refine .inr ⟨by rw [es]; simp [h1], fun h2 => ?_⟩
    have := hb e h1
    rw [h2, (cmpN_eq m m).2 rfl] at this
    omega
  · exact .inl h1
  · refine .inr ⟨by rw [es]; simp [h1], fun h2 => ?_⟩
    have := ha e h1
    rw [h2, (cmpN_eq m m).2 rfl] at this
    omega
theorem mem_put {s : TS} (h : Rise s) {m : Nm} (l : Lk) {e : Ent} (he : e ∈ s) (hn : e.1 ≠ m) : e ∈ putN s m l := by
  obtain ⟨pre, mid, post, es, hp, _, _, hm⟩ := put_split h m
  rw [hp]
  have : e ∈ pre ++ mid ++ post := es ▸ he
  simp only [List.mem_append] at this
  simp only [List.mem_append, List.mem_cons]
  rcases this with (h1 | h1) | h1
  · exact .inl h1
  · rcases hm with ⟨rfl, _⟩ | ⟨rfl, _⟩
    · cases h1
    · obtain rfl : e = (m, lockN s m) := by simpa using h1
      exact absurd rfl hn
  · exact .inr (.inr h1)
theorem lock_put_other {s : TS} (h : Rise s) {m n : Nm} (l : Lk) (hn : n ≠ m) : lockN (putN s m l) n = lockN s n := by
  cases hat : atN s n
  · rw [lock_not hat]
    refine lock_of_not fun e he hne => ?_
    rcases put_mem h he with rfl | ⟨h1, _⟩
    · exact hn hne.symm
    · obtain ⟨i, hi, rfl⟩ := List.getElem_of_mem h1
      have h2 := lock_of_mem h (n := n) (l := (s[i]).2) (by rw [← hne]; exact h1)
      have h3 : atN s n = true := by
        have h0 : cmpN (s[i]).1 n = 0 := (cmpN_eq _ _).2 hne
        have hs : spotN s n = i := (List.findIdx_eq hi).2 ⟨by simp [h0], fun j hj => by
          have := rise_at h (show j < s.length by omega) hi hj
          rw [hne] at this
          simpa using this⟩
        unfold atN
        rw [hs, List.getElem?_eq_getElem hi]
        simpa using h0
      rw [hat] at h3
      cases h3
  · exact lock_of_mem (rise_put h m l) (mem_put h l (lock_mem hat) hn)
theorem waitN_of {s : TS} {who : Int} (h : ∀ e ∈ s, hasP e.2.2 who = false) : waitN s who = none := waitN_none fun _ hq => h _ (List.getElem_mem hq)
/-- nobody's lock asked -/
theorem ask_fresh (who : Int) {q : Nat} (h0 : 0 < q) (h6 : q < 6) : askP ([], []) who q = (true, ([(who, q)], [])) := by
  have hj : joinN 0 q = q := by
    have : ∀ q : Fin 6, joinN 0 q.1 = q.1 := by decide
    exact this ⟨q, h6⟩
  have hm : modeP [] who = 0 := rfl
  unfold askP
  simp only [hm]
  rw [if_neg (by omega), if_neg (by simp), if_neg (by rw [cov_zero h6]; simp; omega), hj, if_pos ⟨.inr (by simp), rfl⟩]
  rfl
/-- a table in which nobody waits -/
def Calm (s : TS) : Prop := ∀ e ∈ s, e.2.2 = []
theorem Calm.wait {s : TS} (h : Calm s) (who : Int) : waitN s who = none := waitN_of fun e he => by rw [h e he]; rfl
theorem Calm.put {s : TS} (h : Calm s) (hr : Rise s) (m : Nm) {l : Lk} (hl : l.2 = []) : Calm (putN s m l) := fun e he => by
  rcases put_mem hr he with rfl | ⟨h1, _⟩
  · exact hl
  · exact h e h1
theorem md_of {m : Int} (h1 : 1 ≤ m) (h5 : m ≤ 5) : 0 < mdN m ∧ mdN m < 6 ∧ (mdN m : Int) = m := by
  have := mdN_in (n := m) (by omega)
  omega
/-- a name that is new, asked for by somebody -/
theorem ask_new {s : TS} (hi : TInv s) (hc : Calm s) {n m : Nm} (hk : knownP n = some m) (hl : lockN s m = ([], [])) (h2 : countP s < 200) (who : Int) {mode : Int} (h1 : 1 ≤ mode) (h5 : mode ≤ 5) :
    askN s who n mode = (0, putN s m ([(who, mdN mode)], [])) ∧ countP (putN s m ([(who, mdN mode)], [])) = countP s + 1 := by
  obtain ⟨q0, q6, _⟩ := md_of h1 h5
  have hf := ask_fresh who q0 q6
  have hcp := count_put hi (m := m) (mode := mode) (by omega) (hc.wait who)
  rw [hl, hf] at hcp
  rw [ask_asks hk (by rw [hc.wait]; rfl) (by omega) (.inr h2), hl, hf]
  exact ⟨rfl, hcp⟩
theorem holds_plain (H : List Cl) : (holdsP (H, [])).length = H.length := by unfold holdsP; simp
theorem here_plain (H : List Cl) (x : Int) : hereP (H, []) x = hasP H x := by
  unfold hereP holdsP hasP
  simp only [List.filter_nil, List.map_nil, List.append_nil, List.any_map]
  rfl
theorem calm_one (m : Nm) (H : List Cl) : Calm [(m, (H, []))] := fun e he => by
  obtain rfl : e = _ := List.mem_singleton.1 he
  rfl
end Go.Proofs.YtnjhhndggfjjdaaGreatDoor
namespace Go.Proofs.YtnjhhndggfjjdaaGreatDoor
open Go.RowKit
theorem eqE (d : Nat) (a b a' b' : Int) (w : World) : (Op.equalIn (d + 2) 80 (.agg #[.int .i64 a, .int .i64 b]) (.agg #[.int .i64 a', .int .i64 b'])).run Tryz.prog w = .ok (a == a' && b == b') w := by
  have hu := Tryz.underlying80
  have hc : Tryz.prog.cellsOf 3 = 1 := by kernel_rfl
  obtain ⟨z, bb, hi0, _⟩ := tyI.info
  obtain ⟨i, hi, _⟩ := info_parts hi0
  rw [run_equalIn_array w (d + 1) _ _ hu hi, hc]
  simp [Op.eqItems, List.range_succ, go_sem]
  by_cases h1 : a = a'
  · by_cases h2 : b = b' <;> simp [h1, h2]
  · simp [h1]
def SameE (w : World) (xs ys : List (Int × Int)) (k : Nat) (i : Value) (wr : World) : Prop := ∃ j, j + k = xs.length ∧ i = .int .i64 (j : Int) ∧ (∀ q, q < j → xs[q]? = ys[q]?) ∧ Below w.heap.size w wr
set_option maxHeartbeats 1000000 in
theorem same_edges {w : World} {K K' : Nat → Prop} {A A' : Option Addr} {n n' c c' : Nat} {xs ys : List (Int × Int)} (h : Lst w K eE A xs) (hl : xs.length = n) (h' : Lst w K' eE A' ys) (hl' : ys.length = n') (hn : n ≤ 1000000) (hn' : n' ≤ 1000000) :
    Calls Tryz.prog 18 #[.slice A n c, .slice A' n' c'] w fun e w' => e = .returned (.bool (decide (xs = ys))) ∧ Below w.heap.size w w' := by
  by_cases hne : n = n'
  · subst hne
    have H := Lib.hid h
    have H' := Lib.hid h'
    have HL := Lib.hid hl
    have HL' := Lib.hid hl'
    clear h h' hl hl'
    have heq := fun d a b a' b' w => eqE d a b a' b' w
    go_enter Tryz.func18, Tryz.ntmps18
    go_wp2_with fail
    go_loopg [5] n (fun k i wr => SameE w xs ys k i wr)
    case atStart => exact ⟨0, by rw [HL.out]; omega, rfl, fun q hq => absurd hq (Nat.not_lt_zero q), Below.refl _ _⟩
    case round =>
      obtain ⟨j, hj, rfl, h1, hb⟩ := hrel
      have HB := Lib.hid hb
      clear hb
      have HJ := Lib.hid hj
      have H1 := Lib.hid h1
      clear hj h1
      by_cases hlt : j < n
      · have hx : j < xs.length := by rw [HL.out]; exact hlt
        have hy : j < ys.length := by rw [HL'.out]; exact hlt
        obtain ⟨g, o, rfl, _, d0, d1⟩ := (H.out.below HB.out).atE hx
        obtain ⟨g', o', rfl, _, e0, e1⟩ := (H'.out.below HB.out).atE hy
        by_cases he : xs[j] = ys[j]
        · have hnx : ∀ q, q < j + 1 → xs[q]? = ys[q]? := fun q hq => by
            rcases Nat.lt_or_ge q j with h5 | h5
            · exact H1.out q h5
            · obtain rfl : q = j := by omega
              rw [List.getElem?_eq_getElem hx, List.getElem?_eq_getElem hy, he]
          rw [he] at d0 d1
          have HN := Lib.hid hnx
          clear hnx he
          generalize ys[j].1 = a at *
          generalize ys[j].2 = a2 at *
          go_wp2_with fail
          go_quiet (fail)
          go_wp2_with fail
          go_roundg (n - (j + 1))
          case measure => have := HJ.out; have := HL.out; omega
          case rel => exact ⟨j + 1, by have := HL.out; omega, by go_num, HN.out, below_drewN HB.out _⟩
        · have hno : xs ≠ ys := fun e => he (by subst e; rfl)
          have hd : decide (xs = ys) = false := by simpa using hno
          have HD := Lib.hid hd
          have hcs : (xs[j].1 == ys[j].1 && xs[j].2 == ys[j].2) = false := by
            rw [Bool.eq_false_iff]
            intro h
            simp only [Bool.and_eq_true, beq_iff_eq] at h
            exact he (Prod.ext h.1 h.2)
          clear hno hd he
          generalize xs[j].1 = a at *
          generalize ys[j].1 = a' at *
          generalize xs[j].2 = b at *
          generalize ys[j].2 = b' at *
          go_wp2_with fail
          go_quiet (fail)
          go_wp2_with fail
          go_ret
          exact ⟨by rw [HD.out]; rfl, below_drewN HB.out _⟩
      · have he : j = n := by have := HJ.out; have := HL.out; omega
        have heq : xs = ys := by
          apply List.ext_getElem?
          intro q
          rcases Nat.lt_or_ge q n with h5 | h5
          · exact H1.out q (by omega)
          · rw [List.getElem?_eq_none (by rw [HL.out]; exact h5), List.getElem?_eq_none (by rw [HL'.out]; exact h5)]
        have hd : decide (xs = ys) = true := by simpa using heq
        have HD := Lib.hid hd
        clear heq hd he
        go_wp2_with fail
        go_ret
        exact ⟨by rw [HD.out]; rfl, HB.out⟩
  · have hno : xs ≠ ys := fun e => hne (by rw [← hl, ← hl', e])
    have hd : decide (xs = ys) = false := by simpa using hno
    have HD := Lib.hid hd
    have hz : ¬ ((n : Int) = (n' : Int)) := by omega
    clear h h' hl hl' hno hd
    go_enter Tryz.func18, Tryz.ntmps18
    go_wp2_with fail
    go_ret
    exact ⟨by rw [HD.out]; rfl, Below.refl _ _⟩
end Go.Proofs.YtnjhhndggfjjdaaGreatDoor
namespace Go.Proofs.YtnjhhndggfjjdaaGreatDoor
open Go.RowKit
def SameI (w : World) (xs ys : List Int) (k : Nat) (i : Value) (wr : World) : Prop := ∃ j, j + k = xs.length ∧ i = .int .i64 (j : Int) ∧ (∀ q, q < j → xs[q]? = ys[q]?) ∧ Below w.heap.size w wr
set_option maxHeartbeats 1000000 in
theorem same_ints {w : World} {K K' : Nat → Prop} {A A' : Option Addr} {n n' c c' : Nat} {xs ys : List Int} (h : Lst w K eI A xs) (hl : xs.length = n) (h' : Lst w K' eI A' ys) (hl' : ys.length = n') (hn : n ≤ 1000000) (hn' : n' ≤ 1000000) :
    Calls Tryz.prog 9 #[.slice A n c, .slice A' n' c'] w fun e w' => e = .returned (.bool (decide (xs = ys))) ∧ Below w.heap.size w w' := by
  by_cases hne : n = n'
  · subst hne
    have H := Lib.hid h
    have H' := Lib.hid h'
    have HL := Lib.hid hl
    have HL' := Lib.hid hl'
    clear h h' hl hl'
    go_enter Tryz.func9, Tryz.ntmps9
    go_wp2_with fail
    go_loopg [5] n (fun k i wr => SameI w xs ys k i wr)
    case atStart => exact ⟨0, by rw [HL.out]; omega, rfl, fun q hq => absurd hq (Nat.not_lt_zero q), Below.refl _ _⟩
    case round =>
      obtain ⟨j, hj, rfl, h1, hb⟩ := hrel
      have HB := Lib.hid hb
      clear hb
      have HJ := Lib.hid hj
      have H1 := Lib.hid h1
      clear hj h1
      by_cases hlt : j < n
      · have hx : j < xs.length := by rw [HL.out]; exact hlt
        have hy : j < ys.length := by rw [HL'.out]; exact hlt
        obtain ⟨g, o, rfl, _, d0⟩ := (H.out.below HB.out).atI hx
        obtain ⟨g', o', rfl, _, e0⟩ := (H'.out.below HB.out).atI hy
        by_cases he : xs[j] = ys[j]
        · have hnx : ∀ q, q < j + 1 → xs[q]? = ys[q]? := fun q hq => by
            rcases Nat.lt_or_ge q j with h5 | h5
            · exact H1.out q h5
            · obtain rfl : q = j := by omega
              rw [List.getElem?_eq_getElem hx, List.getElem?_eq_getElem hy, he]
          rw [he] at d0
          have HN := Lib.hid hnx
          clear hnx he
          generalize ys[j] = a at *
          have e1 : (a != a) = false := by simp
          go_wp2_with fail
          go_quiet (fail)
          go_wp2_with fail
          go_roundg (n - (j + 1))
          case measure => have := HJ.out; have := HL.out; omega
          case rel => exact ⟨j + 1, by have := HL.out; omega, by go_num, HN.out, below_drewN HB.out _⟩
        · have hno : xs ≠ ys := fun e => he (by subst e; rfl)
          have hd : decide (xs = ys) = false := by simpa using hno
          have HD := Lib.hid hd
          have hcs : (xs[j] != ys[j]) = true := by simpa using he
          clear hno hd he
          generalize xs[j] = a at *
          generalize ys[j] = a' at *
          go_wp2_with fail
          go_quiet (fail)
          go_wp2_with fail
          go_ret
          exact ⟨by rw [HD.out]; rfl, below_drewN HB.out _⟩
      · have he : j = n := by have := HJ.out; have := HL.out; omega
        have heq : xs = ys := by
          apply List.ext_getElem?
          intro q
          rcases Nat.lt_or_ge q n with h5 | h5
          · exact H1.out q (by omega)
          · rw [List.getElem?_eq_none (by rw [HL.out]; exact h5), List.getElem?_eq_none (by rw [HL'.out]; exact h5)]
        have hd : decide (xs = ys) = true := by simpa using heq
        have HD := Lib.hid hd
        clear heq hd he
        go_wp2_with fail
        go_ret
        exact ⟨by rw [HD.out]; rfl, HB.out⟩
  · have hno : xs ≠ ys := fun e => hne (by rw [← hl, ← hl', e])
    have hd : decide (xs = ys) = false := by simpa using hno
    have HD := Lib.hid hd
    have hz : ¬ ((n : Int) = (n' : Int)) := by omega
    clear h h' hl hl' hno hd
    go_enter Tryz.func9, Tryz.ntmps9
    go_wp2_with fail
    go_ret
    exact ⟨by rw [HD.out]; rfl, Below.refl _ _⟩
end Go.Proofs.YtnjhhndggfjjdaaGreatDoor
namespace Go.Proofs.YtnjhhndggfjjdaaGreatDoor
open Go.RowKit
/-- every block is left alone but tables, the document's locks and rows of holds -/
def IK (W W' : World) : Prop := ∀ (g : Nat) (cur : Array Value) (t : TypeId), W.heap[g]? = some (.cells cur t (0, 0)) → t ≠ 53 → t ≠ 29 → t ≠ 73 → t ≠ 56 → W'.heap[g]? = W.heap[g]?
theorem IK.below {W W' : World} (k : Below W.heap.size W W') : IK W W' := fun g _ _ h _ _ _ _ => k.block g (lt_of_some h)
theorem IK.trans {W W' W2 : World} (k : IK W W') (k2 : IK W' W2) : IK W W2 := fun g cur t h h1 h2 h3 h4 => by
  have := k g cur t h h1 h2 h3 h4
  exact (k2 g cur t (this.trans h) h1 h2 h3 h4).trans this
theorem own_ik {W W' : World} {base : Nat} {v : Value} {l : List Int} (ho : Own W base eI 3 v l) (k : IK W W') : Own W' base eI 3 v l :=
  own_keep ho fun g hg => by
    obtain ⟨_, _, cur, hc⟩ := own_blk ho hg
    exact k g cur _ hc (by decide) (by decide) (by decide) (by decide)
theorem blk_ik {W W' : World} {g : Nat} {cs : Array Value} (h : Blk W g 33 cs) (k : IK W W') : Blk W' g 33 cs := (k g cs _ h (by decide) (by decide) (by decide) (by decide)).trans h
section
variable {w0 W W' : World} {b b2 base : Nat} {n : Int} {s s2 : TS}
theorem LT.blk (h : LT W b n s) : ∃ cs, Blk W b 53 cs := by
  obtain ⟨A, c, rs, h⟩ := h
  exact ⟨_, h.blk⟩
theorem LT.tkeep (h : LT W b n s) (k : TKeep base W W') : LT W' b n s := by
  obtain ⟨A, c, rs, h⟩ := h
  have hn : ∀ {cur : Array Value} {t : TypeId}, t ≠ 29 → t ≠ 73 → t ≠ 56 → NoT (.cells cur t (0, 0)) := fun h1 h2 h3 =>
    ⟨fun _ e => h1 (by injection e), fun _ e => h2 (by injection e), fun _ e => h3 (by injection e)⟩
  exact ⟨A, c, rs, ⟨h.blk.keep k (.inr (hn (by decide) (by decide) (by decide))), lst_kept h.lst k fun i cur _ => .inr (hn (by decide) (by decide) (by decide)), h.rows.kept k fun i cur _ => .inr (hn (by decide) (by decide) (by decide)), h.le, h.max, h.nil⟩⟩
theorem LG.other (g : LG w0 b s W) (g2 : LG w0 b2 s2 W) (hne : b ≠ b2) (k : Keep (fun i _ => i ≠ b2) W W') : LG w0 b s W' := by
  obtain ⟨cs, hb⟩ := g2.lt.blk
  exact ⟨g.lt.keep hb (by decide) hne k, g.inv, g.tab.keep k fun _ => g2.b0, g.below.trans (k.below g.below.size fun i _ hi => by have := g2.ge; omega), g.ge, g.b0⟩
theorem LG.rturn (g : LG w0 b s W) (hm : 0 < w0.heap.size) (k : TKeep w0.heap.size W W') : LG w0 b s W' :=
  ⟨g.lt.tkeep k, g.inv, g.tab.keep k fun _ => .inl hm, g.below.trans (k.below g.below.size fun _ _ hi => .inl hi), g.ge, g.b0⟩
theorem LG.ik (g : LG w0 b s W) (k : Keep (fun i _ => i ≠ b) W W') : IK W W' := fun i cur t hc h1 _ _ _ => by
  obtain ⟨cs, hb⟩ := g.lt.blk
  rw [hc]
  exact k.block i _ hc (ne_of_types (g := b) hb hc h1)
theorem tk_ik (k : TKeep base W W') : IK W W' := fun i cur t hc _ h2 h3 h4 => by
  rw [hc]
  exact k.block i _ hc (.inr ⟨fun _ e => h2 (by injection e), fun _ e => h3 (by injection e), fun _ e => h4 (by injection e)⟩)
theorem TB.other (h : TB base b s W) (g2 : LG w0 b2 s2 W) (k : Keep (fun i _ => i ≠ b2) W W') : TB base b s W' := by
  obtain ⟨cs, hb⟩ := g2.lt.blk
  exact h.keep hb (by decide) k
end
/-- names that are not too long -/
def Short (s : TS) : Prop := ∀ e ∈ s, e.1.2.1.size ≤ 40 ∧ e.1.2.2.size ≤ 40
theorem short_plain {n m : Nm} (h : knownP n = some m) (h1 : n.2.1.size ≤ 40) (h2 : n.2.2.size ≤ 40) : m.2.1.size ≤ 40 ∧ m.2.2.size ≤ 40 := by
  rw [known_plain] at h
  split at h
  · cases h
  · injection h with h
    subst h
    unfold plainN
    split
    · exact ⟨Nat.zero_le _, Nat.zero_le _⟩
    · split
      · exact ⟨h1, Nat.zero_le _⟩
      · exact ⟨h1, h2⟩
theorem short_ask {s : TS} (hi : TInv s) (h : Short s) (who : Int) {n : Nm} (mode : Int) (h1 : n.2.1.size ≤ 40) (h2 : n.2.2.size ≤ 40) : Short (askN s who n mode).2 := by
  rcases hk : knownP n with _ | m
  · rw [ask_unknown hk]; exact h
  rcases hw : waitN s who with _ | t
  rotate_left
  · rw [ask_state hk (by rw [hw]; rfl)]; exact h
  have hw2 : (waitN s who).isSome = false := by rw [hw]; rfl
  by_cases hm0 : mode = 0
  · rw [ask_nothing hk hw2 hm0]; exact h
  by_cases hf : hereP (lockN s m) who = false ∧ 200 ≤ countP s
  · rw [ask_full hk hw2 hm0 hf.1 hf.2]; exact h
  have hor : hereP (lockN s m) who = true ∨ countP s < 200 := by
    cases hh : hereP (lockN s m) who
    · exact .inr (Nat.lt_of_not_le fun h5 => hf ⟨hh, h5⟩)
    · exact .inl rfl
  rw [ask_asks hk hw2 hm0 hor]
  intro e he
  rcases put_mem hi.rise he with rfl | ⟨h5, _⟩
  · exact short_plain hk h1 h2
  · exact h e h5
theorem short_free : ∀ {s : TS} (who : Int), Short s → Short (freeN s who).2
  | [], _, _ => fun _ h => (by cases h)
  | e :: s, who, h => by
    have ih := short_free (s := s) who fun x hx => h x (by simp [hx])
    have h0 := h e (by simp)
    unfold freeN
    split
    · simp only
      split
      · exact ih
      · intro x hx
        rcases List.mem_cons.1 hx with rfl | hx
        · exact h0
        · exact ih x hx
    · intro x hx
      rcases List.mem_cons.1 hx with rfl | hx
      · exact h0
      · exact ih x hx
/-- two tables of the package, and the document's one -/
structure PT (w0 : World) (bt bo br : Nat) (s so sr : TS) (W : World) : Prop where
  t : LG w0 bt s W
  o : LG w0 bo so W
  r : TB w0.heap.size br sr W
  inv : TInv sr
  mb : 0 < w0.heap.size
  ne : bt ≠ bo
section
variable {w0 W W' : World} {bt bo br : Nat} {s so sr : TS}
theorem PT.new {w1 : World} (h0 : Tab w0) (hT : Tab w1) (h : Below w0.heap.size w0 w1) :
    PT w0 w1.heap.size (w1.heap.size + 1) (w1.heap.size + 1 + 1) [] [] [] (((w1.alloc (.cells #[.int .i64 0, .slice none 0 0] 53)).alloc (.cells #[.int .i64 0, .slice none 0 0] 53)).alloc (.cells #[.slice none 0 0] 29)) := by
  have g1 := LG.new hT h
  have g2 := LG.new g1.tab g1.below
  have e1 : (w1.alloc (.cells #[.int .i64 0, .slice none 0 0] 53)).heap.size = w1.heap.size + 1 := by simp
  have e2 : ((w1.alloc (.cells #[.int .i64 0, .slice none 0 0] 53)).alloc (.cells #[.int .i64 0, .slice none 0 0] 53)).heap.size = w1.heap.size + 1 + 1 := by simp
  have hs := h.size
  have r := TB.new (base := w0.heap.size) ((w1.alloc (.cells #[.int .i64 0, .slice none 0 0] 53)).alloc (.cells #[.int .i64 0, .slice none 0 0] 53)) (by rw [e2]; omega)
  rw [e2] at r
  rw [e1] at g2
  exact ⟨(g1.next (alloc_below _ _)).next (alloc_below _ _), g2.next (alloc_below _ _), r, TInv.nil, h0.lt, by omega⟩
theorem PT.next (p : PT w0 bt bo br s so sr W) (k : Below W.heap.size W W') : PT w0 bt bo br s so sr W' := ⟨p.t.next k, p.o.next k, p.r.below k, p.inv, p.mb, p.ne⟩
theorem PT.turnT (p : PT w0 bt bo br s so sr W) {s' : TS} (g : LG w0 bt s' W') (k : Keep (fun i _ => i ≠ bt) W W') : PT w0 bt bo br s' so sr W' ∧ IK W W' :=
  ⟨⟨g, p.o.other p.t p.ne.symm k, p.r.other p.t k, p.inv, p.mb, p.ne⟩, p.t.ik k⟩
theorem PT.turnO (p : PT w0 bt bo br s so sr W) {s' : TS} (g : LG w0 bo s' W') (k : Keep (fun i _ => i ≠ bo) W W') : PT w0 bt bo br s s' sr W' ∧ IK W W' :=
  ⟨⟨p.t.other p.o p.ne k, g, p.r.other p.o k, p.inv, p.mb, p.ne⟩, p.o.ik k⟩
theorem PT.turnR (p : PT w0 bt bo br s so sr W) {s' : TS} (h : TB w0.heap.size br s' W') (hi : TInv s') (k : TKeep w0.heap.size W W') : PT w0 bt bo br s so s' W' ∧ IK W W' :=
  ⟨⟨p.t.rturn p.mb k, p.o.rturn p.mb k, h, hi, p.mb, p.ne⟩, tk_ik k⟩
theorem PT.askT (p : PT w0 bt bo br s so sr W) (hc : countP s ≤ 1000) (who : Int) (n : Nm) (mode : Int) :
    Calls Tryz.prog 6 #[.pointer (some ⟨bt, 0, none⟩), .int .i64 who, valN n, .int .i64 mode] W fun e w' => e = .returned (.int .i64 ((askN s who n mode).1 : Int)) ∧ PT w0 bt bo br (askN s who n mode).2 so sr w' ∧ IK W w' :=
  (p.t.ask hc who n mode).mono fun _ _ ⟨he, g, k⟩ => ⟨he, p.turnT g k⟩
theorem PT.askO (p : PT w0 bt bo br s so sr W) (hc : countP so ≤ 1000) (who : Int) (n : Nm) (mode : Int) :
    Calls Tryz.prog 6 #[.pointer (some ⟨bo, 0, none⟩), .int .i64 who, valN n, .int .i64 mode] W fun e w' => e = .returned (.int .i64 ((askN so who n mode).1 : Int)) ∧ PT w0 bt bo br s (askN so who n mode).2 sr w' ∧ IK W w' :=
  (p.o.ask hc who n mode).mono fun _ _ ⟨he, g, k⟩ => ⟨he, p.turnO g k⟩
theorem PT.askR (p : PT w0 bt bo br s so sr W) (hc : countP sr ≤ 1000) (who : Int) (n : Nm) (mode : Int) (hsz : Short sr) :
    Calls Tryz.prog 8 #[.pointer (some ⟨br, 0, none⟩), .int .i64 who, valN n, .int .i64 mode] W fun e w' => e = .returned (.int .i64 ((askN sr who n mode).1 : Int)) ∧ PT w0 bt bo br s so (askN sr who n mode).2 w' ∧ IK W w' :=
  (rtask_ p.r p.t.below.size p.inv hc who n mode fun e he => ⟨Nat.le_trans (hsz e he).1 (by unfold maxLen; omega), Nat.le_trans (hsz e he).2 (by unfold maxLen; omega)⟩).mono fun _ _ ⟨he, h, k⟩ => ⟨he, p.turnR h (inv_ask p.inv who n mode) k⟩
theorem PT.freeT (p : PT w0 bt bo br s so sr W) (hc : countP s ≤ 500) (who : Int) :
    Calls Tryz.prog 10 #[.pointer (some ⟨bt, 0, none⟩), .int .i64 who] W fun e w' => ∃ v, e = .returned v ∧ Own w' W.heap.size eI 3 v (freeN s who).1 ∧ PT w0 bt bo br (freeN s who).2 so sr w' ∧ IK W w' :=
  (p.t.free hc who).mono fun _ _ ⟨v, he, ho, g, k⟩ => ⟨v, he, ho, p.turnT g k⟩
theorem PT.freeR (p : PT w0 bt bo br s so sr W) (hc : countP sr ≤ 1000) (who : Int) :
    Calls Tryz.prog 11 #[.pointer (some ⟨br, 0, none⟩), .int .i64 who] W fun e w' => ∃ v, e = .returned v ∧ Own w' W.heap.size eI 3 v (freeN sr who).1 ∧ PT w0 bt bo br s so (freeN sr who).2 w' ∧ IK W w' :=
  (p.r.free p.t.below.size p.inv hc who).mono fun _ _ ⟨v, he, ho, g, k⟩ => ⟨v, he, ho, p.turnR g (inv_free p.inv who) k⟩
theorem PT.waitT (p : PT w0 bt bo br s so sr W) (hc : countP s ≤ 1000) (who : Int) :
    Calls Tryz.prog 12 #[.pointer (some ⟨bt, 0, none⟩), .int .i64 who] W fun e w' => e = .returned (.tuple #[valN ((waitN s who).getD (0, noB, noB)), .bool (waitN s who).isSome]) ∧ Below W.heap.size W w' :=
  (p.t.waiting hc who).mono fun _ _ ⟨he, _, k⟩ => ⟨he, k⟩
theorem PT.waitR (p : PT w0 bt bo br s so sr W) (hc : countP sr ≤ 1000) (who : Int) :
    Calls Tryz.prog 13 #[.pointer (some ⟨br, 0, none⟩), .int .i64 who] W fun e w' => e = .returned (.tuple #[valN ((waitN sr who).getD (0, noB, noB)), .bool (waitN sr who).isSome]) ∧ Below W.heap.size W w' := p.r.waiting p.inv hc who
theorem PT.modeT (p : PT w0 bt bo br s so sr W) (hc : countP s ≤ 1000) (who : Int) (n : Nm) :
    Calls Tryz.prog 14 #[.pointer (some ⟨bt, 0, none⟩), .int .i64 who, valN n] W fun e w' => e = .returned (.int .i64 (modeN s who n : Int)) ∧ Below W.heap.size W w' :=
  (p.t.mode hc who n).mono fun _ _ ⟨he, _, k⟩ => ⟨he, k⟩
theorem PT.modeR (p : PT w0 bt bo br s so sr W) (hc : countP sr ≤ 1000) (who : Int) (n : Nm) :
    Calls Tryz.prog 15 #[.pointer (some ⟨br, 0, none⟩), .int .i64 who, valN n] W fun e w' => e = .returned (.int .i64 (modeN sr who n : Int)) ∧ Below W.heap.size W w' := p.r.mode p.inv hc who n
theorem PT.countT (p : PT w0 bt bo br s so sr W) : Calls Tryz.prog 16 #[.pointer (some ⟨bt, 0, none⟩)] W fun e w' => e = .returned (.int .i64 (countP s : Int)) ∧ Below W.heap.size W w' :=
  p.t.count.mono fun _ _ ⟨he, k⟩ => ⟨he, k ▸ Below.refl _ _⟩
theorem PT.countR (p : PT w0 bt bo br s so sr W) (hc : countP sr ≤ 1000) : Calls Tryz.prog 17 #[.pointer (some ⟨br, 0, none⟩)] W fun e w' => e = .returned (.int .i64 (countP sr : Int)) ∧ Below W.heap.size W w' := p.r.count p.inv hc
theorem PT.edgesT (p : PT w0 bt bo br s so sr W) (hc : countP s ≤ 100) :
    Calls Tryz.prog 19 #[.pointer (some ⟨bt, 0, none⟩)] W fun e w' => ∃ v, e = .returned v ∧ Own w' W.heap.size eE 80 v (sortedE (rawE s)) ∧ Below W.heap.size W w' :=
  (p.t.edges (by omega)).mono fun _ _ ⟨v, he, ho, _, k⟩ => ⟨v, he, ho, k⟩
theorem PT.edgesR (p : PT w0 bt bo br s so sr W) (hc : countP sr ≤ 100) :
    Calls Tryz.prog 20 #[.pointer (some ⟨br, 0, none⟩)] W fun e w' => ∃ v, e = .returned v ∧ Own w' W.heap.size eE 80 v (sortedE (rawE sr)) ∧ Below W.heap.size W w' := p.r.edges p.inv hc
end
end Go.Proofs.YtnjhhndggfjjdaaGreatDoor
