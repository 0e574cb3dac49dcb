/- Whom somebody waits for in all locks: package locks' Waiting; its counters and Count. -/
import Derived.Test.YtnjhhndggfjjdaaDoorLkH
set_option maxRecDepth 4000
namespace Go.Proofs.YtnjhhndggfjjdaaDoor
open Go.RowKit
/-- what a table's locks are for its calls -/
structure TGood (s : TS) : Prop where
  rise : s.Pairwise fun a b => cmpN a.1 b.1 < 0
  ok : ∀ e ∈ s, Ok e.2
  fit : ∀ e ∈ s, Fit e.2
  small : ∀ e ∈ s, e.2.1.length ≤ 10000 ∧ e.2.2.length ≤ 10000
  len : s.length ≤ 10000
theorem wait_iff {s : Lk} (h : Fit s) (who : Int) : decide (0 < (waitsP s who).length) = hasP s.2 who := by
  cases hh : hasP s.2 who
  · have : waitsP s who = [] := waits_miss fun hl => by
      have := List.findIdx_getElem (w := hl)
      unfold hasP at hh
      rw [List.any_eq_false] at hh
      exact absurd this (by simpa using hh _ (List.getElem_mem hl))
    rw [this]
    rfl
  · exact decide_eq_true (waits_some h hh)
def WaR (w : World) (s : TS) (who : Int) (k : Nat) (i : Value) (wr : World) : Prop := ∃ j, j + k = s.length ∧ i = .int .i64 (j : Int) ∧ (∀ q (_ : q < j) (hl : q < s.length), hasP s[q].2.2 who = false) ∧ Below w.heap.size w wr
theorem waitN_hit {s : TS} {who : Int} {j : Nat} (hj : j < s.length) (h1 : ∀ q (_ : q < j) (hl : q < s.length), hasP s[q].2.2 who = false) (h2 : hasP s[j].2.2 who = true) : waitN s who = some s[j].1 := by
  unfold waitN
  have : s.find? (fun e => hasP e.2.2 who) = some s[j] := List.find?_eq_some_iff_getElem.2 ⟨h2, j, hj, rfl, fun q hq => by simpa using h1 q hq (by omega)⟩
  rw [this]
  rfl
theorem waitN_none {s : TS} {who : Int} (h1 : ∀ q (hl : q < s.length), hasP s[q].2.2 who = false) : waitN s who = none := by
  unfold waitN
  have : s.find? (fun e => hasP e.2.2 who) = none := by
    rw [List.find?_eq_none]
    intro x hx
    obtain ⟨q, hq, rfl⟩ := List.getElem_of_mem hx
    simpa using h1 q hq
  rw [this]
  rfl
set_option maxHeartbeats 4000000 in
theorem waiting_all {w : World} {b : Nat} {n : Int} {s : TS} (h : LT w b n s) (hg : TGood s) (hT : Tab w) (who : Int) :
    Calls Tryd.prog 13 #[.pointer (some ⟨b, 0, none⟩), .int .i64 who] w fun e w' => e = .returned (.tuple #[valN ((waitN s who).getD (0, noB, noB)), .bool (waitN s who).isSome]) ∧ Below w.heap.size w w' := by
  obtain ⟨A, c, rs, h⟩ := h
  have hal := alloc_below w (.cells #[.int .i64 0, .string noB, .string noB] 28)
  have hB := Blk.new w 28 #[.int .i64 0, .string noB, .string noB]
  have h2 := h.below hal
  have p1 := h2.blk.cell 1
  have hbs := h2.lt
  have hmx := h2.max
  have hle := h2.le
  unfold maxLen at hmx
  have H := Lib.hid h2
  have HT := Lib.hid (hT.below hal)
  have HAL := Lib.hid hal
  have HB := Lib.hid hB
  have HG := Lib.hid hg
  clear hal hB h h2 hg hT
  obtain ⟨m, hm⟩ : ∃ m, s.length = m := ⟨_, rfl⟩
  have hrl : rs.length = m := H.out.rows.1.trans hm
  rw [hm] at p1 hle
  have HM := Lib.hid hm
  have HRL := Lib.hid hrl
  clear hm hrl
  unfold noB at *
  go_enter Tryd.func13, Tryd.ntmps13
  go_wp2_with fail
  generalize w.alloc (.cells #[.int .i64 0, .string ⟨#[]⟩, .string ⟨#[]⟩] 28) = wA at *
  go_loopg [16] m (fun k i wr => WaR wA s who k i wr)
  case atStart => exact ⟨0, by rw [HM.out]; omega, rfl, fun q hq => absurd hq (Nat.not_lt_zero q), Below.refl _ _⟩
  case round =>
    obtain ⟨j, hj, rfl, h1, hb⟩ := hrel
    have HJ := Lib.hid hj
    have H1 := Lib.hid h1
    have HBR := Lib.hid hb
    have HRR := Lib.hid (HB.out.below hb HB.out.lt)
    have HTOT := Lib.hid (HAL.out.trans (hb.mono HAL.out.size))
    clear hj h1 hb
    have hend3 : ∀ (W : World) (u v x : Value), Below wr.heap.size wr W → Below w.heap.size w (((W.setCell ⟨w.heap.size, 0, none⟩ u).setCell ⟨w.heap.size, 1, none⟩ v).setCell ⟨w.heap.size, 2, none⟩ x) := fun W u v x hW => by
      refine Keep.below (K := fun i _ => i < w.heap.size) (((Keep.setCell (Keep.setCell (Keep.setCell (Keep.of_below (HTOT.out.trans (hW.mono HTOT.out.size))) ?_ _) ?_ _) ?_ _))) (Nat.le_refl _) (fun _ _ h => h)
      all_goals (intro _ _ h; exact absurd h (Nat.lt_irrefl _))
    have HEND3 := Lib.hid hend3
    clear hend3
    by_cases hlt : j < m
    · have hx : j < rs.length := by rw [HRL.out]; exact hlt
      have hs : j < s.length := by rw [HM.out]; exact hlt
      have hrow := (H.out.rows.2 j hx hs).below HBR.out
      obtain ⟨g2, o2, rfl, _, hg2, d0, d1, d2, d3, d4⟩ := (lst_below H.out.lst HBR.out).atL hx
      have hmem := List.getElem_mem hs
      have hbox := box_lock hrow
      have hw1 := wait_iff (HG.out.fit _ hmem) who
      have hal2 := alloc_below wr (.cells #[rs[j].1.val, rs[j].2.1.val, .int .i64 rs[j].2.2.1, .string rs[j].2.2.2.1, .string rs[j].2.2.2.2] 62)
      have hbx := Blk.new wr 62 #[rs[j].1.val, rs[j].2.1.val, .int .i64 rs[j].2.2.1, .string rs[j].2.2.2.1, .string rs[j].2.2.2.2]
      have hwt := waits_ hbox (HG.out.ok _ hmem) (HG.out.small _ hmem).1 (HG.out.small _ hmem).2 ((HT.out.below HBR.out).below hal2) who
      have hnm : hasP s[j].2.2 who = true → waitN s who = some rs[j].2.2 := fun h => by
        rw [waitN_hit hs (fun q hq hl => H1.out q hq hl) h, (H.out.rows.2 j hx hs).name]
      have hnx : hasP s[j].2.2 who = false → ∀ q (_ : q < j + 1) (hl : q < s.length), hasP s[q].2.2 who = false := fun h q hq hl => by
        rcases Nat.lt_or_ge q j with h5 | h5
        · exact H1.out q h5 hl
        · obtain rfl : q = j := by omega
          exact h
      have HWT := Lib.hid hwt
      have HW1 := Lib.hid hw1
      have HAL2 := Lib.hid hal2
      have HBX := Lib.hid hbx
      have HNM := Lib.hid hnm
      have HNX := Lib.hid hnx
      clear hwt hw1 hal2 hbx hnm hnx hrow hbox hmem
      obtain ⟨zb, hzb⟩ : ∃ zb, hasP s[j].2.2 who = zb := ⟨_, rfl⟩
      rw [hzb] at HW1 HNM HNX
      generalize waitsP s[j].2 who = L at *
      generalize hX : rs[j] = X at *
      obtain ⟨⟨a1, a2, a3⟩, ⟨c1, c2, c3⟩, y0, y1, y2⟩ := X
      unfold Sl.val at *
      simp only at *
      have hne : w.heap.size ≠ wr.heap.size := by have := HRR.out.lt; omega
      clear hzb hX
      go_wp2_with fail
      generalize wr.alloc (.cells #[.slice a1 a2 a3, .slice c1 c2 c3, .int .i64 y0, .string y1, .string y2] 62) = wB at *
      refine HWT.out.mono ?_
      rintro e w2 ⟨v, rfl, ho, hb2⟩
      obtain ⟨A3, c4, rfl, _, hlc3, hcm3, _⟩ := own_lst ho
      have HBX2 := Lib.hid (HBX.out.below hb2 HBX.out.lt)
      have HB2 := Lib.hid (HAL2.out.trans (hb2.mono HAL2.out.size))
      have HRR2 := Lib.hid (HRR.out.below HB2.out HRR.out.lt)
      clear ho hb2 HWT
      cases zb
      · have hl0 : ¬ ((0 : Int) < (L.length : Int)) := by have := of_decide_eq_false HW1.out; omega
        have hl1 : ¬ ((L.length : Int) > 0) := hl0
        have hl2 : ¬ (0 < L.length) := of_decide_eq_false HW1.out
        go_wp2_with fail
        go_roundg (m - (j + 1))
        case measure => have := HJ.out; have := HM.out; omega
        case rel => exact ⟨j + 1, by have := HM.out; omega, by go_num, HNX.out (by simp), HBR.out.trans (HB2.out.mono HBR.out.size)⟩
      · have hl2 : 0 < L.length := of_decide_eq_true HW1.out
        have q0 := HRR2.out.cell 0
        have q1 := HRR2.out.cell 1
        have q2 := HRR2.out.cell 2
        have f0 := HRR2.out.frozen 0
        have f1 := HRR2.out.frozen 1
        have f2 := HRR2.out.frozen 2
        have e2 := HBX2.out.cell 2
        have e3 := HBX2.out.cell 3
        have e4 := HBX2.out.cell 4
        have hres2 := blk_store3 (u := .int .i64 y0) (v := .string y1) (x := .string y2) HRR2.out
        have r0 := hres2.cell 0
        have r1 := hres2.cell 1
        have r2 := hres2.cell 2
        clear hres2
        have HNM2 := Lib.hid (HNM.out (by simp))
        clear HNM
        go_wp2_with fail
        refine bodyPost_ret (v := .tuple #[.agg #[.int .i64 y0, .string y1, .string y2], .bool true]) (by simp [results, Tryd.results13, go_sem, r0, r1, r2]) rfl ?_
        exact ⟨by rw [HNM2.out]; rfl, HEND3.out _ _ _ _ HB2.out⟩
    · have hf : waitN s who = none := waitN_none fun q hl => H1.out q (by have := HJ.out; have := HM.out; omega) hl
      have HF := Lib.hid hf
      have q0 := HRR.out.cell 0
      have q1 := HRR.out.cell 1
      have q2 := HRR.out.cell 2
      have f0 := HRR.out.frozen 0
      have f1 := HRR.out.frozen 1
      have f2 := HRR.out.frozen 2
      have hres2 := blk_store3 (u := .int .i64 0) (v := .string ⟨#[]⟩) (x := .string ⟨#[]⟩) HRR.out
      have r0 := hres2.cell 0
      have r1 := hres2.cell 1
      have r2 := hres2.cell 2
      clear hres2 hf
      go_wp2_with fail
      refine bodyPost_ret (v := .tuple #[.agg #[.int .i64 0, .string ⟨#[]⟩, .string ⟨#[]⟩], .bool false]) (by simp [results, Tryd.results13, go_sem, r0, r1, r2]) rfl ?_
      exact ⟨by rw [HF.out]; rfl, HEND3.out _ _ _ _ (Below.refl _ _)⟩
theorem full_ {w : World} {b : Nat} {cs : Array Value} {n : Int} (h : Blk w b 50 cs) (h0 : cs[0]? = some (.int .i64 n)) :
    Calls Tryd.prog 19 #[.pointer (some ⟨b, 0, none⟩)] w fun e w' => e = .returned (.bool (decide (200 ≤ n))) ∧ w = w' := by
  have p0 := (h.cell 0).trans h0
  clear h h0
  go_enter Tryd.func19, Tryd.ntmps19
  go_wp2
  go_ret
  exact ⟨rfl, rfl⟩
theorem come_ {w : World} {b : Nat} {n m : Int} {u : Value} (h : Blk w b 50 #[.int .i64 n, u]) (hn : 0 ≤ n) (hm : n ≤ 100000) (he : n + 1 = m) :
    Calls Tryd.prog 20 #[.pointer (some ⟨b, 0, none⟩)] w fun e w' => e = .returned (.tuple #[]) ∧ w' = w.setCell ⟨b, 0, none⟩ (.int .i64 m) := by
  have p0 := h.cell 0
  have f0 := h.frozen 0
  subst he
  clear h
  go_enter Tryd.func20, Tryd.ntmps20
  go_wp2
  go_end0
  exact ⟨rfl, rfl⟩
theorem leave_ {w : World} {b : Nat} {n m : Int} {u : Value} (h : Blk w b 50 #[.int .i64 n, u]) (hn : 0 ≤ n) (hm : n ≤ 100000) (he : n - 1 = m) :
    Calls Tryd.prog 25 #[.pointer (some ⟨b, 0, none⟩)] w fun e w' => e = .returned (.tuple #[]) ∧ w' = w.setCell ⟨b, 0, none⟩ (.int .i64 m) := by
  have p0 := h.cell 0
  have f0 := h.frozen 0
  subst he
  clear h
  go_enter Tryd.func25, Tryd.ntmps25
  go_wp2
  go_end0
  exact ⟨rfl, rfl⟩
theorem count_ {w : World} {b : Nat} {n : Int} {s : TS} (h : LT w b n s) :
    Calls Tryd.prog 11 #[.pointer (some ⟨b, 0, none⟩)] w fun e w' => e = .returned (.int .i64 n) ∧ w = w' := by
  obtain ⟨A, c, rs, h⟩ := h
  have p0 := h.blk.cell 0
  clear h
  go_enter Tryd.func11, Tryd.ntmps11
  go_wp2
  go_ret
  exact ⟨rfl, rfl⟩
end Go.Proofs.YtnjhhndggfjjdaaDoor
