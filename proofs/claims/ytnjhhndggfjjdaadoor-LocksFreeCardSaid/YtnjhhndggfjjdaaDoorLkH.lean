/- What somebody has of a lock: package locks' holdOf, of one lock and of the table. -/
import Derived.Test.YtnjhhndggfjjdaaDoorLkC
set_option maxRecDepth 4000
namespace Go.Proofs.YtnjhhndggfjjdaaDoor
open Go.RowKit
def valH (h : Ho) : Value := .agg #[.int .i64 h.1, .int .i64 (h.2.1 : Int), .int .i64 (h.2.2 : Int)]
def findH (l : List Ho) (who : Int) : Option Ho := l.find? fun h => h.1 == who
def FhR (w : World) (l : List Ho) (who : Int) (k : Nat) (i : Value) (wr : World) : Prop := ∃ j, j + k = l.length ∧ i = .int .i64 (j : Int) ∧ (∀ q (_ : q < j) (hl : q < l.length), l[q].1 ≠ who) ∧ Below w.heap.size w wr
theorem find_hit {l : List Ho} {who : Int} {j : Nat} (hj : j < l.length) (h1 : ∀ q (_ : q < j) (hl : q < l.length), l[q].1 ≠ who) (h2 : l[j].1 = who) : findH l who = some l[j] := by
  unfold findH
  rw [List.find?_eq_some_iff_getElem]
  exact ⟨by simpa using h2, j, hj, rfl, fun q hq => by simpa using h1 q hq (by omega)⟩
theorem find_none {l : List Ho} {who : Int} (h1 : ∀ q (hl : q < l.length), l[q].1 ≠ who) : findH l who = none := by
  unfold findH
  rw [List.find?_eq_none]
  intro x hx
  obtain ⟨q, hq, rfl⟩ := List.getElem_of_mem hx
  simpa using h1 q hq
/-- three cells stored, in a block known whole -/
theorem blk_store3 {w : World} {g : Nat} {T : TypeId} {a b c u v x : Value} (h : Blk w g T #[a, b, c]) : Blk (((w.setCell ⟨g, 0, none⟩ u).setCell ⟨g, 1, none⟩ v).setCell ⟨g, 2, none⟩ x) g T #[u, v, x] := by
  have := ((h.set_ 0 u).set_ 1 v).set_ 2 x
  simpa using this
set_option maxHeartbeats 2000000 in
theorem lholdof_ {w : World} {g o : Nat} {zn : Zn} {l : Lk} (h : Lock w g o zn l) (hn : l.1.length ≤ 10000) (hm : l.2.length ≤ 10000) (who : Int) :
    Calls Tryd.prog 23 #[.pointer (some ⟨g, o, none⟩), .int .i64 who] w fun e w' => e = .returned (.tuple #[valH ((findH (holdsP l) who).getD (0, 0, 0)), .bool (findH (holdsP l) who).isSome]) ∧ Below w.heap.size w w' := by
  have hal := alloc_below w (.cells #[.int .i64 0, .int .i64 0, .int .i64 0] 53)
  have hB := Blk.new w 53 #[.int .i64 0, .int .i64 0, .int .i64 0]
  have hho := holds_ (h.below hal) hn hm
  have HHO := Lib.hid hho
  have HAL := Lib.hid hal
  have HB := Lib.hid hB
  clear hal hB hho h hn hm
  go_enter Tryd.func23, Tryd.ntmps23
  go_wp2_with fail
  have hlt : w.heap.size < (w.alloc (.cells #[.int .i64 0, .int .i64 0, .int .i64 0] 53)).heap.size := HB.out.lt
  generalize w.alloc (.cells #[.int .i64 0, .int .i64 0, .int .i64 0] 53) = wA at *
  refine HHO.out.mono ?_
  rintro e w1 ⟨v, rfl, ho, hb1⟩
  obtain ⟨L, hLL⟩ : ∃ L, holdsP l = L := ⟨_, rfl⟩
  rw [hLL] at ho
  have HLL := Lib.hid hLL
  clear hLL
  obtain ⟨A, c, rfl, hl, hlc, hcm, _⟩ := own_lst ho
  unfold maxLen at hcm
  have HL := Lib.hid hl
  have HB1 := Lib.hid hb1
  have HRES := Lib.hid (HB.out.below hb1 hlt)
  clear ho hl hb1 HB HHO
  generalize hm : L.length = m at *
  have HM := Lib.hid hm
  clear hm
  go_wp2_with fail
  go_loopg [13] m (fun k i wr => FhR w1 L who k i wr)
  case atStart => exact ⟨0, by rw [HM.out]; omega, rfl, fun q hq => absurd hq (Nat.not_lt_zero q), Below.refl _ _⟩
  case round =>
    obtain ⟨j, hj, rfl, h1, hb⟩ := hrel
    have HJ := Lib.hid hj
    have H1 := Lib.hid h1
    have HBR := Lib.hid hb
    have HRR := Lib.hid (HRES.out.below hb HRES.out.lt)
    have HTOT := Lib.hid (HAL.out.trans ((HB1.out.trans (hb.mono HB1.out.size)).mono HAL.out.size))
    clear hj h1 hb
    by_cases hlt : j < m
    · have hx : j < L.length := by rw [HM.out]; exact hlt
      obtain ⟨g2, o2, rfl, hg2, d0, d1, d2⟩ := (HL.out.below HBR.out).atH hx
      by_cases hw : L[j].1 = who
      · have hf := find_hit hx (fun q hq hl => H1.out q hq hl) hw
        have HF := Lib.hid hf
        have hv : valH L[j] = .agg #[.int .i64 who, .int .i64 (L[j].2.1 : Int), .int .i64 (L[j].2.2 : Int)] := by unfold valH; rw [hw]
        have HV := Lib.hid hv
        rw [hw] at d0
        clear hf hv hw
        generalize hX : L[j] = X at *
        generalize (X.2.1 : Int) = x1 at *
        generalize (X.2.2 : Int) = x2 at *
        have hne : w.heap.size ≠ wr.heap.size := by have := HRR.out.lt; omega
        have hres2 := blk_store3 (u := .int .i64 who) (v := .int .i64 x1) (x := .int .i64 x2) (HRR.out.alloc (.cells #[.int .i64 who, .int .i64 x1, .int .i64 x2] 53))
        have hend : Below w.heap.size w ((((wr.alloc (.cells #[.int .i64 who, .int .i64 x1, .int .i64 x2] 53)).setCell ⟨w.heap.size, 0, none⟩ (.int .i64 who)).setCell ⟨w.heap.size, 1, none⟩ (.int .i64 x1)).setCell ⟨w.heap.size, 2, none⟩ (.int .i64 x2)) := by
          refine Keep.below (K := fun i _ => i < w.heap.size) (((Keep.setCell (Keep.setCell (Keep.setCell (Keep.of_below (HTOT.out.trans ((alloc_below wr _).mono HTOT.out.size))) ?_ _) ?_ _) ?_ _))) (Nat.le_refl _) (fun _ _ h => h)
          all_goals (intro _ _ h; exact absurd h (Nat.lt_irrefl _))
        have r0 := hres2.cell 0
        have r1 := hres2.cell 1
        have r2 := hres2.cell 2
        have HEND := Lib.hid hend
        clear hres2 hend
        have hres1 := HRR.out.alloc (.cells #[.int .i64 who, .int .i64 x1, .int .i64 x2] 53)
        have q0 := hres1.cell 0
        have q1 := hres1.cell 1
        have q2 := hres1.cell 2
        have f0 := hres1.frozen 0
        have f1 := hres1.frozen 1
        have f2 := hres1.frozen 2
        clear hres1
        go_wp2_with fail
        refine bodyPost_ret (v := .tuple #[.agg #[.int .i64 who, .int .i64 x1, .int .i64 x2], .bool true]) (by simp [results, Tryd.results23, go_sem, r0, r1, r2]) rfl ?_
        exact ⟨by rw [HLL.out, HF.out]; exact congrArg (fun z => Ending.returned (.tuple #[z, .bool true])) HV.out.symm, HEND.out⟩
      · have hnx : ∀ q (hq : q < j + 1) (hl : q < L.length), L[q].1 ≠ who := fun q hq hl => by
          rcases Nat.lt_or_ge q j with h5 | h5
          · exact H1.out q h5 hl
          · obtain rfl : q = j := by omega
            exact hw
        have HNX := Lib.hid hnx
        have e0 : (L[j].1 == who) = false := by simpa using hw
        clear hnx hw
        generalize L[j].1 = x0 at *
        generalize (L[j].2.1 : Int) = x1 at *
        generalize (L[j].2.2 : Int) = x2 at *
        go_wp2_with fail
        go_roundg (m - (j + 1))
        case measure => have := HJ.out; have := HM.out; omega
        case rel => exact ⟨j + 1, by have := HM.out; omega, by go_num, HNX.out, HBR.out.trans ((alloc_below wr _).mono HBR.out.size)⟩
    · have hf : findH L who = none := find_none fun q hl => H1.out q (by have := HJ.out; have := HM.out; omega) hl
      have HF := Lib.hid hf
      clear hf
      have q0 := HRR.out.cell 0
      have q1 := HRR.out.cell 1
      have q2 := HRR.out.cell 2
      have f0 := HRR.out.frozen 0
      have f1 := HRR.out.frozen 1
      have f2 := HRR.out.frozen 2
      have hres2 := blk_store3 (u := .int .i64 0) (v := .int .i64 0) (x := .int .i64 0) HRR.out
      have hend : Below w.heap.size w (((wr.setCell ⟨w.heap.size, 0, none⟩ (.int .i64 0)).setCell ⟨w.heap.size, 1, none⟩ (.int .i64 0)).setCell ⟨w.heap.size, 2, none⟩ (.int .i64 0)) := by
        refine Keep.below (K := fun i _ => i < w.heap.size) (((Keep.setCell (Keep.setCell (Keep.setCell (Keep.of_below HTOT.out) ?_ _) ?_ _) ?_ _))) (Nat.le_refl _) (fun _ _ h => h)
        all_goals (intro _ _ h; exact absurd h (Nat.lt_irrefl _))
      have r0 := hres2.cell 0
      have r1 := hres2.cell 1
      have r2 := hres2.cell 2
      have HEND := Lib.hid hend
      clear hres2 hend
      go_wp2_with fail
      refine bodyPost_ret (v := .tuple #[.agg #[.int .i64 0, .int .i64 0, .int .i64 0], .bool false]) (by simp [results, Tryd.results23, go_sem, r0, r1, r2]) rfl ?_
      exact ⟨by rw [HLL.out, HF.out]; rfl, HEND.out⟩
/-- who has to do with a lock, and what is found of it -/
theorem find_here (l : Lk) (who : Int) : (findH (holdsP l) who).isSome = hereP l who := by
  unfold findH hereP
  rw [Bool.eq_iff_iff, List.find?_isSome, List.any_eq_true]
set_option maxHeartbeats 2000000 in
theorem tholdof_ {w : World} {b : Nat} {n : Int} {A : Option Addr} {c : Nat} {rs : List Re} {s : TS} (h : LT0 w b n A c rs s) (hr : s.Pairwise fun a b => cmpN a.1 b.1 < 0) (hs : s.length ≤ 100000) (hz : ∀ e ∈ s, e.2.1.length ≤ 10000 ∧ e.2.2.length ≤ 10000) (who : Int) (m : Nm) :
    Calls Tryd.prog 18 #[.pointer (some ⟨b, 0, none⟩), .int .i64 who, valN m] w fun e w' => e = .returned (.tuple #[valH ((findH (holdsP (lockN s m)) who).getD (0, 0, 0)), .bool (hereP (lockN s m) who)]) ∧ Below w.heap.size w w' := by
  rw [← find_here]
  have hal1 := alloc_below w (.cells #[.int .i64 m.1, .string m.2.1, .string m.2.2] 28)
  have hal2 := alloc_below (w.alloc (.cells #[.int .i64 m.1, .string m.2.1, .string m.2.2] 28)) (.cells #[.int .i64 0, .int .i64 0, .int .i64 0] 53)
  have hsz : (w.alloc (.cells #[.int .i64 m.1, .string m.2.1, .string m.2.2] 28)).heap.size = w.heap.size + 1 := by simp
  have hB := Blk.new (w.alloc (.cells #[.int .i64 m.1, .string m.2.1, .string m.2.2] 28)) 53 #[.int .i64 0, .int .i64 0, .int .i64 0]
  rw [hsz] at hB
  have hN := (Blk.new w 28 #[.int .i64 m.1, .string m.2.1, .string m.2.2]).alloc (.cells #[.int .i64 0, .int .i64 0, .int .i64 0] 53)
  have hal := hal1.trans (hal2.mono hal1.size)
  have h2 := h.below hal
  have hpl := lplace_ h2 hr hs m
  have d0 := hN.cell 0
  have d1 := hN.cell 1
  have d2 := hN.cell 2
  have HPL := Lib.hid hpl
  have HAL := Lib.hid hal
  have HB := Lib.hid hB
  have H := Lib.hid h2
  have HZ := Lib.hid hz
  have hbs := h2.lt
  have hne : b ≠ w.heap.size + 1 := by have := h.lt; omega
  clear hpl hal hB hN hal1 hal2 hsz h h2 hz hr
  unfold valN at *
  have hcase : (atN s m = false ∧ lockN s m = ([], [])) ∨ (atN s m = true ∧ ∃ hl : spotN s m < s.length, lockN s m = (s[spotN s m]'hl).2) := by
    cases h : atN s m
    · exact .inl ⟨rfl, lock_not h⟩
    · exact .inr ⟨rfl, at_lt h, lock_at h⟩
  go_enter Tryd.func18, Tryd.ntmps18
  go_wp2_with fail
  have hlt : w.heap.size + 1 < ((w.alloc (.cells #[.int .i64 m.1, .string m.2.1, .string m.2.2] 28)).alloc (.cells #[.int .i64 0, .int .i64 0, .int .i64 0] 53)).heap.size := HB.out.lt
  generalize (w.alloc (.cells #[.int .i64 m.1, .string m.2.1, .string m.2.2] 28)).alloc (.cells #[.int .i64 0, .int .i64 0, .int .i64 0] 53) = wA at *
  refine HPL.out.mono ?_
  rintro e w1 ⟨rfl, hb1⟩
  have HB1 := Lib.hid hb1
  have HRES := Lib.hid (HB.out.below hb1 hlt)
  have HTOT := Lib.hid (HAL.out.trans (hb1.mono HAL.out.size))
  have HT := Lib.hid (H.out.below hb1)
  clear hb1 HB HPL
  have hend3 : ∀ (W : World) (u v x : Value), Below w.heap.size w W → Below w.heap.size w (((W.setCell ⟨w.heap.size + 1, 0, none⟩ u).setCell ⟨w.heap.size + 1, 1, none⟩ v).setCell ⟨w.heap.size + 1, 2, none⟩ x) := fun W u v x hW => by
    refine Keep.below (K := fun i _ => i < w.heap.size) (((Keep.setCell (Keep.setCell (Keep.setCell (Keep.of_below hW) ?_ _) ?_ _) ?_ _))) (Nat.le_refl _) (fun _ _ h => h)
    all_goals (intro _ _ h; simp only at h; omega)
  have HEND3 := Lib.hid hend3
  clear hend3
  rcases hcase with ⟨hat, hlk⟩ | ⟨hat, hl, hlk⟩
  · rw [hat]
    have hf : findH (holdsP (lockN s m)) who = none := by rw [hlk]; rfl
    have HF := Lib.hid hf
    have q0 := HRES.out.cell 0
    have q1 := HRES.out.cell 1
    have q2 := HRES.out.cell 2
    have f0 := HRES.out.frozen 0
    have f1 := HRES.out.frozen 1
    have f2 := HRES.out.frozen 2
    have hres2 := blk_store3 (u := .int .i64 0) (v := .int .i64 0) (x := .int .i64 0) HRES.out
    have r0 := hres2.cell 0
    have r1 := hres2.cell 1
    have r2 := hres2.cell 2
    clear hres2 hf hat hlk
    generalize spotN s m = z at *
    go_wp2_with fail
    refine bodyPost_ret (v := .tuple #[.agg #[.int .i64 0, .int .i64 0, .int .i64 0], .bool false]) (by simp [results, Tryd.results18, go_sem, r0, r1, r2]) rfl ?_
    exact ⟨by rw [HF.out]; rfl, HEND3.out _ _ _ _ HTOT.out⟩
  · rw [hat]
    have hlr : spotN s m < rs.length := by rw [H.out.rows.1]; exact hl
    obtain ⟨g, o, zn, rfl, hg, hlock⟩ := row_lock HT.out.lst HT.out.rows hlr hl
    have hzz := HZ.out _ (List.getElem_mem hl)
    have hho := lholdof_ hlock hzz.1 hzz.2 who
    rw [← hlk] at hho
    have p1 := HT.out.blk.cell 1
    obtain ⟨F, hF⟩ : ∃ F, findH (holdsP (lockN s m)) who = F := ⟨_, rfl⟩
    rw [hF] at hho
    have HHO := Lib.hid hho
    have HF := Lib.hid hF
    clear hho hF hzz hlock hat hlk hlr
    generalize spotN s m = z at *
    generalize s.length = k at *
    unfold valH at HHO
    obtain ⟨x0, x1, x2, hx⟩ : ∃ x0 x1 x2 : Int, valH (F.getD (0, 0, 0)) = .agg #[.int .i64 x0, .int .i64 x1, .int .i64 x2] := ⟨_, _, _, rfl⟩
    have hx' := hx
    unfold valH at hx'
    rw [hx'] at HHO
    have HX := Lib.hid hx
    clear hx hx'
    go_wp2_with fail
    refine HHO.out.mono ?_
    rintro e w2 ⟨rfl, hb2⟩
    have HTOT2 := Lib.hid (HTOT.out.trans (hb2.mono HTOT.out.size))
    have hr2 := HRES.out.below hb2 HRES.out.lt
    have q0 := hr2.cell 0
    have q1 := hr2.cell 1
    have q2 := hr2.cell 2
    have f0 := hr2.frozen 0
    have f1 := hr2.frozen 1
    have f2 := hr2.frozen 2
    have hres2 := blk_store3 (u := .int .i64 x0) (v := .int .i64 x1) (x := .int .i64 x2) hr2
    have r0 := hres2.cell 0
    have r1 := hres2.cell 1
    have r2 := hres2.cell 2
    clear hres2 hr2 hb2
    go_wp2_with fail
    refine bodyPost_ret (v := .tuple #[.agg #[.int .i64 x0, .int .i64 x1, .int .i64 x2], .bool F.isSome]) (by simp [results, Tryd.results18, go_sem, r0, r1, r2]) rfl ?_
    exact ⟨by rw [HF.out, HX.out], HEND3.out _ _ _ _ HTOT2.out⟩
end Go.Proofs.YtnjhhndggfjjdaaDoor
