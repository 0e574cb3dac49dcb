/- The document's from: all that can be come to. -/
import Derived.Test.YtoojoldcomokhaaWtQ
import Derived.Test.YtoojoldcomokhaaQue
import Derived.Test.YtoojoldcomokhaaWtA
set_option maxRecDepth 4000
namespace Go.Proofs.Ytoojoldcomokhaa
open Go.RowKit
/-- a row that rises, and a queue beside it -/
structure FromW (w : World) (ms os : List Int) (g : Nat) (vo vq : Value) (wr : World) : Prop where
  up : ms.Pairwise (· < ·)
  out : Own wr w.heap.size eI 3 vo ms
  que : Que wr w.heap.size g vq os
  far : vo.ownBlock ≠ some g
  below : Below w.heap.size w wr
section
variable {w wr w2 : World} {ms ms' os : List Int} {g : Nat} {vo vo' vq : Value}
theorem FromW.ins (h : FromW w ms os g vo vq wr) (ho : Own w2 w.heap.size eI 3 vo' ms') (hb : Below wr.heap.size wr w2) (hor : vo' = vo ∨ Own w2 wr.heap.size eI 3 vo' ms') (hup : ms'.Pairwise (· < ·)) : FromW w ms' os g vo' vq w2 := by
  refine ⟨hup, ho, h.que.below hb, ?_, h.below.trans (hb.mono h.below.size)⟩
  rcases hor with rfl | h1
  · exact h.far
  · intro e
    have := (own_blk h1 e).1
    have := h.que.lt.2
    omega
theorem FromW.push (h : FromW w ms os g vo vq wr) (hn : os.length ≤ 100000) (x : Int) :
    ∃ vq' g' W', (Builtin.append_ #[27, 27] 27 #[vq, .slice (some ⟨wr.heap.size, 0, none⟩) 1 1]).run Try.prog (wr.alloc (.cells #[.int .i64 x] 3)) = .ok vq' W' ∧ FromW w ms (os ++ [x]) g' vo vq' W' := by
  obtain ⟨vq', g', W', hap, hq, hg', hgr⟩ := que_append h.que h.below.size hn x
  refine ⟨vq', g', W', hap, h.up, own_keep h.out fun g2 hg2 => hgr.block g2 (own_blk h.out hg2).2.1 fun e => h.far (by rw [hg2, e]), hq, fun e => ?_, h.below.grown hgr h.below.size fun g2 hg2 => by injection hg2 with hg2; subst hg2; exact h.que.lt.1⟩
  rcases hg' with rfl | hg'
  · exact h.far e
  · have := (own_blk h.out e).2.1
    omega
end
def FOut (w : World) (dl : List (Int × Int)) (who : Int) (k : Nat) (vo vq : Value) (wr : World) : Prop :=
  ∃ ms os g, 2 * (dl.length - ms.length) + os.length = k ∧ Search dl who ms os ∧ FromW w ms os g vo vq wr
def FIn (w : World) (back : Bool) (l dl : List (Int × Int)) (who a : Int) (K n k : Nat) (vo vq i : Value) (wr : World) : Prop :=
  ∃ j ms os g, j + k = n ∧ i = .int .i64 (j : Int) ∧ 2 * (dl.length - ms.length) + os.length < K ∧ MidF dl who a (Seen back l a j) ms os ∧ FromW w ms os g vo vq wr
set_option maxHeartbeats 4000000 in
theorem rfrom_ {w : World} {K : Nat → Prop} {A : Option Addr} {l : List (Int × Int)} {n c : Nat} (hl : Lst w K eE A l) (hn : l.length = n) (hmax : n ≤ 10000) (who : Int) (back : Bool) :
    Calls Try.prog 16 #[.slice A n c, .int .i64 who, .bool back] w fun e w' => ∃ v r, e = .returned v ∧ Own w' w.heap.size eI 3 v r ∧ r.Pairwise (· < ·) ∧ (∀ x, x ∈ r ↔ Reach (turnE back l) who x) ∧ Below w.heap.size w w' := by
  have HL := Lib.hid hl
  have HN := Lib.hid hn
  have hdl : (turnE back l).length = n := by rw [turn_length, hn]
  have HDL := Lib.hid hdl
  clear hl hn hdl
  go_enter Try.func16, Try.ntmps16
  go_wp2_with fail
  go_loopg [7, 8] (2 * n + 1) (fun k vo vq wr => FOut w (turnE back l) who k vo vq wr)
  case atStart =>
    exact ⟨[], [who], _, by rw [HDL.out]; simp, Search.start _ who, List.Pairwise.nil, own_nil _ _, que_one (Nat.le_refl _) who, by simp [Value.ownBlock], alloc_below _ _⟩
  case round =>
    obtain ⟨ms, os, g, hk, hs, hf⟩ := hrel
    obtain ⟨A3, c3, rfl, _⟩ := own_lst hf.out
    rcases os with _ | ⟨a, os⟩
    · have HS := Lib.hid hs
      have HF := Lib.hid hf
      obtain ⟨off, cap, cur, rfl, _⟩ := hf.que
      clear hs hf hk
      go_wp2_with fail
      go_ret
      exact ⟨_, ms, rfl, HF.out.out, HF.out.up, HS.out.all, HF.out.below⟩
    · obtain ⟨off, cap, rfl, d0, v', hcut, hq'⟩ := hf.que.head_
      have hosl : os.length ≤ 20000 := by
        have h1 := met_short hs.nodup hs.met
        rw [HDL.out] at h1
        have := hs.len
        rw [List.length_cons] at this
        omega
      have hf' : FromW w ms os g _ v' wr := ⟨hf.up, hf.out, hq', hf.far, hf.below⟩
      have HF := Lib.hid hf'
      have HS := Lib.hid hs.leaveF
      rw [List.length_cons] at hk
      have HK := Lib.hid hk
      clear hs hf hf' hk hq'
      go_wp2_with fail
      go_loopg [7, 8, 10] n (fun k vo vq i wr => FIn w back l (turnE back l) who a gk n k vo vq i wr)
      case atStart => exact ⟨0, ms, os, g, by omega, rfl, by have := HK.out; omega, HS.out.skip fun y hy => absurd hy seen_zero, HF.out⟩
      case round =>
        clear d0 hcut HF HS
        obtain ⟨j, ms, os, g, hj, rfl, hk, hs, hf⟩ := hrel
        have hjn : j ≤ n := by omega
        have HJ := Lib.hid hj
        have HK2 := Lib.hid hk
        have hmsl : ms.length ≤ 10000 := by
          have := met_short hs.nodup hs.met
          rw [HDL.out] at this
          omega
        have hosl2 : os.length ≤ 10000 := Nat.le_trans hs.len hmsl
        have HM := Lib.hid hs
        obtain ⟨A3, c3, rfl, _⟩ := own_lst hf.out
        have HF := Lib.hid hf
        clear hj hk hs hf
        by_cases hlt : j < n
        · have hx : j < l.length := by rw [HN.out]; exact hlt
          obtain ⟨g2, o2, rfl, _, d2, d3⟩ := (HL.out.below HF.out.below).atE hx
          have hxs : l[j]? = some l[j] := List.getElem?_eq_getElem hx
          have HX := Lib.hid hxs
          clear hxs
          generalize l[j] = e at *
          obtain ⟨e1, e2⟩ := e
          simp only at d2 d3
          cases back
          · -- forward
            by_cases hsa : e1 = a
            · subst hsa
              have hne : (e1 != e1) = false := by simp
              by_cases hin : e2 ∈ ms
              · have hms := ins_known HF.out.up hin
                have HMS := Lib.hid hms
                have HN2 := Lib.hid (HM.out.known hin (P' := Seen false l e1 (j + 1)) fun y hy => (seen_next HX.out hy).imp id fun h => h.2)
                clear hin hms
                go_wp2_with fail
                refine (rinsert2_ HF.out.out HF.out.below.size (by omega) e2).mono ?_
                rintro e w2 ⟨vo', rfl, ho, hb, hor⟩
                rw [HMS.out] at ho hor
                have HF2 := Lib.hid (HF.out.ins ho hb hor HF.out.up)
                obtain ⟨A4, c4, rfl, _⟩ := own_lst ho
                clear ho hb hor
                go_wp2_with fail
                go_roundg (n - (j + 1))
                case measure => have := HJ.out; omega
                case rel => exact ⟨j + 1, ms, os, g, by omega, by go_num, HK2.out, HN2.out, HF2.out⟩
              · have hlen := ins_fresh hin
                have hup := up_ins (x := e2) HF.out.up
                have HUP := Lib.hid hup
                have HN2 := Lib.hid (HM.out.fresh (x := e2) (ms' := insI ms e2) (turn_mem HX.out) (up_nodup hup) (fun y => mem_ins) hlen (P' := Seen false l e1 (j + 1)) fun y hy => (seen_next HX.out hy).imp id fun h => h.2)
                clear hin hup
                go_wp2_with fail
                refine (rinsert2_ HF.out.out HF.out.below.size (by omega) e2).mono ?_
                rintro e w2 ⟨vo', rfl, ho, hb, hor⟩
                have HF2 := Lib.hid (HF.out.ins ho hb hor HUP.out)
                obtain ⟨A4, c4, rfl, _⟩ := own_lst ho
                obtain ⟨vq', g', W', hap, hf3⟩ := HF2.out.push (by omega) e2
                rw [hlen] at ho hf3 ⊢
                have HAP := Lib.hid hap
                have HF3 := Lib.hid hf3
                have HLN := Lib.hid hlen
                clear ho hb hor hap hf3 hlen
                go_wp2_with (at_builtin; refine wpList_append_run rfl (.tmp 63) (.tmp 65) 27 27 rfl _ _ rfl rfl HAP.out ?_)
                go_roundg (n - (j + 1))
                case measure => have := HJ.out; omega
                case rel =>
                  refine ⟨j + 1, insI ms e2, os ++ [e2], g', by omega, by go_num, ?_, HN2.out, HF3.out⟩
                  have h1 := met_short HN2.out.nodup HN2.out.met
                  have h2 := HK2.out
                  rw [HLN.out] at h1 ⊢
                  rw [List.length_append, List.length_singleton]
                  omega
            · have hne : (e1 != a) = true := by simpa using hsa
              have HN2 := Lib.hid (HM.out.skip (P' := Seen false l a (j + 1)) fun y hy => (seen_next HX.out hy).resolve_right fun h => hsa h.1.symm)
              clear hsa
              go_wp2_with fail
              go_roundg (n - (j + 1))
              case measure => have := HJ.out; omega
              case rel => exact ⟨j + 1, ms, os, g, by omega, by go_num, HK2.out, HN2.out, HF.out⟩
          · -- back
            by_cases hsa : e2 = a
            · subst hsa
              have hne : (e2 != e2) = false := by simp
              by_cases hin : e1 ∈ ms
              · have hms := ins_known HF.out.up hin
                have HMS := Lib.hid hms
                have HN2 := Lib.hid (HM.out.known hin (P' := Seen true l e2 (j + 1)) fun y hy => (seen_next HX.out hy).imp id fun h => h.2)
                clear hin hms
                go_wp2_with fail
                refine (rinsert2_ HF.out.out HF.out.below.size (by omega) e1).mono ?_
                rintro e w2 ⟨vo', rfl, ho, hb, hor⟩
                rw [HMS.out] at ho hor
                have HF2 := Lib.hid (HF.out.ins ho hb hor HF.out.up)
                obtain ⟨A4, c4, rfl, _⟩ := own_lst ho
                clear ho hb hor
                go_wp2_with fail
                go_roundg (n - (j + 1))
                case measure => have := HJ.out; omega
                case rel => exact ⟨j + 1, ms, os, g, by omega, by go_num, HK2.out, HN2.out, HF2.out⟩
              · have hlen := ins_fresh hin
                have hup := up_ins (x := e1) HF.out.up
                have HUP := Lib.hid hup
                have HN2 := Lib.hid (HM.out.fresh (x := e1) (ms' := insI ms e1) (turn_mem HX.out) (up_nodup hup) (fun y => mem_ins) hlen (P' := Seen true l e2 (j + 1)) fun y hy => (seen_next HX.out hy).imp id fun h => h.2)
                clear hin hup
                go_wp2_with fail
                refine (rinsert2_ HF.out.out HF.out.below.size (by omega) e1).mono ?_
                rintro e w2 ⟨vo', rfl, ho, hb, hor⟩
                have HF2 := Lib.hid (HF.out.ins ho hb hor HUP.out)
                obtain ⟨A4, c4, rfl, _⟩ := own_lst ho
                obtain ⟨vq', g', W', hap, hf3⟩ := HF2.out.push (by omega) e1
                rw [hlen] at ho hf3 ⊢
                have HAP := Lib.hid hap
                have HF3 := Lib.hid hf3
                have HLN := Lib.hid hlen
                clear ho hb hor hap hf3 hlen
                go_wp2_with (at_builtin; refine wpList_append_run rfl (.tmp 63) (.tmp 65) 27 27 rfl _ _ rfl rfl HAP.out ?_)
                go_roundg (n - (j + 1))
                case measure => have := HJ.out; omega
                case rel =>
                  refine ⟨j + 1, insI ms e1, os ++ [e1], g', by omega, by go_num, ?_, HN2.out, HF3.out⟩
                  have h1 := met_short HN2.out.nodup HN2.out.met
                  have h2 := HK2.out
                  rw [HLN.out] at h1 ⊢
                  rw [List.length_append, List.length_singleton]
                  omega
            · have hne : (e2 != a) = true := by simpa using hsa
              have HN2 := Lib.hid (HM.out.skip (P' := Seen true l a (j + 1)) fun y hy => (seen_next HX.out hy).resolve_right fun h => hsa h.1.symm)
              clear hsa
              go_wp2_with fail
              go_roundg (n - (j + 1))
              case measure => have := HJ.out; omega
              case rel => exact ⟨j + 1, ms, os, g, by omega, by go_num, HK2.out, HN2.out, HF.out⟩
        · obtain rfl : j = n := by omega
          have HN2 := Lib.hid (HM.out.leave fun y hy => seen_all (Nat.le_of_eq HN.out) hy)
          obtain ⟨off, cap, cur, rfl, _⟩ := HF.out.que
          clear hlt
          go_wp2_with fail
          go_roundg (2 * ((turnE back l).length - ms.length) + os.length)
          case measure => exact HK2.out
          case rel => exact ⟨ms, os, g, rfl, HN2.out, HF.out⟩
end Go.Proofs.Ytoojoldcomokhaa
