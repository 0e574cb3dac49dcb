/- Package locks' Free, walked. -/
import Derived.Test.YtnjhhndggfjjdaaDoorLkF
set_option maxRecDepth 4000
namespace Go.Proofs.YtnjhhndggfjjdaaDoor
open Go.RowKit
def FrR (w : World) (b : Nat) (A : Option Addr) (c : Nat) (s : TS) (who : Int) (k : Nat) (gv lv i : Value) (wr : World) : Prop :=
  ∃ j G SL rl, j + k = s.length ∧ i = .int .i64 (j : Int) ∧ FS w b A c s.length G SL gv lv rl (countP SL + countP (s.drop j)) wr ∧ freeN s who = (G ++ (freeN (s.drop j) who).1, SL ++ (freeN (s.drop j) who).2) ∧ G.length ≤ j * 1000 ∧ SL.length ≤ j ∧ countP SL + countP (s.drop j) ≤ countP s
theorem count_cons (e : Ent) (s : TS) : countP (e :: s) = (holdsP e.2).length + countP s := by unfold countP; simp
theorem count_snoc (e : Ent) (s : TS) : countP (s ++ [e]) = countP s + (holdsP e.2).length := by unfold countP; simp
theorem free_out {s : TS} {who : Int} {j : Nat} (hj : j < s.length) (h : hereP s[j].2 who = false) : freeN (s.drop j) who = ((freeN (s.drop (j + 1)) who).1, s[j] :: (freeN (s.drop (j + 1)) who).2) := by
  rw [List.drop_eq_getElem_cons hj, freeN, if_neg (by simp [h])]
theorem free_in {s : TS} {who : Int} {j : Nat} (hj : j < s.length) (h : hereP s[j].2 who = true) : freeN (s.drop j) who = ((dropP s[j].2 who).1 ++ (freeN (s.drop (j + 1)) who).1, if (holdsP (dropP s[j].2 who).2).length = 0 then (freeN (s.drop (j + 1)) who).2 else (s[j].1, (dropP s[j].2 who).2) :: (freeN (s.drop (j + 1)) who).2) := by
  rw [List.drop_eq_getElem_cons hj, freeN, if_pos h]
theorem blk_own_ne {α : Type} {E : Enc α} {T T' : TypeId} {w : World} {q base : Nat} {cs : Array Value} {v : Value} {l : List α} (h : Blk w q T cs) (ho : Own w base E T' v l) (ht : T ≠ T') : v.ownBlock ≠ some q := fun e => by
  obtain ⟨_, _, cur, hc⟩ := own_blk ho e
  have := h.symm.trans hc
  injection this with this
  injection this with _ this
  exact ht this
theorem claim_own_ne {α : Type} {E : Enc α} {T' : TypeId} {w : World} {base i : Nat} {cur : Array Value} {v : Value} {l : List α} (ho : Own w base E T' v l) (ht : 78 ≠ T') (hc : w.heap[i]? = some (.cells cur 78 (0, 0))) : v.ownBlock ≠ some i := blk_own_ne (q := i) (cs := cur) hc ho ht
theorem append_lock {W : World} {base : Nat} {v : Value} {l : List Re} (ho : Own W base eL 62 v l) (hb : base ≤ W.heap.size) (hn : l.length ≤ 100000) (a1 : Option Addr) (a2 a3 : Nat) (c1 : Option Addr) (c2 c3 : Nat) (m : Nm) :
    ∃ v' W', (Builtin.append_ #[48, 48] 48 #[v, .slice (some ⟨W.heap.size, 0, none⟩) 1 1]).run Tryd.prog (W.alloc (.cells #[.slice a1 a2 a3, .slice c1 c2 c3, .int .i64 m.1, .string m.2.1, .string m.2.2] 62)) = .ok v' W' ∧
      Own W' base eL 62 v' (l ++ [((a1, a2, a3), (c1, c2, c3), m)]) ∧ (W.alloc (.cells #[.slice a1 a2 a3, .slice c1 c2 c3, .int .i64 m.1, .string m.2.1, .string m.2.2] 62)).grownBy W' v.ownBlock := by
  have hal := alloc_below W (.cells #[.slice a1 a2 a3, .slice c1 c2 c3, .int .i64 m.1, .string m.2.1, .string m.2.2] 62)
  have hone : Lst (W.alloc (.cells #[.slice a1 a2 a3, .slice c1 c2 c3, .int .i64 m.1, .string m.2.1, .string m.2.2] 62)) (fun i => W.heap.size ≤ i) eL (some ⟨W.heap.size, 0, none⟩) [((a1, a2, a3), (c1, c2, c3), m)] := fun _ =>
    ⟨_, 0, rfl, Nat.le_refl _, by simp, fun j u hu => by rw [(Blk.new W 62 _).cell, Nat.zero_add]; simpa [cellsE, eL, Sl.val] using hu⟩
  obtain ⟨v', W', hap, ho', hg', _⟩ := append_own tyL (own_belowE ho hal) hone rfl 1 (by show l.length + 1 ≤ _; omega) (Nat.le_trans hb hal.size)
  exact ⟨v', W', hap, ho', hg'⟩
set_option maxHeartbeats 8000000 in
theorem tfree_ {w : World} {b : Nat} {s : TS} (h : LT w b (countP s : Int) s) (hg : TGood s) (hT : Tab w) (hb0 : 0 ≠ b) (hc : countP s ≤ 10000) (hs5 : s.length ≤ 500) (hl5 : ∀ e ∈ s, e.2.1.length ≤ 1000 ∧ e.2.2.length ≤ 1000) (who : Int) :
    Calls Tryd.prog 12 #[.pointer (some ⟨b, 0, none⟩), .int .i64 who] w fun e w' => ∃ v, e = .returned v ∧ Own w' w.heap.size eI 3 v (freeN s who).1 ∧ LT w' b (countP (freeN s who).2 : Int) (freeN s who).2 ∧ Keep (fun i _ => i ≠ b) w w' := by
  obtain ⟨A, c, rs, h⟩ := h
  have p1 := h.blk.cell 1
  have hbw := h.lt
  have hmx := h.max
  have hle := h.le
  unfold maxLen at hmx
  have H := Lib.hid h
  have HG := Lib.hid hg
  have HT := Lib.hid hT
  have HL5 := Lib.hid hl5
  clear h hg hT hl5
  obtain ⟨m, hm⟩ : ∃ m, s.length = m := ⟨_, rfl⟩
  have hrl : rs.length = m := H.out.rows.1.trans hm
  rw [hm] at p1 hle hs5
  have HM := Lib.hid hm
  have HRL := Lib.hid hrl
  clear hm hrl
  have hst : FrR w b A c s who m (.slice none 0 0) (.slice none 0 0) (.int .i64 0) w := ⟨0, [], [], [], by rw [HM.out]; omega, rfl, by simpa [countP] using FS.start H.out, by simp, Nat.zero_le _, Nat.le_refl _, by simp [countP]⟩
  have HST := Lib.hid hst
  clear hst
  go_enter Tryd.func12, Tryd.ntmps12
  go_wp2_with fail
  go_loopg [5, 6, 18] m (fun k gv lv i wr => FrR w b A c s who k gv lv i wr)
  case atStart => exact HST.out
  case round =>
    obtain ⟨j, G, SL, rl, hj, rfl, hfs, hfr, hgl, hsl, hcl⟩ := hrel
    have HJ := Lib.hid hj
    have HFS := Lib.hid hfs
    have HFR := Lib.hid hfr
    clear hj hfs hfr
    by_cases hlt : j < m
    · have hx : j < rs.length := by rw [HRL.out]; exact hlt
      have hs : j < s.length := by rw [HM.out]; exact hlt
      obtain ⟨hel, her⟩ := HFS.out.elder H.out
      have hrow := her.2 j hx hs
      obtain ⟨g2, o2, rfl, _, hg2, d0, d1, d2, d3, d4⟩ := hel.atL hx
      have hmem := List.getElem_mem hs
      have hok := HG.out.ok _ hmem
      have hsm := HG.out.small _ hmem
      have hl1 := HL5.out _ hmem
      have hnm : rs[j].2.2 = s[j].1 := hrow.name
      obtain ⟨e1, e2, he⟩ : ∃ e1 e2, s[j] = (e1, e2) := ⟨_, _, rfl⟩
      have hout := free_out (who := who) hs
      have hin := free_in (who := who) hs
      have hcd : countP (s.drop j) = (holdsP e2).length + countP (s.drop (j + 1)) := by rw [List.drop_eq_getElem_cons hs, count_cons, he]
      rw [he] at hok hsm hl1 hrow hnm hout hin
      simp only at hok hsm hl1 hnm hout hin
      have hbx : Box (wr.alloc (.cells #[rs[j].1.val, rs[j].2.1.val, .int .i64 e1.1, .string e1.2.1, .string e1.2.2] 62)) wr.heap.size e1 rs[j] e2 := ⟨Blk.new wr _ _, hrow.below (alloc_below wr _)⟩
      rw [hnm] at d2 d3 d4
      have HBX := Lib.hid hbx
      have HAL := Lib.hid (alloc_below wr (.cells #[rs[j].1.val, rs[j].2.1.val, .int .i64 e1.1, .string e1.2.1, .string e1.2.2] 62))
      have HOK := Lib.hid hok
      have HOUT := Lib.hid hout
      have HIN := Lib.hid hin
      have HCD := Lib.hid hcd
      have HE := Lib.hid he
      generalize hX : rs[j] = X at *
      clear hbx hok hout hin hcd he hrow hmem hel her hnm hX
      obtain ⟨⟨a1, a2, a3⟩, ⟨c1, c2, c3⟩, y⟩ := X
      obtain ⟨t1, t2, t3⟩ := e1
      unfold Sl.val at *
      simp only at *
      go_wp2_with fail
      generalize wr.alloc (.cells #[.slice a1 a2 a3, .slice c1 c2 c3, .int .i64 t1, .string t2, .string t3] 62) = wA at *
      have hho := lholdof_ HBX.out.lock hsm.1 hsm.2 who
      rw [find_here] at hho
      have HHO := Lib.hid hho
      clear hho
      obtain ⟨x0, x1, x2, hx⟩ : ∃ x0 x1 x2 : Int, valH ((findH (holdsP e2) who).getD (0, 0, 0)) = .agg #[.int .i64 x0, .int .i64 x1, .int .i64 x2] := ⟨_, _, _, rfl⟩
      rw [hx] at HHO
      clear hx
      obtain ⟨hh, hhh⟩ : ∃ hh, hereP e2 who = hh := ⟨_, rfl⟩
      rw [hhh] at HHO HOUT HIN
      have HH := Lib.hid hhh
      clear hhh
      refine HHO.out.mono ?_
      rintro e w1 ⟨rfl, hb1⟩
      have hal1 := alloc_below w1 (.cells #[.int .i64 x0, .int .i64 x1, .int .i64 x2] 53)
      have HB2 := Lib.hid ((HAL.out.trans (hb1.mono HAL.out.size)).trans (hal1.mono (HAL.out.trans (hb1.mono HAL.out.size)).size))
      have HBX2 := Lib.hid ((HBX.out.below hb1).below hal1)
      clear hb1 hal1 HHO HBX HAL
      cases hh
      · have hout := HOUT.out (by simp)
        have HBXv := HBX2.out.blk
        have q0 : _ = some (Value.slice a1 a2 a3) := HBXv.cell 0
        have q1 : _ = some (Value.slice c1 c2 c3) := HBXv.cell 1
        have q2 := HBXv.cell 2
        have q3 := HBXv.cell 3
        have q4 := HBXv.cell 4
        have hF2 := HFS.out.below HB2.out
        obtain ⟨v', W', hap, ho', hg'⟩ := append_lock hF2.own hF2.keep.size (by rw [hF2.rows.1]; omega) a1 a2 a3 c1 c2 c3 (t1, t2, t3)
        have hal3 := alloc_below (w1.alloc (.cells #[.int .i64 x0, .int .i64 x1, .int .i64 x2] 53)) (.cells #[.slice a1 a2 a3, .slice c1 c2 c3, .int .i64 t1, .string t2, .string t3] 62)
        have hF3 := hF2.below hal3
        have hrw : RowOk W' ((a1, a2, a3), (c1, c2, c3), (t1, t2, t3)) ((t1, t2, t3), e2) := by
          have h1 := (HBX2.out.below hal3).row.kept ((Keep.refl _).grown hg' (K := fun i _ => u6.ownBlock ≠ some i) fun g o hgg _ hn => hn hgg) (fun i cur hc => claim_own_ne hF3.own (by decide) hc)
          exact ⟨rfl, h1.held, h1.line⟩
        have hF4 := hF3.put hrw ho' hg'
        rw [show (w1.alloc (.cells #[.int .i64 x0, .int .i64 x1, .int .i64 x2] 53)).heap.size = w1.heap.size + 1 by simp] at hap
        have HF4 := Lib.hid hF4
        have HAP := Lib.hid hap
        have HOUT2 := Lib.hid hout
        clear HBXv hF2 ho' hg' hal3 hF3 hrw hF4 hap hout d0 d1 d2 d3 d4
        go_wp2_with (at_builtin; refine wpList_append_run rfl (.tmp 41) (.tmp 43) 48 48 rfl _ _ rfl rfl HAP.out ?_)
        go_roundg (m - (j + 1))
        case measure => have := HJ.out; have := HM.out; omega
        case rel =>
          refine ⟨j + 1, G, SL ++ [((t1, t2, t3), e2)], rl ++ [((a1, a2, a3), (c1, c2, c3), (t1, t2, t3))], by have := HM.out; omega, by go_num, ?_, ?_, by omega, by simp; omega, by rw [count_snoc]; have := HCD.out; simp only; omega⟩
          · have e : countP SL + countP (s.drop j) = countP (SL ++ [((t1, t2, t3), e2)]) + countP (s.drop (j + 1)) := by rw [count_snoc, HCD.out]; simp only; omega
            rw [← e]
            exact HF4.out
          · rw [HFR.out, HOUT2.out]
            simp
      · have hin := HIN.out (by simp)
        have HBXv := HBX2.out
        have hgm : 0 ≠ wr.heap.size := by have := HT.out.lt; have := HFS.out.keep.size; omega
        have hT2 : Tab (w1.alloc (.cells #[.int .i64 x0, .int .i64 x1, .int .i64 x2] 53)) := (HT.out.keep HFS.out.keep fun _ => hb0).keep (Keep.of_below HB2.out (K := fun _ _ => True)) fun _ => trivial
        have hdr := drop_ HBXv.lock HOK.out hsm.1 hsm.2 hT2 hgm who
        have HDR := Lib.hid hdr
        have HIN2 := Lib.hid hin
        clear hdr hin HBXv hT2 d0 d1 d2 d3 d4
        go_wp2_with fail
        generalize w1.alloc (.cells #[.int .i64 x0, .int .i64 x1, .int .i64 x2] 53) = w2 at *
        refine HDR.out.mono ?_
        rintro e w3 ⟨v3, rfl, ho3, hl3, hk3⟩
        have hb3 : Below wr.heap.size wr w3 := HB2.out.trans (hk3.below HB2.out.size fun i _ hi => by omega)
        obtain ⟨r3, hbx3⟩ := Box.of_lock (m := (t1, t2, t3)) hl3
        have hF3 := HFS.out.below hb3
        obtain ⟨A3, n3, e3, hl3', hn3, _, _⟩ := own_lst ho3
        have hdl := (drop_length (s := e2) who).2.2
        obtain ⟨v4, w4, hap, ho4, hg4, _⟩ := append_own tyI hF3.got (hl3'.more (K' := fun _ => True) fun _ _ _ => trivial) rfl n3 (by omega) hF3.keep.size
        have hF4 := hF3.grant ho4 hg4
        have hbx4 := hbx3.kept ((Keep.refl _).grown hg4 (K := fun i _ => u5.ownBlock ≠ some i) fun g o hgg _ hn => hn hgg) (fun i cur hc => claim_own_ne hF3.got (by decide) hc) (fun _ => blk_own_ne hbx3.blk hF3.got (by decide))
        have hdc := drop_count HOK.out HH.out
        have hok4 := ok_drop HOK.out who
        have hle4 := (drop_length (s := e2) who)
        subst e3
        have HAP := Lib.hid hap
        have HF4 := Lib.hid hF4
        have HBX4 := Lib.hid hbx4
        have HDC := Lib.hid hdc
        have hcn4 : countP SL + countP (s.drop j) ≤ 20000 := by omega
        obtain ⟨k', hk'⟩ : ∃ k', countP SL + countP (s.drop j) = k' + 1 := ⟨countP SL + countP (s.drop j) - 1, by have := HCD.out; have := HDC.out; omega⟩
        have hlv := leave_ HF4.out.tab (by omega) (by omega) (m := (k' : Int)) (by omega)
        have HLV := Lib.hid hlv
        have HK' := Lib.hid hk'
        have hF5 := hF4.count k'
        have hbx5 := hbx4.kept ((Keep.refl w4).setCell (K := fun i _ => i ≠ b) (p := ⟨b, 0, none⟩) (fun _ _ h => h rfl) (.int .i64 (k' : Int))) (fun i cur hc => ne_of_types hF4.tab hc (by decide)) (fun _ => ne_of_types (g := b) hF4.tab hbx4.blk (by decide))
        obtain ⟨l2, hl2⟩ : ∃ l2, (dropP e2 who).2 = l2 := ⟨_, rfl⟩
        obtain ⟨xs, hxs⟩ : ∃ xs, (dropP e2 who).1 = xs := ⟨_, rfl⟩
        rw [hl2] at hbx5 hok4
        have hhl := holds_ hbx5.lock (by rw [← hl2]; omega) (by rw [← hl2]; omega)
        have HHL := Lib.hid hhl
        have HF5 := Lib.hid hF5
        have HBX5 := Lib.hid hbx5
        have HL2 := Lib.hid hl2
        have HXS := Lib.hid hxs
        clear ho3 hl3 hk3 hb3 hbx3 hF3 hl3' hap ho4 hg4 hF4 hbx4 hdc hok4 hlv hk' hF5 hbx5 hl2 hxs hhl
        go_wp2_with (at_builtin; refine wpList_append_run rfl (.tmp 28) (.tmp 31) 35 35 rfl _ _ rfl rfl HAP.out ?_)
        refine HLV.out.mono ?_
        rintro e w5 ⟨rfl, hw5⟩
        rw [← hw5] at HHL HF5 HBX5
        clear hw5
        go_wp2_with fail
        refine HHL.out.mono ?_
        rintro e w6 ⟨v6, rfl, ho6, hb6⟩
        obtain ⟨A6, c6, rfl, _, hn6, hc6, _⟩ := own_lst ho6
        have hF6 := HF5.out.below hb6
        have hbx6 := HBX5.out.below hb6
        clear ho6 hb6
        have hkk : countP SL + countP (s.drop j) = k' + 1 := HK'.out
        have hdc := HDC.out
        rw [HL2.out] at hdc
        have hcdj := HCD.out
        have hin2 := HIN2.out
        rw [HL2.out, HXS.out] at hin2
        have hxl : xs.length ≤ 1000 := by rw [← HXS.out]; omega
        by_cases hz : (holdsP l2).length = 0
        · have hz1 : ((holdsP l2).length : Int) = 0 := by omega
          have hfin : FrR w b (some ⟨g2, o2, none⟩) c s who (m - (j + 1)) v4 u6 (.int .i64 ((j : Int) + 1)) w6 := by
            refine ⟨j + 1, G ++ xs, SL, rl, by have := HM.out; omega, by go_num, ?_, ?_, by simp; omega, by omega, by omega⟩
            · have e : countP SL + countP (s.drop (j + 1)) = k' := by omega
              rw [e, ← HXS.out]
              exact hF6
            · rw [HFR.out, hin2, if_pos hz]
              simp
          have HFIN := Lib.hid hfin
          clear hfin hF6 hbx6 hkk hdc hcdj hin2
          go_wp2_with fail
          go_roundg (m - (j + 1))
          case measure => have := HJ.out; have := HM.out; omega
          case rel => exact HFIN.out
        · have hz1 : ¬ ((holdsP l2).length : Int) = 0 := by omega
          obtain ⟨⟨y1, y2, y3⟩, ⟨z1, z2, z3⟩, yy⟩ := r3
          have q0 : _ = some (Value.slice y1 y2 y3) := hbx6.blk.cell 0
          have q1 : _ = some (Value.slice z1 z2 z3) := hbx6.blk.cell 1
          have q2 := hbx6.blk.cell 2
          have q3 := hbx6.blk.cell 3
          have q4 := hbx6.blk.cell 4
          obtain ⟨v', W', hap, ho', hg'⟩ := append_lock hF6.own hF6.keep.size (by rw [hF6.rows.1]; omega) y1 y2 y3 z1 z2 z3 (t1, t2, t3)
          have hal3 := alloc_below w6 (.cells #[.slice y1 y2 y3, .slice z1 z2 z3, .int .i64 t1, .string t2, .string t3] 62)
          have hF7 := hF6.below hal3
          have hrw : RowOk W' ((y1, y2, y3), (z1, z2, z3), (t1, t2, t3)) ((t1, t2, t3), l2) := by
            have h1 := (hbx6.below hal3).row.kept ((Keep.refl _).grown hg' (K := fun i _ => u6.ownBlock ≠ some i) fun g o hgg _ hn => hn hgg) (fun i cur hc => claim_own_ne hF7.own (by decide) hc)
            exact ⟨rfl, h1.held, h1.line⟩
          have hF8 := hF7.put hrw ho' hg'
          have hfin : FrR w b (some ⟨g2, o2, none⟩) c s who (m - (j + 1)) v4 v' (.int .i64 ((j : Int) + 1)) W' := by
            refine ⟨j + 1, G ++ xs, SL ++ [((t1, t2, t3), l2)], rl ++ [((y1, y2, y3), (z1, z2, z3), (t1, t2, t3))], by have := HM.out; omega, by go_num, ?_, ?_, by simp; omega, by simp; omega, by rw [count_snoc]; simp only; omega⟩
            · have e : countP (SL ++ [((t1, t2, t3), l2)]) + countP (s.drop (j + 1)) = k' := by rw [count_snoc]; simp only; omega
              rw [e, ← HXS.out]
              exact hF8
            · rw [HFR.out, hin2, if_neg hz]
              simp
          have HFIN := Lib.hid hfin
          have HAP2 := Lib.hid hap
          clear hap ho' hg' hal3 hF7 hrw hF8 hfin hF6 hbx6 hkk hdc hcdj hin2
          go_wp2_with (at_builtin; refine wpList_append_run rfl (.tmp 41) (.tmp 43) 48 48 rfl _ _ rfl rfl HAP2.out ?_)
          go_roundg (m - (j + 1))
          case measure => have := HJ.out; have := HM.out; omega
          case rel => exact HFIN.out
    · obtain rfl : j = m := by have := HJ.out; have := HM.out; omega
      have hdr : s.drop j = [] := List.drop_eq_nil_of_le (by rw [HM.out]; exact Nat.le_refl _)
      have hfr := HFR.out
      have hfs := HFS.out
      rw [hdr] at hfr hfs
      have e0 : countP SL + countP [] = countP SL := by simp [countP]
      rw [e0] at hfs
      simp only [freeN, List.append_nil] at hfr
      obtain ⟨A', c', e1, htb, hlt', hgo, hkp⟩ := hfs.done
      subst e1
      have p2 := htb.cell 1
      have f2 := htb.frozen 1
      have HFR2 := Lib.hid hfr
      have HLT := Lib.hid hlt'
      have HGO := Lib.hid hgo
      have HKP := Lib.hid hkp
      clear hfr hfs e0 htb hlt' hgo hkp hdr
      go_wp2_with fail
      go_ret
      exact ⟨_, rfl, by rw [HFR2.out]; exact HGO.out, by rw [HFR2.out]; exact HLT.out, HKP.out⟩
end Go.Proofs.YtnjhhndggfjjdaaDoor
