/- The document's Holds, walked. -/
import Derived.Test.YtillbjaejdkfdaaDoorRkQ
import Derived.Test.YtillbjaejdkfdaaDoorRkW
import Derived.Test.YtillbjaejdkfdaaDoorRkO
set_option maxRecDepth 4000
namespace Go.Proofs.YtillbjaejdkfdaaDoor
open Go.RowKit
/-- holds behind an empty row -/
theorem append_firstH {W : World} {K : Nat → Prop} {A : Option Addr} {n c : Nat} {l : List Ho} (h : Lst W K eH A l) (hl : l.length = n) (hn : n ≤ 100000) :
    ∃ v' W', (Builtin.append_ #[29, 29] 29 #[.slice none 0 0, .slice A n c]).run Tryd.prog W = .ok v' W' ∧ Own W' W.heap.size eH 42 v' l ∧ Below W.heap.size W W' := by
  obtain ⟨v', W', hap, ho', hg', _⟩ := append_own tyH (own_nil W W.heap.size) h hl c (by show 0 + n ≤ _; omega) (Nat.le_refl _)
  exact ⟨v', W', hap, ho', (Below.refl _ _).grown hg' (Nat.le_refl _) (fun g hg => by simp [Value.ownBlock] at hg)⟩
def RH (w : World) (H L : List Cl) (k : Nat) (v i : Value) (wr : World) : Prop :=
  ∃ j, j + k = L.length ∧ i = .int .i64 (j : Int) ∧ Own wr w.heap.size eH 42 v (hldI H L j) ∧ Below w.heap.size w wr
set_option maxHeartbeats 2000000 in
theorem rholds_ {w : World} {b : Nat} {A A' : Option Addr} {K K' : Nat → Prop} {n m c c' : Nat} {H L : List Cl} (h2 : RTwo w b (.slice A n c) (.slice A' m c')) (hH : Lst w K eH A (H.map hdA)) (hL : Lst w K' eH A' (L.map lnA))
    (hn : H.length = n) (hm : L.length = m) (hn1 : n ≤ 10000) (hm1 : m ≤ 10000) (ok : Ok (H, L)) :
    Calls Tryd.prog 16 #[.pointer (some ⟨b, 0, none⟩)] w fun e w' => ∃ v, e = .returned v ∧ Own w' w.heap.size eH 42 v (holdsP (H, L)) ∧ Below w.heap.size w w' := by
  have b0 := h2.c0
  have hbs := h2.lt
  obtain ⟨v1, w1, hap, ho1, hb1⟩ := append_firstH (n := n) (c := c) hH (by rw [List.length_map]; exact hn) (by omega)
  rw [← hld_zero H L] at ho1
  have HAP := Lib.hid hap
  have HO1 := Lib.hid ho1
  have HB1 := Lib.hid hb1
  have H2 := Lib.hid h2
  have HL := Lib.hid hL
  have HN := Lib.hid hn
  have HM := Lib.hid hm
  have OK := Lib.hid ok
  clear hap ho1 hb1 h2 hH hL hn hm ok
  go_enter Tryd.func16, Tryd.ntmps16
  go_wp2_with (at_builtin; refine wpList_append_run rfl (.const (.slice none 0 0)) (.tmp 9) 29 29 rfl _ _ rfl rfl HAP.out ?_)
  go_loopg [3, 4, 5] m (fun k v i _ wr => RH w H L k v i wr)
  case atStart => exact ⟨0, by rw [HM.out]; omega, rfl, HO1.out, HB1.out⟩
  case round =>
    clear b0 HO1 HB1
    obtain ⟨j, hj, rfl, ho, hb⟩ := hrel
    have b1 := (H2.out.below hb hbs).c1
    have HJ := Lib.hid hj
    have HB := Lib.hid hb
    have HO := Lib.hid ho
    clear hj hb ho
    by_cases hlt : j < m
    · have hx : j < L.length := by rw [HM.out]; exact hlt
      obtain ⟨g, o, rfl, hg, d0, d1, d2⟩ := (HL.out.below HB.out).atLn hx
      obtain ⟨A3, c3, rfl, hl3, hc3, hm3, _⟩ := own_lst HO.out
      have hlen := hld_length H L j
      rw [HN.out, HM.out] at hlen
      have hfind := rfind_ (c := c3) hl3 rfl (by omega) (L[j]).1
      cases hh : hasP H (L[j]).1 with
      | true =>
        obtain ⟨k, hkk, hk, hkh⟩ : ∃ k, H.findIdx (isW (L[j]).1) = k ∧ k < H.length ∧ H.findIdx (isW (L[j]).1) < H.length := by
          rcases idx_cases (isW (L[j]).1) H with ⟨_, e⟩ | ⟨h, _⟩
          · have : hasP H (L[j]).1 = false := e
            rw [hh] at this; cases this
          · exact ⟨_, rfl, h, h⟩
        obtain ⟨e1, e2⟩ := hld_hit OK.out hx hkh
        simp only [hkk] at e1 e2
        obtain ⟨hkl, hat⟩ := hld_at L j hk
        rw [e1] at hfind
        obtain ⟨g3, cur3, rfl, hg3, hblk3, hcell3⟩ := own_slot HO.out (Nat.lt_of_le_of_lt (Nat.zero_le k) hkl)
        have hkln : k < (hldI H L j).length := hkl
        have c2 := hcell3 (k * 3 + 2) _ (cellsE_at eH hkl (i := 2) rfl)
        have hs1 := fun W (hb : Below wr.heap.size wr W) => own_set1 (own_belowE HO.out hb) hkl ((H[k]).1, (H[k]).2, (L[j]).2) (i := 2) (u := .int .i64 ((L[j]).2 : Int)) (by show 2 < 3; omega) (by rw [hat]; rfl)
        rw [← e2] at hs1
        have HS1 := Lib.hid hs1
        have HF := Lib.hid hfind
        have HBK := Lib.hid hblk3
        clear hfind e1 e2 hh hl3 hcell3 hat hs1 hkh hkk hblk3 HO
        generalize (hldI H L j)[k].2.2 = z2 at *
        generalize (L[j]).1 = y1 at *
        generalize (L[j]).2 = y2 at *
        generalize hln : (hldI H L j).length = ln at *
        clear hkl
        go_wp2_with fail
        refine HF.out.mono ?_
        rintro e w4 ⟨rfl, hb4⟩
        have hg3s : g3 < wr.heap.size := HBK.out.lt
        have d0 := (cell_of_heap (hb4.block g hg) _).trans d0
        have d2 := (cell_of_heap (hb4.block g hg) _).trans d2
        have c2 := (cell_of_heap (hb4.block g3 hg3s) _).trans c2
        have f2 := (Blk.below HBK.out hb4 hg3s).frozen (k * 3 + 2)
        have hb5 := HB.out.trans (hb4.mono HB.out.size)
        have b1 := (H2.out.below hb5 hbs).c1
        have HO6 := Lib.hid (HS1.out w4 hb4)
        have HB6 := Lib.hid (hb5.setCell (p := ⟨g3, k * 3 + 2, none⟩) hg3 (.int .i64 (y2 : Int)))
        clear hb5 hb4 HF HS1 HBK
        go_wp2_with fail
        go_roundg (m - (j + 1))
        case measure => have := HJ.out; have := HM.out; omega
        case rel => exact ⟨j + 1, by rw [HM.out]; omega, by go_num, HO6.out, HB6.out⟩
      | false =>
        obtain ⟨e1, e2⟩ := hld_miss OK.out hx hh
        rw [e1] at hfind
        have HF := Lib.hid hfind
        have HE := Lib.hid e2
        have hlk : lnA L[j] = ((L[j]).1, 0, (L[j]).2) := rfl
        rw [hlk] at HE
        clear hfind e1 e2 hh hl3 hlk
        generalize (L[j]).1 = y1 at *
        generalize (L[j]).2 = y2 at *
        generalize hln : (hldI H L j).length = ln at *
        go_wp2_with fail
        refine HF.out.mono ?_
        rintro e w4 ⟨rfl, hb4⟩
        have d0 := (cell_of_heap (hb4.block g hg) _).trans d0
        have d1 := (cell_of_heap (hb4.block g hg) _).trans d1
        have d2 := (cell_of_heap (hb4.block g hg) _).trans d2
        have hb5 := HB.out.trans (hb4.mono HB.out.size)
        have b1 := (H2.out.below hb5 hbs).c1
        obtain ⟨v6, w6, hap, ho6, hb6, _⟩ := append_hold (own_belowE HO.out hb4) hb5.size (by omega) hb5 (y1, 0, y2)
        rw [← HE.out] at ho6
        have HO6 := Lib.hid ho6
        have HB6 := Lib.hid hb6
        have HAP6 := Lib.hid hap
        clear hap ho6 hb6 hb5 hb4 HF
        go_wp2_with (at_builtin; refine wpList_append_run rfl (.tmp 44) (.tmp 52) 29 29 rfl _ _ rfl rfl HAP6.out ?_)
        go_roundg (m - (j + 1))
        case measure => have := HJ.out; have := HM.out; omega
        case rel => exact ⟨j + 1, by rw [HM.out]; omega, by go_num, HO6.out, HB6.out⟩
    · have hjm : j = m := by have := HJ.out; have := HM.out; omega
      subst hjm
      have ho := HO.out
      rw [← HM.out, hld_all] at ho
      have HO2 := Lib.hid ho
      clear ho HO
      go_wp2_with fail
      go_ret
      exact ⟨_, rfl, HO2.out, HB.out⟩
end Go.Proofs.YtillbjaejdkfdaaDoor
