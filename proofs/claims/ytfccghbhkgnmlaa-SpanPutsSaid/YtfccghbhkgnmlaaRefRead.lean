/- What the Read of the document's own disk answers. -/
import Derived.Test.YtfccghbhkgnmlaaRefWrite
namespace Go.Proofs.Ytfccghbhkgnmlaa
open Go.RowKit
theorem convert_row {w : World} {O : Nat → Prop} {A : Option Addr} {c : Nat} {x : Sec} (h : Row64 w O (.slice A 64 c) x) : (convert 22 9 (.slice A 64 c)).run Try.prog w = .ok (.string ⟨x.toArray⟩) w := by
  obtain ⟨b, c', hv, _, _, _, _, hc⟩ := h.slice
  injection hv with hv1 _ hv3
  subst hv1 hv3
  have hl := h.len
  have := run_convert_bytes_back (P := Try.prog) w 22 9 5 ⟨b, 0, none⟩ c x Try.underlying22 Try.underlying5 Try.underlying9 (fun j hj => by
    rw [Addr.add_mid, Nat.zero_add]
    refine hc j _ ?_
    rw [cellsB_get, List.getElem?_eq_getElem hj]; rfl)
  rw [hl] at this
  exact this
section
variable {w : World} {g : Nat} {O : Nat → Prop} {s : St}
theorem rread_no (h : RefAt w g O s) (i : Int) (hi : i < 0 ∨ (s.n : Int) ≤ i) : Calls Try.prog 17 #[ptr g, .int .i64 i] w fun e w' => e = .returned (.slice none 0 0) ∧ w = w' := by
  obtain ⟨vs, vl, rs, ls, h⟩ := h
  obtain ⟨As, cs, rfl, _, _⟩ := own_slice h.own_s
  have c0 := h.head.cell 0
  simp at c0
  have hrn : rs.length = s.n := h.lr
  rw [hrn] at c0
  clear h hrn
  by_cases hi0 : i < 0
  · clear hi
    go_enter Try.func17, Try.ntmps17
    go_wp2
    go_ret
    exact ⟨rfl, rfl⟩
  · have hi1 : (s.n : Int) ≤ i := by omega
    clear hi
    go_enter Try.func17, Try.ntmps17
    go_wp2
    go_ret
    exact ⟨rfl, rfl⟩
def RReadP (w : World) (x : Sec) (e : Ending) (w' : World) : Prop :=
  ∃ A c, e = .returned (.slice A 64 c) ∧ Row64 w' (fun i => i = w.heap.size) (.slice A 64 c) x ∧ (convert 22 9 (.slice A 64 c)).run Try.prog w' = .ok (.string ⟨x.toArray⟩) w' ∧ Below w.heap.size w w' ∧ w.heap.size < w'.heap.size
def RRel (w : World) (O : Nat → Prop) (s : St) (i : Nat) (k : Nat) (v q : Value) (wr : World) : Prop :=
  ∃ j, j + k = s.l.length ∧ q = .int .i64 (j : Int) ∧ wr = w ∧ Row64 w O v ((play s.sure (s.l.take j)).getD i [])
theorem play_next {s : St} {i j : Nat} {x : Wr} (hi : i < s.n) (hx : s.l[j]? = some x) : (play s.sure (s.l.take (j + 1))).getD i [] = if x.1 = i then x.2 else (play s.sure (s.l.take j)).getD i [] := by
  rw [take_snoc' s.l j x hx, play_snoc, List.getD_eq_getElem?_getD, List.getElem?_set]
  split
  · rename_i e
    rw [if_pos (by rw [play_length, e]; exact hi)]; rfl
  · rw [← List.getD_eq_getElem?_getD]
set_option maxHeartbeats 1000000 in
theorem rread_ (h : RefAt w g O s) (i : Nat) (hi : i < s.n) (hl : s.l.length ≤ 1000000) : Calls Try.prog 17 #[ptr g, .int .i64 (i : Int)] w (RReadP w (s.now.getD i [])) := by
  obtain ⟨vs, vl, rs, ls, h⟩ := h
  obtain ⟨Al, cl, rfl, hcl1, hcl2⟩ := own_slice h.own_l
  obtain ⟨As, cs, rfl, hcs1, hcs2⟩ := own_slice h.own_s
  have hrn : rs.length = s.n := h.lr
  have hll := h.ll
  have c0 := h.head.cell 0
  have c1 := h.head.cell 1
  simp at c0 c1
  rw [hrn] at c0 hcs1
  rw [hll] at c1 hcl1
  have hn4 : s.n ≤ 4096 := h.ok.many
  obtain ⟨v0, hv0⟩ := at_of_lt rs i (by rw [hrn]; exact hi)
  obtain ⟨x0, hx0⟩ := at_of_lt s.sure i hi
  have hr0 := h.rows i v0 x0 hv0 hx0
  obtain ⟨bs, curs, rfl, hbs, hcc⟩ := own_block h.own_s (by omega)
  have cv0 := hcc i v0 hv0
  have HR0 : Hid (Row64 w O v0 (s.sure.getD i [])) := by
    show Row64 w O v0 (s.sure.getD i [])
    rw [List.getD_eq_getElem?_getD, hx0]; exact hr0
  have HM := Lib.hid h
  unfold maxLen at hcl2 hcs2
  obtain ⟨b0, q0, rfl, _⟩ := hr0.slice
  clear h hv0 hx0 hr0 hcc hbs hrn hll
  go_enter Try.func17, Try.ntmps17
  go_wp2
  go_loopg [5, 6] s.l.length (fun k v q wr => RRel w O s i k v q wr)
  case atStart => exact ⟨0, by omega, rfl, rfl, by rw [List.take_zero]; exact HR0.out⟩
  case round =>
    obtain ⟨j, hj, rfl, rfl, hrow⟩ := hrel
    have HJ := Lib.hid hj
    have HROW := Lib.hid hrow
    clear hj
    by_cases hlt : j < s.l.length
    · obtain ⟨x, hx⟩ := at_of_lt s.l j hlt
      obtain ⟨p, hp⟩ := at_of_lt ls j (by rw [HM.out.ll]; exact hlt)
      obtain ⟨hp1, hp2⟩ := HM.out.wrs j p x hp hx
      have hol := HM.out.own_l
      rw [HM.out.ll] at hol
      obtain ⟨bl, curl, rfl, _, hcl⟩ := own_block hol (by omega)
      have e1 := hcl _ _ (cellsL_get hp).1
      have e2 := hcl _ _ (cellsL_get hp).2
      rw [hp1] at e1
      have hnx := play_next hi hx
      have HNX := Lib.hid hnx
      have HP2 := Lib.hid hp2
      clear hx hp hp1 hp2 hol hcl hnx hrow
      by_cases hxi : x.1 = i
      · have HXI := Lib.hid hxi
        have hxe : ((x.1 : Int) == (i : Int)) = true := by rw [beq_iff_eq, hxi]
        rw [hxi] at e1
        clear hxi hxe
        go_wp2
        go_roundg (s.l.length - (j + 1))
        case measure => have := HJ.out; omega
        case rel => exact ⟨j + 1, by omega, by go_num, rfl, by rw [HNX.out, if_pos HXI.out]; exact HP2.out⟩
      · have hxe : ((x.1 : Int) == (i : Int)) = false := by rw [beq_eq_false_iff_ne]; omega
        have hxe2 : (x.1 == i) = false := by rw [beq_eq_false_iff_ne]; exact hxi
        go_wp2
        go_roundg (s.l.length - (j + 1))
        case measure => have := HJ.out; omega
        case rel => exact ⟨j + 1, by omega, by go_num, rfl, by rw [HNX.out, if_neg hxi]; exact HROW.out⟩
    · obtain rfl : j = s.l.length := by have := HJ.out; omega
      rw [List.take_length] at hrow
      obtain ⟨b, c, rfl, _, _, _, _, hcell⟩ := hrow.slice
      obtain ⟨A, c', W', hap, hfr, hbel, hsz⟩ := fresh_bytes (o := 0) (c := c) hrow.len (fun j u hu => by rw [Nat.zero_add]; exact hcell j u hu)
      have HAP := Lib.hid hap
      have HFR := Lib.hid hfr
      have HBL := Lib.hid hbel
      have HSZ := Lib.hid hsz
      clear hrow hcell hap hfr hbel hsz hlt HROW
      go_wp2_with (refine wpList_value (o := ⟨some 53, _, _, _, _, _⟩) rfl (exec_append rfl rfl rfl HAP.out) ?_)
      go_ret
      exact ⟨A, c', rfl, HFR.out, convert_row HFR.out, HBL.out, HSZ.out⟩
end
end Go.Proofs.Ytfccghbhkgnmlaa
