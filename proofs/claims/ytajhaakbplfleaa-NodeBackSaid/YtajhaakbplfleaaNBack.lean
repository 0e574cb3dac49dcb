/- NodeBack, walked. -/
import Derived.Test.YtajhaakbplfleaaNodeV
import Derived.Test.YtajhaakbplfleaaRowS
import Derived.Test.YtajhaakbplfleaaRowU
namespace Go.Proofs.Ytajhaakbplfleaa
open Go.RowKit
/-- what a law that holds rows and a boxed row knows in each world -/
structure NB (w : World) (K : Nat → Prop) (A : Option Addr) (xs : List Rw) (r : Rw) (wk : World) : Prop where
  bel : Below w.heap.size w wk
  rows : Rws wk K A xs
  box : Blk wk w.heap.size 29 #[.string r.1, .string r.2]
section
variable {w wk w' : World} {K : Nat → Prop} {A : Option Addr} {xs : List Rw} {r : Rw}
theorem NB.first (h : Rws w K A xs) (r : Rw) : NB w K A xs r (w.alloc (.cells #[.string r.1, .string r.2] 29)) := ⟨alloc_below _ _, h.below (alloc_below _ _), Blk.new _ _ _⟩
theorem NB.next (h : NB w K A xs r wk) (k : Below wk.heap.size wk w') : NB w K A xs r w' := ⟨h.bel.trans (k.mono h.bel.size), h.rows.below k, h.box.below k h.box.lt⟩
theorem NB.key (h : NB w K A xs r wk) : wk.cell? ⟨w.heap.size, 0, none⟩ = some (.string r.1) := by rw [h.box.cell]; rfl
theorem NB.val (h : NB w K A xs r wk) : wk.cell? ⟨w.heap.size, 1, none⟩ = some (.string r.2) := by rw [h.box.cell]; rfl
end
set_option maxHeartbeats 1000000 in
theorem nodeBack (A : Option Addr) (n c : Nat) (xs : List Rw) (r : Rw) (w : World) {K : Nat → Prop} (h : Rws w K A xs) (hl : xs.length = n) (hc : n ≤ c) (hz : ∀ r ∈ xs, r.1.size ≤ maxLen) :
    Calls Try.prog 4 #[.slice A n c, .agg #[.string r.1, .string r.2]] w fun e w' => e = .returned (.bool true) ∧ Below w.heap.size w w' := by
  have H := Lib.hid (NB.first h r)
  have HL := Lib.hid hl
  have HZ := Lib.hid hz
  obtain ⟨k, v⟩ := r
  have hy1 := put_twice xs (k, v)
  have hy2 := (find_put xs (k, v)).2
  have hy3 := put_len xs (k, v)
  have hz1 := fun h => cut_put_new (l := xs) (r := (k, v)) h
  have hz2 := fun h => cut_put_len (l := xs) (r := (k, v)) h
  simp only at hy2 hy3 hz1 hz2
  rw [hl] at hy3 hz2
  have hput := fun W (hW : Rws W K A xs) (h60 : n ≤ 60) => put_ hW hl (by omega) hc (k, v)
  generalize putR xs (k, v) = ys at *
  generalize hyl : ys.length = m at *
  generalize hcy : cutR ys k = zs at *
  generalize hzl : zs.length = l at *
  generalize hfd : foundR xs k = fd at *
  have hfind := fun W (hW : Rws W K A xs) (h60 : n ≤ 60) => find_ (c := c) hW hl (by omega) k
  rw [hfd] at hfind
  have HY1 := Lib.hid hy1
  have HY2 := Lib.hid hy2
  have HYL := Lib.hid hyl
  have HCY := Lib.hid hcy
  have HZL := Lib.hid hzl
  have HP := Lib.hid hput
  have HF := Lib.hid hfind
  have hm : m ≤ n + 1 := by rw [hy3]; split <;> omega
  have hy4 : (fd = true → m = n ∧ l + 1 = n) ∧ (fd = false → m = n + 1 ∧ zs = xs) := by
    refine ⟨fun e => ⟨by rw [hy3, e]; rfl, hz2 e⟩, fun e => ⟨by rw [hy3, e]; rfl, hz1 e⟩⟩
  have HY4 := Lib.hid hy4
  clear h hl hz hy1 hy2 hy3 hyl hcy hzl hput hfind hy4 hz1 hz2 hfd
  generalize findR xs k = q at *
  by_cases hn : n ≤ 60
  · obtain ⟨up, hup⟩ : ∃ up, risesR xs = up := ⟨_, rfl⟩
    have HUP := Lib.hid hup
    clear hup
    go_enter Try.func4, Try.ntmps4
    go_wp2_with fail
    refine (alive_ _).mono ?_
    rintro e w2 ⟨rfl, hb2⟩
    have H2 := Lib.hid (H.out.next hb2)
    clear hb2 H
    go_wp2_with fail
    refine (rises_ H2.out.rows HL.out (by omega) HZ.out).mono ?_
    rintro e w3 ⟨rfl, hb3⟩
    have H3 := Lib.hid (H2.out.next hb3)
    have q0 := H3.out.key
    have q1 := H3.out.val
    simp only at q0 q1
    rw [HUP.out]
    clear hb3 H2
    cases up
    · go_wp2_with fail
      go_ret
      exact ⟨rfl, H3.out.bel⟩
    · go_wp2_with fail
      refine (HP.out _ H3.out.rows hn).mono ?_
      rintro e w4 ⟨_, rfl, A4, c4, rfl, r4, p4, _, a4, hb4⟩
      have H4 := Lib.hid (H3.out.next hb4)
      have R4 := Lib.hid r4
      have HA4 := Lib.hid a4
      have q0 := H4.out.key
      have q1 := H4.out.val
      simp only at q0 q1
      clear hb4 H3 r4 a4
      go_wp2_with fail
      refine (put_ R4.out HYL.out (by omega) p4 (k, v)).mono ?_
      rintro e w5 ⟨_, rfl, A5, c5, rfl, r5, p5, _, _, hb5⟩
      rw [HY1.out] at r5 p5 ⊢
      rw [HYL.out] at p5 ⊢
      have H5 := Lib.hid (H4.out.next hb5)
      have R5 := Lib.hid r5
      have R4' := Lib.hid (R4.out.below hb5)
      have q0 := H5.out.key
      have q1 := H5.out.val
      simp only at q0 q1
      clear hb5 H4 r5 R4
      go_wp2_with fail
      refine (HF.out _ H5.out.rows hn).mono ?_
      rintro e w6 ⟨rfl, rfl⟩
      go_wp2_with fail
      refine (cutrow_ R4'.out HYL.out (by omega) p4 HA4.out k).mono ?_
      rintro e w6 ⟨_, rfl, A6, c6, rfl, r6, p6, _, _, hb6⟩
      rw [HY2.out]
      rw [HCY.out] at r6 p6 ⊢
      rw [HZL.out] at p6 ⊢
      have H6 := Lib.hid (H5.out.next hb6)
      have R6 := Lib.hid r6
      have R4 := Lib.hid (R4'.out.below hb6)
      have R5' := Lib.hid (R5.out.below hb6)
      clear hb6 r6 R4' R5
      go_wp2_with fail
      refine (same_ R4.out R5'.out HYL.out HYL.out (by omega)).mono ?_
      rintro e w7 ⟨rfl, hb7⟩
      rw [decide_eq_true rfl]
      have H7 := Lib.hid (H6.out.next hb7)
      have R6' := Lib.hid (R6.out.below hb7)
      clear hb7 H6 R6 H5 R4 R5' q0 q1
      cases fd
      · obtain ⟨e1, e2⟩ := HY4.out.2 rfl
        subst e2
        have hqa : ((m : Int) == (n : Int) + 1) = true := by rw [beq_iff_eq]; omega
        clear e1 hm
        go_wp2_with fail
        refine (same_ R6'.out H7.out.rows HZL.out HL.out (by have := HZL.out; have := HL.out; omega)).mono ?_
        rintro e w8 ⟨rfl, hb8⟩
        rw [decide_eq_true rfl]
        have H8 := Lib.hid (H7.out.next hb8)
        clear hb8
        go_wp2_with fail
        go_ret
        exact ⟨rfl, H8.out.bel⟩
      · obtain ⟨e1, e2⟩ := HY4.out.1 rfl
        subst e1
        have hqa : ((l : Int) == (m : Int) - 1) = true := by rw [beq_iff_eq]; omega
        clear e2 hm
        go_wp2_with fail
        go_ret
        exact ⟨rfl, H7.out.bel⟩
  · go_enter Try.func4, Try.ntmps4
    go_wp2_with (go_at_call 5; refine (alive_ _).mono ?_; rintro e w1 ⟨rfl, hb1⟩; have HB1 := Lib.hid hb1; clear hb1)
    go_ret
    exact ⟨rfl, (H.out.next HB1.out).bel⟩
end Go.Proofs.Ytajhaakbplfleaa
