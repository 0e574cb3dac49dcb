/- Package queue: Cut, Claim. -/
import Derived.Test.YtglcdchjddnjgaaMqA
import Derived.Test.YtglcdchjddnjgaaSet
set_option maxRecDepth 4000
namespace Go.Proofs.Ytglcdchjddnjgaa
open Go.RowKit
set_option maxHeartbeats 1000000 in
theorem cut_m {w : World} {K : Nat → Prop} {A : Option Addr} {n c : Nat} {l : List Mg} (h : Lst w K eM A l) (hl : l.length = n) (hn : n ≤ 100000) (hc : n ≤ c) (hA : A = none → c = 0) (id : Int) :
    Calls Try.prog 10 #[.slice A n c, .int .i64 id] w fun e w' => ∃ v, e = .returned (.tuple #[v, .bool (hasM l id)]) ∧ OwnM w' w.heap.size v (cutM l id) ∧ Below w.heap.size w w' := by
  have hf := find_m (c := c) h hl (by omega) id
  rcases idx_cases (isM id) l with ⟨e1, e2⟩ | ⟨hlt, e1, e2, _⟩
  · have e3 := cut_none e2
    unfold hasM
    rw [e2, e3]
    rw [e1] at hf
    have hcl := fun W (hb : Below w.heap.size w W) => clone_m (h.below hb) hl hn hA
    have HCL := Lib.hid hcl
    have HF := Lib.hid hf
    clear h hl hA hf hcl e1 e2 e3
    go_enter Try.func10, Try.ntmps10
    go_wp2_with fail
    refine HF.out.mono ?_
    rintro e w1 ⟨rfl, hb1⟩
    have HB1 := Lib.hid hb1
    clear hb1 HF
    go_wp2_with fail
    refine (HCL.out _ HB1.out).mono ?_
    rintro e w2 ⟨v1, rfl, ho, hb2⟩
    have HO := Lib.hid (own_base ho HB1.out.size)
    have HB2 := Lib.hid (HB1.out.trans (hb2.mono HB1.out.size))
    clear ho hb2
    go_wp2_with fail
    go_ret2
    exact ⟨v1, rfl, HO.out, HB2.out⟩
  · unfold hasM
    rw [e2, cut_at_m]
    rw [e1] at hf
    rw [hl] at hlt
    clear e1 e2
    generalize l.findIdx (isM id) = q at *
    have hd1 := fun W => head_m A n c q (by omega) W
    obtain ⟨A2, hd2, hr2, _⟩ := tail_m h hl hc (show q + 1 ≤ n by omega) rfl
    obtain ⟨m2, hm2⟩ : ∃ m, n - (q + 1) = m := ⟨_, rfl⟩
    rw [hm2] at hd2
    have hd2' : ∀ W, (Instr.slice 24 (.slice A n c) (some (.int .i64 ((q : Int) + 1))) none none).run Try.prog W = .ok (.slice A2 m2 (c - (q + 1))) W := hd2
    have h2 := fun W (hb : Below w.heap.size w W) => concat2_m (w := W) (q := q) (m := m2) (c1 := c) (c2 := c - (q + 1)) ((h.below hb).take q) (by rw [List.length_take, hl]; omega) (hr2.below hb) (by rw [List.length_drop, hl]; exact hm2) (by omega) (b := W.heap.size) rfl
    have H2 := Lib.hid h2
    have HF := Lib.hid hf
    have hw : IntKind.i64.wrap ((q : Int) + 1) = (q : Int) + 1 := by rw [IntKind.wrap_i64]; omega
    clear h2 hm2 hd2 hr2 hlt h hl hA hf
    go_enter Try.func10, Try.ntmps10
    go_wp2_with fail
    refine HF.out.mono ?_
    rintro e w1 ⟨rfl, hb1⟩
    have HB1 := Lib.hid hb1
    have h2 := H2.out w1 hb1
    have HH2 := Lib.hid h2
    clear hb1 HF h2 H2
    go_wp2_with fail
    go_region_with (go_at_call 17; refine HH2.out.mono ?_; rintro e w2 ⟨v1, rfl, hn1, hb2⟩; have HN1 := Lib.hid hn1; have HB2 := Lib.hid hb2; clear hn1 hb2)
    all_goals
      go_wp2
      go_ret2
      exact ⟨v1, rfl, own_base HN1.out HB1.out.size, HB1.out.trans (HB2.out.mono HB1.out.size)⟩
theorem can_none {l : List Mg} {id : Int} {on : Bool} (h : l.any (isM id) = false) : canM l id on = false ∧ claimM l id on = l := by
  have e : l.findIdx (isM id) = l.length := List.findIdx_eq_length.2 fun x hx => by simpa using List.any_eq_false.1 h x hx
  unfold canM claimM
  rw [e]
  refine ⟨by rw [List.getElem?_eq_none (Nat.le_refl _)], ?_⟩
  apply List.ext_getElem?
  intro i
  rw [List.getElem?_modify]
  by_cases hi : l.length = i
  · subst hi; simp
  · simp [hi]
theorem can_some {l : List Mg} {id : Int} {on : Bool} {q : Nat} (hq : l.findIdx (isM id) = q) (h : q < l.length) : canM l id on = !(l[q].claimed == on) ∧ claimM l id on = l.set q { l[q] with claimed := on } := by
  unfold canM claimM
  rw [hq]
  rw [List.getElem?_eq_getElem h]
  refine ⟨rfl, ?_⟩
  apply List.ext_getElem?
  intro i
  rw [List.getElem?_modify, List.getElem?_set]
  by_cases hi : q = i
  · subst hi; simp [h]
  · simp [hi]
set_option maxHeartbeats 1000000 in
theorem claim_m {w : World} {K : Nat → Prop} {A : Option Addr} {n c : Nat} {l : List Mg} (h : Lst w K eM A l) (hl : l.length = n) (hn : n ≤ 100000) (hA : A = none → c = 0) (id : Int) (on : Bool) :
    Calls Try.prog 11 #[.slice A n c, .int .i64 id, .bool on] w fun e w' => ∃ v, e = .returned (.tuple #[v, .bool (canM l id on)]) ∧ OwnM w' w.heap.size v (claimM l id on) ∧ Below w.heap.size w w' := by
  have hcl := clone_m (c := c) h hl hn hA
  rcases idx_cases (isM id) l with ⟨e1, e2⟩ | ⟨hlt0, e1, e2, e5⟩
  · obtain ⟨e3, e4⟩ := can_none (on := on) e2
    rw [e3, e4]
    have HCL := Lib.hid hcl
    have hl1 : l.length ≤ 100000 := by omega
    have HL := Lib.hid hl1
    have E1 := Lib.hid e1
    clear h hl hA hcl e1 e2 e3 e4 hl1
    go_enter Try.func11, Try.ntmps11
    go_wp2_with fail
    refine HCL.out.mono ?_
    rintro e w1 ⟨v1, rfl, ho, hb1⟩
    have HO := Lib.hid ho
    have HB1 := Lib.hid hb1
    obtain ⟨A1, c1, rfl, hl1, _⟩ := own_lst ho
    have hf := find_m (c := c1) hl1 rfl (by have := HL.out; omega) id
    rw [E1.out] at hf
    have HF := Lib.hid hf
    clear ho hb1 hl1 hf HCL
    generalize l.length = n1 at *
    go_wp2_with fail
    refine HF.out.mono ?_
    rintro e w2 ⟨rfl, hb2⟩
    have HO2 := Lib.hid (own_belowE HO.out hb2)
    have HB2 := Lib.hid (HB1.out.trans (hb2.mono HB1.out.size))
    clear hb2 HF
    go_wp2_with fail
    go_ret2
    exact ⟨_, rfl, HO2.out, HB2.out⟩
  · obtain ⟨q, hq⟩ : ∃ q, l.findIdx (isM id) = q := ⟨_, rfl⟩
    have hlt : q < l.length := hq ▸ hlt0
    rw [hq] at e1
    obtain ⟨e3, e4⟩ := can_some (on := on) hq hlt
    rw [e3, e4]
    obtain ⟨x, hx⟩ : ∃ x, l[q] = x := ⟨_, rfl⟩
    rw [hx]
    obtain ⟨x0, x1, x2, cl, x4, x5⟩ := x
    have HX := Lib.hid hx
    have HCL := Lib.hid hcl
    have hl1 : l.length ≤ 100000 := by omega
    have HL := Lib.hid hl1
    have E1 := Lib.hid e1
    clear h hl hA hcl e1 e2 e3 e4 hq hl1 hx
    have hset : ∀ b, l.set q ⟨x0, x1, x2, b, x4, x5⟩ = l.set q { l[q] with claimed := b } := fun b => by rw [HX.out]
    have hsame : l.set q ⟨x0, x1, x2, cl, x4, x5⟩ = l := by rw [← HX.out]; exact List.set_getElem_self hlt
    have HSET := Lib.hid hset
    have HSAME := Lib.hid hsame
    clear hset hsame
    show Calls _ _ _ _ (fun e w' => ∃ v, e = .returned (.tuple #[v, .bool (!(cl == on))]) ∧ OwnM w' w.heap.size v (l.set q ⟨x0, x1, x2, on, x4, x5⟩) ∧ Below w.heap.size w w')
    go_enter Try.func11, Try.ntmps11
    go_wp2_with fail
    refine HCL.out.mono ?_
    rintro e w1 ⟨v1, rfl, ho, hb1⟩
    have HO := Lib.hid ho
    have HB1 := Lib.hid hb1
    obtain ⟨A1, c1, rfl, hl1, _⟩ := own_lst ho
    have hf := find_m (c := c1) hl1 rfl (by have := HL.out; omega) id
    rw [E1.out] at hf
    have HF := Lib.hid hf
    clear ho hb1 hl1 hf HCL E1
    go_wp2_with fail
    refine HF.out.mono ?_
    rintro e w2 ⟨rfl, hb2⟩
    have HO2 := Lib.hid (own_belowE HO.out hb2)
    have HB2 := Lib.hid (HB1.out.trans (hb2.mono HB1.out.size))
    clear hb2 HF HO HB1
    obtain ⟨g, cur, rfl, hg, hblk, hcs⟩ := own_slot HO2.out (by have := hlt; omega)
    have c3 := hcs _ _ (cellsE_at eM hlt (i := 3) rfl)
    have hs := fun (b : Bool) => own_set1 HO2.out hlt { l[q] with claimed := b } (i := 3) (u := .bool b) (by show 3 < 6; omega) rfl
    have f3 := hblk.frozen (q * 6 + 3)
    have hk := fun (u : Value) => (Keep.refl (K := fun i _ => i ≠ g) w2).setCell (p := ⟨g, q * 6 + 3, none⟩) (fun _ _ e => e rfl) u
    have hq6 : eM.k = 6 := rfl
    rw [hq6] at c3 hs
    have hcl : l[q].claimed = cl := by rw [HX.out]
    rw [hcl] at c3
    have HS := Lib.hid hs
    have HK := Lib.hid hk
    have HG := Lib.hid hg
    clear hs hk hcs hblk hg hq6 hcl
    have fin : ∀ W, W = w2.setCell ⟨g, q * 6 + 3, none⟩ (.bool on) → OwnM W w.heap.size (.slice (some ⟨g, 0, none⟩) l.length c1) (l.set q ⟨x0, x1, x2, on, x4, x5⟩) ∧ Below w.heap.size w W := fun W e => by
      subst e
      refine ⟨by rw [HSET.out]; exact HS.out on, HB2.out.trans ((HK.out _).below HB2.out.size fun i _ hi e => ?_)⟩
      have := HG.out
      omega
    have FIN := Lib.hid fin
    have SAM := Lib.hid (show cl = on → OwnM w2 w.heap.size (.slice (some ⟨g, 0, none⟩) l.length c1) (l.set q ⟨x0, x1, x2, on, x4, x5⟩) from fun e => by subst e; rw [HSAME.out]; exact HO2.out)
    clear fin HS HK HSET HSAME HO2 HX e5 hlt0
    generalize hnn : l.length = n1 at *
    rename_i hc1
    have hc1' : n1 ≤ c1 := hc1.1
    clear hnn hc1
    have hqn : q < n1 := hlt
    clear hlt
    cases cl <;> cases on
    · go_wp2_with fail
      go_ret2
      exact ⟨_, rfl, SAM.out (by simp), HB2.out⟩
    · go_wp2_with fail
      go_ret2
      exact ⟨_, rfl, (FIN.out _ rfl).1, (FIN.out _ rfl).2⟩
    · go_wp2_with fail
      go_ret2
      exact ⟨_, rfl, (FIN.out _ rfl).1, (FIN.out _ rfl).2⟩
    · go_wp2_with fail
      go_ret2
      exact ⟨_, rfl, SAM.out (by simp), HB2.out⟩
end Go.Proofs.Ytglcdchjddnjgaa
