/- TreePlays, walked. -/
import Derived.Test.YtocaaebmelhhnaaTreeAl
import Derived.Test.YtocaaebmelhhnaaRefC
import Derived.Test.YtocaaebmelhhnaaRowS
set_option maxRecDepth 4000
namespace Go.Proofs.Ytocaaebmelhhnaa
open Go.RowKit
/-- a call: which way, and its row -/
abbrev Ac := Int × Rw
/-- the slice of address A holds these calls -/
def Acs (w : World) (A : Option Addr) (l : List Ac) : Prop := 0 < l.length → ∃ b o, A = some ⟨b, o, none⟩ ∧ b < w.heap.size ∧ ∀ j (h : j < l.length), w.cell? ⟨b, o + j * 3, none⟩ = some (.int .i64 l[j].1) ∧ w.cell? ⟨b, o + j * 3 + 1, none⟩ = some (.string l[j].2.1) ∧ w.cell? ⟨b, o + j * 3 + 2, none⟩ = some (.string l[j].2.2)
theorem Acs.below {w w' : World} {A : Option Addr} {l : List Ac} (h : Acs w A l) (k : Below w.heap.size w w') : Acs w' A l := fun h0 => by
  obtain ⟨b, o, e, hb, hc⟩ := h h0
  have hbl := k.block b hb
  exact ⟨b, o, e, Nat.lt_of_lt_of_le hb k.size, fun j hj => ⟨(cell_of_heap hbl _).trans (hc j hj).1, (cell_of_heap hbl _).trans (hc j hj).2.1, (cell_of_heap hbl _).trans (hc j hj).2.2⟩⟩
theorem put_sub {l : List Rw} {r x : Rw} (h : x ∈ putR l r) : x = r ∨ x ∈ l := by
  unfold putR at h
  rcases List.mem_append.1 h with h | h
  · exact .inr (List.mem_of_mem_take h)
  · rcases List.mem_cons.1 h with h | h
    · exact .inl h
    · exact .inr (List.mem_of_mem_drop h)
theorem fold_sub {xs : List Rw} : ∀ {l : List Rw} {x : Rw}, x ∈ xs.foldl putR l → x ∈ l ∨ x ∈ xs := by
  induction xs with
  | nil => intro l x h; exact .inl h
  | cons y r ih =>
    intro l x h
    rcases ih h with h | h
    · rcases put_sub h with h | h
      · exact .inr (h ▸ List.mem_cons_self ..)
      · exact .inl h
    · exact .inr (List.mem_cons_of_mem _ h)
/-- what the law knows of a world: the tree's rows, and the document's own beside it -/
structure PW (w : World) (bt : Nat) (L M : List Rw) (A : Option Addr) (n c : Nat) (wr : World) : Prop where
  bel : Below w.heap.size w wr
  ge : w.heap.size ≤ bt
  tree : Tree wr (fun i => i ≠ bt) bt L
  now : Rws wr (fun i => i ≠ bt) A M
  len : M.length = n
  cap : n ≤ c
  keys : ∀ r ∈ M, r.1.size ≤ maxLen
section
variable {w wr w' : World} {bt : Nat} {L L' M M' : List Rw} {A A' : Option Addr} {n n' c c' : Nat}
theorem PW.next (h : PW w bt L M A n c wr) (k : Below wr.heap.size wr w') : PW w bt L M A n c w' := ⟨h.bel.trans (k.mono h.bel.size), h.ge, h.tree.below k, h.now.below k, h.len, h.cap, h.keys⟩
theorem PW.turn (h : PW w bt L M A n c wr) (ht : Tree w' (fun i => i ≠ bt) bt L') (k : Keep (fun i _ => i ≠ bt) wr w') : PW w bt L' M A n c w' := ⟨h.bel.trans (k.below h.bel.size fun i _ hi => by have := h.ge; omega), h.ge, ht, h.now.keep k, h.len, h.cap, h.keys⟩
theorem PW.fresh (h : PW w bt L M A n c wr) : ∀ i, wr.heap.size ≤ i → i ≠ bt := fun i hi => by have := h.tree.lt; omega
theorem PW.put (h : PW w bt L M A n c wr) (k : Below wr.heap.size wr w') (hr : Rws w' (fun i => wr.heap.size ≤ i) A' M') (hl : M'.length = n') (hc : n' ≤ c') (hk : ∀ r ∈ M', r.1.size ≤ maxLen) : PW w bt L M' A' n' c' w' :=
  ⟨h.bel.trans (k.mono h.bel.size), h.ge, h.tree.below k, hr.more fun i _ hi => h.fresh i hi, hl, hc, hk⟩
end
def RelA (w : World) (bt : Nat) (xs : List Rw) (k : Nat) (v i : Value) (wr : World) : Prop :=
  ∃ j A n c, j + k = xs.length ∧ i = .int .i64 (j : Int) ∧ v = .slice A n c ∧ n ≤ j ∧ PW w bt (xs.foldl putR []) ((xs.take j).foldl putR []) A n c wr
def RelB (w : World) (bt m : Nat) (k : Nat) (v i : Value) (wr : World) : Prop :=
  ∃ j A n c L, j + k = m + 1 ∧ i = .int .i64 (j : Int) ∧ v = .slice A n c ∧ n ≤ 40 + j ∧ PW w bt L L A n c wr
set_option maxRecDepth 8000 in
set_option maxHeartbeats 4000000 in
theorem treePlays (A : Option Addr) (n c : Nat) (xs : List Rw) (A2 : Option Addr) (m c2 : Nat) (ac : List Ac) (w : World) {K : Nat → Prop} (h : Rws w K A xs) (hl : xs.length = n) (hz : ∀ r ∈ xs, r.1.size ≤ maxLen) (h2 : Acs w A2 ac) (hl2 : ac.length = m) (hz2 : ∀ a ∈ ac, a.2.1.size ≤ maxLen) :
    Calls Try.prog 3 #[.slice A n c, .slice A2 m c2] w fun e w' => e = .returned (.bool true) ∧ Below w.heap.size w w' := by
  have H := Lib.hid h
  have HL := Lib.hid hl
  have HZ := Lib.hid hz
  have HA := Lib.hid h2
  have HL2 := Lib.hid hl2
  have HZ2 := Lib.hid hz2
  clear h hl hz h2 hl2 hz2
  by_cases hg : n ≤ 40 ∧ m ≤ 150
  · obtain ⟨hg1, hg2⟩ := hg
    go_enter Try.func3, Try.ntmps3
    go_wp2_with fail
    refine (alive_ _).mono ?_
    rintro e w1 ⟨rfl, hb1⟩
    have HB1 := Lib.hid hb1
    clear hb1
    go_wp2_with fail
    refine (new_tree (H.out.below HB1.out) HL.out (by omega)).mono ?_
    rintro e w2 ⟨rfl, ht2, hb2⟩
    have hP0 : PW w w1.heap.size (xs.foldl putR []) [] none 0 0 w2 := ⟨HB1.out.trans (hb2.mono HB1.out.size), HB1.out.size, ht2, Rws.nil _ _ _, rfl, Nat.le_refl _, fun r hr => by cases hr⟩
    have HP0 := Lib.hid hP0
    generalize w1.heap.size = bt at *
    clear ht2 hb2 hP0
    go_wp2_with fail
    go_loopg [7, 8] n (fun k v i wr => RelA w bt xs k v i wr)
    case atStart => exact ⟨0, none, 0, 0, by have := HL.out; omega, rfl, rfl, Nat.le_refl _, HP0.out⟩
    case round =>
      obtain ⟨j, A3, n3, c3, hj, rfl, rfl, hle, hp⟩ := hrel
      have HJ := Lib.hid hj
      have HP := Lib.hid hp
      clear hj hp
      by_cases hlt : j < n
      · have hx : j < xs.length := by rw [HL.out]; exact hlt
        obtain ⟨b, o, rfl, hc1, hc2⟩ := (H.out.below HP.out.bel).at_ hx
        have hfs := fold_succ hx []
        have hpu := ref_put HP.out.now HP.out.len (by omega) HP.out.cap HP.out.keys xs[j]
        rw [← hfs] at hpu
        have hln := fold_len (xs.take (j + 1)) []
        have hl3 : ((xs.take (j + 1)).foldl putR []).length ≤ j + 1 := by
          have := List.length_take (i := j + 1) (l := xs); simp at hln; omega
        have hks : ∀ r ∈ (xs.take (j + 1)).foldl putR [], r.1.size ≤ maxLen := fun r hr => by
          rcases fold_sub hr with h | h
          · cases h
          · exact HZ.out r (List.mem_of_mem_take h)
        obtain ⟨k1, v1, e1⟩ : ∃ k v, xs[j] = (k, v) := ⟨_, _, rfl⟩
        rw [e1] at hpu hc1 hc2
        simp only at hpu hc1 hc2
        have HPU := Lib.hid hpu
        have HKS := Lib.hid hks
        have HL3 := Lib.hid hl3
        clear hpu hks hl3 hfs hln e1
        go_wp2_with fail
        refine HPU.out.mono ?_
        rintro e w4 ⟨_, rfl, A4, c4, rfl, hr4, h41, h42, h43, hb4⟩
        have hP4 := HP.out.put hb4 hr4 rfl h41 HKS.out
        have HP4 := Lib.hid hP4
        clear hr4 h43 hb4 hP4
        go_wp2_with fail
        go_roundg (n - (j + 1))
        case measure => have := HJ.out; have := HL.out; omega
        case rel => exact ⟨j + 1, A4, _, c4, by have := HL.out; omega, by go_num, rfl, HL3.out, HP4.out⟩
      · have he : j = n := by have := HJ.out; have := HL.out; omega
        subst he
        have hpn := HP.out
        rw [List.take_of_length_le (by rw [HL.out]; exact Nat.le_refl _)] at hpn
        have HPN := Lib.hid hpn
        clear hpn
        go_wp2_with fail
        go_loopg [7, 9] (m + 1) (fun k v i wr => RelB w bt m k v i wr)
        case atStart => exact ⟨0, A3, n3, c3, _, by omega, rfl, rfl, by omega, HPN.out⟩
        case round =>
          obtain ⟨i, A5, n5, c5, L, hi, rfl, rfl, hle5, hp⟩ := hrel
          have HI := Lib.hid hi
          have HQ := Lib.hid hp
          clear hi hp
          -- BODY
          by_cases hlt5 : i ≤ m
          · have hln5 := HQ.out.len
            have hs5 : L.length ≤ 800 := by omega
            have hcall := all_tree HQ.out.tree hs5 HQ.out.fresh
            rw [hln5] at hcall
            have HCALL := Lib.hid hcall
            have HLN := Lib.hid hln5
            have HS5 := Lib.hid hs5
            clear hcall hln5 hs5
            go_wp2_with fail
            refine HCALL.out.mono ?_
            rintro e w5 ⟨A6, c6, rfl, hr6, _, _, hb5⟩
            have HQ1 := Lib.hid (HQ.out.next hb5)
            have R6 := Lib.hid hr6
            clear hr6 hb5
            go_wp2_with fail
            refine (same_rows R6.out HQ1.out.now HLN.out HLN.out (by omega)).mono ?_
            rintro e w6 ⟨rfl, hb6⟩
            rw [decide_eq_true rfl]
            have HQ2 := Lib.hid (HQ1.out.next hb6)
            clear hb6
            have hlen := len_tree HQ2.out.tree HQ2.out.fresh
            rw [HLN.out] at hlen
            have HLEN := Lib.hid hlen
            clear hlen
            go_wp2_with fail
            refine HLEN.out.mono ?_
            rintro e w7 ⟨rfl, hb7⟩
            have HQ3 := Lib.hid (HQ2.out.next hb7)
            clear hb7
            have hht := height_tree HQ3.out.tree HS5.out HQ3.out.fresh
            rw [HLN.out] at hht
            have HHT := Lib.hid hht
            clear hht
            go_wp2_with fail
            refine HHT.out.mono ?_
            rintro e w8 ⟨m8, rfl, h81, h82, h83, _, hb8⟩
            have HQ4 := Lib.hid (HQ3.out.next hb8)
            have htl := tall_ n5 (by omega)
            obtain ⟨z, hz⟩ : ∃ z, thirds n5 + 2 = z := ⟨_, rfl⟩
            rw [hz] at htl h82
            have HTL := Lib.hid htl
            have hnt : ¬ ((z : Int) < (m8 : Int)) := by omega
            clear hb8 htl hz h82
            go_wp2_with fail
            refine (HTL.out _).mono ?_
            rintro e w9 ⟨rfl, rfl⟩
            have hht := height_tree HQ4.out.tree HS5.out HQ4.out.fresh
            have HHT2 := Lib.hid hht
            clear hht
            go_wp2_with fail
            refine HHT2.out.mono ?_
            rintro e w10 ⟨m10, rfl, h101, _, h103, _, hb10⟩
            have HQ5 := Lib.hid (HQ4.out.next hb10)
            have hn1 : ¬ ((m10 : Int) < 1) := by omega
            clear hb10
            by_cases him : i = m
            · have hie : ((i : Int) == (m : Int)) = true := by rw [beq_iff_eq]; omega
              clear him
              go_wp2_with fail
              go_ret
              exact ⟨rfl, HQ5.out.bel⟩
            · have hlt6 : i < m := by omega
              have hie : ((i : Int) == (m : Int)) = false := by rw [beq_eq_false_iff_ne]; omega
              have hx : i < ac.length := by rw [HL2.out]; exact hlt6
              obtain ⟨b, o, rfl, hbb, hcs⟩ := (HA.out.below HQ5.out.bel) (by omega)
              obtain ⟨hc1, hc2, hc3⟩ := hcs i hx
              obtain ⟨way, key, val, e1⟩ : ∃ a k v, ac[i] = (a, k, v) := ⟨_, _, _, rfl⟩
              have hkz := HZ2.out _ (List.getElem_mem hx)
              rw [e1] at hc1 hc2 hc3 hkz
              simp only at hc1 hc2 hc3 hkz
              have hal := alloc_below w10 (.cells #[.int .i64 way, .string key, .string val] 35)
              have hbx := Blk.new w10 35 #[.int .i64 way, .string key, .string val]
              have HQ6 := Lib.hid (HQ5.out.next hal)
              have BX6 := Lib.hid hbx
              have HKZ := Lib.hid hkz
              have HBNE : Hid (w10.heap.size ≠ bt) := by have := HQ5.out.tree.lt; show _ ≠ _; omega
              have hfd := ref_find (c := c5) HQ6.out.now HQ6.out.len (by omega) HQ6.out.keys key
              have HFD := Lib.hid hfd
              clear hfd hal hbx hkz e1 hcs him
              go_wp2_with fail
              generalize w10.alloc (.cells #[.int .i64 way, .string key, .string val] 35) = w11 at *
              refine HFD.out.mono ?_
              rintro e w12 ⟨rfl, hb12⟩
              have HQ7 := Lib.hid (HQ6.out.next hb12)
              have BX7 := Lib.hid (BX6.out.below hb12 BX6.out.lt)
              have q71 := BX7.out.cell 1
              simp only [List.getElem?_toArray, List.getElem?_cons_succ, List.getElem?_cons_zero] at q71
              clear hb12
              go_wp2_with fail
              refine (get_tree HQ7.out.tree HQ7.out.fresh key).mono ?_
              rintro e w13 ⟨rfl, hb13⟩
              have HQ8 := Lib.hid (HQ7.out.next hb13)
              have BX8 := Lib.hid (BX7.out.below hb13 BX7.out.lt)
              have q80 := BX8.out.cell 0
              have q81 := BX8.out.cell 1
              have q82 := BX8.out.cell 2
              simp only [List.getElem?_toArray, List.getElem?_cons_succ, List.getElem?_cons_zero] at q80 q81 q82
              clear hb13 q71
              have hpt := put_tree HQ8.out.tree HS5.out HQ8.out.fresh (key, val)
              have hct := cut_tree HQ8.out.tree HS5.out HQ8.out.fresh key
              obtain ⟨fd, hfd⟩ : ∃ fd, foundR L key = fd := ⟨_, rfl⟩
              simp only at hpt
              have hvf : fd = false → valR L key = ⟨#[]⟩ := fun e => by rw [valR, hfd, e]; rfl
              have hvt : fd = true → ∃ b' o' v', A5 = some ⟨b', o', none⟩ ∧ w13.cell? ⟨b', o' + findR L key * 2 + 1, none⟩ = some (.string v') ∧ valR L key = v' ∧ findR L key < n5 := fun e => by
                have hfl := foundR_lt (hfd.trans e)
                obtain ⟨b', o', e', _, hv'⟩ := HQ8.out.now.at_ hfl
                exact ⟨b', o', _, e', hv', by rw [valR, hfd, e, List.getElem?_eq_getElem hfl]; rfl, by rw [← HLN.out]; exact hfl⟩
              rw [hfd] at hpt hct
              have hrc := fun (W : World) (hP : PW w bt (cutRw L key) L A5 n5 c5 W) => ref_cut hP.now hP.len (by omega) hP.cap hP.keys key
              rw [hfd] at hrc
              have HRC := Lib.hid hrc
              have HPT := Lib.hid hpt
              have HCT := Lib.hid hct
              have hpl := put_len L (key, val)
              have hcl := cut_len L key
              have HPL : Hid ((putR L (key, val)).length ≤ n5 + 1) := by have := HLN.out; show _ ≤ _; rw [hpl]; split <;> omega
              have HCL : Hid ((cutRw L key).length ≤ n5) := by have := HLN.out; show _ ≤ _; rw [hcl]; split <;> omega
              have HPK : Hid (∀ r ∈ putR L (key, val), r.1.size ≤ maxLen) := fun r hr => by
                rcases put_sub hr with h | h
                · rw [h]; exact HKZ.out
                · exact HQ8.out.keys r h
              have HCK : Hid (∀ r ∈ cutRw L key, r.1.size ≤ maxLen) := fun r hr => HQ8.out.keys r ((cut_sub L key).subset hr)
              rw [hfd]
              clear hpt hct hpl hcl hrc hfd hc1 hc2 hc3
              generalize valR L key = vv at *
              generalize findR L key = q at *
              by_cases hw0 : way = 0
              · subst hw0
                cases fd
                · have hvv := hvf rfl
                  subst hvv
                  clear hvt
                  go_wp2_with fail
                  refine HPT.out.mono ?_
                  rintro e w14 ⟨rfl, ht14, hk14⟩
                  have HQ9 := Lib.hid (HQ8.out.turn ht14 hk14)
                  have BX9 := Lib.hid (BX8.out.keep hk14 HBNE.out)
                  have q91 := BX9.out.cell 1
                  have q92 := BX9.out.cell 2
                  simp only [List.getElem?_toArray, List.getElem?_cons_succ, List.getElem?_cons_zero] at q91 q92
                  clear ht14 hk14
                  go_wp2_with fail
                  refine (ref_put HQ9.out.now HQ9.out.len (by omega) HQ9.out.cap HQ9.out.keys (key, val)).mono ?_
                  rintro e w15 ⟨_, rfl, A7, c7, rfl, hr7, h71, h72, h73, hb15⟩
                  have HQ10 := Lib.hid (HQ9.out.put hb15 hr7 rfl h71 HPK.out)
                  clear hr7 h73 hb15
                  go_wp2_with fail
                  go_roundg (m - i)
                  case measure => have := HI.out; omega
                  case rel => exact ⟨i + 1, A7, _, c7, _, by omega, by go_num, rfl, by have := HPL.out; omega, HQ10.out⟩
                · obtain ⟨b', o', v', rfl, hcv, hvv, hqn⟩ := hvt rfl
                  subst hvv
                  clear hvf
                  go_wp2_with fail
                  refine HPT.out.mono ?_
                  rintro e w14 ⟨rfl, ht14, hk14⟩
                  have HQ9 := Lib.hid (HQ8.out.turn ht14 hk14)
                  have BX9 := Lib.hid (BX8.out.keep hk14 HBNE.out)
                  have q91 := BX9.out.cell 1
                  have q92 := BX9.out.cell 2
                  simp only [List.getElem?_toArray, List.getElem?_cons_succ, List.getElem?_cons_zero] at q91 q92
                  clear ht14 hk14
                  go_wp2_with fail
                  refine (ref_put HQ9.out.now HQ9.out.len (by omega) HQ9.out.cap HQ9.out.keys (key, val)).mono ?_
                  rintro e w15 ⟨_, rfl, A7, c7, rfl, hr7, h71, h72, h73, hb15⟩
                  have HQ10 := Lib.hid (HQ9.out.put hb15 hr7 rfl h71 HPK.out)
                  clear hr7 h73 hb15
                  go_wp2_with fail
                  go_roundg (m - i)
                  case measure => have := HI.out; omega
                  case rel => exact ⟨i + 1, A7, _, c7, _, by omega, by go_num, rfl, by have := HPL.out; omega, HQ10.out⟩
              · have hwf : (way == 0) = false := by rw [beq_eq_false_iff_ne]; exact hw0
                by_cases hw1 : way = 1
                · subst hw1
                  cases fd
                  · have hvv := hvf rfl
                    subst hvv
                    clear hvt
                    go_wp2_with fail
                    refine HCT.out.mono ?_
                    rintro e w14 ⟨rfl, ht14, hk14⟩
                    have HQ9 := Lib.hid (HQ8.out.turn ht14 hk14)
                    have BX9 := Lib.hid (BX8.out.keep hk14 HBNE.out)
                    have q91 := BX9.out.cell 1
                    have q92 := BX9.out.cell 2
                    simp only [List.getElem?_toArray, List.getElem?_cons_succ, List.getElem?_cons_zero] at q91 q92
                    clear ht14 hk14
                    go_wp2_with fail
                    refine (HRC.out _ HQ9.out).mono ?_
                    rintro e w15 ⟨_, rfl, A7, c7, rfl, hr7, h71, h72, h73, hb15⟩
                    have HQ10 := Lib.hid (HQ9.out.put hb15 hr7 rfl h71 HCK.out)
                    clear hr7 h73 hb15
                    go_wp2_with fail
                    go_roundg (m - i)
                    case measure => have := HI.out; omega
                    case rel => exact ⟨i + 1, A7, _, c7, _, by omega, by go_num, rfl, by have := HCL.out; omega, HQ10.out⟩
                  · obtain ⟨b', o', v', rfl, hcv, hvv, hqn⟩ := hvt rfl
                    subst hvv
                    clear hvf
                    go_wp2_with fail
                    refine HCT.out.mono ?_
                    rintro e w14 ⟨rfl, ht14, hk14⟩
                    have HQ9 := Lib.hid (HQ8.out.turn ht14 hk14)
                    have BX9 := Lib.hid (BX8.out.keep hk14 HBNE.out)
                    have q91 := BX9.out.cell 1
                    have q92 := BX9.out.cell 2
                    simp only [List.getElem?_toArray, List.getElem?_cons_succ, List.getElem?_cons_zero] at q91 q92
                    clear ht14 hk14
                    go_wp2_with fail
                    refine (HRC.out _ HQ9.out).mono ?_
                    rintro e w15 ⟨_, rfl, A7, c7, rfl, hr7, h71, h72, h73, hb15⟩
                    have HQ10 := Lib.hid (HQ9.out.put hb15 hr7 rfl h71 HCK.out)
                    clear hr7 h73 hb15
                    go_wp2_with fail
                    go_roundg (m - i)
                    case measure => have := HI.out; omega
                    case rel => exact ⟨i + 1, A7, _, c7, _, by omega, by go_num, rfl, by have := HCL.out; omega, HQ10.out⟩
                · have hwf1 : (way == 1) = false := by rw [beq_eq_false_iff_ne]; exact hw1
                  cases fd
                  · have hvv := hvf rfl
                    subst hvv
                    clear hvt
                    go_wp2_with fail
                    go_roundg (m - i)
                    case measure => have := HI.out; omega
                    case rel => exact ⟨i + 1, _, n5, c5, L, by omega, by go_num, rfl, by omega, HQ8.out⟩
                  · obtain ⟨b', o', v', rfl, hcv, hvv, hqn⟩ := hvt rfl
                    subst hvv
                    clear hvf
                    go_wp2_with fail
                    go_roundg (m - i)
                    case measure => have := HI.out; omega
                    case rel => exact ⟨i + 1, _, n5, c5, L, by omega, by go_num, rfl, by omega, HQ8.out⟩
          · have hie : ¬ ((i : Int) ≤ (m : Int)) := by omega
            go_wp2_with fail
            go_ret
            exact ⟨rfl, HQ.out.bel⟩
  · go_enter Try.func3, Try.ntmps3
    go_wp2_with fail
    refine (alive_ _).mono ?_
    rintro e w1 ⟨rfl, hb1⟩
    have HB1 := Lib.hid hb1
    clear hb1
    by_cases hg1 : n ≤ 40
    · have hg2 : 150 < m := by omega
      go_wp2_with fail
      go_ret
      exact ⟨rfl, HB1.out⟩
    · have hg2 : 40 < n := by omega
      go_wp2_with fail
      go_ret
      exact ⟨rfl, HB1.out⟩
end Go.Proofs.Ytocaaebmelhhnaa
