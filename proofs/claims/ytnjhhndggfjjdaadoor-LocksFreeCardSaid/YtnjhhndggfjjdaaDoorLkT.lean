/- Package locks' Ask, walked; its Mode. -/
import Derived.Test.YtnjhhndggfjjdaaDoorLkA
set_option maxRecDepth 4000
namespace Go.Proofs.YtnjhhndggfjjdaaDoor
open Go.RowKit
theorem blk_new3 (W : World) (T : TypeId) (a b c u v x : Value) : Blk ((((W.alloc (.cells #[a, b, c] T)).setCell ⟨W.heap.size, 0, none⟩ u).setCell ⟨W.heap.size, 1, none⟩ v).setCell ⟨W.heap.size, 2, none⟩ x) W.heap.size T #[u, v, x] := blk_store3 (Blk.new W T _)
theorem LT.recount {w : World} {b : Nat} {n : Int} {s : TS} (h : LT w b n s) (k : Int) : LT (w.setCell ⟨b, 0, none⟩ (.int .i64 k)) b k s ∧ Keep (fun i _ => i ≠ b) w (w.setCell ⟨b, 0, none⟩ (.int .i64 k)) := by
  obtain ⟨A, c, rs, h⟩ := h
  have hk : Keep (fun i _ => i ≠ b) w (w.setCell ⟨b, 0, none⟩ (.int .i64 k)) := (Keep.refl w).setCell (fun _ _ h => h rfl) _
  exact ⟨⟨A, c, rs, by simpa using h.blk.set_ 0 (.int .i64 k), lst_kept h.lst hk fun i cur hi => ne_of_types h.blk hi (by decide), h.rows.kept hk fun i cur hi => ne_of_types h.blk hi (by decide), h.le, h.max, h.nil⟩, hk⟩
set_option maxHeartbeats 8000000 in
theorem task_ {w : World} {b : Nat} {s : TS} (h : LT w b (countP s : Int) s) (hg : TGood s) (hT : Tab w) (hb0 : 0 ≠ b) (hc : countP s ≤ 10000) (who : Int) (n : Nm) (mode : Int)
    (hcnt : ∀ m, knownP n = some m → mode ≠ 0 → waitN s who = none → countP (putN s m (askP (lockN s m) who (mdN mode)).2) = countP s + (if hereP (lockN s m) who = true then 0 else 1)) :
    Calls Tryd.prog 9 #[.pointer (some ⟨b, 0, none⟩), .int .i64 who, valN n, .int .i64 mode] w (TAsk w b s who n mode) := by
  have hal := alloc_below w (.cells #[.int .i64 n.1, .string n.2.1, .string n.2.2] 28)
  have hkn := fun W => nknown_ n W
  obtain ⟨K, hK⟩ : ∃ K, knownP n = K := ⟨_, rfl⟩
  rw [hK] at hkn
  have HKN := Lib.hid hkn
  have HK := Lib.hid hK
  have HAL := Lib.hid hal
  have H := Lib.hid h
  have HG := Lib.hid hg
  have HT := Lib.hid hT
  have HC := Lib.hid hcnt
  have hbw := h.lt
  clear hal hkn h hg hT hK hcnt
  obtain ⟨n1, n2, n3⟩ := n
  unfold valN at *
  simp only at *
  go_enter Tryd.func9, Tryd.ntmps9
  go_wp2_with fail
  generalize w.alloc (.cells #[.int .i64 n1, .string n2, .string n3] 28) = wA at *
  refine (HKN.out _).mono ?_
  rintro e w1 ⟨rfl, hb1⟩
  have HB1 := Lib.hid (HAL.out.trans (hb1.mono HAL.out.size))
  have hbw1 : b < w1.heap.size := Nat.lt_of_lt_of_le hbw HB1.out.size
  clear hb1 HAL HKN
  rcases K with _ | ⟨m1, m2, m3⟩
  · have hr := ask_unknown (s := s) (who := who) (mode := mode) HK.out
    have HR := Lib.hid hr
    clear hr
    simp only [Option.getD_none, Option.isSome_none]
    go_wp2_with fail
    go_ret
    refine ⟨by rw [HR.out]; rfl, ?_, ?_⟩
    · rw [HR.out]
      exact H.out.below (HB1.out.trans ((alloc_below w1 _).mono HB1.out.size))
    · exact Keep.of_below (HB1.out.trans ((alloc_below w1 _).mono HB1.out.size))
  · simp only [Option.getD_some, Option.isSome_some]
    have hal2 := alloc_below w1 (.cells #[.int .i64 m1, .string m2, .string m3] 28)
    have HBN := Lib.hid (Blk.new w1 28 #[.int .i64 m1, .string m2, .string m3])
    have HB2 := Lib.hid (HB1.out.trans (hal2.mono HB1.out.size))
    clear hal2 HB1
    go_wp2_with fail
    generalize w1.alloc (.cells #[.int .i64 m1, .string m2, .string m3] 28) = wC at *
    refine (waiting_all (H.out.below HB2.out) HG.out (HT.out.below HB2.out) who).mono ?_
    rintro e w3 ⟨rfl, hb3⟩
    have HB3 := Lib.hid (HB2.out.trans (hb3.mono HB2.out.size))
    have HBN3 := Lib.hid (HBN.out.below hb3 HBN.out.lt)
    clear hb3 HB2 HBN
    unfold valN noB
    obtain ⟨WT, hWT⟩ : ∃ WT, waitN s who = WT := ⟨_, rfl⟩
    rw [hWT]
    have HWT := Lib.hid hWT
    clear hWT
    rcases WT with _ | ⟨t1, t2, t3⟩
    rotate_left
    · have hr := ask_state (s := s) (who := who) (mode := mode) HK.out (by rw [HWT.out]; rfl)
      have HR := Lib.hid hr
      clear hr
      simp only [Option.getD_some, Option.isSome_some]
      go_wp2_with fail
      go_ret
      refine ⟨by rw [HR.out]; rfl, ?_, ?_⟩
      · rw [HR.out]
        exact H.out.below (HB3.out.trans ((alloc_below w3 _).mono HB3.out.size))
      · exact Keep.of_below (HB3.out.trans ((alloc_below w3 _).mono HB3.out.size))
    simp only [Option.getD_none, Option.isSome_none]
    have hal3 := alloc_below w3 (.cells #[.int .i64 0, .string ⟨#[]⟩, .string ⟨#[]⟩] 28)
    have HB4 := Lib.hid (HB3.out.trans (hal3.mono HB3.out.size))
    have HBN4 := Lib.hid (HBN3.out.below hal3 HBN3.out.lt)
    clear hal3 HBN3
    by_cases hm0 : mode = 0
    · have hr := ask_nothing (s := s) (who := who) (mode := mode) HK.out (by rw [HWT.out]; rfl) hm0
      have HR := Lib.hid hr
      subst hm0
      clear hr
      go_wp2_with fail
      go_ret
      refine ⟨by rw [HR.out]; rfl, ?_, ?_⟩
      · rw [HR.out]
        exact H.out.below HB4.out
      · exact Keep.of_below HB4.out
    have e0 : (mode == 0) = false := by simpa using hm0
    have d0 := HBN4.out.cell 0
    have d1 := HBN4.out.cell 1
    have d2 := HBN4.out.cell 2
    obtain ⟨A, c, rs, h4⟩ := H.out.below HB4.out
    have hho := tholdof_ h4 HG.out.rise (by have := HG.out.len; omega) HG.out.small who (m1, m2, m3)
    have HHO := Lib.hid hho
    clear hho h4
    unfold valN at HHO
    obtain ⟨x0, x1, x2, hx⟩ : ∃ x0 x1 x2 : Int, valH ((findH (holdsP (lockN s (m1, m2, m3))) who).getD (0, 0, 0)) = .agg #[.int .i64 x0, .int .i64 x1, .int .i64 x2] := ⟨_, _, _, rfl⟩
    rw [hx] at HHO
    obtain ⟨hh, hhh⟩ : ∃ hh, hereP (lockN s (m1, m2, m3)) who = hh := ⟨_, rfl⟩
    rw [hhh] at HHO
    have HH := Lib.hid hhh
    clear hx hhh
    go_wp2_with fail
    generalize w3.alloc (.cells #[.int .i64 0, .string ⟨#[]⟩, .string ⟨#[]⟩] 28) = wD at *
    refine HHO.out.mono ?_
    rintro e w5 ⟨rfl, hb5⟩
    have hal5 := alloc_below w5 (.cells #[.int .i64 x0, .int .i64 x1, .int .i64 x2] 53)
    have HB6 := Lib.hid ((HB4.out.trans (hb5.mono HB4.out.size)).trans (hal5.mono (HB4.out.trans (hb5.mono HB4.out.size)).size))
    have HBN6 := Lib.hid ((HBN4.out.below hb5 HBN4.out.lt).below hal5 (HBN4.out.below hb5 HBN4.out.lt).lt)
    clear hb5 hal5 HHO HBN4 d0 d1 d2 HB4 HB3
    have H6 := Lib.hid (H.out.below HB6.out)
    have d0 := HBN6.out.cell 0
    have d1 := HBN6.out.cell 1
    have d2 := HBN6.out.cell 2
    have hT6 := HT.out.below HB6.out
    -- the lock asked, behind whatever was counted
    have htail : ∀ (W : World) (k : Nat), LT W b (k : Int) s → Keep (fun i _ => i ≠ b) w W → (k : Int) = (countP (putN s (m1, m2, m3) (askP (lockN s (m1, m2, m3)) who (mdN mode)).2) : Int) → (hh = true ∨ countP s < 200) →
        Calls Tryd.prog 21 #[.pointer (some ⟨b, 0, none⟩), .agg #[.int .i64 m1, .string m2, .string m3]] W fun e w' => ∃ g o, e = .returned (.pointer (some ⟨g, o, none⟩)) ∧ Calls Tryd.prog 22 #[.pointer (some ⟨g, o, none⟩), .int .i64 who, .int .i64 mode] w' fun e w2 => ∃ r, e = .returned (.bool r) ∧ TAsk w b s who (n1, n2, n3) mode (.returned (.int .i64 (if r then 0 else 13))) w2 := by
      intro W k hl hk hkk hx
      refine (ask_tail hl HG.out (HT.out.keep hk fun _ => hb0) hb0 (m1, m2, m3)).mono ?_
      rintro e w' ⟨g, rfl, hcall⟩
      refine ⟨g, _, rfl, (hcall who mode).mono ?_⟩
      rintro e w2 ⟨rfl, hl2, hk2⟩
      have hr := ask_asks (s := s) (who := who) (mode := mode) HK.out (by rw [HWT.out]; rfl) hm0 (by rw [HH.out]; exact hx)
      refine ⟨_, rfl, ?_, ?_, hk.trans hk2⟩
      · rw [hr]
        cases (askP (lockN s (m1, m2, m3)) who (mdN mode)).1 <;> rfl
      · rw [hr]
        simp only
        rw [← hkk]
        exact hl2
    have HTAIL := Lib.hid htail
    have hcn := HC.out (m1, m2, m3) HK.out hm0 HWT.out
    rw [HH.out] at hcn
    have HCN := Lib.hid hcn
    clear htail hcn HC hT6
    cases hh
    · -- who is new here
      obtain ⟨A2, c2, rs2, h6⟩ := H6.out
      have hfu := full_ h6.blk (n := (countP s : Int)) rfl
      have HFU := Lib.hid hfu
      clear hfu
      by_cases hf : 200 ≤ countP s
      · have hr := ask_full (s := s) (who := who) (mode := mode) HK.out (by rw [HWT.out]; rfl) hm0 HH.out hf
        have HR := Lib.hid hr
        have e2 : decide ((200 : Int) ≤ (countP s : Int)) = true := by simpa using (show (200 : Int) ≤ (countP s : Int) by omega)
        rw [e2] at HFU
        clear hr h6 e2
        go_wp2_with fail
        generalize w5.alloc (.cells #[.int .i64 x0, .int .i64 x1, .int .i64 x2] 53) = wE at *
        refine HFU.out.mono ?_
        rintro e w7 ⟨rfl, rfl⟩
        go_wp2_with fail
        go_ret
        refine ⟨by rw [HR.out]; rfl, ?_, ?_⟩
        · rw [HR.out]
          exact H6.out
        · exact Keep.of_below HB6.out
      · have e2 : decide ((200 : Int) ≤ (countP s : Int)) = false := by simpa using (show ¬ (200 : Int) ≤ (countP s : Int) by omega)
        rw [e2] at HFU
        have hco := come_ h6.blk (by omega) (by omega) (m := ((countP s + 1 : Nat) : Int)) (by omega)
        have HCO := Lib.hid hco
        have HLT := Lib.hid (LT.recount H6.out ((countP s + 1 : Nat) : Int))
        have hne : w1.heap.size ≠ b := by omega
        have hkk : ((countP s + 1 : Nat) : Int) = (countP (putN s (m1, m2, m3) (askP (lockN s (m1, m2, m3)) who (mdN mode)).2) : Int) := by
          have := HCN.out
          simp only [Bool.false_eq_true, if_false] at this
          omega
        have HKK := Lib.hid hkk
        have HOR : Hid (false = true ∨ countP s < 200) := .inr (by omega)
        clear hco h6 e2 hkk
        go_wp2_with fail
        generalize w5.alloc (.cells #[.int .i64 x0, .int .i64 x1, .int .i64 x2] 53) = wE at *
        refine HFU.out.mono ?_
        rintro e w7 ⟨rfl, rfl⟩
        go_wp2_with fail
        refine HCO.out.mono ?_
        rintro e w7 ⟨rfl, hw7⟩
        have HL7 := Lib.hid (hw7 ▸ HLT.out.1)
        have HK7 := Lib.hid ((Keep.of_below HB6.out).trans (hw7 ▸ HLT.out.2))
        have d0' : w7.cell? ⟨w1.heap.size, 0, none⟩ = some (.int .i64 m1) := by rw [hw7]; exact (cell_of_heap (Below.heap_setCell _ ⟨b, 0, none⟩ _ _ hne) 0).trans d0
        have d1' : w7.cell? ⟨w1.heap.size, 1, none⟩ = some (.string m2) := by rw [hw7]; exact (cell_of_heap (Below.heap_setCell _ ⟨b, 0, none⟩ _ _ hne) 1).trans d1
        have d2' : w7.cell? ⟨w1.heap.size, 2, none⟩ = some (.string m3) := by rw [hw7]; exact (cell_of_heap (Below.heap_setCell _ ⟨b, 0, none⟩ _ _ hne) 2).trans d2
        clear hw7 d0 d1 d2
        go_wp2_with fail
        refine (HTAIL.out _ _ HL7.out HK7.out HKK.out HOR.out).mono ?_
        rintro e w8 ⟨g, o, rfl, hcall⟩
        have HCALL := Lib.hid hcall
        clear hcall
        go_wp2_with fail
        refine HCALL.out.mono ?_
        rintro e w9 ⟨r, rfl, hta⟩
        have HTA := Lib.hid hta
        clear hta
        cases r
        · go_wp2_with fail
          go_ret
          exact HTA.out
        · go_wp2_with fail
          go_ret
          exact HTA.out
    · -- who is here
      have hkk : ((countP s : Nat) : Int) = (countP (putN s (m1, m2, m3) (askP (lockN s (m1, m2, m3)) who (mdN mode)).2) : Int) := by
        have := HCN.out
        simp only [if_true] at this
        omega
      have HKK := Lib.hid hkk
      have HOR : Hid (true = true ∨ countP s < 200) := .inl rfl
      have HK7 := Lib.hid ((Keep.of_below HB6.out) : Keep (fun i _ => i ≠ b) w _)
      clear hkk
      go_wp2_with fail
      generalize w5.alloc (.cells #[.int .i64 x0, .int .i64 x1, .int .i64 x2] 53) = wE at *
      refine (HTAIL.out _ _ H6.out HK7.out HKK.out HOR.out).mono ?_
      rintro e w8 ⟨g, o, rfl, hcall⟩
      have HCALL := Lib.hid hcall
      clear hcall
      go_wp2_with fail
      refine HCALL.out.mono ?_
      rintro e w9 ⟨r, rfl, hta⟩
      have HTA := Lib.hid hta
      clear hta
      cases r
      · go_wp2_with fail
        go_ret
        exact HTA.out
      · go_wp2_with fail
        go_ret
        exact HTA.out
/-- the mode in which somebody is found among the holds -/
theorem find_mode {l : Lk} (who : Int) : ((findH (holdsP l) who).getD (0, 0, 0)).2.1 = modeP l.1 who := by
  obtain ⟨H, L⟩ := l
  unfold findH holdsP
  rw [List.find?_append, List.find?_map, List.find?_map, show modeP H who = ((H.find? (isW who)).map (·.2)).getD 0 from rfl]
  have e1 : ((fun h : Ho => h.1 == who) ∘ holdsA L) = isW who := rfl
  simp only at *
  rw [e1]
  cases h : H.find? (isW who)
  · generalize List.find? ((fun h : Ho => h.1 == who) ∘ holdsB) _ = X
    cases X <;> rfl
  · rfl
set_option maxHeartbeats 4000000 in
theorem tmode_ {w : World} {b : Nat} {k : Int} {s : TS} (h : LT w b k s) (hg : TGood s) (who : Int) (n : Nm) :
    Calls Tryd.prog 15 #[.pointer (some ⟨b, 0, none⟩), .int .i64 who, valN n] w fun e w' => e = .returned (.int .i64 (modeN s who n : Int)) ∧ Below w.heap.size w w' := by
  have hal := alloc_below w (.cells #[.int .i64 n.1, .string n.2.1, .string n.2.2] 28)
  have hkn := fun W => nknown_ n W
  obtain ⟨K, hK⟩ : ∃ K, knownP n = K := ⟨_, rfl⟩
  rw [hK] at hkn
  have hmo : modeN s who n = K.elim 0 fun m => modeP (lockN s m).1 who := by
    unfold modeN
    rw [hK]
    cases K <;> rfl
  have HMO := Lib.hid hmo
  have HKN := Lib.hid hkn
  have HAL := Lib.hid hal
  have H := Lib.hid h
  have HG := Lib.hid hg
  have hbw := h.lt
  clear hal hkn h hg hK hmo
  obtain ⟨n1, n2, n3⟩ := n
  unfold valN at *
  simp only at *
  go_enter Tryd.func15, Tryd.ntmps15
  go_wp2_with fail
  generalize w.alloc (.cells #[.int .i64 n1, .string n2, .string n3] 28) = wA at *
  refine (HKN.out _).mono ?_
  rintro e w1 ⟨rfl, hb1⟩
  have HB1 := Lib.hid (HAL.out.trans (hb1.mono HAL.out.size))
  clear hb1 HAL HKN
  rcases K with _ | ⟨m1, m2, m3⟩
  · simp only [Option.getD_none, Option.isSome_none] at *
    go_wp2_with fail
    go_ret
    exact ⟨by rw [HMO.out]; rfl, HB1.out.trans ((alloc_below w1 _).mono HB1.out.size)⟩
  · simp only [Option.getD_some, Option.isSome_some] at *
    have hal2 := alloc_below w1 (.cells #[.int .i64 m1, .string m2, .string m3] 28)
    have hBN := Blk.new w1 28 #[.int .i64 m1, .string m2, .string m3]
    have HB2 := Lib.hid (HB1.out.trans (hal2.mono HB1.out.size))
    have d0 := hBN.cell 0
    have d1 := hBN.cell 1
    have d2 := hBN.cell 2
    obtain ⟨A, c, rs, h4⟩ := H.out.below HB2.out
    have hho := tholdof_ h4 HG.out.rise (by have := HG.out.len; omega) HG.out.small who (m1, m2, m3)
    have HHO := Lib.hid hho
    have hfm := find_mode (l := lockN s (m1, m2, m3)) who
    clear hho h4 hal2 hBN
    unfold valN at HHO
    obtain ⟨x0, x1, x2, hx, hx1⟩ : ∃ x0 x1 x2 : Int, valH ((findH (holdsP (lockN s (m1, m2, m3))) who).getD (0, 0, 0)) = .agg #[.int .i64 x0, .int .i64 x1, .int .i64 x2] ∧ x1 = (modeP (lockN s (m1, m2, m3)).1 who : Int) := ⟨_, _, _, rfl, by rw [hfm]⟩
    rw [hx] at HHO
    generalize hereP (lockN s (m1, m2, m3)) who = hh at *
    have HX1 := Lib.hid hx1
    clear hx hx1 hfm
    go_wp2_with fail
    generalize w1.alloc (.cells #[.int .i64 m1, .string m2, .string m3] 28) = wC at *
    refine HHO.out.mono ?_
    rintro e w3 ⟨rfl, hb3⟩
    have HB3 := Lib.hid (HB2.out.trans (hb3.mono HB2.out.size))
    clear hb3
    go_wp2_with fail
    go_ret
    refine ⟨?_, HB3.out.trans ((alloc_below w3 _).mono HB3.out.size)⟩
    rw [HMO.out]
    show Ending.returned (.int .i64 x1) = _
    rw [HX1.out]
    rfl
end Go.Proofs.YtnjhhndggfjjdaaDoor
