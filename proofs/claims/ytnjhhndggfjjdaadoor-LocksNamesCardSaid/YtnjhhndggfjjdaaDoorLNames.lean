/- The law on names: of the store's name nothing else is looked at, of an object's not the row; rows apart. -/
import Derived.Test.YtnjhhndggfjjdaaDoorLkR
set_option maxRecDepth 4000
namespace Go.Proofs.YtnjhhndggfjjdaaDoor
open Go.RowKit
theorem taken (q : Nat) (h0 : 0 < q) (h6 : q < 6) : askP ([(1, q)], []) 2 5 = (false, ([(1, q)], [(2, 5)])) := by
  have : ∀ q : Fin 6, 0 < q.1 → askP ([(1, q.1)], []) 2 5 = (false, ([(1, q.1)], [(2, 5)])) := by decide
  exact this ⟨q, h6⟩ h0
structure NS (a b : ByteArray) (q : Nat) (s : TS) : Prop where
  c : countP s = 3
  calm : Calm s
  l0 : lockN s (0, noB, noB) = ([(1, q)], [])
  l1 : lockN s (1, a, noB) = ([(1, q)], [])
  l2 : lockN s (2, a, b) = ([(1, 5)], [])
  l3 : ∀ c, c ≠ b → lockN s (2, a, c) = ([], [])
set_option maxHeartbeats 4000000 in
theorem locksNames (a b c : ByteArray) (mode : Int) (w : World) (hT : Tab w) : Calls Tryd.prog 5 #[.string a, .string b, .string c, .int .i64 mode] w fun e w' => e = .returned (.bool true) ∧ Below w.heap.size w w' := by
  have hal := lalive_ w hT
  have HA := Lib.hid hal
  have HT := Lib.hid hT
  clear hal hT
  by_cases ha : (40 : Int) < (a.size : Int)
  · go_enter Tryd.func5, Tryd.ntmps5
    go_wp2_with (go_at_call 7; refine HA.out.mono ?_; rintro e w1 ⟨rfl, hb1⟩)
    go_ret
    exact ⟨rfl, hb1⟩
  by_cases hb : (40 : Int) < (b.size : Int)
  · go_enter Tryd.func5, Tryd.ntmps5
    go_wp2_with (go_at_call 7; refine HA.out.mono ?_; rintro e w1 ⟨rfl, hb1⟩)
    go_ret
    exact ⟨rfl, hb1⟩
  by_cases hc : (40 : Int) < (c.size : Int)
  · go_enter Tryd.func5, Tryd.ntmps5
    go_wp2_with (go_at_call 7; refine HA.out.mono ?_; rintro e w1 ⟨rfl, hb1⟩)
    go_ret
    exact ⟨rfl, hb1⟩
  by_cases h1 : mode < 1
  · go_enter Tryd.func5, Tryd.ntmps5
    go_wp2_with (go_at_call 7; refine HA.out.mono ?_; rintro e w1 ⟨rfl, hb1⟩)
    go_ret
    exact ⟨rfl, hb1⟩
  by_cases h5 : 5 < mode
  · go_enter Tryd.func5, Tryd.ntmps5
    go_wp2_with (go_at_call 7; refine HA.out.mono ?_; rintro e w1 ⟨rfl, hb1⟩)
    go_ret
    exact ⟨rfl, hb1⟩
  have hm1 : 1 ≤ mode := by omega
  have hm5 : mode ≤ 5 := by omega
  obtain ⟨q0, q6, qm⟩ := md_of hm1 hm5
  -- the three that are asked for
  have n0 := ask_new TInv.nil (fun e he => by cases he) (known_store a b) (lock_nil _) (by decide) 1 hm1 hm5
  have i1 := inv_ask TInv.nil 1 (0, a, b) mode
  rw [n0.1] at i1
  have c1 : Calm (putN [] (0, noB, noB) ([(1, mdN mode)], [])) := Calm.put (fun e he => by cases he) List.Pairwise.nil _ rfl
  have k1 : countP (putN [] (0, noB, noB) ([(1, mdN mode)], [])) = 1 := n0.2
  have x1 : lockN (putN [] (0, noB, noB) ([(1, mdN mode)], [])) (0, noB, noB) = ([(1, mdN mode)], []) := lock_put_same List.Pairwise.nil _ _
  have y1 : ∀ n : Nm, n.1 ≠ 0 → lockN (putN [] (0, noB, noB) ([(1, mdN mode)], [])) n = ([], []) := fun n hn => lock_put_other List.Pairwise.nil _ (fun e => hn (by rw [e]))
  have n1 := ask_new i1 c1 (known_object a b) (y1 _ (by simp)) (by rw [k1]; decide) 1 hm1 hm5
  generalize putN [] (0, noB, noB) ([(1, mdN mode)], []) = s1 at *
  have i2 := inv_ask i1 1 (1, a, b) mode
  rw [n1.1] at i2
  have c2 : Calm (putN s1 (1, a, noB) ([(1, mdN mode)], [])) := c1.put i1.rise _ rfl
  have k2 : countP (putN s1 (1, a, noB) ([(1, mdN mode)], [])) = 2 := by rw [n1.2, k1]
  have x2 : lockN (putN s1 (1, a, noB) ([(1, mdN mode)], [])) (0, noB, noB) = ([(1, mdN mode)], []) := by rw [lock_put_other i1.rise _ (fun e => by injection e with e; cases e), x1]
  have z2 : lockN (putN s1 (1, a, noB) ([(1, mdN mode)], [])) (1, a, noB) = ([(1, mdN mode)], []) := lock_put_same i1.rise _ _
  have y2 : ∀ n : Nm, n.1 = 2 → lockN (putN s1 (1, a, noB) ([(1, mdN mode)], [])) n = ([], []) := fun n hn => by
    rw [lock_put_other i1.rise _ (fun e => by rw [e] at hn; cases hn), y1 n (by omega)]
  have n2 := ask_new i2 c2 (known_row a b) (y2 _ rfl) (by rw [k2]; decide) 1 (mode := 5) (by omega) (by omega)
  rw [show mdN 5 = 5 by decide] at n2
  generalize putN s1 (1, a, noB) ([(1, mdN mode)], []) = s2 at *
  have hNS : NS a b (mdN mode) (putN s2 (2, a, b) ([(1, 5)], [])) := by
    refine ⟨by rw [n2.2, k2], c2.put i2.rise _ rfl, ?_, ?_, lock_put_same i2.rise _ _, fun c hc => ?_⟩
    · rw [lock_put_other i2.rise _ (fun e => by injection e with e; cases e), x2]
    · rw [lock_put_other i2.rise _ (fun e => by injection e with e; cases e), z2]
    · rw [lock_put_other i2.rise _ (fun e => by injection e with _ e; injection e with _ e; exact hc e), y2 _ rfl]
  generalize putN s2 (2, a, b) ([(1, 5)], []) = s3 at *
  have hmo0 : modeN s3 1 (0, noB, noB) = mdN mode := by
    show modeP (lockN s3 (0, noB, noB)).1 1 = _
    rw [hNS.l0]; rfl
  have hmo1 : modeN s3 1 (1, a, c) = mdN mode := by
    show modeP (lockN s3 (1, a, noB)).1 1 = _
    rw [hNS.l1]; rfl
  have hlast : askN s3 2 (2, a, c) 5 = (if b = c then 13 else 0, (askN s3 2 (2, a, c) 5).2) := by
    have hw : (waitN s3 2).isSome = false := by rw [hNS.calm.wait]; rfl
    rw [ask_asks (known_row a c) hw (by omega) (.inr (by rw [hNS.c]; decide))]
    by_cases hbc : b = c
    · subst hbc
      rw [hNS.l2, show mdN 5 = 5 by decide, taken 5 (by omega) (by omega), if_pos rfl]
      rfl
    · rw [hNS.l3 c (fun e => hbc e.symm), show mdN 5 = 5 by decide, ask_fresh 2 (by omega) (by omega), if_neg hbc]
      rfl
  have HS := Lib.hid hNS
  have HM0 := Lib.hid hmo0
  have HM1 := Lib.hid hmo1
  have HL := Lib.hid hlast
  have HQ := Lib.hid qm
  have N0 := Lib.hid n0.1
  have N1 := Lib.hid n1.1
  have N2 := Lib.hid n2.1
  have K1 := Lib.hid k1
  have K2 := Lib.hid k2
  clear n0 n1 n2 i1 i2 c1 c2 x1 y1 x2 y2 z2 hNS hmo0 hmo1 hlast k1 k2 qm
  go_enter Tryd.func5, Tryd.ntmps5
  go_wp2_with (go_at_call 7; refine HA.out.mono ?_; rintro e w1 ⟨rfl, hb1⟩; have G1 := Lib.hid (LG.new (HT.out.below hb1) hb1); clear hb1)
  refine (lnew_ _).mono ?_
  rintro e w2 ⟨rfl, hw2⟩
  have G2 : Hid (LG w w1.heap.size [] w2) := by rw [hw2]; exact G1.out
  clear hw2 G1
  generalize w1.heap.size = bt at *
  have ha0 := G2.out.ask (by decide) 1 (0, a, b) mode
  rw [N0.out] at ha0
  unfold valN at ha0
  go_wp2_with fail
  refine ha0.mono ?_
  rintro e w3 ⟨rfl, g3, _⟩
  have G3 := Lib.hid g3
  have ha1 := g3.ask (by rw [K1.out]; decide) 1 (1, a, b) mode
  rw [N1.out] at ha1
  unfold valN at ha1
  clear g3 ha0
  go_wp2_with fail
  refine ha1.mono ?_
  rintro e w4 ⟨rfl, g4, _⟩
  have ha2 := g4.ask (by rw [K2.out]; decide) 1 (2, a, b) 5
  rw [N2.out] at ha2
  unfold valN at ha2
  clear g4 ha1
  go_wp2_with fail
  refine ha2.mono ?_
  rintro e w5 ⟨rfl, g5, _⟩
  have G5 := Lib.hid g5
  have hc3 : countP s3 ≤ 300 := by rw [HS.out.c]; decide
  have hm0 := fun W (g : LG w bt s3 W) => g.mode (by omega) 1 (0, noB, noB)
  have hm1' := fun W (g : LG w bt s3 W) => g.mode (by omega) 1 (1, a, c)
  rw [HM0.out, HQ.out] at hm0
  rw [HM1.out, HQ.out] at hm1'
  have hco := fun W (g : LG w bt s3 W) => g.count
  rw [HS.out.c] at hco
  have hla := fun W (g : LG w bt s3 W) => g.ask (by omega) 2 (2, a, c) 5
  rw [HL.out] at hla
  unfold valN noB at hm0
  unfold valN at hm1' hla
  simp only at hm0 hm1' hla g5
  have HM0' := Lib.hid hm0
  have HM1' := Lib.hid hm1'
  have HCO := Lib.hid hco
  have HLA := Lib.hid hla
  have G5' := Lib.hid g5
  have hne : (mode != mode) = false := by simp
  clear hm0 hm1' hco hla g5 ha2 G5 G3 G2
  go_wp2_with fail
  refine (HM0'.out _ G5'.out).mono ?_
  rintro e w6 ⟨rfl, g6, _⟩
  have G6 := Lib.hid g6
  clear g6
  go_wp2_with fail
  refine (HM1'.out _ G6.out).mono ?_
  rintro e w7 ⟨rfl, g7, _⟩
  have G7 := Lib.hid g7
  clear g7
  go_wp2_with fail
  refine (HCO.out _ G7.out).mono ?_
  rintro e w8 ⟨rfl, rfl⟩
  go_wp2_with fail
  refine (HLA.out _ G7.out).mono ?_
  rintro e w9 ⟨rfl, g9, _⟩
  have G9 := Lib.hid g9
  have hn0 := num_ 0
  have hn13 := num_ 13
  clear g9
  by_cases hbc : b = c
  · subst hbc
    rw [if_pos rfl]
    have e1 : (b.toList == b.toList) = true := by simp
    go_wp2_with (go_at_call 10; refine (hn13 _).mono ?_; rintro e w' ⟨rfl, rfl⟩)
    go_ret
    exact ⟨rfl, G9.out.below⟩
  · rw [if_neg hbc]
    have e1 : (b.toList == c.toList) = false := by
      rw [beq_eq_false_iff_ne]
      exact fun e => hbc (bytes_eq e)
    go_wp2_with (go_at_call 10; refine (hn0 _).mono ?_; rintro e w' ⟨rfl, rfl⟩)
    go_ret
    exact ⟨rfl, G9.out.below⟩
end Go.Proofs.YtnjhhndggfjjdaaDoor
