/- One leaf or two of rows. -/
import Derived.Test.YtocaaebmelhhnaaTreeS
set_option maxRecDepth 4000
namespace Go.Proofs.Ytocaaebmelhhnaa
open Go.RowKit
/-- one part in a block of its own -/
theorem ps_one {h : Nat} {w : World} {K : Nat → Prop} {v : Value} {t : Tr h} {b : Nat} (a : TrAt h w K v t) (hb : Blk w b 59 #[v]) (hK : K b) : PsAt h w K (some ⟨b, 0, none⟩) 1 1 [v] [t] :=
  ⟨fun _ => ⟨b, 0, rfl, hK, hb.lt, fun j u hj => by rw [hb.cell, Nat.zero_add]; simpa using hj⟩, rfl, Nat.le_refl _, fun e => (by cases e), Kids.one a⟩
/-- two parts in a block of its own -/
theorem ps_two {h : Nat} {w : World} {K : Nat → Prop} {v u : Value} {t s : Tr h} {b : Nat} (a : TrAt h w K v t) (c : TrAt h w K u s) (hb : Blk w b 59 #[v, u]) (hK : K b) : PsAt h w K (some ⟨b, 0, none⟩) 2 2 [v, u] [t, s] :=
  ⟨fun _ => ⟨b, 0, rfl, hK, hb.lt, fun j u hj => by rw [hb.cell, Nat.zero_add]; simpa using hj⟩, rfl, Nat.le_refl _, fun e => (by cases e), (Kids.one a).append (Kids.one c)⟩
theorem halve_le {α : Type} {l : List α} (h : l.length ≤ 6) : halve l = [l] := by rw [halve, if_pos h]
theorem halve_gt {α : Type} {l : List α} (h : ¬ l.length ≤ 6) : halve l = [l.take ((l.length + 1) / 2), l.drop ((l.length + 1) / 2)] := by rw [halve, if_neg h]
set_option maxHeartbeats 400000 in
theorem leaves_ {w : World} {K : Nat → Prop} {A : Option Addr} {n c : Nat} {xs : List Rw} (hr : Rws w K A xs) (hl : xs.length = n) (hn : n ≤ 100000) (hc : n ≤ c) (hA : A = none → c = 0) (hK : ∀ i, w.heap.size ≤ i → K i) :
    Calls Try.prog 63 #[.slice A n c] w fun e w' => ∃ v, e = .returned v ∧ NewP 0 w K (halve xs) v w' := by
  have H := Lib.hid hr
  have HL := Lib.hid hl
  have HA := Lib.hid hA
  have HK := Lib.hid hK
  clear hr hl hA hK
  go_enter Try.func63, Try.ntmps63
  go_wp2_with fail
  refine (newLeaf_ H.out HL.out hn hc HA.out HK.out).mono ?_
  rintro e w1 ⟨b1, rfl, ht1, hb1⟩
  obtain ⟨_, hd⟩ := ht1.head
  have ev := hd.val
  cases ev
  have hov := over_ hd
  have HW : Hid (widthT 0 xs = n) := HL.out
  rw [HW.out] at hov
  have HT1 := Lib.hid ht1
  have HB1 := Lib.hid hb1
  have HO := Lib.hid hov
  clear ht1 hb1 hd hov
  go_wp2_with fail
  refine HO.out.mono ?_
  rintro e w2 ⟨rfl, rfl⟩
  by_cases h6 : n ≤ 6
  · have h7 : decide (6 < n) = false := decide_eq_false (by omega)
    rw [h7]
    go_wp2_with fail
    go_ret
    refine ⟨_, rfl, ?_⟩
    rw [halve_le (by rw [HL.out]; exact h6)]
    exact ⟨_, 1, 1, _, rfl, ps_one (HT1.out.below (alloc_below _ _)) (Blk.new _ _ _) (HK.out _ HB1.out.size), HB1.out.trans ((alloc_below _ _).mono HB1.out.size)⟩
  · have h7 : decide (6 < n) = true := decide_eq_true (by omega)
    rw [h7]
    go_wp2_with fail
    refine (halves_ (H.out.below HB1.out) HL.out hn hc HA.out).mono ?_
    rintro e w3 ⟨A1, c1, A2, c2, rfl, r1, r2, p1, p2, p3, p4, p5, p6, hb3⟩
    have l1 : (xs.take ((n + 1) / 2)).length = (n + 1) / 2 := by rw [List.length_take, HL.out]; omega
    have l2 : (xs.drop ((n + 1) / 2)).length = n - (n + 1) / 2 := by rw [List.length_drop, HL.out]
    have hh := halve_gt (l := xs) (by rw [HL.out]; exact h6)
    rw [HL.out] at hh
    have hK3 : ∀ i, w1.heap.size ≤ i → K i := fun i hi => HK.out i (Nat.le_trans HB1.out.size hi)
    have hb13 := HB1.out.trans (hb3.mono HB1.out.size)
    have m1 : (n + 1) / 2 ≤ 100000 := by omega
    have m2 : n - (n + 1) / 2 ≤ 100000 := by omega
    generalize (n + 1) / 2 = q at *
    generalize n - q = m at *
    have R1 := Lib.hid (r1.more fun i _ hi => hK3 i hi)
    have R2 := Lib.hid (r2.more fun i _ hi => hK3 i hi)
    have P3 := Lib.hid p3
    have P6 := Lib.hid p6
    have L1 := Lib.hid l1
    have L2 := Lib.hid l2
    have HH := Lib.hid hh
    have HB3 := Lib.hid hb13
    clear r1 r2 p3 p6 l1 l2 hh hK3 hb3 hb13
    go_wp2_with fail
    refine (newLeaf_ R1.out L1.out m1 p1 P3.out (fun i hi => HK.out i (Nat.le_trans HB3.out.size hi))).mono ?_
    rintro e w4 ⟨b4, rfl, ht4, hb4⟩
    have hb14 := HB3.out.trans (hb4.mono HB3.out.size)
    have R2' := Lib.hid (R2.out.below hb4)
    have HT4 := Lib.hid ht4
    have HB4 := Lib.hid hb14
    clear ht4 hb4 hb14
    go_wp2_with fail
    refine (newLeaf_ R2'.out L2.out m2 p4 P6.out (fun i hi => HK.out i (Nat.le_trans HB4.out.size hi))).mono ?_
    rintro e w5 ⟨b5, rfl, ht5, hb5⟩
    have hb15 := HB4.out.trans (hb5.mono HB4.out.size)
    have HT4' := Lib.hid (HT4.out.below hb5)
    have HT5 := Lib.hid ht5
    have HB5 := Lib.hid hb15
    clear ht5 hb5 hb15
    go_wp2_with fail
    go_ret
    refine ⟨_, rfl, ?_⟩
    rw [HH.out]
    exact ⟨_, 2, 2, _, rfl, ps_two (HT4'.out.below (alloc_below _ _)) (HT5.out.below (alloc_below _ _)) (Blk.new _ _ _) (HK.out _ HB5.out.size), HB5.out.trans ((alloc_below _ _).mono HB5.out.size)⟩
end Go.Proofs.Ytocaaebmelhhnaa
