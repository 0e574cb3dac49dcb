/- The law on Free: who is freed holds nothing, waits for nothing, and nobody waits for it. -/
import Derived.Test.YtnjhhndggfjjdaaDoorLkR
import Derived.Laws.BitsLemmas
import Derived.Test.YtnjhhndggfjjdaaDoorOpenL
set_option maxRecDepth 4000
namespace Go.Proofs.YtnjhhndggfjjdaaDoor
open Go.RowKit
theorem ask_here {s : TS} (hi : TInv s) {who x : Int} {n : Nm} {mode : Int} {e : Ent} (he : e ∈ (askN s who n mode).2) (hx : hereP e.2 x = true) : x = who ∨ ∃ e0 ∈ s, hereP e0.2 x = true := by
  rcases hk : knownP n with _ | m
  · rw [ask_unknown hk] at he; exact .inr ⟨e, he, hx⟩
  rcases hw : waitN s who with _ | t
  rotate_left
  · rw [ask_state hk (by rw [hw]; rfl)] at he; exact .inr ⟨e, he, hx⟩
  have hw2 : (waitN s who).isSome = false := by rw [hw]; rfl
  by_cases hm0 : mode = 0
  · rw [ask_nothing hk hw2 hm0] at he; exact .inr ⟨e, he, hx⟩
  by_cases hf : hereP (lockN s m) who = false ∧ 200 ≤ countP s
  · rw [ask_full hk hw2 hm0 hf.1 hf.2] at he; exact .inr ⟨e, he, hx⟩
  have hor : hereP (lockN s m) who = true ∨ countP s < 200 := by
    cases hh : hereP (lockN s m) who
    · exact .inr (Nat.lt_of_not_le fun h5 => hf ⟨hh, h5⟩)
    · exact .inl rfl
  rw [ask_asks hk hw2 hm0 hor] at he
  rcases put_mem hi.rise he with rfl | ⟨h1, _⟩
  · obtain ⟨okl, _⟩ := lock_inv hi m
    have hl := lock_line hi hw m
    simp only at hx
    rw [here_mem, whos_mem (ok_ask okl who (mdN_lt mode)), ask_whos okl (md_ne hm0) (mdN_lt mode) hl] at hx
    rcases hx with rfl | hx
    · exact .inl rfl
    · cases hat : atN s m
      · rw [lock_not hat] at hx
        simp [hasP] at hx
      · refine .inr ⟨_, lock_mem hat, ?_⟩
        rw [here_mem, whos_mem okl]
        exact hx
  · exact .inr ⟨e, h1, hx⟩
theorem count_free_le : ∀ {s : TS} (who : Int), (∀ e ∈ s, Ok e.2) → countP (freeN s who).2 ≤ countP s
  | [], _, _ => Nat.le_refl _
  | e :: s, who, h => by
    have ih := count_free_le (s := s) who fun x hx => h x (by simp [hx])
    cases hh : hereP e.2 who
    · rw [freeN, if_neg (by simp [hh])]
      simp only
      rw [count_cons, count_cons]
      omega
    · have hd := drop_count (h e (by simp)) hh
      rw [freeN, if_pos hh]
      simp only
      split
      · rw [count_cons]; omega
      · rw [count_cons, count_cons]
        simp only
        omega
/-- whoever has to do with any lock is one of these -/
def Among (lo hi : Int) (s : TS) : Prop := ∀ e ∈ s, ∀ x, hereP e.2 x = true → lo ≤ x ∧ x < hi
/-- somebody has to do with none -/
def Gone1 (who : Int) (s : TS) : Prop := ∀ e ∈ s, hereP e.2 who = false
theorem free_gone {s : TS} (hi : TInv s) (who : Int) : Gone1 who (freeN s who).2 := fun e he => by
  cases hh : hereP e.2 who
  · rfl
  · exact absurd rfl (free_whos hi who who he hh).1
theorem free_among {s : TS} (hi : TInv s) (who : Int) {a b : Int} (h : Among a b s) : Among a b (freeN s who).2 := fun e he x hx => by
  obtain ⟨_, e0, h0, h1⟩ := free_whos hi who x he hx
  exact h e0 h0 x h1
theorem free_next {s : TS} (hi : TInv s) {a b : Int} (h : Among a b s) : Among (a + 1) b (freeN s a).2 := fun e he x hx => by
  obtain ⟨hne, e0, h0, h1⟩ := free_whos hi a x he hx
  have := h e0 h0 x h1
  omega
theorem among_none {s : TS} (hi : TInv s) {a : Int} (h : Among a a s) : s = [] := by
  rcases s with _ | ⟨e, r⟩
  · rfl
  · have hne := hi.some e (by simp)
    rcases hh : holdsP e.2 with _ | ⟨x, t⟩
    · rw [hh] at hne; exact absurd rfl hne
    · have := h e (by simp) x.1 (by unfold hereP; rw [hh]; simp)
      omega
theorem gone_wait {s : TS} (hi : TInv s) {who : Int} (h : Gone1 who s) : waitN s who = none := waitN_of fun e he => by
  cases hh : hasP e.2.2 who
  · rfl
  · have := h e he
    rw [(here_mem _ _).2 ((whos_mem (hi.ok e he) who).2 (.inr hh))] at this
    cases this
theorem gone_mode {s : TS} (hi : TInv s) {who : Int} (h : Gone1 who s) (n : Nm) : modeN s who n = 0 := by
  unfold modeN
  split
  · rfl
  · rename_i m _
    cases hat : atN s m
    · rw [lock_not hat]; rfl
    · have h1 := h _ (lock_mem hat)
      have hp : hasP (lockN s m).1 who = false := by
        cases hh : hasP (lockN s m).1 who
        · rfl
        · simp only at h1
          rw [(here_mem _ _).2 ((whos_mem (hi.ok _ (lock_mem hat)) who).2 (.inl hh))] at h1
          cases h1
      exact mode_of_miss hp
theorem gone_edge {s : TS} (hi : TInv s) {who : Int} (h : Gone1 who s) {x : Int × Int} (hx : x ∈ sortedE (rawE s)) : x.1 ≠ who ∧ x.2 ≠ who := by
  unfold sortedE at hx
  rw [List.mem_mergeSort] at hx
  unfold rawE at hx
  obtain ⟨e, he, hx⟩ := List.mem_flatMap.1 hx
  obtain ⟨ho, hho, hx⟩ := List.mem_flatMap.1 hx
  obtain ⟨y, hy, rfl⟩ := List.mem_map.1 hx
  have hg := h e he
  constructor
  · intro h2
    have : hereP e.2 ho.1 = true := by
      unfold hereP
      rw [List.any_eq_true]
      exact ⟨ho, hho, by simp⟩
    simp only at h2
    rw [h2, hg] at this
    cases this
  · intro h2
    have := (here_mem e.2 y).2 ((whos_mem (hi.ok e he) y).2 (waits_in hy))
    simp only at h2
    rw [h2, hg] at this
    cases this
open Go in
theorem low_bits (m : Nat) (c : Int) (n : Int) (hm : m ≤ 60) (hc : (BitVec.ofInt 64 c).toNat = 2 ^ m - 1) : bits .and .i64 n c = ((n % ((2 ^ 64 : Nat) : Int)).toNat % 2 ^ m : Nat) := by
  have key : (BitVec.ofInt 64 n &&& BitVec.ofInt 64 c).toNat = (n % ((2 ^ 64 : Nat) : Int)).toNat % 2 ^ m := by
    rw [BitVec.toNat_and, BitVec.toNat_ofInt, hc, Nat.and_two_pow_sub_one_eq_mod]
  show IntKind.i64.wrap ((BitVec.ofInt 64 n &&& BitVec.ofInt 64 c).toNat : Nat) = _
  rw [key, IntKind.wrap_i64]
  have h1 : (n % ((2 ^ 64 : Nat) : Int)).toNat % 2 ^ m < 2 ^ m := Nat.mod_lt _ (Nat.two_pow_pos m)
  have h2 : 2 ^ m ≤ 2 ^ 60 := Nat.pow_le_pow_right (by omega) hm
  omega
theorem and_low (m : Nat) (c n : Int) (hm : m ≤ 60) (hc : (BitVec.ofInt 64 c).toNat = 2 ^ m - 1) : ∃ k : Nat, k < 2 ^ m ∧ bits .and .i64 n c = (k : Int) :=
  ⟨_, Nat.mod_lt _ (Nat.two_pow_pos m), low_bits m c n hm hc⟩
def FrA (w : World) (b N k : Nat) (i : Value) (wr : World) : Prop := ∃ j s, j + k = N ∧ i = .int .i64 (j : Int) ∧ LG w b s wr ∧ Among 0 8 s ∧ countP s ≤ j
def FrE (w : World) (b : Nat) (s : TS) (w1 : World) (L : List (Int × Int)) (k : Nat) (i : Value) (wr : World) : Prop := ∃ j, j + k = L.length ∧ i = .int .i64 (j : Int) ∧ LG w b s wr ∧ Below w1.heap.size w1 wr
def FrM (w : World) (b : Nat) (s : TS) (k : Nat) (i : Value) (wr : World) : Prop := ∃ j, j + k = 4 ∧ i = .int .i64 (j : Int) ∧ LG w b s wr
def FrF (w : World) (b k : Nat) (i : Value) (wr : World) : Prop := ∃ j s, j + k = 8 ∧ i = .int .i64 (j : Int) ∧ LG w b s wr ∧ Among (j : Int) 8 s ∧ countP s ≤ 80
set_option maxHeartbeats 8000000 in
theorem locksFree {A : Option Addr} {n c : Nat} {xs : List Ac6} (w : World) (ha : Acts w A n xs) (who : Int) (hT : Tab w) : Calls Tryd.prog 4 #[.slice A n c, .int .i64 who] w fun e w' => e = .returned (.bool true) ∧ Below w.heap.size w w' := by
  have hal := lalive_ w hT
  have HA := Lib.hid hal
  have HT := Lib.hid hT
  have HX := Lib.hid ha
  clear hal hT ha
  by_cases h1 : (80 : Int) < (n : Int)
  · go_enter Tryd.func4, Tryd.ntmps4
    go_wp2_with (go_at_call 7; refine HA.out.mono ?_; rintro e w1 ⟨rfl, hb1⟩)
    go_ret
    exact ⟨rfl, hb1⟩
  by_cases h2 : who < 0
  · go_enter Tryd.func4, Tryd.ntmps4
    go_wp2_with (go_at_call 7; refine HA.out.mono ?_; rintro e w1 ⟨rfl, hb1⟩)
    go_ret
    exact ⟨rfl, hb1⟩
  by_cases h3 : 7 < who
  · go_enter Tryd.func4, Tryd.ntmps4
    go_wp2_with (go_at_call 7; refine HA.out.mono ?_; rintro e w1 ⟨rfl, hb1⟩)
    go_ret
    exact ⟨rfl, hb1⟩
  have hn : n ≤ 80 := by omega
  go_enter Tryd.func4, Tryd.ntmps4
  go_wp2_with (go_at_call 7; refine HA.out.mono ?_; rintro e w1 ⟨rfl, hb1⟩; have G1 := Lib.hid (LG.new (HT.out.below hb1) hb1); clear hb1)
  refine (lnew_ _).mono ?_
  rintro e w2 ⟨rfl, hw2⟩
  have G2 : Hid (LG w w1.heap.size [] w2) := by rw [hw2]; exact G1.out
  clear hw2 G1
  generalize w1.heap.size = bt at *
  go_wp2_with fail
  go_loopg [7] n (fun k i wr => FrA w bt n k i wr)
  case atStart => exact ⟨0, [], by omega, rfl, G2.out, (fun _ h => by cases h), Nat.le_refl _⟩
  case round =>
    obtain ⟨j, s, hj, rfl, g, ham, hcn⟩ := hrel
    have HJ := Lib.hid hj
    have HG := Lib.hid g
    have HAM := Lib.hid ham
    clear hj g ham
    by_cases hlt : j < n
    · have hx : j < xs.length := by rw [HX.out.1]; exact hlt
      obtain ⟨gb, o, rfl, hgb, c0, c1, c2, _⟩ := HX.out.2.atA hx
      have d0 := (cell_of_heap (HG.out.below.block gb hgb) _).trans c0
      have d1 := (cell_of_heap (HG.out.below.block gb hgb) _).trans c1
      have d2 := (cell_of_heap (HG.out.below.block gb hgb) _).trans c2
      generalize xs[j].1 = aw at *
      generalize xs[j].2.1 = ax at *
      generalize xs[j].2.2.1 = am at *
      obtain ⟨k7, hk7, e7⟩ := and_low 3 7 ax (by omega) (by decide)
      obtain ⟨k1, hk1, e1⟩ := and_low 1 1 aw (by omega) (by decide)
      obtain ⟨k3, hk3, e3⟩ := and_low 2 3 am (by omega) (by decide)
      obtain ⟨kk, hkk, ek⟩ := and_low 10 1023 ax (by omega) (by decide)
      have hask := fun d oo r mode => (HG.out.next (Below.refl _ wr).drew).ask (by omega) (k7 : Int) (d, oo, r) mode
      unfold valN at hask
      simp only at hask
      have hnext : ∀ n mode, Among 0 8 (askN s (k7 : Int) n mode).2 ∧ countP (askN s (k7 : Int) n mode).2 ≤ j + 1 := fun n mode => by
        refine ⟨fun e he x hx => ?_, by have := count_ask HG.out.inv (k7 : Int) n mode; omega⟩
        rcases ask_here HG.out.inv he hx with rfl | ⟨e0, h0, h1⟩
        · simp only [Nat.reducePow] at hk7
          omega
        · exact HAM.out e0 h0 x h1
      have HAS := Lib.hid hask
      have HNX := Lib.hid hnext
      simp only [Nat.reducePow] at hk7 hk1 hk3 hkk
      have f1 : (0 : Int) ≤ (k3 : Int) := by omega
      have f2 : (k3 : Int) ≤ (k3 : Int) + 1 := by omega
      have f3 : (k3 : Int) + 1 ≤ 4 := by omega
      have hw3 : IntKind.i64.wrap ((k3 : Int) + 1) = (k3 : Int) + 1 := by rw [IntKind.wrap_i64]; omega
      clear hask hnext
      go_wp2_with fail
      have hS0 : (fun W : World => W.cell? ⟨gb, o + j * 6, none⟩ = some (.int .i64 aw) ∧ W.cell? ⟨gb, o + j * 6 + 1, none⟩ = some (.int .i64 ax) ∧ W.cell? ⟨gb, o + j * 6 + 2, none⟩ = some (.int .i64 am)) wr.drew := ⟨d0, d1, d2⟩

      go_region_held3 (fun W : World => W.cell? ⟨gb, o + j * 6, none⟩ = some (.int .i64 aw) ∧ W.cell? ⟨gb, o + j * 6 + 1, none⟩ = some (.int .i64 ax) ∧ W.cell? ⟨gb, o + j * 6 + 2, none⟩ = some (.int .i64 am))
        (first | exact hS0 | exact hS1)
        (first | (go_at_call 9; refine (HAS.out _ _ _ _).mono ?_; rintro e w3 ⟨rfl, g3, hb3⟩; have G3 := Lib.hid g3; have hS1 : (fun W : World => W.cell? ⟨gb, o + j * 6, none⟩ = some (.int .i64 aw) ∧ W.cell? ⟨gb, o + j * 6 + 1, none⟩ = some (.int .i64 ax) ∧ W.cell? ⟨gb, o + j * 6 + 2, none⟩ = some (.int .i64 am)) w3 := ⟨(cell_of_heap (g3.below.block gb hgb) _).trans c0, (cell_of_heap (g3.below.block gb hgb) _).trans c1, (cell_of_heap (g3.below.block gb hgb) _).trans c2⟩; clear g3 hb3))
      go_wp2_with fail
      go_roundg (n - (j + 1))
      case measure => have := HJ.out; omega
      case rel => exact ⟨j + 1, _, by omega, by go_num, G3.out, (HNX.out _ _).1, (HNX.out _ _).2⟩
    · obtain rfl : j = n := by have := HJ.out; omega
      clear HJ
      have hfr := HG.out.free (by omega) who
      have hgo := free_gone HG.out.inv who
      have ham1 := free_among HG.out.inv who HAM.out
      have hcn1 : countP (freeN s who).2 ≤ 80 := Nat.le_trans (count_free_le who HG.out.inv.ok) (by omega)
      generalize (freeN s who).2 = s1 at *
      have hwt := fun W (g : LG w bt s1 W) => g.waiting (by omega) who
      have hmo := fun W (g : LG w bt s1 W) (oo : ByteArray) => g.mode (by omega) who (1, oo, noB)
      have hmz := fun W (g : LG w bt [] W) => g.mode (by show 0 ≤ 1000; omega) who (0, noB, noB)
      have hed := fun W (g : LG w bt s1 W) => g.edges (by omega)
      have hco := fun W (g : LG w bt [] W) => g.count
      have hng : ∀ W, LG w bt s1 W → waitN s1 who = none := fun W g => gone_wait g.inv hgo
      have hnm : ∀ W, LG w bt s1 W → ∀ n, modeN s1 who n = 0 := fun W g n => gone_mode g.inv hgo n
      have hne : ∀ W, LG w bt s1 W → ∀ x ∈ sortedE (rawE s1), x.1 ≠ who ∧ x.2 ≠ who := fun W g x hx => gone_edge g.inv hgo hx
      have hfa : ∀ W s (j : Nat), LG w bt s W → Among (j : Int) 8 s → countP s ≤ 80 → Calls Tryd.prog 12 #[.pointer (some ⟨bt, 0, none⟩), .int .i64 (j : Int)] W fun e w' => ∃ v, e = .returned v ∧ ∃ s', LG w bt s' w' ∧ Among ((j + 1 : Nat) : Int) 8 s' ∧ countP s' ≤ 80 := fun W s j g ha hc => (g.free (by omega) (j : Int)).mono fun _ _ ⟨v, he, _, hl, _⟩ => ⟨v, he, _, hl, by rw [Int.natCast_add]; exact free_next g.inv ha, Nat.le_trans (count_free_le _ g.inv.ok) hc⟩
      have hll : ∀ W, LG w bt s1 W → (sortedE (rawE s1)).length ≤ 6400 := fun W g => by
        rw [sortedE_length]
        exact Nat.le_trans (rawE_length g.inv) (Nat.mul_le_mul hcn1 hcn1)
      have HLL := Lib.hid hll
      clear hll
      generalize sortedE (rawE s1) = L at *
      unfold valN noB at hmo hmz
      simp only at hmo hmz
      have HFR := Lib.hid hfr
      have HWT := Lib.hid hwt
      have HMO := Lib.hid hmo
      have HMZ := Lib.hid hmz
      have HED := Lib.hid hed
      have HCO := Lib.hid hco
      have HNG := Lib.hid hng
      have HNM := Lib.hid hnm
      have HNE := Lib.hid hne
      have HFA := Lib.hid hfa
      have HAM1 := Lib.hid ham1
      have HCN1 := Lib.hid hcn1
      clear hfr hwt hmo hmz hed hco hng hnm hne hfa ham1 hcn1 hgo HAM hcn
      go_wp2_with fail
      refine HFR.out.mono ?_
      rintro e w3 ⟨v3, rfl, _, g3, _⟩
      have hw0 := HNG.out _ g3
      have HWT3 := Lib.hid (HWT.out _ g3)
      clear g3
      rw [hw0] at HWT3
      go_wp2_with fail
      refine HWT3.out.mono ?_
      rintro e w4 ⟨rfl, g4, _⟩
      have G4 := Lib.hid g4
      clear g4
      unfold valN noB
      simp only [Option.getD_none, Option.isSome_none]
      go_wp2_with fail
      refine (HED.out _ (G4.out.next (alloc_below _ _))).mono ?_
      rintro e w5 ⟨v5, rfl, ho5, g5, _⟩
      obtain ⟨A5, c5, rfl, hl5, _, _, _⟩ := own_lst ho5
      have hL6 : L.length ≤ 6400 := HLL.out _ g5
      have G5 := Lib.hid g5
      have HL5 := Lib.hid hl5
      have hnb := HNE.out _ g5
      have HNB := Lib.hid hnb
      clear g5 hl5 ho5 hnb HWT3
      generalize w4.heap.size = bs at *
      go_wp2_with fail
      go_loopg [11] L.length (fun k i wr => FrE w bt s1 w5 L k i wr)
      case atStart => exact ⟨0, by omega, rfl, G5.out, Below.refl _ _⟩
      case round =>
        obtain ⟨q, hq, rfl, g, hb⟩ := hrel
        have HJ := Lib.hid hq
        have HG5 := Lib.hid g
        have HB := Lib.hid hb
        clear hq g hb
        by_cases hlt : q < L.length
        · obtain ⟨gb, o, rfl, hgb, c0, c1⟩ := HL5.out.atE hlt
          have d0 := (cell_of_heap (HB.out.block gb hgb) _).trans c0
          have d1 := (cell_of_heap (HB.out.block gb hgb) _).trans c1
          obtain ⟨n0, n1⟩ := HNB.out _ (List.getElem_mem hlt)
          generalize L[q].1 = x0 at *
          generalize L[q].2 = x1 at *
          have b0 : (x0 == who) = false := by simpa using n0
          have b1 : (x1 == who) = false := by simpa using n1
          clear n0 n1 c0 c1
          go_wp2_with fail
          go_roundg (L.length - (q + 1))
          case measure => have := HJ.out; omega
          case rel => exact ⟨q + 1, by omega, by go_num, HG5.out.next (Below.refl _ _), HB.out⟩
        · obtain rfl : q = L.length := by have := HJ.out; omega
          clear HJ
          go_wp2_with fail
          go_loopg [12] 4 (fun k i wr => FrM w bt s1 k i wr)
          case atStart => exact ⟨0, by omega, rfl, HG5.out⟩
          case round =>
            obtain ⟨r, hr, rfl, g⟩ := hrel
            have HG6 := Lib.hid g
            clear g
            by_cases hlt : r < 4
            · have hw1 : IntKind.i64.wrap ((r : Int) + 1) = (r : Int) + 1 := by rw [IntKind.wrap_i64]; omega
              have HMR := Lib.hid (HMO.out _ HG6.out)
              have hmr := HNM.out _ HG6.out
              have f1 : (0 : Int) ≤ (r : Int) := by omega
              have f2 : (r : Int) ≤ (r : Int) + 1 := by omega
              have f3 : (r : Int) + 1 ≤ 4 := by omega
              go_wp2_with fail
              refine (HMR.out _).mono ?_
              rintro e w6 ⟨rfl, g6, _⟩
              rw [hmr]
              have G6 := Lib.hid g6
              clear g6
              go_wp2_with fail
              go_roundg (4 - (r + 1))
              case measure => omega
              case rel => exact ⟨r + 1, by omega, by go_num, G6.out⟩
            · obtain rfl : r = 4 := by omega
              clear hr
              go_wp2_with fail
              go_loopg [13] 8 (fun k i wr => FrF w bt k i wr)
              case atStart => exact ⟨0, s1, by omega, rfl, HG6.out, HAM1.out, HCN1.out⟩
              case round =>
                obtain ⟨r, s, hr, rfl, g, ham, hcn⟩ := hrel
                have HG7 := Lib.hid g
                have HAM := Lib.hid ham
                clear ham
                by_cases hlt : r < 8
                · have HF := Lib.hid (HFA.out _ s r g HAM.out hcn)
                  clear g
                  go_wp2_with fail
                  refine HF.out.mono ?_
                  rintro e w7 ⟨v7, rfl, s', g7, ha7, hc7⟩
                  have G7 := Lib.hid g7
                  have HA7 := Lib.hid ha7
                  clear g7 ha7
                  go_wp2_with fail
                  go_roundg (8 - (r + 1))
                  case measure => omega
                  case rel => exact ⟨r + 1, s', by omega, by go_num, G7.out, HA7.out, hc7⟩
                · obtain rfl : r = 8 := by omega
                  obtain rfl : s = [] := among_none g.inv HAM.out
                  clear hr g
                  go_wp2_with fail
                  refine (HMZ.out _ HG7.out).mono ?_
                  rintro e w7 ⟨rfl, g7, _⟩
                  rw [show modeN [] who (0, ⟨#[]⟩, ⟨#[]⟩) = 0 from rfl]
                  have G7 := Lib.hid g7
                  clear g7
                  go_wp2_with fail
                  refine (HCO.out _ G7.out).mono ?_
                  rintro e w8 ⟨rfl, rfl⟩
                  rw [show countP [] = 0 from rfl]
                  go_wp2_with fail
                  go_ret
                  exact ⟨rfl, G7.out.below⟩
end Go.Proofs.YtnjhhndggfjjdaaDoor
