/- The law on the limit on locks: who is new is refused, and who holds goes on. -/
import Derived.Test.YtnjhhndggfjjdaaDoorLkR
set_option maxRecDepth 4000
namespace Go.Proofs.YtnjhhndggfjjdaaDoor
open Go.RowKit
def bA : ByteArray := ⟨#[97]⟩
def bB : ByteArray := ⟨#[98]⟩
def hsM (j : Nat) : List Cl := (List.range j).map fun i : Nat => ((i : Int), 1)
def stM (j : Nat) : TS := if j = 0 then [] else [((1, bA, noB), (hsM j, []))]
theorem hsM_succ (j : Nat) : hsM (j + 1) = hsM j ++ [((j : Int), 1)] := by unfold hsM; rw [List.range_succ, List.map_append]; rfl
theorem hsM_length (j : Nat) : (hsM j).length = j := by unfold hsM; simp
theorem hsM_mem {j : Nat} {c : Cl} : c ∈ hsM j ↔ ∃ i, i < j ∧ c = ((i : Int), 1) := by
  unfold hsM
  rw [List.mem_map]
  constructor
  · rintro ⟨i, hi, rfl⟩
    exact ⟨i, List.mem_range.1 hi, rfl⟩
  · rintro ⟨i, hi, rfl⟩
    exact ⟨i, List.mem_range.2 hi, rfl⟩
theorem hsM_has (j : Nat) (x : Nat) : hasP (hsM j) (x : Int) = decide (x < j) := by
  rw [Bool.eq_iff_iff, has_mem, decide_eq_true_iff, List.mem_map]
  constructor
  · rintro ⟨c, hc, e⟩
    obtain ⟨i, hi, rfl⟩ := hsM_mem.1 hc
    simp only at e
    omega
  · intro h
    exact ⟨_, hsM_mem.2 ⟨x, h, rfl⟩, rfl⟩
theorem hsM_nodup (j : Nat) : ((hsM j).map (·.1)).Nodup := by
  induction j with
  | zero => exact List.nodup_nil
  | succ j ih =>
    rw [hsM_succ, List.map_append, List.nodup_append]
    refine ⟨ih, by simp, fun a ha b hb e => ?_⟩
    obtain ⟨c, hc, rfl⟩ := List.mem_map.1 ha
    obtain ⟨i, hi, rfl⟩ := hsM_mem.1 hc
    simp at hb
    simp only at e
    omega
theorem stM_pos {j : Nat} (h : 0 < j) : stM j = [((1, bA, noB), (hsM j, []))] := by unfold stM; rw [if_neg (by omega)]
theorem lock_stM (j : Nat) : lockN (stM j) (1, bA, noB) = (hsM j, []) := by
  unfold stM
  by_cases h : j = 0
  · subst h; rfl
  · rw [if_neg h, lock_one]
theorem put_stM (j : Nat) (l : Lk) : putN (stM j) (1, bA, noB) l = [((1, bA, noB), l)] := by
  unfold stM
  by_cases h : j = 0
  · subst h; rfl
  · rw [if_neg h, put_one]
theorem count_stM (j : Nat) : countP (stM j) = j := by
  unfold stM
  by_cases h : j = 0
  · subst h; rfl
  · rw [if_neg h, count_cons, count_zero, holds_plain, hsM_length]; omega
theorem calm_stM (j : Nat) : Calm (stM j) := fun e he => by
  unfold stM at he
  by_cases h : j = 0
  · rw [if_pos h] at he; cases he
  · rw [if_neg h] at he
    obtain rfl : e = _ := List.mem_singleton.1 he
    rfl
theorem fits_hsM (j : Nat) {who : Int} {q : Nat} (hq : fitB 1 q = true) : fitsP (hsM j) (who, q) = true := by
  unfold fitsP
  rw [Bool.not_eq_true', List.any_eq_false]
  intro c hc
  obtain ⟨i, _, rfl⟩ := hsM_mem.1 hc
  unfold inwayP
  simp [hq]
theorem askP_next (j : Nat) : askP (hsM j, []) (j : Int) 1 = (true, (hsM (j + 1), [])) := by
  have hh : hasP (hsM j) (j : Int) = false := by rw [hsM_has]; simp
  have hm : modeP (hsM j) (j : Int) = 0 := mode_of_miss hh
  have hl : modeP [] (j : Int) = 0 := rfl
  unfold askP
  simp only [hm, hl]
  rw [if_neg (by omega), if_neg (by simp), if_neg (by decide), show joinN 0 1 = 1 by decide, if_pos ⟨.inr (by simp), fits_hsM j (by decide)⟩, hsM_succ]
  unfold grantP
  rw [if_neg (by rw [hh]; simp)]
theorem askN_next {j : Nat} (hj : j < 200) : askN (stM j) (j : Int) (1, bA, noB) 1 = (0, stM (j + 1)) := by
  rw [ask_asks (known_object _ _) (by rw [(calm_stM j).wait]; rfl) (by omega) (.inr (by rw [count_stM]; exact hj)), lock_stM, show mdN 1 = 1 by decide, askP_next, put_stM, stM_pos (Nat.succ_pos j)]
  rfl
theorem askN_over {j : Nat} (hj : 200 ≤ j) : askN (stM 200) (j : Int) (1, bA, noB) 1 = (10, stM 200) :=
  ask_full (known_object _ _) (by rw [(calm_stM 200).wait]; rfl) (by omega) (by rw [lock_stM, here_plain, hsM_has]; simpa using hj) (by rw [count_stM]; exact Nat.le_refl _)
/-- who holds asks for more -/
theorem askN_more {M x : Nat} (hx : x < M) : ∃ H, askN (stM M) (x : Int) (1, bA, noB) 2 = (0, [((1, bA, noB), (H, []))]) ∧ H.length = M := by
  have hh : hasP (hsM M) (x : Int) = true := by rw [hsM_has]; simpa using hx
  have hm : modeP (hsM M) (x : Int) = 1 := mode_mem (c := ((x : Int), 1)) (hsM_nodup M) (hsM_mem.2 ⟨x, hx, rfl⟩)
  have hl : modeP [] (x : Int) = 0 := rfl
  have hask : askP (hsM M, []) (x : Int) 2 = (true, (grantP (hsM M) ((x : Int), 2), [])) := by
    unfold askP
    simp only [hm, hl]
    rw [if_neg (by omega), if_neg (by simp), if_neg (by decide), show joinN 1 2 = 2 by decide, if_pos ⟨.inl (by omega), fits_hsM M (by decide)⟩]
  refine ⟨grantP (hsM M) ((x : Int), 2), ?_, ?_⟩
  · rw [ask_asks (known_object _ _) (by rw [(calm_stM M).wait]; rfl) (by omega) (.inl (by rw [lock_stM, here_plain]; exact hh)), lock_stM, show mdN 2 = 2 by decide, hask, put_stM]
    rfl
  · unfold grantP
    rw [if_pos hh, List.length_set, hsM_length]
theorem askN_more_over {x : Nat} (hx : 200 ≤ x) : askN (stM 200) (x : Int) (1, bA, noB) 2 = (10, stM 200) :=
  ask_full (known_object _ _) (by rw [(calm_stM 200).wait]; rfl) (by omega) (by rw [lock_stM, here_plain, hsM_has]; simpa using hx) (by rw [count_stM]; exact Nat.le_refl _)
/-- .. and for a row -/
theorem row_other (l : Lk) : lockN [((1, bA, noB), l)] (2, bA, bB) = ([], []) := lock_of_not fun e he => by
  obtain rfl : e = _ := List.mem_singleton.1 he
  intro h
  injection h with h _
  cases h
theorem askN_row {H : List Cl} (hi : TInv [((1, bA, noB), (H, []))]) (hH : H.length < 200) (x : Int) : ∃ s', askN [((1, bA, noB), (H, []))] x (2, bA, bB) 5 = (0, s') ∧ countP s' = H.length + 1 := by
  have hc : countP [((1, bA, noB), (H, []))] = H.length := by rw [count_cons, count_zero, holds_plain]; rfl
  have h := ask_new hi (calm_one _ H) (known_row bA bB) (row_other _) (by rw [hc]; exact hH) x (mode := 5) (by omega) (by omega)
  exact ⟨_, h.1, by rw [h.2, hc]⟩
theorem askN_row_full {H : List Cl} (hH : H.length = 200) (x : Int) : askN [((1, bA, noB), (H, []))] x (2, bA, bB) 5 = (10, [((1, bA, noB), (H, []))]) := by
  have hc : countP [((1, bA, noB), (H, []))] = H.length := by rw [count_cons, count_zero, holds_plain]; rfl
  exact ask_full (known_row _ _) (by rw [(calm_one _ H).wait]; rfl) (by omega) (by rw [row_other]; rfl) (by rw [hc, hH]; exact Nat.le_refl _)
def ManyR (w : World) (b N k : Nat) (i : Value) (wr : World) : Prop := ∃ j, j + k = N ∧ i = .int .i64 (j : Int) ∧ LG w b (stM (min j 200)) wr
set_option maxHeartbeats 4000000 in
theorem locksMany (n who : Int) (w : World) (hT : Tab w) : Calls Tryd.prog 3 #[.int .i64 n, .int .i64 who] w fun e w' => e = .returned (.bool true) ∧ Below w.heap.size w w' := by
  have hal := lalive_ w hT
  have HA := Lib.hid hal
  have HT := Lib.hid hT
  clear hal hT
  by_cases h1 : n < 190
  · go_enter Tryd.func3, Tryd.ntmps3
    go_wp2_with (go_at_call 7; refine HA.out.mono ?_; rintro e w1 ⟨rfl, hb1⟩)
    go_ret
    exact ⟨rfl, hb1⟩
  by_cases h2 : 210 < n
  · go_enter Tryd.func3, Tryd.ntmps3
    go_wp2_with (go_at_call 7; refine HA.out.mono ?_; rintro e w1 ⟨rfl, hb1⟩)
    go_ret
    exact ⟨rfl, hb1⟩
  by_cases h3 : who < 0
  · go_enter Tryd.func3, Tryd.ntmps3
    go_wp2_with (go_at_call 7; refine HA.out.mono ?_; rintro e w1 ⟨rfl, hb1⟩)
    go_ret
    exact ⟨rfl, hb1⟩
  by_cases h4 : n ≤ who
  · go_enter Tryd.func3, Tryd.ntmps3
    go_wp2_with (go_at_call 7; refine HA.out.mono ?_; rintro e w1 ⟨rfl, hb1⟩)
    go_ret
    exact ⟨rfl, hb1⟩
  obtain ⟨N, rfl⟩ : ∃ N : Nat, n = N := ⟨n.toNat, by omega⟩
  obtain ⟨X, rfl⟩ : ∃ X : Nat, who = X := ⟨who.toNat, by omega⟩
  have hXN : X < N := by omega
  have hN : N ≤ 210 := by omega
  have hN0 : 190 ≤ N := by omega
  have hn0 := num_ 0
  have hn10 := num_ 10
  go_enter Tryd.func3, Tryd.ntmps3
  go_wp2_with (go_at_call 7; refine HA.out.mono ?_; rintro e w1 ⟨rfl, hb1⟩; have G1 := Lib.hid (LG.new (HT.out.below hb1) hb1); clear hb1)
  refine (lnew_ _).mono ?_
  rintro e w2 ⟨rfl, hw2⟩
  have G2 : Hid (LG w w1.heap.size (stM (min 0 200)) w2) := by rw [hw2]; exact G1.out
  clear hw2 G1
  generalize w1.heap.size = bt at *
  go_wp2_with fail
  go_loopg [7] N (fun k i wr => ManyR w bt N k i wr)
  case atStart => exact ⟨0, by omega, rfl, G2.out⟩
  case round =>
    obtain ⟨j, hj, rfl, g⟩ := hrel
    have HJ := Lib.hid hj
    have HG := Lib.hid g
    clear hj g
    by_cases hlt : j < N
    · by_cases h200 : j < 200
      · have hst : stM (min j 200) = stM j := by rw [Nat.min_eq_left (by omega)]
        have hst2 : stM (j + 1) = stM (min (j + 1) 200) := by rw [Nat.min_eq_left (by omega)]
        have hask := HG.out.ask (by rw [hst, count_stM]; omega) (j : Int) (1, bA, noB) 1
        rw [hst, askN_next h200, hst2] at hask
        unfold valN bA noB at hask
        have HAS := Lib.hid hask
        have hz : (j : Int) < 200 := by omega
        clear hask hst hst2
        go_wp2_with (first
          | (go_at_call 9; refine HAS.out.mono ?_; rintro e w3 ⟨rfl, g3, _⟩; have G3 := Lib.hid g3; clear g3)
          | (go_at_call 10; refine (hn0 _).mono ?_; rintro e w' ⟨rfl, rfl⟩))
        go_roundg (N - (j + 1))
        case measure => have := HJ.out; omega
        case rel => exact ⟨j + 1, by omega, by go_num, G3.out⟩
      · have hst : stM (min j 200) = stM 200 := by rw [Nat.min_eq_right (by omega)]
        have hst2 : stM 200 = stM (min (j + 1) 200) := by rw [Nat.min_eq_right (by omega)]
        have hask := HG.out.ask (by rw [hst, count_stM]; omega) (j : Int) (1, bA, noB) 1
        rw [hst, askN_over (by omega), hst2] at hask
        unfold valN bA noB at hask
        have HAS := Lib.hid hask
        have hz : ¬ (j : Int) < 200 := by omega
        have hz2 : (200 : Int) ≤ (j : Int) := by omega
        clear hask hst hst2
        go_wp2_with (first
          | (go_at_call 9; refine HAS.out.mono ?_; rintro e w3 ⟨rfl, g3, _⟩; have G3 := Lib.hid g3; clear g3)
          | (go_at_call 10; refine (hn10 _).mono ?_; rintro e w' ⟨rfl, rfl⟩))
        go_roundg (N - (j + 1))
        case measure => have := HJ.out; omega
        case rel => exact ⟨j + 1, by omega, by go_num, G3.out⟩
    · obtain rfl : j = N := by have := HJ.out; omega
      clear HJ
      by_cases h200 : j < 200
      · have hst : stM (min j 200) = stM j := by rw [Nat.min_eq_left (by omega)]
        obtain ⟨H, ha, hH⟩ := askN_more hXN
        have hask := HG.out.ask (by rw [hst, count_stM]; omega) (X : Int) (1, bA, noB) 2
        rw [hst, ha] at hask
        have hrow := fun W (g : LG w bt [((1, bA, noB), (H, []))] W) => g.ask (by rw [count_cons, count_zero, holds_plain]; omega) (X : Int) (2, bA, bB) 5
        have hr2 := fun W (g : LG w bt [((1, bA, noB), (H, []))] W) => askN_row g.inv (by omega) (X : Int)
        have HROW := Lib.hid hrow
        have HR2 := Lib.hid hr2
        unfold valN bA noB at hask
        have HAS := Lib.hid hask
        have hz : (j : Int) < 200 := by omega
        have hw1 : IntKind.i64.wrap ((j : Int) + 1) = (j : Int) + 1 := by rw [IntKind.wrap_i64]; omega
        clear hask hrow hr2
        go_wp2_with fail
        refine HAS.out.mono ?_
        rintro e w3 ⟨rfl, g3, _⟩
        obtain ⟨s', hs', hc'⟩ := HR2.out _ g3
        have hro := HROW.out _ g3
        rw [hs'] at hro
        unfold valN bA bB at hro
        clear g3
        go_wp2_with fail
        refine hro.mono ?_
        rintro e w4 ⟨rfl, g4, _⟩
        have hco := g4.count
        rw [hc', hH] at hco
        have G4 := Lib.hid g4
        clear g4 hro
        go_wp2_with (first
          | (go_at_call 10; refine (hn0 _).mono ?_; rintro e w' ⟨rfl, rfl⟩)
          | (go_at_call 11; refine hco.mono ?_; rintro e w' ⟨rfl, rfl⟩))
        go_ret
        exact ⟨rfl, G4.out.below⟩
      · have hst : stM (min j 200) = stM 200 := by rw [Nat.min_eq_right (by omega)]
        have hz : ¬ (j : Int) < 200 := by omega
        obtain ⟨k, H, ha, hH, hk⟩ : ∃ (k : Nat) (H : List Cl), askN (stM 200) (X : Int) (1, bA, noB) 2 = (k, [((1, bA, noB), (H, []))]) ∧ H.length = 200 ∧ ((k = 0 ∧ X < 200) ∨ (k = 10 ∧ ¬ X < 200)) := by
          by_cases hX : X < 200
          · obtain ⟨H, h1, h2⟩ := askN_more hX
            exact ⟨0, H, h1, h2, .inl ⟨rfl, hX⟩⟩
          · exact ⟨10, hsM 200, by rw [askN_more_over (by omega), stM_pos (by omega)], hsM_length 200, .inr ⟨rfl, hX⟩⟩
        have hask := HG.out.ask (by rw [hst, count_stM]; omega) (X : Int) (1, bA, noB) 2
        rw [hst, ha] at hask
        have hcn : countP [((1, bA, noB), (H, []))] = 200 := by rw [count_cons, count_zero, holds_plain, hH]
        have hrow := fun W (g : LG w bt [((1, bA, noB), (H, []))] W) => g.ask (by omega) (X : Int) (2, bA, bB) 5
        rw [askN_row_full hH] at hrow
        unfold valN bA bB noB at hrow
        unfold valN bA noB at hask
        have hcc := fun W (g : LG w bt [((1, bA, noB), (H, []))] W) => g.count
        rw [hcn] at hcc
        unfold bA noB at hcc
        have HROW := Lib.hid hrow
        have HCC := Lib.hid hcc
        have HAS := Lib.hid hask
        clear hask hrow hcc
        rcases hk with ⟨rfl, hX⟩ | ⟨rfl, hX⟩
        · have hX2 : (X : Int) < 200 := by omega
          go_wp2_with fail
          refine HAS.out.mono ?_
          rintro e w3 ⟨rfl, g3, _⟩
          have hro := HROW.out _ g3
          clear g3
          go_wp2_with fail
          refine hro.mono ?_
          rintro e w4 ⟨rfl, g4, _⟩
          have hco := HCC.out _ g4
          have G4 := Lib.hid g4
          clear g4 hro
          go_wp2_with (first
            | (go_at_call 10; first | (refine (hn0 _).mono ?_; rintro e w' ⟨rfl, rfl⟩) | (refine (hn10 _).mono ?_; rintro e w' ⟨rfl, rfl⟩))
            | (go_at_call 11; refine hco.mono ?_; rintro e w' ⟨rfl, rfl⟩))
          go_ret
          exact ⟨rfl, G4.out.below⟩
        · have hX2 : ¬ (X : Int) < 200 := by omega
          have hX3 : decide ((X : Int) < 200) = false := decide_eq_false hX2
          go_wp2_with fail
          refine HAS.out.mono ?_
          rintro e w3 ⟨rfl, g3, _⟩
          have hro := HROW.out _ g3
          clear g3
          go_wp2_with fail
          refine hro.mono ?_
          rintro e w4 ⟨rfl, g4, _⟩
          have hco := HCC.out _ g4
          have G4 := Lib.hid g4
          clear g4 hro
          go_wp2_with (first
            | (go_at_call 10; refine (hn10 _).mono ?_; rintro e w' ⟨rfl, rfl⟩)
            | (go_at_call 11; refine hco.mono ?_; rintro e w' ⟨rfl, rfl⟩))
          go_ret
          exact ⟨rfl, G4.out.below⟩
end Go.Proofs.YtnjhhndggfjjdaaDoor
