/- The law on intents: writers of many rows beside each other, and whoever wants all of a table. -/
import Derived.Test.YtnjhhndggfjjdaaDoorLkR
set_option maxRecDepth 4000
namespace Go.Proofs.YtnjhhndggfjjdaaDoor
open Go.RowKit
def bT : ByteArray := ⟨#[116]⟩
def hsI (j : Nat) : List Cl := (List.range j).map fun i : Nat => ((i : Int), 2)
theorem hsI_succ (j : Nat) : hsI (j + 1) = hsI j ++ [((j : Int), 2)] := by unfold hsI; rw [List.range_succ, List.map_append]; rfl
theorem hsI_length (j : Nat) : (hsI j).length = j := by unfold hsI; simp
theorem hsI_mem {j : Nat} {c : Cl} : c ∈ hsI j ↔ ∃ i, i < j ∧ c = ((i : Int), 2) := by
  unfold hsI
  rw [List.mem_map]
  constructor
  · rintro ⟨i, hi, rfl⟩
    exact ⟨i, List.mem_range.1 hi, rfl⟩
  · rintro ⟨i, hi, rfl⟩
    exact ⟨i, List.mem_range.2 hi, rfl⟩
theorem hsI_has (j : Nat) (x : Nat) : hasP (hsI j) (x : Int) = decide (x < j) := by
  rw [Bool.eq_iff_iff, has_mem, decide_eq_true_iff, List.mem_map]
  constructor
  · rintro ⟨c, hc, e⟩
    obtain ⟨i, hi, rfl⟩ := hsI_mem.1 hc
    simp only at e
    omega
  · intro h
    exact ⟨_, hsI_mem.2 ⟨x, h, rfl⟩, rfl⟩
theorem fits_hsI (j : Nat) {who : Int} {q : Nat} (hq : fitB 2 q = true) : fitsP (hsI j) (who, q) = true := by
  unfold fitsP
  rw [Bool.not_eq_true', List.any_eq_false]
  intro c hc
  obtain ⟨i, _, rfl⟩ := hsI_mem.1 hc
  unfold inwayP
  simp [hq]
theorem askP_writer (j : Nat) : askP (hsI j, []) (j : Int) 2 = (true, (hsI (j + 1), [])) := by
  have hh : hasP (hsI j) (j : Int) = false := by rw [hsI_has]; simp
  have hm : modeP (hsI j) (j : Int) = 0 := mode_of_miss hh
  have hl : modeP [] (j : Int) = 0 := rfl
  unfold askP
  simp only [hm, hl]
  rw [if_neg (by omega), if_neg (by simp), if_neg (by decide), show joinN 0 2 = 2 by decide, if_pos ⟨.inr (by simp), fits_hsI j (by decide)⟩, hsI_succ]
  unfold grantP
  rw [if_neg (by rw [hh]; simp)]
/-- a writer more of what many write -/
theorem ask_writer {s : TS} (hi : TInv s) (hc : Calm s) {n m : Nm} (hk : knownP n = some m) {j : Nat} (hl : lockN s m = (hsI j, [])) (h2 : countP s < 200) :
    askN s (j : Int) n 2 = (0, putN s m (hsI (j + 1), [])) ∧ countP (putN s m (hsI (j + 1), [])) = countP s + 1 := by
  have hcp := count_put hi (m := m) (mode := 2) (by omega) (hc.wait (j : Int))
  rw [hl, show mdN 2 = 2 by decide, askP_writer, here_plain, hsI_has] at hcp
  rw [ask_asks hk (by rw [hc.wait]; rfl) (by omega) (.inr h2), hl, show mdN 2 = 2 by decide, askP_writer]
  exact ⟨rfl, by simpa using hcp⟩
abbrev nS : Nm := (0, noB, noB)
abbrev nT : Nm := (1, bT, noB)
def ltr (i : Nat) : ByteArray := ⟨#[UInt8.ofNat (97 + i)]⟩
theorem ltr_ne {i k : Nat} (hi : i < 20) (hk : k < 20) (h : i ≠ k) : ltr i ≠ ltr k := fun e => by
  unfold ltr at e
  injection e with e
  have e := congrArg (fun a : Array UInt8 => a[0]?) e
  simp only [List.getElem?_toArray, List.getElem?_cons_zero, Option.some.injEq] at e
  have e := congrArg UInt8.toNat e
  simp only [UInt8.toNat_ofNat'] at e
  omega
theorem bytes_data {a b : ByteArray} (h : a.data.toList = b.data.toList) : a = b := by
  obtain ⟨⟨x⟩⟩ := a
  obtain ⟨⟨y⟩⟩ := b
  simp at h
  rw [h]
theorem ext_ltr {j : Nat} (hj : j < 20) : (⟨#[97, 98, 99, 100, 101, 102, 103, 104, 105, 106, 107, 108, 109, 110, 111, 112, 113, 114, 115, 116]⟩ : ByteArray).extract j (j + 1) = ltr j := by
  have : ∀ j : Fin 20, ((⟨#[97, 98, 99, 100, 101, 102, 103, 104, 105, 106, 107, 108, 109, 110, 111, 112, 113, 114, 115, 116]⟩ : ByteArray).extract j.1 (j.1 + 1)).data.toList = (ltr j.1).data.toList := by decide
  exact bytes_data (this ⟨j, hj⟩)
structure PI (j : Nat) (s : TS) : Prop where
  c : countP s = 3 * j
  calm : Calm s
  l0 : lockN s nS = (hsI j, [])
  l1 : lockN s nT = (hsI j, [])
  l2 : ∀ r, (∀ i, i < j → r ≠ ltr i) → lockN s (2, bT, r) = ([], [])
theorem PI.zero : PI 0 [] := ⟨rfl, (fun _ h => by cases h), rfl, rfl, fun _ _ => rfl⟩
/-- one writer: the store, the table, its row -/
theorem PI.next {j : Nat} {s : TS} (h : PI j s) (hi : TInv s) (hj : j < 20) : ∃ s1 s2 s3, askN s (j : Int) nS 2 = (0, s1) ∧ askN s1 (j : Int) (1, bT, noB) 2 = (0, s2) ∧ askN s2 (j : Int) (2, bT, ltr j) 5 = (0, s3) ∧ countP s1 ≤ 300 ∧ countP s2 ≤ 300 ∧ PI (j + 1) s3 := by
  have a1 := ask_writer hi h.calm (known_store noB noB) h.l0 (by rw [h.c]; omega)
  have i1 := inv_ask hi (j : Int) nS 2
  rw [a1.1] at i1
  have c1 := h.calm.put hi.rise nS (l := (hsI (j + 1), [])) rfl
  have t1 : lockN (putN s nS (hsI (j + 1), [])) nT = (hsI j, []) := by rw [lock_put_other hi.rise _ (fun e => by injection e with e; cases e), h.l1]
  have a2 := ask_writer i1 c1 (known_object bT noB) t1 (by rw [a1.2, h.c]; omega)
  have i2 := inv_ask i1 (j : Int) (1, bT, noB) 2
  rw [a2.1] at i2
  have c2 := c1.put i1.rise nT (l := (hsI (j + 1), [])) rfl
  have t2 : lockN (putN (putN s nS (hsI (j + 1), [])) nT (hsI (j + 1), [])) (2, bT, ltr j) = ([], []) := by
    rw [lock_put_other i1.rise _ (fun e => by injection e with e; cases e), lock_put_other hi.rise _ (fun e => by injection e with e; cases e)]
    exact h.l2 _ fun i hij => ltr_ne hj (by omega) (by omega)
  have a3 := ask_new i2 c2 (known_row bT (ltr j)) t2 (by rw [a2.2, a1.2, h.c]; omega) (j : Int) (mode := 5) (by omega) (by omega)
  rw [show mdN 5 = 5 by decide] at a3
  refine ⟨_, _, _, a1.1, a2.1, a3.1, by rw [a1.2, h.c]; omega, by rw [a2.2, a1.2, h.c]; omega, ⟨by rw [a3.2, a2.2, a1.2, h.c]; omega, c2.put i2.rise _ rfl, ?_, ?_, fun r hr => ?_⟩⟩
  · rw [lock_put_other i2.rise _ (fun e => by injection e with e; cases e), lock_put_other i1.rise _ (fun e => by injection e with e; cases e), lock_put_same hi.rise]
  · rw [lock_put_other i2.rise _ (fun e => by injection e with e; cases e), lock_put_same i1.rise]
  · rw [lock_put_other i2.rise _ (fun e => hr j (by omega) (by injection e with _ e; injection e with _ e)), lock_put_other i1.rise _ (fun e => by injection e with e; cases e), lock_put_other hi.rise _ (fun e => by injection e with e; cases e)]
    exact h.l2 r fun i hi => hr i (by omega)
theorem waits_calm (H : List Cl) (x : Int) : waitsP (H, []) x = [] := waits_miss (by simp)
theorem raw_calm : ∀ {s : TS}, Calm s → rawE s = []
  | [], _ => rfl
  | (m, (H, L)) :: s, h => by
    have h1 := raw_calm (s := s) fun e he => h e (by simp [he])
    have h2 : L = [] := h (m, (H, L)) (by simp)
    subst h2
    unfold rawE at *
    rw [List.flatMap_cons, h1, List.append_nil]
    simp only [waits_calm, List.map_nil]
    simp
theorem raw_put {s : TS} (hr : Rise s) (hc : Calm s) (m : Nm) (l : Lk) : rawE (putN s m l) = rawL l := by
  obtain ⟨pre, mid, post, e, hp, _⟩ := put_split hr m
  have h1 : rawE pre = [] := raw_calm fun x hx => hc x (by rw [e]; simp [hx])
  have h2 : rawE post = [] := raw_calm fun x hx => hc x (by rw [e]; simp [hx])
  rw [hp]
  unfold rawE at *
  rw [List.flatMap_append, List.flatMap_cons, h1, h2, List.nil_append, List.append_nil]
  rfl
theorem waits_all {n : Nat} {q : Nat} (hn : n ≤ 20) (hq : fitB 2 q = false) : waitsP (hsI n, [(99, q)]) 99 = (hsI n).map (·.1) := by
  rw [waits_hit (x := (99, q)) (by simp [isW]) (by simp [isW])]
  have hall : (hsI n).filter (fun c => inwayP c (99, q)) = hsI n := by
    rw [List.filter_eq_self]
    intro c hc
    obtain ⟨i, hi, rfl⟩ := hsI_mem.1 hc
    unfold inwayP
    simp [hq]
    omega
  have hr : rawP (hsI n, [(99, q)]) (99, q) (List.findIdx (isW 99) [(99, q)]) = (hsI n).map (·.1) := by
    unfold rawP
    simp only
    rw [hall]
    simp [isW]
  show uniqI (rawP (hsI n, [(99, q)]) (99, q) (List.findIdx (isW 99) [(99, q)])) = _
  rw [hr]
  refine rising_eq (uniqI_spec _).1 ?_ fun x => (uniqI_spec _).2 x
  unfold hsI
  rw [List.map_map, List.pairwise_map]
  exact List.pairwise_lt_range.imp fun {a b} h => by simp only [Function.comp]; omega
theorem raw_wants {n : Nat} {q : Nat} (hn : n ≤ 20) (hq : fitB 2 q = false) : (rawL (hsI n, [(99, q)])).length = n := by
  have hm : modeP (hsI n) 99 = 0 := mode_of_miss (show hasP (hsI n) ((99 : Nat) : Int) = false by rw [hsI_has]; simp; omega)
  have hh : holdsP (hsI n, [(99, q)]) = (hsI n).map (holdsA [(99, q)]) ++ [(99, 0, q)] := by
    unfold holdsP
    simp [hm, holdsB]
  unfold rawL
  rw [hh, List.flatMap_append, List.length_append]
  have h0 : ((hsI n).map (holdsA [(99, q)])).flatMap (fun h => (waitsP (hsI n, [(99, q)]) h.1).map fun o => (h.1, o)) = [] := by
    rw [List.flatMap_eq_nil_iff]
    intro h hh
    obtain ⟨c, hc, rfl⟩ := List.mem_map.1 hh
    obtain ⟨i, hi, rfl⟩ := hsI_mem.1 hc
    have : waitsP (hsI n, [(99, q)]) ((i : Nat) : Int) = [] := waits_miss (by
      have : isW (i : Int) (99, q) = false := by unfold isW; simp; omega
      simp [List.findIdx_cons, this])
    show List.map _ (waitsP _ ((i : Nat) : Int)) = []
    rw [this]
    rfl
  rw [h0]
  simp [waits_all hn hq, hsI_length]
/-- whoever wants of the table -/
theorem PI.last {n : Nat} {s : TS} (h : PI n s) (hi : TInv s) (hn : n ≤ 20) (hn1 : 1 ≤ n) {m : Int} (h1 : 1 ≤ m) (h5 : m ≤ 5) :
    ∃ k s', askN s 99 (1, bT, noB) m = (k, s') ∧ countP s' ≤ 300 ∧ (((m = 1 ∨ m = 2) ∧ k = 0 ∧ (rawE s').length = 0) ∨ (¬ (m = 1 ∨ m = 2) ∧ k = 13 ∧ (rawE s').length = n)) := by
  obtain ⟨q0, q6, qm⟩ := md_of h1 h5
  have hw : (waitN s 99).isSome = false := by rw [h.calm.wait]; rfl
  have hask := ask_asks (s := s) (who := 99) (n := (1, bT, noB)) (mode := m) (known_object bT noB) hw (by omega) (.inr (by rw [h.c]; omega))
  rw [h.l1] at hask
  have hcn := count_ask hi 99 (1, bT, noB) m
  have hc3 : countP s = 3 * n := h.c
  have hm : modeP (hsI n) 99 = 0 := mode_of_miss (show hasP (hsI n) ((99 : Nat) : Int) = false by rw [hsI_has]; simp; omega)
  have hl : modeP [] (99 : Int) = 0 := rfl
  have hj : joinN 0 (mdN m) = mdN m := by
    have : ∀ q : Fin 6, joinN 0 q.1 = q.1 := by decide
    exact this ⟨_, q6⟩
  have hh : hasP (hsI n) 99 = false := (show hasP (hsI n) ((99 : Nat) : Int) = false by rw [hsI_has]; simp; omega)
  by_cases hf : fitB 2 (mdN m) = true
  · have hp : askP (hsI n, []) 99 (mdN m) = (true, (hsI n ++ [(99, mdN m)], [])) := by
      unfold askP
      simp only [hm, hl]
      rw [if_neg (by omega), if_neg (by simp), if_neg (by rw [cov_zero q6]; simp; omega), hj, if_pos ⟨.inr (by simp), fits_hsI n hf⟩]
      unfold grantP
      rw [if_neg (by rw [hh]; simp)]
    rw [hp] at hask
    refine ⟨0, putN s (1, bT, noB) (hsI n ++ [(99, mdN m)], []), hask, by rw [hask] at hcn; simp only at hcn; omega, .inl ⟨?_, rfl, ?_⟩⟩
    · have : ∀ q : Fin 6, fitB 2 q.1 = true → q.1 ≠ 0 → q.1 = 1 ∨ q.1 = 2 := by decide
      have := this ⟨_, q6⟩ hf (by simp only; omega)
      simp only at this
      omega
    · rw [raw_calm (h.calm.put hi.rise _ rfl)]; rfl
  · have hf : fitB 2 (mdN m) = false := by simpa using hf
    have hfp : fitsP (hsI n) (99, mdN m) = false := by
      unfold fitsP
      rw [Bool.not_eq_false', List.any_eq_true]
      refine ⟨((0 : Nat), 2), hsI_mem.2 ⟨0, by omega, rfl⟩, ?_⟩
      unfold inwayP
      simp [hf]
    have hp : askP (hsI n, []) 99 (mdN m) = (false, (hsI n, [(99, mdN m)])) := by
      unfold askP
      simp only [hm, hl]
      rw [if_neg (by omega), if_neg (by simp), if_neg (by rw [cov_zero q6]; simp; omega), hj, if_neg (by rintro ⟨_, h⟩; rw [hfp] at h; cases h)]
      unfold waitP spotP
      rw [if_neg (by rw [hh]; simp)]
      rfl
    rw [hp] at hask
    refine ⟨13, putN s (1, bT, noB) (hsI n, [(99, mdN m)]), hask, by rw [hask] at hcn; simp only at hcn; omega, .inr ⟨?_, rfl, ?_⟩⟩
    · have : ∀ q : Fin 6, fitB 2 q.1 = false → q.1 ≠ 1 ∧ q.1 ≠ 2 := by decide
      have := this ⟨_, q6⟩ hf
      simp only at this
      omega
    · rw [raw_put hi.rise h.calm, raw_wants hn hf]
def IntR (w : World) (b N k : Nat) (i : Value) (wr : World) : Prop := ∃ j s, j + k = N ∧ i = .int .i64 (j : Int) ∧ PI j s ∧ LG w b s wr
theorem more_ (ok : Bool) (n : Int) (w : World) : Calls Tryd.prog 16 #[.bool ok, .int .i64 n] w fun e w' => e = .returned (.int .i64 (if ok then n else 0)) ∧ w = w' := by
  cases ok
  all_goals
    go_enter Tryd.func16, Tryd.ntmps16
    go_wp2
    go_ret
    exact ⟨rfl, rfl⟩
set_option maxHeartbeats 4000000 in
theorem locksIntents (n m : Int) (w : World) (hT : Tab w) : Calls Tryd.prog 6 #[.int .i64 n, .int .i64 m] w fun e w' => e = .returned (.bool true) ∧ Below w.heap.size w w' := by
  have hal := lalive_ w hT
  have HA := Lib.hid hal
  have HT := Lib.hid hT
  clear hal hT
  by_cases h1 : n < 1
  · go_enter Tryd.func6, Tryd.ntmps6
    go_wp2_with (go_at_call 7; refine HA.out.mono ?_; rintro e w1 ⟨rfl, hb1⟩)
    go_ret
    exact ⟨rfl, hb1⟩
  by_cases h2 : 20 < n
  · go_enter Tryd.func6, Tryd.ntmps6
    go_wp2_with (go_at_call 7; refine HA.out.mono ?_; rintro e w1 ⟨rfl, hb1⟩)
    go_ret
    exact ⟨rfl, hb1⟩
  by_cases h3 : m < 1
  · go_enter Tryd.func6, Tryd.ntmps6
    go_wp2_with (go_at_call 7; refine HA.out.mono ?_; rintro e w1 ⟨rfl, hb1⟩)
    go_ret
    exact ⟨rfl, hb1⟩
  by_cases h4 : 5 < m
  · go_enter Tryd.func6, Tryd.ntmps6
    go_wp2_with (go_at_call 7; refine HA.out.mono ?_; rintro e w1 ⟨rfl, hb1⟩)
    go_ret
    exact ⟨rfl, hb1⟩
  obtain ⟨N, rfl⟩ : ∃ N : Nat, n = N := ⟨n.toNat, by omega⟩
  have hN : N ≤ 20 := by omega
  have hN0 : 1 ≤ N := by omega
  have hm1 : 1 ≤ m := by omega
  have hm5 : m ≤ 5 := by omega
  have hn0 := num_ 0
  have hn13 := num_ 13
  go_enter Tryd.func6, Tryd.ntmps6
  go_wp2_with (go_at_call 7; refine HA.out.mono ?_; rintro e w1 ⟨rfl, hb1⟩; have G1 := Lib.hid (LG.new (HT.out.below hb1) hb1); clear hb1)
  refine (lnew_ _).mono ?_
  rintro e w2 ⟨rfl, hw2⟩
  have G2 : Hid (LG w w1.heap.size [] w2) := by rw [hw2]; exact G1.out
  clear hw2 G1
  generalize w1.heap.size = bt at *
  go_wp2_with fail
  go_loopg [7] N (fun k i wr => IntR w bt N k i wr)
  case atStart => exact ⟨0, [], by omega, rfl, PI.zero, G2.out⟩
  case round =>
    obtain ⟨j, s, hj, rfl, hp, g⟩ := hrel
    have HJ := Lib.hid hj
    have HG := Lib.hid g
    have HP := Lib.hid hp
    clear hj g hp
    by_cases hlt : j < N
    · obtain ⟨s1, s2, s3, a1, a2, a3, k1, k2, hp3⟩ := HP.out.next HG.out.inv (by omega)
      have hask1 := HG.out.ask (by rw [HP.out.c]; omega) (j : Int) (0, noB, noB) 2
      rw [show askN s (j : Int) (0, noB, noB) 2 = (0, s1) from a1] at hask1
      have hask2 := fun W (g : LG w bt s1 W) => g.ask (by omega) (j : Int) (1, bT, noB) 2
      rw [a2] at hask2
      have hask3 := fun W (g : LG w bt s2 W) => g.ask (by omega) (j : Int) (2, bT, ltr j) 5
      rw [a3] at hask3
      unfold valN noB at hask1
      unfold valN bT noB at hask2
      unfold valN bT at hask3
      simp only at hask1 hask2 hask3
      have HAS1 := Lib.hid hask1
      have HAS2 := Lib.hid hask2
      have HAS3 := Lib.hid hask3
      have HP3 := Lib.hid hp3
      clear hask1 hask2 hask3 a1 a2 a3 k1 k2 hp3
      go_wp2_with fail
      refine HAS1.out.mono ?_
      rintro e w3 ⟨rfl, g3, _⟩
      have G3 := Lib.hid g3
      clear g3
      go_wp2_with fail
      refine (HAS2.out _ G3.out).mono ?_
      rintro e w4 ⟨rfl, g4, _⟩
      have G4 := Lib.hid g4
      clear g4
      have hj20 : j < 20 := by omega
      have hex := ext_ltr hj20
      have hw1 : IntKind.i64.wrap ((j : Int) + 1) = (j : Int) + 1 := by rw [IntKind.wrap_i64]; omega
      go_wp2_with fail
      refine (HAS3.out _ G4.out).mono ?_
      rintro e w5 ⟨rfl, g5, _⟩
      have G5 := Lib.hid g5
      clear g5 hex
      go_wp2_with (go_at_call 10; refine (hn0 _).mono ?_; rintro e w' ⟨rfl, rfl⟩)
      go_roundg (N - (j + 1))
      case measure => have := HJ.out; omega
      case rel => exact ⟨j + 1, s3, by omega, by go_num, HP3.out, G5.out⟩
    · obtain rfl : j = N := by have := HJ.out; omega
      clear HJ
      obtain ⟨k, s', ha, hk3, hk⟩ := HP.out.last HG.out.inv hN hN0 hm1 hm5
      have hask := HG.out.ask (by rw [HP.out.c]; omega) 99 (1, bT, noB) m
      rw [ha] at hask
      unfold valN bT noB at hask
      simp only at hask
      have hed := fun W (g : LG w bt s' W) => g.edges hk3
      have HED := Lib.hid hed
      have HAS := Lib.hid hask
      have hmo := more_
      clear hask ha hk3 hed
      rcases hk with ⟨hm, rfl, hr⟩ | ⟨hm, rfl, hr⟩
      · have hln : (sortedE (rawE s')).length = 0 := by rw [sortedE_length, hr]
        have HLN := Lib.hid hln
        rcases hm with rfl | rfl
        all_goals
          clear hln hr
          go_wp2_with fail
          refine HAS.out.mono ?_
          rintro e w3 ⟨rfl, g3, _⟩
          have G3 := Lib.hid g3
          clear g3
          go_wp2_with (go_at_call 10; refine (hn0 _).mono ?_; rintro e w' ⟨rfl, rfl⟩)
          refine (HED.out _ G3.out).mono ?_
          rintro e w4 ⟨v4, rfl, ho4, g4, _⟩
          obtain ⟨A4, c4, rfl, _, _, _, _⟩ := own_lst ho4
          rw [HLN.out]
          have G4 := Lib.hid g4
          clear g4 ho4
          go_wp2_with (go_at_call 16; refine (hmo _ _ _).mono ?_; rintro e w' ⟨rfl, rfl⟩)
          go_ret
          exact ⟨rfl, G4.out.below⟩
      · have hln : (sortedE (rawE s')).length = j := by rw [sortedE_length, hr]
        have HLN := Lib.hid hln
        have hx1 : ¬ m = 1 := fun h => hm (.inl h)
        have hx2 : ¬ m = 2 := fun h => hm (.inr h)
        clear hln hr
        go_wp2_with fail
        refine HAS.out.mono ?_
        rintro e w3 ⟨rfl, g3, _⟩
        have G3 := Lib.hid g3
        clear g3
        go_wp2_with (go_at_call 10; refine (hn13 _).mono ?_; rintro e w' ⟨rfl, rfl⟩)
        refine (HED.out _ G3.out).mono ?_
        rintro e w4 ⟨v4, rfl, ho4, g4, _⟩
        obtain ⟨A4, c4, rfl, _, _, _, _⟩ := own_lst ho4
        rw [HLN.out]
        have G4 := Lib.hid g4
        clear g4 ho4
        go_wp2_with (go_at_call 16; refine (hmo _ _ _).mono ?_; rintro e w' ⟨rfl, rfl⟩)
        go_ret
        refine ⟨?_, G4.out.below⟩
        show Ending.returned (.bool (!(m == 1) && !(m == 2))) = _
        rw [beq_eq_false_iff_ne.2 hx1, beq_eq_false_iff_ne.2 hx2]
        rfl
end Go.Proofs.YtnjhhndggfjjdaaDoor
