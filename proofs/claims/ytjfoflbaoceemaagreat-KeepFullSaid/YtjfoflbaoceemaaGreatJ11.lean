/- . . . -/
import Derived.Test.YtjfoflbaoceemaaGreatJ10
set_option maxRecDepth 4000
namespace Go.Proofs.YtjfoflbaoceemaaGreat
open Go.RowKit
theorem own_has {W : World} {base : Nat} {v : Value} {n : Nat} {ys : List UInt8} (hown : W.ownsRow base 5 1 v n (cellsB ys)) : ∃ A c, v = .slice A n c ∧ Has W (fun i => base ≤ i ∧ Ty5 W i) A ys ∧ n ≤ c ∧ c ≤ maxLen ∧ (A = none → c = 0) := by
  have hl : ys.length = n := by have := hown.1; rw [cellsB_length] at this; omega
  rcases hown.2 with ⟨rfl, rfl⟩ | ⟨g, cap, cur, rfl, hb, hh, hnc, hcm, hcs, htk⟩
  · exact ⟨none, 0, rfl, fun h => absurd h (by omega), Nat.le_refl _, by unfold maxLen; omega, fun _ => rfl⟩
  · refine ⟨_, cap, rfl, fun _ => ⟨g, 0, rfl, ⟨hb, cur, hh⟩, lt_of_some hh, fun j u hu => ?_⟩, hnc, hcm, fun h => by cases h⟩
    rw [show W.cell? ⟨g, 0 + j, none⟩ = cur[0 + j]? from cell_of_row W g _ cur 5 (0, 0) hh, Nat.zero_add]
    have hj : j < n := by have := (List.getElem?_eq_some_iff.1 hu).1; rw [cellsB_length] at this; omega
    rw [← htk, List.getElem?_take_of_lt (by omega)] at hu
    simpa using hu
def CloneN (w : World) (n : Nat) (xs : List UInt8) (e : Ending) (w' : World) : Prop :=
  ∃ A' c', e = .returned (.slice A' n c') ∧ Has w' (fun i => w.heap.size ≤ i ∧ Ty5 w' i) A' xs ∧ n ≤ c' ∧ c' ≤ maxLen ∧ (A' = none → c' = 0) ∧ Below w.heap.size w w'
set_option maxHeartbeats 400000 in
theorem cloneN_ {w : World} {K : Nat → Prop} {A : Option Addr} {n c : Nat} {xs : List UInt8} (h : Has w K A xs) (hl : xs.length = n) (hn : n ≤ 1000000) (hA : A = none → c = 0) :
    Calls Tryz.prog 131 #[.slice A n c] w (CloneN w n xs) := by
  have hr := has_rb h hl
  rcases A with _ | a
  · have hc := hA rfl
    have h0 : n = 0 := by
      rcases Nat.eq_zero_or_pos n with h0 | h0
      · exact h0
      · obtain ⟨_, _, h, _⟩ := hr.2 h0
        cases h
    subst hc h0
    have H := Lib.hid h
    have hx : xs = [] := List.eq_nil_of_length_eq_zero hl
    have HX := Lib.hid hx
    clear h hA hr hx hl
    have hnil := fun (W : World) => Lib.run_eql_slice_nil (P := Tryz.prog) W 42 5 none 0 0 0 0 Tryz.underlying42
    simp only [Option.isNone_none] at hnil
    go_enter Tryz.func131, Tryz.ntmps131
    go_wp2
    go_ret
    exact ⟨none, 0, rfl, by rw [HX.out]; exact Has.nil _ _ _, Nat.le_refl _, by unfold maxLen; omega, fun _ => rfl, Below.refl _ _⟩
  · have hnil := fun (W : World) => Lib.run_eql_slice_nil (P := Tryz.prog) W 42 5 (some a) n c 0 0 Tryz.underlying42
    simp only [Option.isNone_some] at hnil
    obtain ⟨v', W', hap, ho, hg, hat⟩ := append_rb (empty_own w w.heap.size (Nat.le_refl _)) (hr.below ((Below.refl _ _).alloc (Nat.le_refl _) (.cells #[] 5))) c (by omega) (by simp)
    rw [List.nil_append, Nat.zero_add] at ho
    obtain ⟨A', c', rfl, hh, h1, h2, h3⟩ := own_has ho
    have hbel : Below w.heap.size w W' := ((Below.refl _ _).alloc (Nat.le_refl _) _).grown hg (by simp) (by intro k hk; simp [Value.ownBlock] at hk; omega)
    have HBE := Lib.hid hbel
    have HR := Lib.hid hh
    have H3 := Lib.hid h3
    clear ho hg hat hbel hr h hA hh hl h3
    go_enter Tryz.func131, Tryz.ntmps131
    go_wp2_with (at_builtin; refine wpList_append_run rfl (.tmp 5) (.tmp 6) 42 42 rfl _ _ rfl rfl hap ?_)
    go_ret
    exact ⟨A', c', rfl, HR.out, h1, h2, H3.out, HBE.out⟩
theorem log_dead {w : World} {g gd : Nat} {R : Nat → Prop} {s : Dk} {L : Lg} (h : LogAt w g gd R s L) : LogAt (w.setCell ⟨g, 5, none⟩ (.bool true)) g gd R s { L with dead := true } ∧ Keep (fun i _ => R i) w (w.setCell ⟨g, 5, none⟩ (.bool true)) := by
  obtain ⟨O, vr, vs, h⟩ := h
  have hk : Keep (fun i _ => i ≠ g) w (w.setCell ⟨g, 5, none⟩ (.bool true)) := (Keep.refl w).setCell (fun _ _ hk => hk rfl) _
  have hR : Keep (fun i _ => R i) w (w.setCell ⟨g, 5, none⟩ (.bool true)) := hk.mono fun i _ _ hi => (h.rO i hi).2.2.1
  refine ⟨⟨O, vr, vs, h.disk.keep hk (fun i _ hi e => h.og (e ▸ hi)), fun i hi => Nat.lt_of_lt_of_le (h.hi i hi) hk.size, ?_, h.og, ?_, h.orr, h.held.keep5 (hR.mono fun _ _ _ hi => hi.1), fun i hi => ⟨Nat.lt_of_lt_of_le (h.rO i hi).1 hk.size, (h.rO i hi).2⟩, h.pf, h.fn, h.nl, h.long⟩, hR⟩
  · simpa using h.head.set_ 5 (.bool true)
  · exact ownsRow_keep (K := fun i _ => i ≠ g) h.rows hk fun i _ hi e => by
      subst e
      rcases h.rows.2 with ⟨hv, _⟩ | ⟨q, cap, cur, hv, _, hq, _⟩
      · rw [hv] at hi; cases hi
      · rw [hv] at hi
        simp [Value.ownBlock] at hi
        subst hi
        exact ne_of_types h.head hq (by decide) rfl
def AppP (w : World) (g gd : Nat) (R : Nat → Prop) (r : Dk × Lg × Nat) (e : Ending) (w' : World) : Prop :=
  e = .returned (.int .i64 (r.2.2 : Int)) ∧ (∃ R', (∀ i, R i → R' i) ∧ LogAt w' g gd R' r.1 r.2.1) ∧ Keep (fun i _ => R i) w w'
theorem app_dead {L : Lg} {s : Dk} {b : List UInt8} (h : L.dead = true) : L.append s b = (s, L, 12) := by simp [Lg.append, h]
theorem app_long {L : Lg} {s : Dk} {b : List UInt8} (h : L.dead = false) (hf : L.fits b.length = false) : L.append s b = (s, L, 6) := by simp [Lg.append, h, hf]
theorem app_lay {L : Lg} {s s1 : Dk} {b : List UInt8} (h : L.dead = false) (hf : L.fits b.length = true) (hl : L.lay s b = (s1, true)) : L.append s b = (s1, L.add b, 0) := by simp [Lg.append, h, hf, hl]
theorem app_fail {L : Lg} {s s1 : Dk} {b : List UInt8} (h : L.dead = false) (hf : L.fits b.length = true) (hl : L.lay s b = (s1, false)) : L.append s b = (s1, { L with dead := true }, 12) := by simp [Lg.append, h, hf, hl]
set_option maxHeartbeats 1000000 in
theorem append_ {w : World} {g gd : Nat} {R : Nat → Prop} {s : Dk} {L : Lg} (h : LogAt w g gd R s L) (hl : s.lim 500000) {A : Option Addr} {n c : Nat} {b : List UInt8} (hb : Has w R A b) (hn : b.length = n) (hc : n ≤ c) (hA : A = none → c = 0) (hx : n ≤ 1000000) :
    Calls Tryz.prog 100 #[ptr g, .slice A n c] w (AppP w g gd R (L.append s b)) := by
  obtain ⟨A0, c0, k0, _, _, _, _, k5, kf, _, hpf, hf4, _, _⟩ := h.cells
  have f5 := kf 5
  have H := Lib.hid h
  have HL := Lib.hid hl
  have HB := Lib.hid hb
  have HN := Lib.hid hn
  have HC := Lib.hid hc
  have HA := Lib.hid hA
  have HF := Lib.hid h.fn
  clear h hl hb hn hA kf
  obtain ⟨d, hd⟩ : ∃ d, L.dead = d := ⟨_, rfl⟩
  rw [hd] at k5
  have HD := Lib.hid hd
  clear hd
  cases d
  · have hr : i64r (n : Int) := ⟨by omega, by omega⟩
    have HR := Lib.hid hr
    obtain ⟨f, hf⟩ : ∃ f, L.fits (n : Int) = f := ⟨_, rfl⟩
    have HFT := Lib.hid hf
    clear hf hr
    go_enter Tryz.func100, Tryz.ntmps100
    go_wp2_with fail
    refine (lfits_ H.out HR.out).mono ?_
    rintro e w1 ⟨rfl, hb1⟩
    rw [HFT.out]
    have HB1 := Lib.hid hb1
    clear hb1
    cases f
    · go_wp2_with fail
      go_ret
      rw [app_long HD.out (by rw [HN.out]; exact HFT.out)]
      exact ⟨rfl, ⟨R, fun _ h => h, H.out.below HB1.out⟩, Keep.of_below HB1.out⟩
    · obtain ⟨s2, b2, hp2⟩ : ∃ s2 b2, L.lay s b = (s2, b2) := ⟨_, _, rfl⟩
      have HP2 := Lib.hid hp2
      clear hp2
      have hnx : L.next n ≤ L.fin := by
        have h1 := (fits_iff.1 HFT.out).2
        have h2 := HF.out.2.1
        rw [Int.toNat_natCast] at h1
        unfold Lg.left at h1
        unfold Lg.next; omega
      have hn2 : n ≤ 262144 := by
        have := need_ge n
        unfold Lg.next at hnx
        omega
      have HNX := Lib.hid hnx
      clear hnx
      go_wp2_with fail
      refine (lay_ (H.out.below HB1.out) HL.out (HB.out.below HB1.out) HN.out HC.out HNX.out).mono ?_
      rintro e w2 ⟨rfl, hl2, hk2⟩
      rw [HP2.out] at hl2 ⊢
      have HL2 := Lib.hid hl2
      have HK2 := Lib.hid ((Keep.of_below HB1.out).trans hk2)
      clear hl2 hk2
      cases b2
      · obtain ⟨_, _, _, _, _, _, _, _, kf2, _⟩ := HL2.out.cells
        have f52 := kf2 5
        have hk5 := HL2.out.cells
        clear kf2
        obtain ⟨_, _, _, _, _, _, _, k52, _⟩ := hk5
        go_wp2_with fail
        go_ret
        rw [app_fail HD.out (by rw [HN.out]; exact HFT.out) HP2.out]
        obtain ⟨h1, h2⟩ := log_dead HL2.out
        exact ⟨rfl, ⟨R, fun _ h => h, h1⟩, HK2.out.trans h2⟩
      · have HB2 := Lib.hid (HB.out.keep HK2.out)
        go_wp2_with fail
        refine (cloneN_ HB2.out HN.out (by omega) HA.out).mono ?_
        rintro e w3 ⟨A3, c3, rfl, hh3, hc3, hm3, hA3, hb3⟩
        have HG3 := Lib.hid (HL2.out.grow hb3)
        have HH3 := Lib.hid (hh3.more (K' := fun i => (R i ∨ w2.heap.size ≤ i ∧ i < w3.heap.size) ∧ Ty5 w3 i) fun _ hi h => ⟨.inr ⟨h.1, hi⟩, h.2⟩)
        have HA3 := Lib.hid hA3
        have HK3 := Lib.hid (HK2.out.trans (Keep.of_below hb3))
        clear hh3 hA3 hb3
        go_wp2_with fail
        refine (add_rec HG3.out HH3.out HN.out hc3 hm3 HA3.out hn2 HNX.out).mono ?_
        rintro e w4 ⟨rfl, hl4, hk4⟩
        have HL4 := Lib.hid hl4
        have HK4 := Lib.hid (HK3.out.trans (hk4.mono fun _ _ _ hi => .inl hi))
        clear hl4 hk4
        go_wp2_with fail
        go_ret
        rw [app_lay HD.out (by rw [HN.out]; exact HFT.out) HP2.out]
        exact ⟨rfl, ⟨_, fun _ h => .inl h, HL4.out⟩, HK4.out⟩
  · go_enter Tryz.func100, Tryz.ntmps100
    go_wp2_with fail
    go_ret
    rw [app_dead HD.out]
    exact ⟨rfl, ⟨R, fun _ h => h, H.out⟩, Keep.refl _⟩
end Go.Proofs.YtjfoflbaoceemaaGreat
namespace Go.Proofs.YtjfoflbaoceemaaGreat
open Go.RowKit
def Lists (w : World) (K : Nat → Prop) (v : Value) (ls : List (List UInt8)) : Prop :=
  ∃ (A : Option Addr) (c : Nat) (vs : List Value), v = .slice A ls.length c ∧ (∀ (j : Nat) (x : Value), vs[j]? = some x → ∃ b o, A = some ⟨b, o, none⟩ ∧ K b ∧ b < w.heap.size ∧ w.cell? ⟨b, o + j, none⟩ = some x) ∧ Holds w K vs ls
section
variable {w w' : World} {K K' : Nat → Prop} {v : Value} {ls : List (List UInt8)}
theorem Lists.keep (h : Lists w K v ls) (k : Keep (fun i _ => K i) w w') : Lists w' K v ls := by
  obtain ⟨A, c, vs, e, hc, hh⟩ := h
  refine ⟨A, c, vs, e, fun j x hx => ?_, hh.keep k⟩
  obtain ⟨b, o, e, hk, hb, hcell⟩ := hc j x hx
  have hbl : w'.heap[b]? = w.heap[b]? := by
    rw [Array.getElem?_eq_getElem hb]
    exact k.block b _ (Array.getElem?_eq_getElem hb) hk
  exact ⟨b, o, e, hk, Nat.lt_of_lt_of_le hb k.size, (cell_of_heap hbl _).trans hcell⟩
theorem Lists.below (h : Lists w K v ls) (k : Below w.heap.size w w') : Lists w' K v ls := h.keep (Keep.of_below k)
theorem Lists.more (h : Lists w K v ls) (hk : ∀ i, i < w.heap.size → K i → K' i) : Lists w K' v ls := by
  obtain ⟨A, c, vs, e, hc, hh⟩ := h
  refine ⟨A, c, vs, e, fun j x hx => ?_, hh.more hk⟩
  obtain ⟨b, o, e, h1, hb, hcell⟩ := hc j x hx
  exact ⟨b, o, e, hk b hb h1, hb, hcell⟩
theorem Lists.slice (h : Lists w K v ls) : ∃ A c, v = .slice A ls.length c := by
  obtain ⟨A, c, _, e, _⟩ := h
  exact ⟨A, c, e⟩
theorem Lists.at_ {A : Option Addr} {n c : Nat} (h : Lists w K (.slice A n c) ls) {j : Nat} {xs : List UInt8} (hx : ls[j]? = some xs) : ∃ b o A' c', A = some ⟨b, o, none⟩ ∧ w.cell? ⟨b, o + j, none⟩ = some (.slice A' xs.length c') ∧ Has w K A' xs ∧ (A' = none → c' = 0) := by
  obtain ⟨A1, c1, vs, e, hc, hh⟩ := h
  injection e with e1 e2 e3
  subst e1
  obtain ⟨A', c', hv, hH, _, _, hA⟩ := hh.2 j xs hx
  obtain ⟨b, o, e, _, _, hcell⟩ := hc j _ hv
  exact ⟨b, o, A', c', e, hcell, hH, hA⟩
end
theorem own_lists {w : World} {K R : Nat → Prop} {v : Value} {vs : List Value} {ls : List (List UInt8)} (h : w.ownsRow 0 42 1 v ls.length vs) (hh : Holds w R vs ls) (hK : ∀ k, v.ownBlock = some k → K k) (hR : ∀ i, R i → K i) : Lists w K v ls := by
  have hh' := hh.more (K' := K) fun i _ hi => hR i hi
  rcases h.2 with ⟨rfl, h0⟩ | ⟨q, cap, cur, rfl, _, hq, hc, _, _, ht⟩
  · refine ⟨none, 0, vs, by rw [h0], fun j x hx => ?_, hh'⟩
    have h1 := h.1
    rw [h0] at h1
    obtain rfl : vs = [] := List.eq_nil_of_length_eq_zero (by omega)
    simp at hx
  · refine ⟨_, cap, vs, rfl, fun j x hx => ⟨q, 0, rfl, hK q rfl, lt_of_some hq, ?_⟩, hh'⟩
    rw [show w.cell? ⟨q, 0 + j, none⟩ = cur[0 + j]? from cell_of_row w q _ cur _ (0, 0) hq, Nat.zero_add]
    have hj : j < ls.length := by have := (List.getElem?_eq_some_iff.1 hx).1; have := hh.1; omega
    rw [← ht, List.getElem?_take_of_lt (by omega)] at hx
    simpa using hx
theorem LogAt.lists {w : World} {g gd : Nat} {R : Nat → Prop} {s : Dk} {L : Lg} (h : LogAt w g gd R s L) : ∃ A c, w.cell? ⟨g, 4, none⟩ = some (.slice A L.ls.length c) ∧ Lists w (fun _ => True) (.slice A L.ls.length c) L.ls ∧ (∀ x ∈ L.ls, x.length ≤ 262144) ∧ L.ls.length ≤ 4096 := by
  have hl := h.cells
  obtain ⟨O, vr, vs, h⟩ := h
  have hk := own_lists (K := fun _ => True) h.rows h.held (fun _ _ => trivial) (fun _ _ => trivial)
  obtain ⟨A, c, rfl⟩ := hk.slice
  obtain ⟨_, _, _, _, _, _, _, _, _, _, _, _, h4, _⟩ := hl
  exact ⟨A, c, by rw [h.head.cell]; rfl, hk, h.long, h4⟩
theorem made37 (n : Nat) (hn : n ≤ 100000) (w : World) : (Instr.makeSlice 84 (.int .i64 (n : Int)) (.int .i64 (n : Int))).run Tryz.prog w =
    .ok (.slice (some ⟨w.heap.size, 0, none⟩) n n) (w.alloc (.cells (List.replicate n (Value.slice none 0 0)).toArray 42)) := by
  obtain ⟨i0, hi, hz0, hz1, hz2⟩ := info_parts info30
  have h := run_make (P := Tryz.prog) w 84 42 i0 _ Tryz.underlying84 hi hz0 .i64 .i64 n n (by omega) (by omega) (by rw [hz2]; omega) (by omega)
  rw [h]
  simp only [Int.toNat_natCast, hz1, Nat.mul_one]
  congr 3
  apply Array.ext
  · simp [madeCells]
  · intro i h1 h2
    simp [madeCells, Value.cells]
    simp [Nat.mod_one]
def nilS : Value := .slice none 0 0
def RecRel (w : World) (ls : List (List UInt8)) (k : Nat) (i : Value) (wr : World) : Prop :=
  ∃ (j : Nat) (vs : List Value), j + k = ls.length ∧ i = .int .i64 (j : Int) ∧ vs.length = j ∧ Blk wr w.heap.size 42 (vs ++ List.replicate k nilS).toArray ∧ Holds wr (fun i => w.heap.size < i) vs (ls.take j) ∧ Below w.heap.size w wr
theorem rec_step {w wr w1 : World} {j k : Nat} {vs : List Value} {ls : List (List UInt8)} {xs : List UInt8} {A : Option Addr} {c : Nat} (hx : ls[j]? = some xs) (hl : vs.length = j) (hb : Blk wr w.heap.size 42 (vs ++ List.replicate (k + 1) nilS).toArray) (hh : Holds wr (fun i => w.heap.size < i) vs (ls.take j))
    (hw : Below w.heap.size w wr) (h1 : Has w1 (fun i => wr.heap.size ≤ i ∧ Ty5 w1 i) A xs) (hc : xs.length ≤ c) (hm : c ≤ maxLen) (hA : A = none → c = 0) (hb1 : Below wr.heap.size wr w1) :
    Blk (w1.setCell ⟨w.heap.size, j, none⟩ (.slice A xs.length c)) w.heap.size 42 ((vs ++ [Value.slice A xs.length c]) ++ List.replicate k nilS).toArray ∧
    Holds (w1.setCell ⟨w.heap.size, j, none⟩ (.slice A xs.length c)) (fun i => w.heap.size < i) (vs ++ [Value.slice A xs.length c]) (ls.take (j + 1)) ∧ Below w.heap.size w (w1.setCell ⟨w.heap.size, j, none⟩ (.slice A xs.length c)) := by
  have hk : Keep (fun i _ => w.heap.size < i) w1 (w1.setCell ⟨w.heap.size, j, none⟩ (.slice A xs.length c)) := (Keep.refl w1).setCell (fun _ _ hk => by simp at hk) _
  have hk2 : Keep (fun i _ => i < w.heap.size) w1 (w1.setCell ⟨w.heap.size, j, none⟩ (.slice A xs.length c)) := (Keep.refl w1).setCell (fun _ _ hk => by simp at hk) _
  have hbl := hb.lt
  refine ⟨?_, ?_, ?_⟩
  · have := (hb.below hb1 hbl).set_ j (.slice A xs.length c)
    have e : (vs ++ List.replicate (k + 1) nilS).toArray.setIfInBounds j (.slice A xs.length c) = ((vs ++ [Value.slice A xs.length c]) ++ List.replicate k nilS).toArray := by
      subst hl
      simp [List.replicate_succ]
    rwa [e] at this
  · have e : ls.take (j + 1) = ls.take j ++ [xs] := take_snoc' ls j xs hx
    rw [e]
    exact ((hh.below hb1).snoc (h1.more fun i _ hi => by have := hi.1; omega) hc hm hA).keep hk
  · exact (hw.trans (hb1.mono hw.size)).trans (below_of_keep hk2 (Nat.le_trans hw.size hb1.size))
set_option maxHeartbeats 1000000 in
theorem records_ {w : World} {g gd : Nat} {R : Nat → Prop} {s : Dk} {L : Lg} (h : LogAt w g gd R s L) :
    Calls Tryz.prog 71 #[ptr g] w fun e w' => ∃ v, e = .returned v ∧ Lists w' (fun i => w.heap.size ≤ i) v L.ls ∧ Below w.heap.size w w' := by
  obtain ⟨A, c, k4, hli, hlong, hlen⟩ := h.lists
  have hlt : g < w.heap.size := by
    obtain ⟨_, _, _, _, _, _, _, _, _, _, _, _, _, hlt⟩ := h.cells
    exact hlt
  obtain ⟨ls, hls⟩ : ∃ l, L.ls = l := ⟨_, rfl⟩
  rw [hls] at k4 hli hlong hlen ⊢
  obtain ⟨n, hn⟩ : ∃ n, ls.length = n := ⟨_, rfl⟩
  rw [hn] at k4 hli hlen
  have hmk := fun W => made37 n (by omega) W
  have HLI := Lib.hid hli
  have HLG := Lib.hid hlong
  have HN := Lib.hid hn
  clear h hli hlong hls hn
  have kW := (Below.cell (p := ⟨g, 4, none⟩) (alloc_below w (.cells (List.replicate n (Value.slice none 0 0)).toArray 42)) hlt).trans k4
  go_enter Tryz.func71, Tryz.ntmps71
  go_wp2_with fail
  go_loopg [19] n (fun k i wr => RecRel w ls k i wr)
  case atStart => exact ⟨0, [], by rw [HN.out]; omega, rfl, rfl, by simpa [nilS] using Blk.new w 42 (List.replicate n (Value.slice none 0 0)).toArray, by simpa using Holds.nil _ _, alloc_below _ _⟩
  case round =>
    obtain ⟨j, vs, hj, rfl, hvl, hb, hh, hbel⟩ := hrel
    have HB := Lib.hid hb
    have HH := Lib.hid hh
    have HBL := Lib.hid hbel
    have HJ := Lib.hid hj
    have HV := Lib.hid hvl
    rw [HN.out] at hj
    clear hb hh hbel hvl
    by_cases hlt2 : j < n
    · obtain ⟨k, rfl⟩ : ∃ k', gk = k' + 1 := ⟨gk - 1, by omega⟩
      obtain ⟨xs, hx⟩ := at_of_lt ls j (by rw [HN.out]; exact hlt2)
      obtain ⟨b, o, A', c', rfl, hcell, hHas, hA'⟩ := (HLI.out.below HBL.out).at_ hx
      have hxl : xs.length ≤ 262144 := HLG.out xs (List.mem_of_getElem? hx)
      have HX := Lib.hid hx
      have HHS := Lib.hid hHas
      have HA' := Lib.hid hA'
      clear hx hHas hA'
      go_wp2_with fail
      refine (cloneN_ HHS.out rfl (by omega) HA'.out).mono ?_
      rintro e w1 ⟨A1, c1, rfl, hh1, hc1, hm1, hA1, hb1⟩
      have hS := rec_step HX.out HV.out HB.out HH.out HBL.out hh1 hc1 hm1 hA1 hb1
      have hB1 := HB.out.below hb1 HB.out.lt
      have d1 := hB1.cell j
      have d1f := hB1.frozen j
      have hd : (vs ++ List.replicate (k + 1) nilS).toArray[j]? = some nilS := by
        have := HV.out
        subst this
        simp [List.replicate_succ]
      rw [hd] at d1
      have HS := Lib.hid hS
      clear hS hB1 hd hh1 hc1 hm1 hA1 hb1
      go_wp2
      go_roundg k
      case measure => omega
      case rel => exact ⟨j + 1, _, by rw [HN.out]; omega, by go_num, by simp [HV.out], HS.out.1, HS.out.2.1, HS.out.2.2⟩
    · have e : ls.take j = ls := List.take_of_length_le (by rw [HN.out]; omega)
      have E := Lib.hid e
      have hgk : gk = 0 := by omega
      have HGK := Lib.hid hgk
      have hjn : j = n := by omega
      have HJN := Lib.hid hjn
      clear e hgk hjn
      go_wp2
      go_ret
      refine ⟨_, rfl, ⟨some ⟨w.heap.size, 0, none⟩, n, vs, by rw [HN.out]; rfl, fun i x hx => ⟨w.heap.size, 0, rfl, Nat.le_refl _, HB.out.lt, ?_⟩, ?_⟩, HBL.out⟩
      · rw [HB.out.cell, Nat.zero_add, HGK.out]
        simpa using hx
      · have := HH.out
        rw [E.out] at this
        exact this.more fun i _ hi => by omega
end Go.Proofs.YtjfoflbaoceemaaGreat
namespace Go.Proofs.YtjfoflbaoceemaaGreat
open Go.RowKit
def lg0 (e : Int) (a n : Nat) : Lg := ⟨e, a, a + n, [], false⟩
theorem log_new {w : World} {gd : Nat} {R : Nat → Prop} {s : Dk} (h : DiskR w gd R s) (e : Int) (a n : Nat) (hn : a + n ≤ s.n) :
    LogAt (w.alloc (.cells #[ptr gd, .int .i64 e, .int .i64 (a : Int), .int .i64 ((a + n : Nat) : Int), .slice none 0 0, .bool false] 133)) w.heap.size gd R s (lg0 e a n) := by
  obtain ⟨O, h1, h2, h3⟩ := h
  have hb := alloc_below w (.cells #[ptr gd, .int .i64 e, .int .i64 (a : Int), .int .i64 ((a + n : Nat) : Int), .slice none 0 0, .bool false] 133)
  refine ⟨O, .slice none 0 0, [], h1.below hb, fun i hi => Nat.lt_of_lt_of_le (h2 i hi) hb.size, Blk.new w _ _, fun ho => by have := h2 _ ho; omega, World.ownsRow_nil _ _ _ _, fun k hk => by (cases hk), Holds.nil _ _, fun i hi => ⟨Nat.lt_of_lt_of_le (h3 i hi).1 hb.size, (h3 i hi).2, fun e => by have := (h3 i hi).1; omega, fun e => by cases e⟩, Nat.le_add_right _ _, hn, Nat.zero_le _, fun x hx => by simp [lg0] at hx⟩
theorem findP_none {w w' : World} {r : Option (List UInt8)} {e : Ending} (h : FindP w r e w') (hr : r = none) : e = .returned (.tuple #[.slice none 0 0, .bool false]) := by
  subst hr; exact h.2
theorem findP_some {w w' : World} {r : Option (List UInt8)} {b : List UInt8} {e : Ending} (h : FindP w r e w') (hr : r = some b) : ∃ A c, e = .returned (.tuple #[.slice A b.length c, .bool true]) ∧ Has w' (fun i => w.heap.size ≤ i ∧ Ty5 w' i) A b ∧ b.length ≤ c ∧ c ≤ 262144 ∧ (A = none → c = 0) := by
  subst hr; exact h.2
def OpRel (w : World) (g gd : Nat) (R : Nat → Prop) (s : Dk) (L0 : Lg) (k : Nat) (wr : World) : Prop :=
  ∃ (R2 : Nat → Prop) (L : Lg), LogAt wr g gd R2 s L ∧ (∀ i, R i → R2 i) ∧ (∀ L', Opens s L L' → Opens s L0 L') ∧ L.left = k ∧ Keep (fun i _ => R i) w wr
def OpenP (w : World) (gd : Nat) (R : Nat → Prop) (s : Dk) (L0 : Lg) (x : Ending) (w' : World) : Prop :=
  ∃ (g : Nat) (R' : Nat → Prop) (L' : Lg), x = .returned (ptr g) ∧ (∀ i, R i → R' i) ∧ LogAt w' g gd R' s L' ∧ Opens s L0 L' ∧ Keep (fun i _ => R i) w w'
set_option maxHeartbeats 1000000 in
theorem open_ {w : World} {gd : Nat} {R : Nat → Prop} {s : Dk} (h : DiskR w gd R s) (a n : Nat) (ha : a < s.n) (hn : a + n ≤ s.n) (e : Int) :
    Calls Tryz.prog 130 #[ptr gd, .int .i64 (a : Int), .int .i64 (n : Int), .int .i64 e] w (OpenP w gd R s (lg0 e a n)) := by
  have hm := h.ok.many
  have hlg := log_new h e a n hn
  have hth := lthere_ h.choose_spec.1 a n ha hn
  have HTH := Lib.hid hth
  have HLG := Lib.hid hlg
  have hsum : (((a + n : Nat) : Int)) = (a : Int) + (n : Int) := by omega
  rw [hsum] at hlg
  have HLG := Lib.hid hlg
  have HK := Lib.hid (Keep.of_below (K := fun i _ => R i) (alloc_below w (.cells #[ptr gd, .int .i64 e, .int .i64 (a : Int), .int .i64 ((a : Int) + (n : Int)), .slice none 0 0, .bool false] 133)))
  have ha4 : a ≤ 4096 := by unfold Dk.n at ha; omega
  have hn4 : n ≤ 4096 := by unfold Dk.n at hn; omega
  clear h hlg hth hsum
  go_enter Tryz.func130, Tryz.ntmps130
  go_wp2_with fail
  refine HTH.out.mono ?_
  rintro x w1 ⟨rfl, rfl⟩
  go_wp2_with fail
  go_loopg [11] n (fun k _ wr => OpRel w w.heap.size gd R s (lg0 e a n) k wr)
  case atStart => exact ⟨R, lg0 e a n, HLG.out, fun _ h => h, fun _ h => h, by simp [Lg.left, lg0], HK.out⟩
  case round =>
    obtain ⟨R2, L, hl, hR, hO, hk, hkp⟩ := hrel
    have HL := Lib.hid hl
    have HR := Lib.hid hR
    have HO := Lib.hid hO
    have HKP := Lib.hid hkp
    have HLF := Lib.hid hk
    clear hl hR hO hkp hk
    go_wp2_with fail
    refine (lfind_ HL.out).mono ?_
    rintro x w2 hfp
    have HB2 := Lib.hid hfp.1
    rcases hfd : L.find s with _ | b
    · have HF := Lib.hid hfd
      obtain rfl := findP_none hfp hfd
      clear hfd hfp
      go_wp2_with fail
      go_ret
      exact ⟨w.heap.size, R2, L, rfl, HR.out, HL.out.below HB2.out, HO.out _ (.stop HF.out), HKP.out.trans (Keep.of_below HB2.out)⟩
    · obtain ⟨A, c, rfl, hh, hc, hcm, hA⟩ := findP_some hfp hfd
      have HF := Lib.hid hfd
      have HG := Lib.hid (HL.out.grow HB2.out)
      have HH := Lib.hid (hh.more (K' := fun i => (R2 i ∨ wr.heap.size ≤ i ∧ i < w2.heap.size) ∧ Ty5 w2 i) fun _ hi h => ⟨.inr ⟨h.1, hi⟩, h.2⟩)
      have HA := Lib.hid hA
      have hft := (lfind_len HL.out.ok HL.out.fn.1 hfd).2.1
      have hbl := (lfind_len HL.out.ok HL.out.fn.1 hfd).2.2
      have hnx : L.p + (1 + need b.length) ≤ L.fin := by have := HL.out.fn.2.1; unfold Lg.left at hft; omega
      clear hfd hh hA hfp
      go_wp2_with fail
      refine (add_rec HG.out HH.out rfl hc (by unfold maxLen; omega) HA.out hbl hnx).mono ?_
      rintro x w3 ⟨rfl, hl3, hk3⟩
      have HL3 := Lib.hid hl3
      have HK3 := Lib.hid ((HKP.out.trans (Keep.of_below HB2.out)).trans (hk3.mono fun i _ _ hi => .inl (HR.out i hi)))
      clear hl3 hk3
      go_wp2
      go_roundg (gk - (1 + need b.length))
      case measure => have := HLF.out; omega
      case rel => exact ⟨_, L.add b, HL3.out, fun i hi => .inl (HR.out i hi), fun L' h' => HO.out _ (.step HF.out h'), by have := HLF.out; unfold Lg.left at *; simp only [Lg.add]; omega, HK3.out⟩
end Go.Proofs.YtjfoflbaoceemaaGreat
