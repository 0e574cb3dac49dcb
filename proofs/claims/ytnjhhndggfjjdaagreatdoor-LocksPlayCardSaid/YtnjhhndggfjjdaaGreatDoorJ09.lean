/- Plain facts: what a lock is at any time stays so; nothing of the program is named here. Package grant's Waits, walked. Plain facts: at any time all holders fit each other, and the first of the line does not fit them all. -/
import Derived.Test.YtnjhhndggfjjdaaGreatDoorJ08
import Derived.Test.YtnjhhndggfjjdaaGreatDoorJ07
set_option maxRecDepth 4000
namespace Go.Proofs.YtnjhhndggfjjdaaGreatDoor
open Go
theorem join_pos {p q : Nat} (hp : p < 6) (hq : q < 6) (h : q ≠ 0) : 0 < joinN p q := by
  have : ∀ p q : Fin 6, q.1 ≠ 0 → 0 < joinN p q := by decide
  exact this ⟨p, hp⟩ ⟨q, hq⟩ h
theorem whos_grant {H : List Cl} {x : Cl} (h : (H.map (·.1)).Nodup) : ((grantP H x).map (·.1)).Nodup := by
  unfold grantP
  split
  · rename_i hh
    rcases idx_cases (isW x.1) H with ⟨_, h2⟩ | ⟨hlt, _, _, hhit⟩
    · unfold hasP at hh; rw [h2] at hh; cases hh
    · have e : (H.set (H.findIdx (isW x.1)) x).map (·.1) = H.map (·.1) := by
        apply List.ext_getElem?
        intro j
        rw [List.getElem?_map, List.getElem?_map, List.getElem?_set]
        by_cases hj : H.findIdx (isW x.1) = j
        · subst hj
          rw [if_pos rfl, if_pos hlt, List.getElem?_eq_getElem hlt]
          have : (H[H.findIdx (isW x.1)]).1 = x.1 := by simpa [isW] using hhit
          simp [this]
        · rw [if_neg hj]
      rw [e]; exact h
  · rename_i hh
    rw [List.map_append, List.nodup_append]
    refine ⟨h, by simp, fun a ha b hb e => ?_⟩
    have hb : b = x.1 := by simpa using hb
    subst e hb
    obtain ⟨c, hc, e⟩ := List.mem_map.1 ha
    apply hh
    unfold hasP
    rw [List.any_eq_true]
    exact ⟨c, hc, by simp [isW, e]⟩
theorem whos_without {l : List Cl} {who : Int} (h : (l.map (·.1)).Nodup) : ((withoutP l who).map (·.1)).Nodup := h.sublist ((List.filter_sublist).map _)
theorem not_has {l : List Cl} {who : Int} (h : hasP l who = false) : ∀ c ∈ l, c.1 ≠ who := fun c hc e => by
  unfold hasP at h
  rw [List.any_eq_false] at h
  exact absurd (h c hc) (by simp [isW, e])
theorem whos_ins {l : List Cl} {i : Nat} {x : Cl} (h : (l.map (·.1)).Nodup) (hx : hasP l x.1 = false) : ((l.take i ++ x :: l.drop i).map (·.1)).Nodup := by
  have hp : (l.take i ++ x :: l.drop i).Perm (x :: l) := by
    have := List.perm_middle (a := x) (l₁ := l.take i) (l₂ := l.drop i)
    rw [List.take_append_drop] at this
    exact this
  rw [(hp.map _).nodup_iff, List.map_cons, List.nodup_cons]
  refine ⟨fun hm => ?_, h⟩
  obtain ⟨c, hc, e⟩ := List.mem_map.1 hm
  exact not_has hx c hc e
theorem ok_none : Ok ([], []) := ⟨by simp, by simp, by simp, by simp⟩
theorem ok_ask {s : Lk} (h : Ok s) (who : Int) {q : Nat} (hq : q < 6) : Ok (askP s who q).2 := by
  obtain ⟨H, L⟩ := s
  have hlt := mode_lt h.mH who
  unfold askP
  simp only
  split
  · exact h
  · rename_i hq0
    split
    · exact h
    · rename_i hl0
      have hl : hasP L who = false := by
        have := mode_ne h.mL who
        simp only at this
        rw [← this]
        simpa using hl0
      split
      · exact h
      · have hx : 0 < joinN (modeP H who) q ∧ joinN (modeP H who) q < 6 := ⟨join_pos hlt hq hq0, joinN_lt hlt hq⟩
        split
        · exact ⟨whos_grant h.ndH, h.ndL, grant_modes h.mH hx, h.mL⟩
        · refine ⟨h.ndH, whos_ins h.ndL hl, h.mH, fun c hc => ?_⟩
          unfold waitP at hc
          rcases List.mem_append.1 hc with h1 | h1
          · exact h.mL c (List.mem_of_mem_take h1)
          · rcases List.mem_cons.1 h1 with h2 | h2
            · subst h2; exact hx
            · exact h.mL c (List.mem_of_mem_drop h2)
theorem ok_drain : ∀ (L H : List Cl), Ok (H, L) → Ok (drainP H L).2
  | [], H, h => h
  | x :: L, H, h => by
    by_cases hf : fitsP H x = true
    · rw [drain_go hf]
      have hm := h.mL x (by simp)
      have hn := h.ndL
      simp only [List.map_cons, List.nodup_cons] at hn
      exact ok_drain L _ ⟨whos_grant h.ndH, hn.2, grant_modes h.mH hm, fun c hc => h.mL c (by simp [hc])⟩
    · rw [drain_stop (by simpa using hf)]
      exact h
theorem ok_drop {s : Lk} (h : Ok s) (who : Int) : Ok (dropP s who).2 := ok_drain _ _ ⟨whos_without h.ndH, whos_without h.ndL, without_modes h.mH, without_modes h.mL⟩
theorem ask_length (s : Lk) (who : Int) (q : Nat) : (askP s who q).2.1.length ≤ s.1.length + 1 ∧ (askP s who q).2.2.length ≤ s.2.length + 1 := by
  obtain ⟨H, L⟩ := s
  unfold askP
  simp only
  split
  · exact ⟨by simp, by simp⟩
  · split
    · exact ⟨by simp, by simp⟩
    · split
      · exact ⟨by simp, by simp⟩
      · split
        · exact ⟨grant_length _ _, by simp⟩
        · refine ⟨by simp, ?_⟩
          have := congrArg List.length (List.take_append_drop (spotP H L who) L)
          unfold waitP
          simp only [List.length_append, List.length_cons] at this ⊢
          omega
theorem drain_length : ∀ (L H : List Cl), (drainP H L).2.1.length ≤ H.length + L.length ∧ (drainP H L).2.2.length ≤ L.length ∧ (drainP H L).1.length ≤ L.length
  | [], H => by simp [drainP]
  | x :: L, H => by
    by_cases hf : fitsP H x = true
    · rw [drain_go hf]
      have := drain_length L (grantP H x)
      have := grant_length H x
      simp only [List.length_cons]
      omega
    · rw [drain_stop (by simpa using hf)]
      simp
theorem drop_length (s : Lk) (who : Int) : (dropP s who).2.1.length ≤ s.1.length + s.2.length ∧ (dropP s who).2.2.length ≤ s.2.length ∧ (dropP s who).1.length ≤ s.2.length := by
  have h := drain_length (withoutP s.2 who) (withoutP s.1 who)
  have h1 := without_length s.1 who
  have h2 := without_length s.2 who
  unfold dropP
  omega
/-- all that have to do with the lock: in either list -/
def total (s : Lk) : Nat := s.1.length + s.2.length
theorem ask_total (s : Lk) (who : Int) (q : Nat) : total (askP s who q).2 ≤ total s + 1 := by
  obtain ⟨H, L⟩ := s
  unfold askP total
  simp only
  split
  · simp
  · split
    · simp
    · split
      · simp
      · split
        · have := grant_length H (who, joinN (modeP H who) q)
          simp only; omega
        · have := congrArg List.length (List.take_append_drop (spotP H L who) L)
          unfold waitP
          simp only [List.length_append, List.length_cons] at this ⊢
          omega
theorem drain_total : ∀ (L H : List Cl), total (drainP H L).2 ≤ H.length + L.length
  | [], H => by simp [drainP, total]
  | x :: L, H => by
    by_cases hf : fitsP H x = true
    · rw [drain_go hf]
      have := drain_total L (grantP H x)
      have := grant_length H x
      simp only [List.length_cons]
      omega
    · rw [drain_stop (by simpa using hf)]
      simp [total]
theorem drop_total (s : Lk) (who : Int) : total (dropP s who).2 ≤ total s := by
  have := drain_total (withoutP s.2 who) (withoutP s.1 who)
  have h1 := without_length s.1 who
  have h2 := without_length s.2 who
  unfold dropP
  unfold total at *
  omega
/-- numbers that rise, each once -/
theorem uniq_spec {zs : List Int} (hs : zs.Pairwise (· ≤ ·)) : ∀ m, m ≤ zs.length → (Lib.compactUpTo zs.toArray m).Pairwise (· < ·) ∧ (∀ x, x ∈ Lib.compactUpTo zs.toArray m ↔ x ∈ zs.take m) ∧ ∀ x ∈ Lib.compactUpTo zs.toArray m, ∀ h : m - 1 < zs.length, x ≤ zs[m - 1]
  | 0, _ => by simp [Lib.compactUpTo]
  | m + 1, hm => by
    obtain ⟨h1, h2, h3⟩ := uniq_spec hs m (by omega)
    have hml : m < zs.length := by omega
    have hd : (zs.toArray)[m]! = zs[m] := by simp [getElem!_pos, hml]
    rw [Lib.compactUpTo_succ, hd]
    have hord : ∀ x ∈ Lib.compactUpTo zs.toArray m, x ≤ zs[m] := fun x hx => by
      rw [h2] at hx
      obtain ⟨j, hj, rfl⟩ := List.getElem_of_mem hx
      rw [List.length_take] at hj
      rw [List.getElem_take]
      exact (List.pairwise_iff_getElem.1 hs) j m (by omega) hml (by omega)
    by_cases hk : Lib.keeps zs.toArray m = true
    · rw [hk, if_pos rfl]
      have hlt : ∀ x ∈ Lib.compactUpTo zs.toArray m, x < zs[m] := fun x hx => by
        rcases Nat.eq_zero_or_pos m with h0 | h0
        · subst h0; simp [Lib.compactUpTo] at hx
        · have hx2 := h3 x hx (by omega)
          have hle := (List.pairwise_iff_getElem.1 hs) (m - 1) m (by omega) hml (by omega)
          simp only [Lib.keeps, decide_eq_true_eq] at hk
          rcases hk with hk | hk
          · omega
          · rw [hd] at hk
            have : (zs.toArray)[m - 1]! = zs[m - 1]'(by omega) := by rw [getElem!_pos zs.toArray (m - 1) (by simp; omega)]; simp
            rw [this] at hk
            omega
      refine ⟨?_, fun x => ?_, fun x hx h => ?_⟩
      · rw [List.pairwise_append]
        refine ⟨h1, by simp, fun a ha b hb => ?_⟩
        have hb : b = zs[m] := by simpa using hb
        rw [hb]
        exact hlt a ha
      · rw [List.mem_append, h2, List.take_succ_eq_append_getElem hml, List.mem_append]
      · rcases List.mem_append.1 hx with hx | hx
        · exact hord x hx
        · have hx : x = zs[m] := by simpa using hx
          subst hx; exact Int.le_refl _
    · rw [if_neg hk, List.append_nil]
      have hk' : m ≠ 0 ∧ zs[m] = zs[m - 1]'(by omega) := by
        simp only [Lib.keeps, decide_eq_true_eq, not_or, Decidable.not_not] at hk
        refine ⟨hk.1, ?_⟩
        have h := hk.2
        rw [hd, getElem!_pos zs.toArray (m - 1) (by simp; omega)] at h
        simpa using h
      refine ⟨h1, fun x => ?_, fun x hx _ => hord x hx⟩
      rw [h2, List.take_succ_eq_append_getElem hml, List.mem_append]
      refine ⟨.inl, fun h => ?_⟩
      rcases h with h | h
      · exact h
      · have hx : x = zs[m] := by simpa using h
        rw [hx, hk'.2]
        rw [List.mem_iff_getElem]
        exact ⟨m - 1, by rw [List.length_take]; omega, by rw [List.getElem_take]⟩
theorem sorted_pairwise (zs : List Int) : (sortedI zs).Pairwise (· ≤ ·) := by
  have := List.pairwise_mergeSort (le := fun x y : Int => decide (x ≤ y)) (fun a b c h1 h2 => by simp only [decide_eq_true_eq] at *; omega) (fun a b => by simp only [Bool.or_eq_true, decide_eq_true_eq]; omega) zs
  exact this.imp fun h => by simpa using h
theorem uniqI_spec (zs : List Int) : (uniqI zs).Pairwise (· < ·) ∧ ∀ x, x ∈ uniqI zs ↔ x ∈ zs := by
  obtain ⟨h1, h2, _⟩ := uniq_spec (sorted_pairwise zs) (sortedI zs).length (Nat.le_refl _)
  refine ⟨h1, fun x => ?_⟩
  have := h2 x
  rw [List.take_length] at this
  unfold uniqI Lib.compact
  rw [this]
  exact (List.mergeSort_perm zs _).mem_iff
theorem uniqI_pos {zs : List Int} (h : zs ≠ []) : 0 < (uniqI zs).length := by
  rcases zs with _ | ⟨z, r⟩
  · exact absurd rfl h
  · have := (uniqI_spec (z :: r)).2 z
    exact List.length_pos_iff.2 (List.ne_nil_of_mem (this.2 (by simp)))
/-- two rows that rise and have the same are one -/
theorem rising_eq : ∀ {a b : List Int}, a.Pairwise (· < ·) → b.Pairwise (· < ·) → (∀ x, x ∈ a ↔ x ∈ b) → a = b
  | [], [], _, _, _ => rfl
  | [], y :: b, _, _, h => absurd ((h y).2 (by simp)) (by simp)
  | x :: a, [], _, _, h => absurd ((h x).1 (by simp)) (by simp)
  | x :: a, y :: b, h1, h2, h => by
    rw [List.pairwise_cons] at h1 h2
    have e : x = y := by
      rcases List.mem_cons.1 ((h x).1 (by simp)) with h3 | h3
      · exact h3
      · rcases List.mem_cons.1 ((h y).2 (by simp)) with h4 | h4
        · exact h4.symm
        · have := h1.1 y h4
          have := h2.1 x h3
          omega
    subst e
    rw [rising_eq h1.2 h2.2 fun z => ⟨fun hz => ?_, fun hz => ?_⟩]
    · rcases List.mem_cons.1 ((h z).1 (by simp [hz])) with h3 | h3
      · subst h3; exact absurd (h1.1 _ hz) (by omega)
      · exact h3
    · rcases List.mem_cons.1 ((h z).2 (by simp [hz])) with h3 | h3
      · subst h3; exact absurd (h2.1 _ hz) (by omega)
      · exact h3
end Go.Proofs.YtnjhhndggfjjdaaGreatDoor
namespace Go.Proofs.YtnjhhndggfjjdaaGreatDoor
open Go.RowKit
def Wait1 (w : World) (H : List Cl) (x : Cl) (k : Nat) (v i : Value) (wr : World) : Prop :=
  ∃ j, j + k = H.length ∧ i = .int .i64 (j : Int) ∧ Own wr w.heap.size eI 3 v (((H.take j).filter fun c => inwayP c x).map (·.1)) ∧ Below w.heap.size w wr
def Wait2 (w : World) (P : List Int) (L : List Cl) (q k : Nat) (v i : Value) (wr : World) : Prop :=
  ∃ j, j + k = q ∧ i = .int .i64 (j : Int) ∧ Own wr w.heap.size eI 3 v (P ++ (L.take j).map (·.1)) ∧ Below w.heap.size w wr
theorem wait1_in {H : List Cl} {x : Cl} {j : Nat} (h : j < H.length) (hz : inwayP H[j] x = true) : (((H.take j).filter fun c => inwayP c x).map (·.1)) ++ [H[j].1] = ((H.take (j + 1)).filter fun c => inwayP c x).map (·.1) := by
  rw [List.take_succ_eq_append_getElem h, List.filter_append, List.map_append]
  simp [hz]
theorem wait1_out {H : List Cl} {x : Cl} {j : Nat} (h : j < H.length) (hz : inwayP H[j] x = false) : (((H.take j).filter fun c => inwayP c x).map (·.1)) = ((H.take (j + 1)).filter fun c => inwayP c x).map (·.1) := by
  rw [List.take_succ_eq_append_getElem h, List.filter_append]
  simp [hz]
theorem wait2_next {P : List Int} {L : List Cl} {j : Nat} (h : j < L.length) : (P ++ (L.take j).map (·.1)) ++ [L[j].1] = P ++ (L.take (j + 1)).map (·.1) := by
  rw [List.take_succ_eq_append_getElem h, List.map_append, List.append_assoc]; rfl
theorem Lst.atx {w : World} {K : Nat → Prop} {A : Option Addr} {l : List Cl} (h : Lst w K eC A l) {j : Nat} {x : Cl} (hj : l[j]? = some x) :
    ∃ b o, A = some ⟨b, o, none⟩ ∧ b < w.heap.size ∧ w.cell? ⟨b, o + j * 2, none⟩ = some (.int .i64 x.1) ∧ w.cell? ⟨b, o + j * 2 + 1, none⟩ = some (.int .i64 (x.2 : Int)) := by
  obtain ⟨hl, rfl⟩ := List.getElem?_eq_some_iff.1 hj
  exact h.atC hl
theorem waits_hit {H L : List Cl} {who : Int} {x : Cl} (h : L.findIdx (isW who) < L.length) (hx : L[L.findIdx (isW who)]? = some x) : waitsP (H, L) who = uniqI (rawP (H, L) x (L.findIdx (isW who))) := by
  unfold waitsP
  rw [dif_pos h]
  rw [List.getElem?_eq_getElem h] at hx
  injection hx with hx
  exact congrArg (fun y => uniqI (rawP (H, L) y (L.findIdx (isW who)))) hx
theorem waits_miss {H L : List Cl} {who : Int} (h : ¬ L.findIdx (isW who) < L.length) : waitsP (H, L) who = [] := by
  unfold waitsP
  rw [dif_neg h]
set_option maxHeartbeats 400000 in
theorem waits_ {w : World} {b off : Nat} {zn : Zn} {s : Lk} (h : Lock w b off zn s) (hok : Ok s) (hn : s.1.length ≤ 10000) (hm : s.2.length ≤ 10000) (hT : Tab w) (who : Int) :
    Calls Tryz.prog 38 #[.pointer (some ⟨b, off, none⟩), .int .i64 who] w fun e w' => ∃ v, e = .returned v ∧ Own w' w.heap.size eI 3 v (waitsP s who) ∧ Below w.heap.size w w' := by
  obtain ⟨H, L⟩ := s
  obtain ⟨vH, vL, h2, aH, aL⟩ := h
  obtain ⟨A1, c1, rfl, l1, _, _, _⟩ := aH
  obtain ⟨A2, c2, rfl, l2, hlc2, hcm2, _⟩ := aL
  simp only at *
  have b1 := h2.c1
  have hbs := h2.lt
  have hpl := place_ (c := c2) l2 rfl (by omega) who
  have H2 := Lib.hid h2
  have L1 := Lib.hid l1
  have L2 := Lib.hid l2
  have HT := Lib.hid hT
  have MH := Lib.hid hok.mH
  have ML := Lib.hid hok.mL
  simp only at MH ML
  clear h2 l1 l2 hT hok
  rcases idx_cases (isW who) L with ⟨e0, hany⟩ | ⟨hlt, e0, hany, hhit⟩
  · have hno : ¬ (L.findIdx (isW who) < L.length) := fun h => by
      have := List.findIdx_getElem (w := h)
      rw [List.any_eq_false] at hany
      exact absurd this (by simpa using hany _ (List.getElem_mem h))
    rw [waits_miss hno]
    rw [e0] at hpl
    have HP := Lib.hid hpl
    clear hpl e0 hany hno
    generalize L.length = m at *
    generalize H.length = n at *
    go_enter Tryz.func38, Tryz.ntmps38
    go_wp2_with fail
    refine HP.out.mono ?_
    rintro e w1 ⟨rfl, hb1⟩
    go_wp2_with fail
    go_ret
    exact ⟨_, rfl, own_nil _ _, hb1⟩
  · obtain ⟨x, hxx⟩ : ∃ x, L[L.findIdx (isW who)]? = some x := ⟨_, List.getElem?_eq_getElem hlt⟩
    rw [waits_hit hlt hxx]
    rw [e0] at hpl
    generalize hq : L.findIdx (isW who) = q at *
    have HLT := Lib.hid hlt
    have hx := ML.out _ (List.mem_of_getElem? hxx)
    have HP := Lib.hid hpl
    clear hpl e0 hany hhit hq
    have hat := fun W (hb : Below w.heap.size w W) => (L2.out.below hb).atx hxx
    have HAT := Lib.hid hat
    clear hat hxx
    generalize hmm : L.length = m at *
    generalize hnn : H.length = n at *
    have HM := Lib.hid hmm
    have HN := Lib.hid hnn
    clear hmm hnn
    unfold rawP
    simp only
    generalize hP : (H.filter fun c => inwayP c x).map (·.1) = P
    generalize hraw : P ++ (L.take q).map (·.1) = raw
    have HPP := Lib.hid hP
    have HRAW := Lib.hid hraw
    have hPl : P.length ≤ n := by
      rw [← hP, List.length_map, ← HN.out]
      exact List.length_filter_le _ _
    clear hP hraw
    go_enter Tryz.func38, Tryz.ntmps38
    go_wp2_with fail
    refine HP.out.mono ?_
    rintro e w1 ⟨rfl, hb1⟩
    have HB1 := Lib.hid hb1
    have p0 := (H2.out.below hb1 hbs).c0
    clear hb1
    go_wp2_with fail
    go_loopg [6, 8, 26] n (fun k v _ i wr => Wait1 w H x k v i wr)
    case atStart => exact ⟨0, by rw [HN.out]; omega, rfl, own_nil _ _, HB1.out⟩
    case round =>
      obtain ⟨j, hj, rfl, ho, hb⟩ := hrel
      have HJ := Lib.hid hj
      have HO := Lib.hid ho
      have HB := Lib.hid hb
      clear hj ho hb
      by_cases hltj : j < n
      · have hxj : j < H.length := by rw [HN.out]; exact hltj
        obtain ⟨g, o, rfl, hgl, d1, d2⟩ := (L1.out.below HB.out).atC hxj
        have hT1 := H2.out.below HB.out hbs
        have hbr := hT1.lt
        have r1 := hT1.c1
        have hTr := HT.out.below HB.out
        have hiw := fun W (hb : Below wr.heap.size wr W) => inway_ H[j] x (MH.out _ (List.getElem_mem hxj)).2 hx.2 W (hTr.below hb)
        have hin := wait1_in (x := x) hxj
        have hout := wait1_out (x := x) hxj
        have hlen : (((H.take j).filter fun c => inwayP c x).map (·.1)).length ≤ 100000 := by
          rw [List.length_map]
          have := List.length_filter_le (fun c : Cl => inwayP c x) (H.take j)
          rw [List.length_take] at this
          omega
        have HIN := Lib.hid hin
        have HOUT := Lib.hid hout
        have HLE := Lib.hid hlen
        unfold valC at hiw
        have HIW := Lib.hid hiw
        obtain ⟨g2, o2, ea, hg2, f1, f2⟩ := HAT.out wr HB.out
        clear hiw hin hout hlen hT1 hTr
        generalize inwayP H[j] x = z at *
        generalize (H[j]).1 = y1 at *
        generalize (H[j]).2 = y2 at *
        obtain ⟨x1, x2⟩ := x
        simp only at *
        subst ea
        go_wp2_with fail
        have hal := alloc_below wr (.cells #[.int .i64 y1, .int .i64 (y2 : Int)] 94)
        have e0 : (wr.alloc (.cells #[.int .i64 y1, .int .i64 (y2 : Int)] 94)).cell? ⟨wr.heap.size, 0, none⟩ = some (.int .i64 y1) := (Blk.new wr _ _).cell 0
        have e1 : (wr.alloc (.cells #[.int .i64 y1, .int .i64 (y2 : Int)] 94)).cell? ⟨wr.heap.size, 1, none⟩ = some (.int .i64 (y2 : Int)) := (Blk.new wr _ _).cell 1
        have r1' : (wr.alloc (.cells #[.int .i64 y1, .int .i64 (y2 : Int)] 94)).cell? ⟨b, off + 1, none⟩ = some (.slice (some ⟨g2, o2, none⟩) m c2) := (cell_of_heap (hal.block b hbr) (off + 1)).trans r1
        have f1' : (wr.alloc (.cells #[.int .i64 y1, .int .i64 (y2 : Int)] 94)).cell? ⟨g2, o2 + q * 2, none⟩ = some (.int .i64 x1) := (cell_of_heap (hal.block g2 hg2) _).trans f1
        have f2' : (wr.alloc (.cells #[.int .i64 y1, .int .i64 (y2 : Int)] 94)).cell? ⟨g2, o2 + q * 2 + 1, none⟩ = some (.int .i64 (x2 : Int)) := (cell_of_heap (hal.block g2 hg2) _).trans f2
        have HAL := Lib.hid hal
        clear hal
        generalize wr.alloc (.cells #[.int .i64 y1, .int .i64 (y2 : Int)] 94) = wA at *
        refine wp_region_still_tail 8 (by kernel_rfl) (by kernel_rfl) ?_
        simp only [List.take_succ_cons, List.take_zero, List.drop_succ_cons, List.drop_zero]
        repeat still_step
        refine wpStill_nil ?_
        go_wp2_with fail
        refine (HIW.out _ HAL.out.drew).mono ?_
        rintro e w2 ⟨rfl, hb2⟩
        have hb3 := below_drew_on HAL.out hb2 HAL.out.size
        have hb4 := HB.out.trans (hb3.mono HB.out.size)
        have s0 := (cell_of_heap (hb2.block wr.heap.size (block_of_cell e0)) 0).trans e0
        have ho2 := own_keep HO.out fun g hg => hb3.block g (own_blk HO.out hg).2.1
        cases z
        · rw [HOUT.out (by simp)] at ho2
          have HO3 := Lib.hid ho2
          have HB4 := Lib.hid hb4
          clear hb2 hb3 hb4 ho2 s0 e0 e1 r1' f1' f2'
          go_wp2_with fail
          go_roundg (n - (j + 1))
          case measure => have := HJ.out; have := HN.out; omega
          case rel => exact ⟨j + 1, by have := HN.out; omega, by go_num, HO3.out, HB4.out⟩
        · obtain ⟨v3, w3, hap, ho3, hb5⟩ := append_int ho2 hb4.size HLE.out hb4 y1
          rw [HIN.out (by simp)] at ho3
          have HO3 := Lib.hid ho3
          have HB4 := Lib.hid hb5
          have HAP := Lib.hid hap
          clear hb2 hb3 hb4 ho2 hap ho3 hb5 e0 e1 r1' f1' f2'
          go_wp2_with (at_builtin; refine wpList_append_run rfl (.tmp 39) (.tmp 42) 39 39 rfl _ _ rfl rfl HAP.out ?_)
          go_roundg (n - (j + 1))
          case measure => have := HJ.out; have := HN.out; omega
          case rel => exact ⟨j + 1, by have := HN.out; omega, by go_num, HO3.out, HB4.out⟩
      · have he : j = n := by have := HJ.out; have := HN.out; omega
        subst he
        have hall : H.take j = H := List.take_of_length_le (by rw [HN.out]; exact Nat.le_refl _)
        have ho1 := HO.out
        rw [hall] at ho1
        rw [HPP.out] at ho1
        have HO1 := Lib.hid ho1
        have HB2 := Lib.hid HB.out
        have r1 := (H2.out.below HB.out hbs).c1
        obtain ⟨g2, o2, ea, hg2, f1, f2⟩ := HAT.out wr HB.out
        subst ea
        have hqm : q < m := HLT.out
        have hsl := head_claims (some ⟨g2, o2, none⟩) m c2 q (by omega)
        have hqc : (q : Int) ≤ (c2 : Int) := by omega
        clear HO HB ho1 hall HJ f1 f2
        go_wp2_with fail
        go_loopg [6, 10, 52] q (fun k v _ i wr => Wait2 w P L q k v i wr)
        case atStart => exact ⟨0, by omega, rfl, by simpa using HO1.out, HB2.out⟩
        case round =>
          obtain ⟨i, hi, rfl, ho, hb⟩ := hrel
          have HI := Lib.hid hi
          have HO := Lib.hid ho
          have HB := Lib.hid hb
          clear hi ho hb
          by_cases hlti : i < q
          · have hxi : i < L.length := by rw [HM.out]; omega
            obtain ⟨g, o, e1, hgl, d1, d2⟩ := (L2.out.below HB.out).atC hxi
            injection e1 with e1
            injection e1 with e1 e2 _
            subst e1 e2
            have hnx := wait2_next (P := P) hxi
            have hlen : (P ++ (L.take i).map (·.1)).length ≤ 100000 := by
              rw [List.length_append, List.length_map, List.length_take]
              omega
            have HNX := Lib.hid hnx
            generalize (L[i]).1 = y1 at *
            generalize (L[i]).2 = y2 at *
            have hal := alloc_below wr (.cells #[.int .i64 y1, .int .i64 (y2 : Int)] 94)
            have ho2 := own_keep (W' := wr.alloc (.cells #[.int .i64 y1, .int .i64 (y2 : Int)] 94)) HO.out fun g hg => hal.block g (own_blk HO.out hg).2.1
            have hb2 := HB.out.trans (hal.mono HB.out.size)
            obtain ⟨v3, w3, hap, ho3, hb5⟩ := append_int ho2 hb2.size hlen hb2 y1
            rw [HNX.out] at ho3
            rw [show (wr.alloc (.cells #[.int .i64 y1, .int .i64 (y2 : Int)] 94)).heap.size = wr.heap.size + 1 by simp] at hap
            have HO3 := Lib.hid ho3
            have HB4 := Lib.hid hb5
            have HAP := Lib.hid hap
            clear hal ho2 hb2 hap ho3 hb5 hnx hlen
            go_wp2_with (at_builtin; refine wpList_append_run rfl (.tmp 56) (.tmp 59) 39 39 rfl _ _ rfl rfl HAP.out ?_)
            go_roundg (q - (i + 1))
            case measure => have := HI.out; omega
            case rel => exact ⟨i + 1, by omega, by go_num, HO3.out, HB4.out⟩
          · have he : i = q := by have := HI.out; omega
            subst he
            have ho9 := HO.out
            rw [HRAW.out] at ho9
            clear HO
            have HO := Lib.hid ho9
            clear ho9
            obtain ⟨A, cap, rfl, _, hlc, hcm, _⟩ := own_lst HO.out
            by_cases hz : raw = []
            · subst hz
              have hu : uniqI [] = [] := by simp [uniqI, sortedI, Lib.compact, Lib.compactUpTo]
              have HU := Lib.hid hu
              clear hu
              have hs1 := fun W => sort_none A cap W
              have hs2 := fun W => compact_none A cap W
              have HS1 := Lib.hid hs1
              have HS2 := Lib.hid hs2
              clear hs1 hs2
              simp only [List.length_nil] at *
              go_wp2_with fail
              refine (HS1.out _).mono ?_
              rintro e w' ⟨rfl, rfl⟩
              go_wp2_with fail
              refine (HS2.out _).mono ?_
              rintro e w' ⟨rfl, rfl⟩
              go_wp2_with fail
              go_ret
              exact ⟨_, rfl, by rw [HU.out]; exact HO.out, HB.out⟩
            · have hrl : 0 < raw.length := List.length_pos_iff.2 hz
              have hr3 : raw.length ≤ 30000 := by
                rw [← HRAW.out, List.length_append, List.length_map, List.length_take]
                omega
              clear hz
              have HO5 := HO.out
              rcases HO.out.2 with ⟨_, h0⟩ | ⟨g, cap', cur, e1, _⟩
              · omega
              obtain rfl : A = some ⟨g, 0, none⟩ := by injection e1
              obtain rfl : cap = cap' := by injection e1
              obtain ⟨hh1, hh2, hh3⟩ := own_holds HO5
              have hsrt := sort_ints g 0 cap raw wr hh1 hh2 (by omega)
              have hon := own_sorted HO5
              have hlen2 := sortedI_length raw
              have HSR := Lib.hid hsrt
              have HON := Lib.hid hon
              have HL2 := Lib.hid hlen2
              clear hsrt hon hlen2 hh1 hh2 HO5 e1
              generalize hrn : raw.length = rn at *
              go_wp2_with fail
              refine HSR.out.mono ?_
              rintro e w4 ⟨rfl, n4, os4, hw4⟩
              have h4 := HON.out n4 os4
              have hw5 : w4 = Go.Sort.grow (Go.Sort.putRow (Value.int .i64) (Go.Sort.ahead wr n4) g 0 (sortedI raw).toArray) os4 := hw4
              rw [← hw5] at h4
              clear hw4 hw5
              obtain ⟨o4, b4⟩ := h4
              have o4' : Own w4 w.heap.size eI 3 (.slice (some ⟨g, 0, none⟩) (sortedI raw).length cap) (sortedI raw) := by rw [HL2.out]; exact o4
              have hcc := fun q => own_compact o4' q
              have hh4 := own_holds o4'
              have hcp := compact_ints g 0 cap (sortedI raw) _ hh4.1 (by rw [HL2.out]; omega) hh4.2.2
              rw [HL2.out] at hcp hcc
              have HCP := Lib.hid hcp
              have HCC := Lib.hid hcc
              have HB6 := Lib.hid (HB.out.trans b4)
              clear hcp hcc hh4 o4 o4' b4 HSR HON
              go_wp2_with fail
              refine HCP.out.mono ?_
              rintro e w6 ⟨rfl, q5, hw6⟩
              have h6 := HCC.out q5
              rw [← hw6] at h6
              have H6 := Lib.hid h6
              clear hw6 h6 HCC HCP
              have hu : uniqI raw = Lib.compact (sortedI raw) := rfl
              have HU := Lib.hid hu
              clear hu
              go_wp2_with fail
              go_ret
              rw [HU.out]
              exact ⟨_, rfl, H6.out.1, HB6.out.trans H6.out.2⟩
end Go.Proofs.YtnjhhndggfjjdaaGreatDoor
namespace Go.Proofs.YtnjhhndggfjjdaaGreatDoor
open Go
theorem mode_mem : ∀ {l : List Cl} {c : Cl}, (l.map (·.1)).Nodup → c ∈ l → modeP l c.1 = c.2
  | x :: l, c, hn, hc => by
    simp only [List.map_cons, List.nodup_cons] at hn
    unfold modeP
    rcases List.mem_cons.1 hc with rfl | h
    · simp [isW]
    · have hne : (x.1 == c.1) = false := by
        rw [beq_eq_false_iff_ne]
        intro e
        exact hn.1 (by rw [e]; exact List.mem_map.2 ⟨c, h, rfl⟩)
      have := mode_mem hn.2 h
      unfold modeP at this
      simp only [List.find?_cons, isW, hne]
      exact this
def Fit (s : Lk) : Prop := (∀ a ∈ s.1, ∀ c ∈ s.1, a.1 ≠ c.1 → fitB a.2 c.2 = true) ∧ ∀ x r, s.2 = x :: r → fitsP s.1 x = false
theorem grant_mem {H : List Cl} {x c : Cl} (hn : (H.map (·.1)).Nodup) (h : c ∈ grantP H x) : c = x ∨ (c ∈ H ∧ c.1 ≠ x.1) := by
  unfold grantP at h
  split at h
  · rename_i hh
    rcases idx_cases (isW x.1) H with ⟨_, h2⟩ | ⟨hlt, _, _, hhit⟩
    · unfold hasP at hh; rw [h2] at hh; cases hh
    · obtain ⟨j, hj, e⟩ := List.getElem_of_mem h
      rw [List.length_set] at hj
      rw [List.getElem_set] at e
      split at e
      · exact .inl e.symm
      · rename_i hne
        subst e
        refine .inr ⟨List.getElem_mem hj, fun e => hne ?_⟩
        have hw : (H[H.findIdx (isW x.1)]).1 = x.1 := by simpa [isW] using hhit
        have hp := List.pairwise_iff_getElem.1 hn
        rcases Nat.lt_trichotomy (H.findIdx (isW x.1)) j with h1 | h1 | h1
        · exact (hp _ j (by rw [List.length_map]; exact hlt) (by rw [List.length_map]; exact hj) h1 (by simp only [List.getElem_map]; rw [hw, e])).elim
        · exact h1
        · exact (hp j _ (by rw [List.length_map]; exact hj) (by rw [List.length_map]; exact hlt) h1 (by simp only [List.getElem_map]; rw [hw, e])).elim
  · rename_i hh
    rcases List.mem_append.1 h with h1 | h1
    · exact .inr ⟨h1, not_has (by simpa using hh) c h1⟩
    · exact .inl (by simpa using h1)
theorem grant_has (H : List Cl) (x : Cl) : x ∈ grantP H x := by
  unfold grantP
  split
  · rename_i hh
    rcases idx_cases (isW x.1) H with ⟨_, h2⟩ | ⟨hlt, _, _, _⟩
    · unfold hasP at hh; rw [h2] at hh; cases hh
    · rw [List.mem_iff_getElem]
      exact ⟨H.findIdx (isW x.1), by rw [List.length_set]; exact hlt, by rw [List.getElem_set, if_pos rfl]⟩
  · simp
theorem grant_keeps {H : List Cl} {x c : Cl} (h : c ∈ H) (hne : c.1 ≠ x.1) : c ∈ grantP H x := by
  unfold grantP
  split
  · rename_i hh
    rcases idx_cases (isW x.1) H with ⟨_, h2⟩ | ⟨hlt, _, _, hhit⟩
    · unfold hasP at hh; rw [h2] at hh; cases hh
    · obtain ⟨j, hj, rfl⟩ := List.getElem_of_mem h
      rw [List.mem_iff_getElem]
      refine ⟨j, by rw [List.length_set]; exact hj, ?_⟩
      rw [List.getElem_set, if_neg]
      intro e
      subst e
      exact hne (by simpa [isW] using hhit)
  · exact List.mem_append_left _ h
theorem fits_all {H : List Cl} {x : Cl} (h : fitsP H x = true) : ∀ c ∈ H, c.1 ≠ x.1 → fitB c.2 x.2 = true := by
  intro c hc hne
  unfold fitsP at h
  rw [Bool.not_eq_true', List.any_eq_false] at h
  have h1 : inwayP c x = false := by simpa using h c hc
  unfold inwayP at h1
  have h2 : (c.1 != x.1) = true := bne_iff_ne.2 hne
  rw [h2, Bool.true_and] at h1
  simpa using h1
theorem fits_some {H : List Cl} {x : Cl} (h : fitsP H x = false) : ∃ c ∈ H, c.1 ≠ x.1 ∧ fitB c.2 x.2 = false := by
  unfold fitsP at h
  rw [Bool.not_eq_false', List.any_eq_true] at h
  obtain ⟨c, hc, h1⟩ := h
  unfold inwayP at h1
  rw [Bool.and_eq_true] at h1
  exact ⟨c, hc, bne_iff_ne.1 h1.1, by simpa using h1.2⟩
theorem some_fits {H : List Cl} {x c : Cl} (hc : c ∈ H) (hne : c.1 ≠ x.1) (hf : fitB c.2 x.2 = false) : fitsP H x = false := by
  unfold fitsP
  rw [Bool.not_eq_false', List.any_eq_true]
  exact ⟨c, hc, by unfold inwayP; rw [hf, bne_iff_ne.2 hne]; rfl⟩
theorem pair_grant {H : List Cl} {x : Cl} (hn : (H.map (·.1)).Nodup) (hm : ∀ c ∈ H, 0 < c.2 ∧ c.2 < 6) (hx : x.2 < 6) (h : ∀ a ∈ H, ∀ c ∈ H, a.1 ≠ c.1 → fitB a.2 c.2 = true) (hf : fitsP H x = true) : ∀ a ∈ grantP H x, ∀ c ∈ grantP H x, a.1 ≠ c.1 → fitB a.2 c.2 = true := by
  intro a ha c hc hne
  rcases grant_mem hn ha with e1 | ⟨ha', ha2⟩
  · rcases grant_mem hn hc with e | ⟨hc', hc2⟩
    · exact absurd (by rw [e1, e]) hne
    · rw [e1, fit_comm hx (hm c hc').2]
      exact fits_all hf c hc' hc2
  · rcases grant_mem hn hc with e | ⟨hc', hc2⟩
    · rw [e]
      exact fits_all hf a ha' ha2
    · exact h a ha' c hc' hne
theorem fit_none : Fit ([], []) := ⟨by simp, fun x r h => by cases h⟩
theorem fit_ask {s : Lk} (ok : Ok s) (h : Fit s) (who : Int) {q : Nat} (hq : q < 6) : Fit (askP s who q).2 := by
  obtain ⟨H, L⟩ := s
  obtain ⟨h1, h2⟩ := h
  have hlt := mode_lt ok.mH who
  simp only at h1 h2 hlt
  have okH := ok.mH
  have okL := ok.mL
  have okN := ok.ndH
  simp only at okH okL okN
  unfold askP
  simp only
  split
  · exact ⟨h1, h2⟩
  · rename_i hq0
    split
    · exact ⟨h1, h2⟩
    · split
      · exact ⟨h1, h2⟩
      · have hj := joinN_lt hlt hq
        split
        · rename_i hg
          refine ⟨pair_grant okN okH hj h1 hg.2, fun y r hy => ?_⟩
          simp only at hy
          obtain ⟨c, hc, hcne, hcf⟩ := fits_some (h2 y r hy)
          by_cases hw : c.1 = who
          · have hm := mode_mem okN hc
            rw [hw] at hm
            refine some_fits (grant_has H _) (by simp only; rw [← hw]; exact hcne) ?_
            simp only
            by_cases hf : fitB (joinN (modeP H who) q) y.2 = true
            · have hcov := join_left hlt hq
              rw [hm] at hf hcov
              have hy6 := (okL y (by rw [hy]; simp)).2
              have := cov_fit (by rw [hm] at hj; exact hj) (okH c hc).2 hy6 hcov hf
              rw [hcf] at this
              cases this
            · simpa using hf
          · exact some_fits (grant_keeps hc hw) hcne hcf
        · rename_i hg
          refine ⟨h1, fun y r hy => ?_⟩
          simp only at hy ⊢
          unfold waitP at hy
          rcases Nat.eq_zero_or_pos (spotP H L who) with h0 | h0
          · rw [h0] at hy
            simp only [List.take_zero, List.nil_append, List.drop_zero] at hy
            injection hy with hy _
            subst hy
            by_cases hf : fitsP H (who, joinN (modeP H who) q) = true
            · exfalso
              apply hg
              refine ⟨?_, hf⟩
              by_cases hh : modeP H who = 0
              · right
                have hno : hasP H who = false := by
                  have := mode_ne okH who
                  rw [hh] at this
                  simpa using this.symm
                unfold spotP at h0
                rw [hno] at h0
                exact List.eq_nil_of_length_eq_zero h0
              · exact .inl hh
            · simpa using hf
          · rcases L with _ | ⟨z, L'⟩
            · have := spot_le H [] who
              simp only [List.length_nil] at this
              omega
            · obtain ⟨m, hm⟩ : ∃ m, spotP H (z :: L') who = m + 1 := ⟨spotP H (z :: L') who - 1, by omega⟩
              rw [hm, List.take_succ_cons] at hy
              injection hy with hy _
              subst hy
              exact h2 z L' rfl
theorem fit_drain : ∀ (L H : List Cl), Ok (H, L) → (∀ a ∈ H, ∀ c ∈ H, a.1 ≠ c.1 → fitB a.2 c.2 = true) → Fit (drainP H L).2
  | [], H, _, h => ⟨h, fun x r e => by cases e⟩
  | x :: L, H, ok, h => by
    have okn := ok.ndL
    simp only [List.map_cons, List.nodup_cons] at okn
    have hx := ok.mL x (by simp)
    by_cases hf : fitsP H x = true
    · rw [drain_go hf]
      exact fit_drain L _ ⟨whos_grant ok.ndH, okn.2, grant_modes ok.mH hx, fun c hc => ok.mL c (by simp [hc])⟩ (pair_grant ok.ndH ok.mH hx.2 h hf)
    · have hf : fitsP H x = false := by simpa using hf
      rw [drain_stop hf]
      refine ⟨h, fun y r e => ?_⟩
      simp only at e ⊢
      injection e with e _
      subst e
      exact hf
theorem fit_drop {s : Lk} (ok : Ok s) (h : Fit s) (who : Int) : Fit (dropP s who).2 :=
  fit_drain _ _ ⟨whos_without ok.ndH, whos_without ok.ndL, without_modes ok.mH, without_modes ok.mL⟩ fun a ha c hc hne => h.1 a (List.mem_filter.1 ha).1 c (List.mem_filter.1 hc).1 hne
theorem holds_nodup {s : Lk} (ok : Ok s) : ((holdsP s).map (·.1)).Nodup := by
  obtain ⟨H, L⟩ := s
  have okH := ok.mH
  have okN := ok.ndH
  have okL := ok.ndL
  simp only at okH okN okL
  unfold holdsP
  simp only
  rw [List.map_append, List.map_map, List.map_map, List.nodup_append]
  refine ⟨okN, okL.sublist ((List.filter_sublist).map _), fun a ha b hb e => ?_⟩
  obtain ⟨c, hc, rfl⟩ := List.mem_map.1 ha
  obtain ⟨d, hd, rfl⟩ := List.mem_map.1 hb
  have hd2 := (List.mem_filter.1 hd).2
  simp only [Function.comp, holdsA, holdsB] at e
  rw [← e, mode_mem okN hc] at hd2
  have := (okH c hc).1
  simp at hd2
  omega
theorem holds_held {s : Lk} {x : Ho} (hx : x ∈ holdsP s) (h : x.2.1 ≠ 0) : (x.1, x.2.1) ∈ s.1 := by
  unfold holdsP at hx
  rcases List.mem_append.1 hx with hx | hx
  · obtain ⟨c, hc, rfl⟩ := List.mem_map.1 hx
    exact hc
  · obtain ⟨c, hc, rfl⟩ := List.mem_map.1 hx
    exact absurd rfl h
theorem holds_wants {s : Lk} (ok : Ok s) {x : Ho} (hx : x ∈ holdsP s) (h : x.2.2 ≠ 0) : hasP s.2 x.1 = true := by
  unfold holdsP at hx
  rcases List.mem_append.1 hx with hx | hx
  · obtain ⟨c, hc, rfl⟩ := List.mem_map.1 hx
    simp only [holdsA] at h ⊢
    rw [← mode_ne ok.mL c.1]
    simpa using h
  · obtain ⟨c, hc, rfl⟩ := List.mem_map.1 hx
    unfold hasP
    rw [List.any_eq_true]
    exact ⟨c, (List.mem_filter.1 hc).1, by simp [isW, holdsB]⟩
theorem waits_some {s : Lk} (h : Fit s) {who : Int} (hw : hasP s.2 who = true) : 0 < (waitsP s who).length := by
  obtain ⟨H, L⟩ := s
  rcases idx_cases (isW who) L with ⟨_, h2⟩ | ⟨hlt, _, _, hhit⟩
  · unfold hasP at hw
    simp only at hw
    rw [h2] at hw
    cases hw
  · rw [waits_hit hlt (List.getElem?_eq_getElem hlt)]
    apply uniqI_pos
    unfold rawP
    simp only
    intro e
    rw [List.append_eq_nil_iff, List.map_eq_nil_iff, List.map_eq_nil_iff] at e
    rcases Nat.eq_zero_or_pos (L.findIdx (isW who)) with h0 | h0
    · rcases L with _ | ⟨y, r⟩
      · simp at hlt
      · have hf := h.2 y r rfl
        obtain ⟨c, hc, hne, hcf⟩ := fits_some hf
        have hy : (y :: r)[List.findIdx (isW who) (y :: r)] = y := by simp [h0]
        have e1 := e.1
        rw [hy, List.filter_eq_nil_iff] at e1
        exact e1 c hc (by unfold inwayP; rw [hcf, bne_iff_ne.2 hne]; rfl)
    · have := congrArg List.length e.2
      rw [List.length_take] at this
      simp only [List.length_nil] at this
      omega
end Go.Proofs.YtnjhhndggfjjdaaGreatDoor
