/- The document's lock: its rows, and where somebody is in one. Plain facts: the document's Holds, one of the line after the other. The document's own modes. The document's lock in memory; who fits. -/
import Derived.Test.YtnjhhndggfjjdaaGreatDoorJ09
import Derived.Laws.StructEq
import Derived.BigQuiet
import Derived.Deep.QuietTactic
import Derived.Test.YtnjhhndggfjjdaaGreatDoorJ01
import Derived.Test.YtnjhhndggfjjdaaGreatDoorJ02
import Derived.StillTailTactics
set_option maxRecDepth 4000
namespace Go.Proofs.YtnjhhndggfjjdaaGreatDoor
open Go.RowKit
/-- a holder, and one that waits, as the document's lock keeps them -/
def hdA (c : Cl) : Ho := (c.1, c.2, 0)
def lnA (c : Cl) : Ho := (c.1, 0, c.2)
def isHo (who : Int) (x : Ho) : Bool := x.1 == who
theorem isHo_hd (who : Int) : isHo who ∘ hdA = isW who := rfl
theorem isHo_ln (who : Int) : isHo who ∘ lnA = isW who := rfl
theorem idx_map {α β : Type} (f : α → β) (p : β → Bool) (l : List α) : idxI p (l.map f) = idxI (p ∘ f) l := by
  unfold idxI
  rw [List.findIdx_map, List.length_map]
theorem idx_hd (who : Int) (l : List Cl) : idxI (isHo who) (l.map hdA) = idxI (isW who) l := idx_map _ _ _
theorem idx_ln (who : Int) (l : List Cl) : idxI (isHo who) (l.map lnA) = idxI (isW who) l := idx_map _ _ _
def FindR (w : World) (l : List Ho) (who : Int) (k : Nat) (i : Value) (wr : World) : Prop := ∃ j, j + k = l.length ∧ i = .int .i64 (j : Int) ∧ (∀ q (hq : q < j) (hl : q < l.length), isHo who l[q] = false) ∧ Below w.heap.size w wr
set_option maxHeartbeats 1000000 in
theorem rfind_ {w : World} {K : Nat → Prop} {A : Option Addr} {n c : Nat} {l : List Ho} (h : Lst w K eH A l) (hl : l.length = n) (hn : n ≤ 1000000) (who : Int) :
    Calls Tryz.prog 30 #[.slice A n c, .int .i64 who] w fun e w' => e = .returned (.int .i64 (idxI (isHo who) l)) ∧ Below w.heap.size w w' := by
  have HH := Lib.hid h
  have HL := Lib.hid hl
  clear h hl
  go_enter Tryz.func30, Tryz.ntmps30
  go_wp2_with fail
  go_loopg [5] n (fun k i wr => FindR w l who k i wr)
  case atStart => exact ⟨0, by rw [HL.out]; omega, rfl, fun q hq => absurd hq (Nat.not_lt_zero q), Below.refl _ _⟩
  case round =>
    obtain ⟨j, hj, rfl, h1, hb⟩ := hrel
    have HJ := Lib.hid hj
    have HB := Lib.hid hb
    have H1 := Lib.hid h1
    clear hj hb h1
    by_cases hlt : j < n
    · have hx : j < l.length := by rw [HL.out]; exact hlt
      obtain ⟨g, o, rfl, _, d0, _, _⟩ := (HH.out.below HB.out).atH hx
      cases hp : isHo who l[j] with
      | true =>
        have he : idxI (isHo who) l = (j : Int) := idx_hit hx hp fun q hq => H1.out q hq (by omega)
        have hw : l[j].1 = who := by simpa [isHo] using hp
        rw [hw] at d0
        have HE := Lib.hid he
        clear hw hp he
        go_wp2_with fail
        go_ret
        exact ⟨by rw [HE.out]; rfl, HB.out⟩
      | false =>
        have hnx : ∀ q (hq : q < j + 1) (hl : q < l.length), isHo who l[q] = false := fun q hq hql => by
          rcases Nat.lt_or_ge q j with h5 | h5
          · exact H1.out q h5 hql
          · obtain rfl : q = j := by omega
            exact hp
        have hw : (l[j].1 == who) = false := hp
        have HN := Lib.hid hnx
        clear hnx hp
        generalize l[j].1 = x at *
        go_wp2_with fail
        go_roundg (n - (j + 1))
        case measure => have := HJ.out; have := HL.out; omega
        case rel => exact ⟨j + 1, by rw [HL.out]; omega, by go_num, HN.out, HB.out⟩
    · have he : idxI (isHo who) l = -1 := idx_miss fun q hq => H1.out q (by have := HJ.out; have := HL.out; omega) hq
      have hjn : j = n := by have := HJ.out; have := HL.out; omega
      subst hjn
      have HE := Lib.hid he
      clear he
      go_wp2_with fail
      go_ret
      exact ⟨by rw [HE.out]; rfl, HB.out⟩
/-- the document's lock at block b: its two lists, each in a row of its own -/
def withoutH (l : List Ho) (who : Int) : List Ho := l.filter fun c => !isHo who c
def WoR (w : World) (l : List Ho) (who : Int) (k : Nat) (v i : Value) (wr : World) : Prop :=
  ∃ j, j + k = l.length ∧ i = .int .i64 (j : Int) ∧ Own wr w.heap.size eH 56 v (withoutH (l.take j) who) ∧ Below w.heap.size w wr
theorem withoutH_len (l : List Ho) (who : Int) : (withoutH l who).length ≤ l.length := List.length_filter_le _ _
theorem withoutH_hit {l : List Ho} {k : Nat} {who : Int} (h : k < l.length) (hk : isHo who l[k] = true) : withoutH (l.take (k + 1)) who = withoutH (l.take k) who := by
  unfold withoutH
  rw [List.take_succ_eq_append_getElem h, List.filter_append]
  simp [hk]
theorem withoutH_pass {l : List Ho} {k : Nat} {who : Int} (h : k < l.length) (hk : isHo who l[k] = false) : withoutH (l.take (k + 1)) who = withoutH (l.take k) who ++ [l[k]] := by
  unfold withoutH
  rw [List.take_succ_eq_append_getElem h, List.filter_append]
  simp [hk]
theorem withoutH_hd (l : List Cl) (who : Int) : withoutH (l.map hdA) who = (withoutP l who).map hdA := by
  unfold withoutH withoutP
  rw [List.filter_map]
  rfl
theorem withoutH_ln (l : List Cl) (who : Int) : withoutH (l.map lnA) who = (withoutP l who).map lnA := by
  unfold withoutH withoutP
  rw [List.filter_map]
  rfl
set_option maxHeartbeats 1000000 in
theorem rwithout_ {w : World} {K : Nat → Prop} {A : Option Addr} {n c : Nat} {l : List Ho} (h : Lst w K eH A l) (hl : l.length = n) (hn : n ≤ 100000) (who : Int) :
    Calls Tryz.prog 61 #[.slice A n c, .int .i64 who] w fun e w' => ∃ v, e = .returned v ∧ Own w' w.heap.size eH 56 v (withoutH l who) ∧ Below w.heap.size w w' := by
  have HH := Lib.hid h
  have HL := Lib.hid hl
  clear h hl
  go_enter Tryz.func61, Tryz.ntmps61
  go_wp2_with fail
  go_loopg [5, 6] n (fun k v i wr => WoR w l who k v i wr)
  case atStart => exact ⟨0, by rw [HL.out]; omega, rfl, own_nil _ _, Below.refl _ _⟩
  case round =>
    obtain ⟨j, hj, rfl, ho, hb⟩ := hrel
    have HJ := Lib.hid hj
    have HB := Lib.hid hb
    have HO := Lib.hid ho
    clear hj hb ho
    by_cases hlt : j < n
    · have hx : j < l.length := by rw [HL.out]; exact hlt
      obtain ⟨g, o, rfl, hg, d0, d1, d2⟩ := (HH.out.below HB.out).atH hx
      cases hp : isHo who l[j] with
      | true =>
        have hw : l[j].1 = who := by simpa [isHo] using hp
        have e := withoutH_hit hx hp
        have HE := Lib.hid e
        rw [hw] at d0
        clear hw hp e d1 d2
        go_wp2_with fail
        go_roundg (n - (j + 1))
        case measure => have := HJ.out; have := HL.out; omega
        case rel => exact ⟨j + 1, by rw [HL.out]; omega, by go_num, by rw [HE.out]; exact HO.out, HB.out⟩
      | false =>
        have hw : (l[j].1 == who) = false := hp
        have e := withoutH_pass hx hp
        have HE := Lib.hid e
        have hlen : (withoutH (l.take j) who).length ≤ 100000 := by have := withoutH_len (l.take j) who; rw [List.length_take] at this; omega
        obtain ⟨v3, w3, hap, ho3, hb3, _⟩ := append_hold HO.out HB.out.size hlen HB.out l[j]
        rw [← e] at ho3
        have HO3 := Lib.hid ho3
        have HB3 := Lib.hid hb3
        have HAP := Lib.hid hap
        clear hp e hlen hap ho3 hb3
        generalize l[j].1 = x1 at *
        generalize l[j].2.1 = x2 at *
        generalize l[j].2.2 = x3 at *
        go_wp2_with (at_builtin; refine wpList_append_run rfl (.tmp 20) (.tmp 25) 71 71 rfl _ _ rfl rfl HAP.out ?_)
        go_roundg (n - (j + 1))
        case measure => have := HJ.out; have := HL.out; omega
        case rel => exact ⟨j + 1, by rw [HL.out]; omega, by go_num, HO3.out, HB3.out⟩
    · have hjn : j = n := by have := HJ.out; have := HL.out; omega
      subst hjn
      have ho := HO.out
      rw [List.take_of_length_le (by rw [HL.out]; exact Nat.le_refl _)] at ho
      have HO4 := Lib.hid ho
      clear ho HO
      go_wp2_with fail
      go_ret
      exact ⟨_, rfl, HO4.out, HB.out⟩
end Go.Proofs.YtnjhhndggfjjdaaGreatDoor
namespace Go.Proofs.YtnjhhndggfjjdaaGreatDoor
open Go
theorem has_no' {l : List Cl} {who : Int} (h : ∀ c ∈ l, c.1 ≠ who) : hasP l who = false := by
  unfold hasP
  rw [List.any_eq_false]
  intro c hc
  simpa [isW] using h c hc
def hldI (H L : List Cl) (i : Nat) : List Ho := H.map (holdsA (L.take i)) ++ ((L.take i).filter fun c => modeP H c.1 == 0).map holdsB
theorem hld_all (H L : List Cl) : hldI H L L.length = holdsP (H, L) := by unfold hldI holdsP; rw [List.take_length]
theorem hld_zero (H L : List Cl) : hldI H L 0 = H.map hdA := by
  unfold hldI
  simp only [List.take_zero, List.filter_nil, List.map_nil, List.append_nil]
  rfl
theorem mode_snoc_ne {l : List Cl} {x : Cl} {who : Int} (h : x.1 ≠ who) : modeP (l ++ [x]) who = modeP l who := by
  unfold modeP
  have : (l ++ [x]).find? (isW who) = l.find? (isW who) := by
    rw [List.find?_append]
    have e : [x].find? (isW who) = none := List.find?_eq_none.2 fun y hy => by
      have : y = x := by simpa using hy
      subst this
      simpa [isW] using h
    rw [e, Option.or_none]
  rw [this]
theorem mode_snoc_eq {l : List Cl} {x : Cl} (h : hasP l x.1 = false) : modeP (l ++ [x]) x.1 = x.2 := by
  unfold modeP
  have e : l.find? (isW x.1) = none := List.find?_eq_none.2 fun y hy => by simpa using List.any_eq_false.1 h y hy
  have e2 : [x].find? (isW x.1) = some x := by simp [isW]
  rw [List.find?_append, e, e2]
  rfl
theorem line_new {L : List Cl} (h : (L.map (·.1)).Nodup) {i : Nat} (hi : i < L.length) : hasP (L.take i) (L[i]).1 = false := has_no' fun c hc => by
  obtain ⟨q, hq, rfl⟩ := List.getElem_of_mem hc
  rw [List.length_take] at hq
  rw [List.getElem_take]
  have := List.pairwise_iff_getElem.1 h q i (by rw [List.length_map]; omega) (by rw [List.length_map]; exact hi) (by omega)
  simpa using this
theorem hld_hit {H L : List Cl} (ok : Ok (H, L)) {i : Nat} (hi : i < L.length) (hk : H.findIdx (isW (L[i]).1) < H.length) :
    idxI (isHo (L[i]).1) (hldI H L i) = (H.findIdx (isW (L[i]).1) : Int) ∧
    hldI H L (i + 1) = (hldI H L i).set (H.findIdx (isW (L[i]).1)) ((H[H.findIdx (isW (L[i]).1)]).1, (H[H.findIdx (isW (L[i]).1)]).2, (L[i]).2) := by
  have hw : (H[H.findIdx (isW (L[i]).1)]).1 = (L[i]).1 := by
    have := List.findIdx_getElem (w := hk)
    simpa [isW] using this
  have hnew := line_new ok.ndL hi
  have hbef : ∀ q, q < H.findIdx (isW (L[i]).1) → ∀ hq : q < H.length, (H[q]).1 ≠ (L[i]).1 := fun q hq hql => by
    have := List.not_of_lt_findIdx hq
    simpa [isW] using this
  have hoth : ∀ q (hq : q < H.length), q ≠ H.findIdx (isW (L[i]).1) → (H[q]).1 ≠ (L[i]).1 := fun q hq hne e => by
    rw [← hw] at e
    rcases Nat.lt_or_gt_of_ne hne with h | h
    · have := List.pairwise_iff_getElem.1 ok.ndH q _ (by rw [List.length_map]; exact hq) (by rw [List.length_map]; exact hk) h
      simp only [List.getElem_map] at this
      exact this e
    · have := List.pairwise_iff_getElem.1 ok.ndH _ q (by rw [List.length_map]; exact hk) (by rw [List.length_map]; exact hq) h
      simp only [List.getElem_map] at this
      exact this e.symm
  have hhas : hasP H (L[i]).1 = true := by
    unfold hasP
    rw [List.any_eq_true]
    exact ⟨_, List.getElem_mem hk, List.findIdx_getElem⟩
  have hz : (modeP H (L[i]).1 == 0) = false := by
    have := mode_zero ok.mH (L[i]).1
    simp only at this
    rw [this, hhas]; rfl
  generalize H.findIdx (isW (L[i]).1) = k at *
  constructor
  · refine idx_hit (by unfold hldI; rw [List.length_append, List.length_map]; omega) ?_ fun q hq => ?_
    · unfold hldI
      rw [List.getElem_append_left (by rw [List.length_map]; exact hk), List.getElem_map]
      show ((H[k]).1 == (L[i]).1) = true
      rw [hw]; simp
    · unfold hldI
      rw [List.getElem_append_left (by rw [List.length_map]; omega), List.getElem_map]
      show ((H[q]).1 == (L[i]).1) = false
      simpa using hbef q hq (by omega)
  · unfold hldI
    rw [List.set_append_left _ _ (by rw [List.length_map]; exact hk), List.take_succ_eq_append_getElem hi, List.filter_append]
    have e1 : [L[i]].filter (fun c => modeP H c.1 == 0) = [] := by simp [hz]
    rw [e1, List.append_nil]
    congr 1
    refine List.ext_getElem (by simp) fun q h1 h2 => ?_
    rw [List.length_map] at h1
    rw [List.getElem_map, List.getElem_set]
    split
    · rename_i hkq
      subst hkq
      show ((H[k]).1, (H[k]).2, modeP (L.take i ++ [L[i]]) (H[k]).1) = _
      rw [hw, mode_snoc_eq hnew]
    · rename_i hkq
      rw [List.getElem_map]
      show ((H[q]).1, (H[q]).2, modeP (L.take i ++ [L[i]]) (H[q]).1) = ((H[q]).1, (H[q]).2, modeP (L.take i) (H[q]).1)
      rw [mode_snoc_ne (hoth q h1 (fun e => hkq e.symm)).symm]
theorem hld_miss {H L : List Cl} (ok : Ok (H, L)) {i : Nat} (hi : i < L.length) (hh : hasP H (L[i]).1 = false) :
    idxI (isHo (L[i]).1) (hldI H L i) = -1 ∧ hldI H L (i + 1) = hldI H L i ++ [lnA L[i]] := by
  have hnew := line_new ok.ndL hi
  have hH : ∀ c ∈ H, c.1 ≠ (L[i]).1 := not_has hh
  have hL : ∀ c ∈ L.take i, c.1 ≠ (L[i]).1 := not_has hnew
  have hz : (modeP H (L[i]).1 == 0) = true := by
    have := mode_zero ok.mH (L[i]).1
    simp only at this
    rw [this, hh]; rfl
  constructor
  · refine idx_miss fun q hq => ?_
    have hm := List.getElem_mem hq
    show ((hldI H L i)[q].1 == (L[i]).1) = false
    rw [beq_eq_false_iff_ne]
    rcases List.mem_append.1 hm with hm | hm
    · obtain ⟨c, hc, e⟩ := List.mem_map.1 hm
      rw [← e]; exact hH c hc
    · obtain ⟨c, hc, e⟩ := List.mem_map.1 hm
      rw [← e]; exact hL c (List.mem_filter.1 hc).1
  · unfold hldI
    rw [List.take_succ_eq_append_getElem hi, List.filter_append]
    have e1 : [L[i]].filter (fun c => modeP H c.1 == 0) = [L[i]] := by simp [hz]
    have e2 : H.map (holdsA (L.take i ++ [L[i]])) = H.map (holdsA (L.take i)) := List.map_congr_left fun c hc => by
      unfold holdsA
      rw [mode_snoc_ne (hH c hc).symm]
    rw [e1, e2, List.map_append, ← List.append_assoc]
    rfl
theorem hld_at {H : List Cl} {k : Nat} (L : List Cl) (i : Nat) (hk : k < H.length) : ∃ h : k < (hldI H L i).length, (hldI H L i)[k] = ((H[k]).1, (H[k]).2, modeP (L.take i) (H[k]).1) := by
  refine List.getElem?_eq_some_iff.1 ?_
  unfold hldI
  rw [List.getElem?_append_left (by rw [List.length_map]; exact hk), List.getElem?_map, List.getElem?_eq_getElem hk]
  rfl
theorem hld_length (H L : List Cl) (i : Nat) : (hldI H L i).length ≤ H.length + L.length := by
  unfold hldI
  rw [List.length_append, List.length_map, List.length_map]
  have := List.length_filter_le (fun c => modeP H c.1 == 0) (L.take i)
  rw [List.length_take] at this
  omega
end Go.Proofs.YtnjhhndggfjjdaaGreatDoor
namespace Go.Proofs.YtnjhhndggfjjdaaGreatDoor
open Go.RowKit
theorem mode_ (n : Int) (w : World) : Calls Tryz.prog 29 #[.int .i64 n] w fun e w' => e = .returned (.int .i64 (mdN n : Int)) ∧ w = w' := by
  by_cases h : n < 0 ∨ 5 < n
  · have e := mdN_out h
    rw [e]
    go_enter Tryz.func29, Tryz.ntmps29
    rcases h with h | h
    · go_wp2
      go_ret
      exact ⟨rfl, rfl⟩
    · by_cases h0 : n < 0
      · omega
      · go_wp2
        go_ret
        exact ⟨rfl, rfl⟩
  · have e := mdN_in h
    rw [e]
    have h1 : ¬ n < 0 := by omega
    have h2 : ¬ 5 < n := by omega
    go_enter Tryz.func29, Tryz.ntmps29
    go_wp2
    go_ret
    exact ⟨rfl, rfl⟩
def fitS (p : Nat) : ByteArray := ⟨fitR p⟩
theorem fit_cell (w : World) {p : Nat} (hp : p < 6) : (w.alloc (.cells #[.string ⟨#[49, 49, 49, 49, 49, 49]⟩, .string ⟨#[49, 49, 49, 49, 49, 48]⟩, .string ⟨#[49, 49, 49, 48, 48, 48]⟩, .string ⟨#[49, 49, 48, 49, 48, 48]⟩, .string ⟨#[49, 49, 48, 48, 48, 48]⟩, .string ⟨#[49, 48, 48, 48, 48, 48]⟩] 9)).cell? ⟨w.heap.size, p, none⟩ = some (.string (fitS p)) := by
  rw [(Blk.new w _ _).cell]
  match p, hp with
  | 0, _ | 1, _ | 2, _ | 3, _ | 4, _ | 5, _ => rfl
theorem byte_is {S : ByteArray} {q : Nat} {b : Bool} (hq : q < S.size) (h : S.data[q]? = some (if b then 49 else 48)) : ((S[q].toNat : Int) == 49) = b := by
  obtain ⟨_, e⟩ := Array.getElem?_eq_some_iff.1 h
  have e2 : S[q] = if b then 49 else 48 := e
  rw [e2]
  cases b <;> rfl
theorem ref_fits (a b : Int) (w : World) : Calls Tryz.prog 69 #[.int .i64 a, .int .i64 b] w fun e w' => e = .returned (.bool (fitB (mdN a) (mdN b))) ∧ Below w.heap.size w w' := by
  have hp := mdN_lt a
  have hq := mdN_lt b
  have hk := fun w => (mode_ a w).mono (fun _ _ h => (⟨h.1, h.2.symm⟩ : _ ∧ _ = w))
  have hk2 := fun w => (mode_ b w).mono (fun _ _ h => (⟨h.1, h.2.symm⟩ : _ ∧ _ = w))
  generalize mdN a = p at *
  generalize mdN b = q at *
  have HK := Lib.hid hk
  have HK2 := Lib.hid hk2
  have hp2 : (p : Int) < 6 := by omega
  have hq2 : (q : Int) < 6 := by omega
  have hs : (fitS p).size = 6 := fitR_size hp
  have hg : (fitS p).data[q]? = some (if fitB p q then 49 else 48) := fitR_eq hp hq
  have c1 := fit_cell w hp
  generalize fitS p = S at *
  have HG := Lib.hid hg
  clear hk hk2 hg
  have hb := alloc_below w (.cells #[.string ⟨#[49, 49, 49, 49, 49, 49]⟩, .string ⟨#[49, 49, 49, 49, 49, 48]⟩, .string ⟨#[49, 49, 49, 48, 48, 48]⟩, .string ⟨#[49, 49, 48, 49, 48, 48]⟩, .string ⟨#[49, 49, 48, 48, 48, 48]⟩, .string ⟨#[49, 48, 48, 48, 48, 48]⟩] 9)
  have HB := Lib.hid hb
  clear hb
  go_enter Tryz.func69, Tryz.ntmps69
  go_wp2_with fail
  generalize (w.alloc _) = W1 at *
  go_quiet (first | (go_at_call_of 29 a; refine Calls.quiet_of_same (HK.out _)) | (go_at_call_of 29 b; refine Calls.quiet_of_same (HK2.out _)))
  go_wp2_with fail
  go_ret
  exact ⟨congrArg (fun x => Ending.returned (Value.bool x)) (byte_is _ HG.out), below_drewN HB.out _⟩
def covS (p : Nat) : ByteArray := ⟨covR p⟩
theorem cov_cell (w : World) {p : Nat} (hp : p < 6) : (w.alloc (.cells #[.string ⟨#[49, 48, 48, 48, 48, 48]⟩, .string ⟨#[49, 49, 48, 48, 48, 48]⟩, .string ⟨#[49, 49, 49, 48, 48, 48]⟩, .string ⟨#[49, 49, 48, 49, 48, 48]⟩, .string ⟨#[49, 49, 49, 49, 49, 48]⟩, .string ⟨#[49, 49, 49, 49, 49, 49]⟩] 9)).cell? ⟨w.heap.size, p, none⟩ = some (.string (covS p)) := by
  rw [(Blk.new w _ _).cell]
  match p, hp with
  | 0, _ | 1, _ | 2, _ | 3, _ | 4, _ | 5, _ => rfl
theorem ref_covers (a b : Int) (w : World) : Calls Tryz.prog 57 #[.int .i64 a, .int .i64 b] w fun e w' => e = .returned (.bool (covB (mdN a) (mdN b))) ∧ Below w.heap.size w w' := by
  have hp := mdN_lt a
  have hq := mdN_lt b
  have hk := fun w => (mode_ a w).mono (fun _ _ h => (⟨h.1, h.2.symm⟩ : _ ∧ _ = w))
  have hk2 := fun w => (mode_ b w).mono (fun _ _ h => (⟨h.1, h.2.symm⟩ : _ ∧ _ = w))
  generalize mdN a = p at *
  generalize mdN b = q at *
  have HK := Lib.hid hk
  have HK2 := Lib.hid hk2
  have hp2 : (p : Int) < 6 := by omega
  have hq2 : (q : Int) < 6 := by omega
  have hs : (covS p).size = 6 := covR_size hp
  have hg : (covS p).data[q]? = some (if covB p q then 49 else 48) := covR_eq hp hq
  have c1 := cov_cell w hp
  generalize covS p = S at *
  have HG := Lib.hid hg
  clear hk hk2 hg
  have hb := alloc_below w (.cells #[.string ⟨#[49, 48, 48, 48, 48, 48]⟩, .string ⟨#[49, 49, 48, 48, 48, 48]⟩, .string ⟨#[49, 49, 49, 48, 48, 48]⟩, .string ⟨#[49, 49, 48, 49, 48, 48]⟩, .string ⟨#[49, 49, 49, 49, 49, 48]⟩, .string ⟨#[49, 49, 49, 49, 49, 49]⟩] 9)
  have HB := Lib.hid hb
  clear hb
  go_enter Tryz.func57, Tryz.ntmps57
  go_wp2_with fail
  generalize (w.alloc _) = W1 at *
  go_quiet (first | (go_at_call_of 29 a; refine Calls.quiet_of_same (HK.out _)) | (go_at_call_of 29 b; refine Calls.quiet_of_same (HK2.out _)))
  go_wp2_with fail
  go_ret
  exact ⟨congrArg (fun x => Ending.returned (Value.bool x)) (byte_is _ HG.out), below_drewN HB.out _⟩
def JoinG (w : World) (p q : Nat) (m : Nat) (i : Value) (wr : World) : Prop := ∃ j, j + m = 6 ∧ i = .int .i64 (j : Int) ∧ (∀ k, k < j → ¬ (covB k p = true ∧ covB k q = true)) ∧ Below w.heap.size w wr
theorem join_is {p q j : Nat} (hp : p < 6) (hq : q < 6) (hj : j < 6) (h : ∀ k, k < j → ¬ (covB k p = true ∧ covB k q = true)) (h1 : covB j p = true) (h2 : covB j q = true) : joinN p q = j := by
  have : ∀ p q j : Fin 6, (∀ k : Fin 6, k.1 < j.1 → ¬ (covB k p = true ∧ covB k q = true)) → covB j p = true → covB j q = true → joinN p q = j.1 := by decide
  exact this ⟨p, hp⟩ ⟨q, hq⟩ ⟨j, hj⟩ (fun k hk => h k.1 hk) h1 h2
set_option maxHeartbeats 400000 in
theorem ref_join (a b : Int) (w : World) : Calls Tryz.prog 58 #[.int .i64 a, .int .i64 b] w fun e w' => e = .returned (.int .i64 (joinN (mdN a) (mdN b) : Int)) ∧ Below w.heap.size w w' := by
  have hp := mdN_lt a
  have hq := mdN_lt b
  have ha := fun m W => ref_covers m a W
  have hb := fun m W => ref_covers m b W
  generalize mdN a = p at *
  generalize mdN b = q at *
  have HA := Lib.hid ha
  have HB := Lib.hid hb
  clear ha hb
  go_enter Tryz.func58, Tryz.ntmps58
  go_wp2_with fail
  go_loopg [5] 6 (fun m i wr => JoinG w p q m i wr)
  case atStart => exact ⟨0, rfl, rfl, fun k hk => absurd hk (Nat.not_lt_zero k), Below.refl _ _⟩
  case round =>
    obtain ⟨j, hj, rfl, h1, hbe⟩ := hrel
    have HJ := Lib.hid hj
    have H1 := Lib.hid h1
    have HBE := Lib.hid hbe
    clear hj h1 hbe
    have hlt : j < 6 := by
      rcases Nat.lt_or_ge j 6 with h | h
      · exact h
      · exact absurd ⟨covB_five p hp, covB_five q hq⟩ (H1.out 5 (by omega))
    have hl5 : (j : Int) ≤ 5 := by omega
    have hm : mdN (j : Int) = j := mdN_of hlt
    have hA := HA.out j
    have hB := HB.out j
    rw [hm] at hA hB
    have h2 : ¬ (covB j p = true ∧ covB j q = true) → ∀ k, k < j + 1 → ¬ (covB k p = true ∧ covB k q = true) := fun h k hk => by
      rcases Nat.lt_or_ge k j with h5 | h5
      · exact H1.out k h5
      · obtain rfl : k = j := by omega
        exact h
    have h3 : covB j p = true → covB j q = true → joinN p q = j := fun h h' => join_is hp hq hlt H1.out h h'
    have HA2 := Lib.hid hA
    have HB2 := Lib.hid hB
    have H2 := Lib.hid h2
    have H3 := Lib.hid h3
    clear hA hB h2 h3 hm
    generalize hcp : covB j p = x at *
    generalize hcq : covB j q = y at *
    cases x
    · go_wp2_with fail
      refine (HA2.out _).mono ?_
      rintro e w' ⟨rfl, hb1⟩
      have HB1 := Lib.hid (HBE.out.trans (hb1.mono HBE.out.size))
      clear hb1
      go_wp2_with fail
      go_roundg (6 - (j + 1))
      case measure => have := HJ.out; omega
      case rel => exact ⟨j + 1, by omega, by go_num, H2.out (by simp), HB1.out⟩
    · cases y
      · go_wp2_with fail
        refine (HA2.out _).mono ?_
        rintro e w' ⟨rfl, hb1⟩
        have HB1 := Lib.hid (HBE.out.trans (hb1.mono HBE.out.size))
        clear hb1
        go_wp2_with fail
        refine (HB2.out _).mono ?_
        rintro e w'' ⟨rfl, hb2⟩
        have HB3 := Lib.hid (HB1.out.trans (hb2.mono HB1.out.size))
        clear hb2
        go_wp2_with fail
        go_roundg (6 - (j + 1))
        case measure => have := HJ.out; omega
        case rel => exact ⟨j + 1, by omega, by go_num, H2.out (by simp), HB3.out⟩
      · go_wp2_with fail
        refine (HA2.out _).mono ?_
        rintro e w' ⟨rfl, hb1⟩
        have HB1 := Lib.hid (HBE.out.trans (hb1.mono HBE.out.size))
        clear hb1
        go_wp2_with fail
        refine (HB2.out _).mono ?_
        rintro e w'' ⟨rfl, hb2⟩
        have HB3 := Lib.hid (HB1.out.trans (hb2.mono HB1.out.size))
        clear hb2
        go_wp2_with fail
        go_ret
        exact ⟨by rw [H3.out (by simp) (by simp)]; rfl, HB3.out⟩
end Go.Proofs.YtnjhhndggfjjdaaGreatDoor
namespace Go.Proofs.YtnjhhndggfjjdaaGreatDoor
open Go.RowKit
/-- the document's lock at block b has these two slices -/
def RTwo (w : World) (b : Nat) (vH vL : Value) : Prop := Blk w b 73 #[vH, vL]
theorem RTwo.c0 {w : World} {b : Nat} {vH vL : Value} (h : RTwo w b vH vL) : w.cell? ⟨b, 0, none⟩ = some vH := Blk.cell h 0
theorem RTwo.c1 {w : World} {b : Nat} {vH vL : Value} (h : RTwo w b vH vL) : w.cell? ⟨b, 1, none⟩ = some vL := Blk.cell h 1
theorem RTwo.lt {w : World} {b : Nat} {vH vL : Value} (h : RTwo w b vH vL) : b < w.heap.size := Blk.lt h
theorem RTwo.below {w w' : World} {B b : Nat} {vH vL : Value} (h : RTwo w b vH vL) (k : Below B w w') (hb : b < B) : RTwo w' b vH vL := Blk.below h k hb
def FitR (w : World) (H : List Cl) (x : Cl) (k : Nat) (i : Value) (wr : World) : Prop := ∃ j, j + k = H.length ∧ i = .int .i64 (j : Int) ∧ (∀ q (hq : q < j) (hl : q < H.length), inwayP H[q] x = false) ∧ Below w.heap.size w wr
set_option maxHeartbeats 1000000 in
theorem rfits_ {w : World} {b : Nat} {vL : Value} {K : Nat → Prop} {A : Option Addr} {n c : Nat} {H : List Cl} (h2 : RTwo w b (.slice A n c) vL) (h : Lst w K eH A (H.map hdA)) (hl : H.length = n) (hn : n ≤ 1000000) (hm : ∀ c ∈ H, 0 < c.2 ∧ c.2 < 6) (x : Cl) (hx : x.2 < 6) :
    Calls Tryz.prog 59 #[.pointer (some ⟨b, 0, none⟩), .int .i64 x.1, .int .i64 (x.2 : Int)] w fun e w' => e = .returned (.bool (fitsP H x)) ∧ Below w.heap.size w w' := by
  have HH := Lib.hid h
  have HL := Lib.hid hl
  have H2 := Lib.hid h2
  have HM := Lib.hid hm
  obtain ⟨x1, x2⟩ := x
  simp only at hx ⊢
  clear h hl h2 hm
  go_enter Tryz.func59, Tryz.ntmps59
  go_wp2_with fail
  go_loopg [7] n (fun k i wr => FitR w H (x1, x2) k i wr)
  case atStart => exact ⟨0, by rw [HL.out]; omega, rfl, fun q hq => absurd hq (Nat.not_lt_zero q), Below.refl _ _⟩
  case round =>
    obtain ⟨j, hj, rfl, h1, hb⟩ := hrel
    have HJ := Lib.hid hj
    have HB := Lib.hid hb
    have H1 := Lib.hid h1
    clear hj hb h1
    have b0 := (H2.out.below HB.out H2.out.lt).c0
    by_cases hlt : j < n
    · have hxl : j < H.length := by rw [HL.out]; exact hlt
      have hxm : j < (H.map hdA).length := by rw [List.length_map]; exact hxl
      have hmm := HM.out _ (List.getElem_mem hxl)
      obtain ⟨g, o, rfl, _, c0, c1, c2⟩ := (HH.out.below HB.out).atH hxm
      rw [List.getElem_map] at c0 c1
      have d0 : wr.cell? ⟨g, o + j * 3, none⟩ = some (.int .i64 (H[j]).1) := c0
      have d1 : wr.cell? ⟨g, o + j * 3 + 1, none⟩ = some (.int .i64 ((H[j]).2 : Int)) := c1
      clear c0 c1 c2
      have hnx : inwayP H[j] (x1, x2) = false → ∀ q (hq : q < j + 1) (hl : q < H.length), inwayP H[q] (x1, x2) = false := fun h q hq hql => by
        rcases Nat.lt_or_ge q j with h5 | h5
        · exact H1.out q h5 hql
        · obtain rfl : q = j := by omega
          exact h
      have hbad : inwayP H[j] (x1, x2) = true → fitsP H (x1, x2) = false := fun h => by
        unfold fitsP
        rw [Bool.not_eq_false', List.any_eq_true]
        exact ⟨_, List.getElem_mem hxl, h⟩
      have HN := Lib.hid hnx
      have HBAD := Lib.hid hbad
      have hrf := fun W => ref_fits (x2 : Int) ((H[j]).2 : Int) W
      rw [mdN_of hx, mdN_of hmm.2, fit_comm hx hmm.2] at hrf
      clear hnx hbad
      by_cases hw : (H[j]).1 = x1
      · have hi : inwayP H[j] (x1, x2) = false := by simp [inwayP, hw]
        have HNX := Lib.hid (HN.out hi)
        rw [hw] at d0
        have e0 : (x1 != x1) = false := by simp
        clear hi hw hrf hmm HN HBAD
        go_wp2_with fail
        go_roundg (n - (j + 1))
        case measure => have := HJ.out; have := HL.out; omega
        case rel => exact ⟨j + 1, by rw [HL.out]; omega, by go_num, HNX.out, HB.out⟩
      · have hwb : ((H[j]).1 != x1) = true := by simpa using hw
        have hi : inwayP H[j] (x1, x2) = !fitB (H[j]).2 x2 := by simp [inwayP, hw]
        rw [hi] at HN HBAD
        have HRF := Lib.hid hrf
        clear hi hw hrf hmm
        generalize (H[j]).1 = y1 at *
        generalize (H[j]).2 = y2 at *
        generalize fitB y2 x2 = f at *
        go_wp2_with fail
        refine (HRF.out _).mono ?_
        rintro e w4 ⟨rfl, hb4⟩
        have HB4 := Lib.hid (HB.out.trans (hb4.mono HB.out.size))
        clear hb4 HRF
        cases f with
        | true =>
          go_wp2_with fail
          go_roundg (n - (j + 1))
          case measure => have := HJ.out; have := HL.out; omega
          case rel => exact ⟨j + 1, by rw [HL.out]; omega, by go_num, HN.out rfl, HB4.out⟩
        | false =>
          have HE := Lib.hid (HBAD.out rfl)
          clear HBAD HN
          go_wp2_with fail
          go_ret
          exact ⟨by rw [HE.out]; rfl, HB4.out⟩
    · have hjn : j = n := by have := HJ.out; have := HL.out; omega
      have he : fitsP H (x1, x2) = true := by
        unfold fitsP
        rw [Bool.not_eq_true', List.any_eq_false]
        intro c hc
        obtain ⟨q, hq, rfl⟩ := List.getElem_of_mem hc
        rw [H1.out q (by have := HL.out; omega) hq]
        simp
      have HE := Lib.hid he
      clear he
      subst hjn
      go_wp2_with fail
      go_ret
      exact ⟨by rw [HE.out]; rfl, HB.out⟩
end Go.Proofs.YtnjhhndggfjjdaaGreatDoor
