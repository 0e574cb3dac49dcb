/- Plain facts: numbers put one by one into a row that rises. The document's Waits, walked. One cell of a row of the call's own stored. The document's Holds, walked. The document's lock, one word for what a law carries of it. -/
import Derived.Test.YtnjhhndggfjjdaaGreatDoorJ10
import Derived.Test.YtnjhhndggfjjdaaGreatDoorJ11
import Derived.Deep.RegionHeld3
import Derived.Test.YtnjhhndggfjjdaaGreatDoorJ09
set_option maxRecDepth 4000
namespace Go.Proofs.YtnjhhndggfjjdaaGreatDoor
open Go
theorem spot_before {l : List Int} {x : Int} {q : Nat} (hq : q < spotI l x) (hl : q < l.length) : l[q] < x := by
  have := List.not_of_lt_findIdx hq
  simpa using this
theorem spot_hit {l : List Int} {x : Int} (h : spotI l x < l.length) : x ≤ l[spotI l x] := by
  have := List.findIdx_getElem (w := h)
  exact of_decide_eq_true this
theorem ins_mem {l : List Int} {x y : Int} : y ∈ insI l x ↔ y = x ∨ y ∈ l := by
  unfold insI
  split
  · rename_i h
    have hm : x ∈ l := List.mem_of_getElem? h
    constructor
    · exact .inr
    · rintro (rfl | h)
      · exact hm
      · exact h
  · have hs : y ∈ l ↔ y ∈ l.take (spotI l x) ∨ y ∈ l.drop (spotI l x) := by
      rw [← List.mem_append, List.take_append_drop]
    rw [List.mem_append, List.mem_cons, hs]
    constructor
    · rintro (h | h | h)
      · exact .inr (.inl h)
      · exact .inl h
      · exact .inr (.inr h)
    · rintro (h | h | h)
      · exact .inr (.inl h)
      · exact .inl h
      · exact .inr (.inr h)
theorem ins_rises {l : List Int} {x : Int} (h : l.Pairwise (· < ·)) : (insI l x).Pairwise (· < ·) := by
  unfold insI
  split
  · exact h
  · rename_i hne
    have hp := h
    rw [← List.take_append_drop (spotI l x) l, List.pairwise_append] at hp
    have hbef : ∀ a ∈ l.take (spotI l x), a < x := fun a ha => by
      obtain ⟨q, hq, rfl⟩ := List.getElem_of_mem ha
      rw [List.length_take] at hq
      rw [List.getElem_take]
      exact spot_before (by omega) (by omega)
    have haft : ∀ a ∈ l.drop (spotI l x), x < a := fun a ha => by
      obtain ⟨q, hq, rfl⟩ := List.getElem_of_mem ha
      rw [List.length_drop] at hq
      have hs : spotI l x < l.length := by omega
      have h1 := spot_hit hs
      have h2 : l[spotI l x] ≠ x := fun e => hne (by rw [List.getElem?_eq_getElem hs, e])
      rw [List.getElem_drop]
      rcases Nat.eq_zero_or_pos q with h0 | h0
      · subst h0
        simp only [Nat.add_zero]
        omega
      · have := List.pairwise_iff_getElem.1 h (spotI l x) (spotI l x + q) hs (by omega) (by omega)
        omega
    rw [List.pairwise_append]
    refine ⟨hp.1, List.pairwise_cons.2 ⟨haft, hp.2.1⟩, fun a ha c hc => ?_⟩
    rcases List.mem_cons.1 hc with rfl | hc
    · exact hbef a ha
    · exact Int.lt_trans (hbef a ha) (haft c hc)
def foldI (zs : List Int) : List Int := zs.foldl insI []
theorem foldl_rises (zs : List Int) : ∀ {l : List Int}, l.Pairwise (· < ·) → (zs.foldl insI l).Pairwise (· < ·) := by
  induction zs with
  | nil => exact fun h => h
  | cons z r ih => exact fun h => ih (ins_rises h)
theorem foldl_mem (zs : List Int) : ∀ {l : List Int} {y : Int}, y ∈ zs.foldl insI l ↔ y ∈ zs ∨ y ∈ l := by
  induction zs with
  | nil => intro l y; simp
  | cons z r ih =>
    intro l y
    rw [List.foldl_cons, ih, ins_mem, List.mem_cons]
    constructor
    · rintro (h | h | h)
      · exact .inl (.inr h)
      · exact .inl (.inl h)
      · exact .inr h
    · rintro ((h | h) | h)
      · exact .inr (.inl h)
      · exact .inl h
      · exact .inr (.inr h)
theorem foldI_snoc (zs : List Int) (z : Int) : foldI (zs ++ [z]) = insI (foldI zs) z := by
  unfold foldI
  rw [List.foldl_append]
  rfl
theorem fold_uniq (zs : List Int) : foldI zs = uniqI zs := by
  obtain ⟨h1, h2⟩ := uniqI_spec zs
  refine rising_eq (foldl_rises zs List.Pairwise.nil) h1 fun x => ?_
  rw [h2]
  unfold foldI
  rw [foldl_mem]
  simp
theorem ins_length (l : List Int) (x : Int) : (insI l x).length ≤ l.length + 1 := by
  unfold insI
  split
  · omega
  · have := congrArg List.length (List.take_append_drop (spotI l x) l)
    simp only [List.length_append, List.length_cons] at this ⊢
    omega
theorem foldl_length (zs : List Int) : ∀ l : List Int, (zs.foldl insI l).length ≤ l.length + zs.length := by
  induction zs with
  | nil => intro l; simp
  | cons z r ih =>
    intro l
    have := ih (insI l z)
    have := ins_length l z
    simp only [List.foldl_cons, List.length_cons]
    omega
end Go.Proofs.YtnjhhndggfjjdaaGreatDoor
namespace Go.Proofs.YtnjhhndggfjjdaaGreatDoor
open Go.RowKit
theorem Lst.atHd {w : World} {K : Nat → Prop} {A : Option Addr} {l : List Cl} (h : Lst w K eH A (l.map hdA)) {j : Nat} (hj : j < l.length) :
    ∃ b o, A = some ⟨b, o, none⟩ ∧ b < w.heap.size ∧ w.cell? ⟨b, o + j * 3, none⟩ = some (.int .i64 l[j].1) ∧ w.cell? ⟨b, o + j * 3 + 1, none⟩ = some (.int .i64 (l[j].2 : Int)) ∧ w.cell? ⟨b, o + j * 3 + 2, none⟩ = some (.int .i64 0) := by
  obtain ⟨b, o, e, hl, c0, c1, c2⟩ := h.atH (j := j) (by rw [List.length_map]; exact hj)
  rw [List.getElem_map] at c0 c1 c2
  exact ⟨b, o, e, hl, c0, c1, c2⟩
theorem Lst.atLn {w : World} {K : Nat → Prop} {A : Option Addr} {l : List Cl} (h : Lst w K eH A (l.map lnA)) {j : Nat} (hj : j < l.length) :
    ∃ b o, A = some ⟨b, o, none⟩ ∧ b < w.heap.size ∧ w.cell? ⟨b, o + j * 3, none⟩ = some (.int .i64 l[j].1) ∧ w.cell? ⟨b, o + j * 3 + 1, none⟩ = some (.int .i64 0) ∧ w.cell? ⟨b, o + j * 3 + 2, none⟩ = some (.int .i64 (l[j].2 : Int)) := by
  obtain ⟨b, o, e, hl, c0, c1, c2⟩ := h.atH (j := j) (by rw [List.length_map]; exact hj)
  rw [List.getElem_map] at c0 c1 c2
  exact ⟨b, o, e, hl, c0, c1, c2⟩
def RW1 (w : World) (H : List Cl) (x : Cl) (k : Nat) (v i : Value) (wr : World) : Prop :=
  ∃ j, j + k = H.length ∧ i = .int .i64 (j : Int) ∧ Own wr w.heap.size eI 3 v (foldI (((H.take j).filter fun c => inwayP c x).map (·.1))) ∧ Below w.heap.size w wr
def RW2 (w : World) (L : List Cl) (P : List Int) (q k : Nat) (v i : Value) (wr : World) : Prop :=
  ∃ j, j + k = q ∧ i = .int .i64 (j : Int) ∧ Own wr w.heap.size eI 3 v (foldI (P ++ (L.take j).map (·.1))) ∧ Below w.heap.size w wr
theorem foldI_length (zs : List Int) : (foldI zs).length ≤ zs.length := Nat.le_trans (foldl_length zs []) (by simp)
theorem take_map_snoc {L : List Cl} {j : Nat} (h : j < L.length) : (L.take j).map (·.1) ++ [(L[j]).1] = (L.take (j + 1)).map (·.1) := by
  rw [List.take_succ_eq_append_getElem h, List.map_append]
  rfl
theorem raw_hit {H : List Cl} {j : Nat} {x : Cl} (h : j < H.length) (hk : inwayP H[j] x = true) : ((H.take (j + 1)).filter fun c => inwayP c x).map (·.1) = ((H.take j).filter fun c => inwayP c x).map (·.1) ++ [(H[j]).1] := by
  rw [List.take_succ_eq_append_getElem h, List.filter_append]
  simp [hk]
theorem raw_pass {H : List Cl} {j : Nat} {x : Cl} (h : j < H.length) (hk : inwayP H[j] x = false) : ((H.take (j + 1)).filter fun c => inwayP c x).map (·.1) = ((H.take j).filter fun c => inwayP c x).map (·.1) := by
  rw [List.take_succ_eq_append_getElem h, List.filter_append]
  simp [hk]
theorem raw_len (H : List Cl) (j : Nat) (x : Cl) : (((H.take j).filter fun c => inwayP c x).map (·.1)).length ≤ H.length := by
  rw [List.length_map]
  refine Nat.le_trans (List.length_filter_le _ _) ?_
  rw [List.length_take]
  omega
set_option maxHeartbeats 2000000 in
theorem rwaits_ {w : World} {b : Nat} {A A' : Option Addr} {K K' : Nat → Prop} {n m c c' : Nat} {H L : List Cl} (h2 : RTwo w b (.slice A n c) (.slice A' m c')) (hH : Lst w K eH A (H.map hdA)) (hL : Lst w K' eH A' (L.map lnA))
    (hn : H.length = n) (hm : L.length = m) (hn1 : n ≤ 10000) (hm1 : m ≤ 10000) (ok : Ok (H, L)) (who : Int) :
    Calls Tryz.prog 45 #[.pointer (some ⟨b, 0, none⟩), .int .i64 who] w fun e w' => ∃ v, e = .returned v ∧ Own w' w.heap.size eI 3 v (waitsP (H, L) who) ∧ Below w.heap.size w w' := by
  have hfind := rfind_ (c := c') hL (by rw [List.length_map]; exact hm) (Nat.le_trans hm1 (by omega)) who
  rw [idx_ln] at hfind
  have H2 := Lib.hid h2
  have HH := Lib.hid hH
  have HL := Lib.hid hL
  have HN := Lib.hid hn
  have HM := Lib.hid hm
  have b1 := h2.c1
  have hbs := h2.lt
  have MH := Lib.hid ok.mH
  have ML := Lib.hid ok.mL
  simp only at MH ML
  rcases idx_cases (isW who) L with ⟨e1, e2⟩ | ⟨h0, e1, e2, e3⟩
  · have hw : waitsP (H, L) who = [] := by
      unfold waitsP
      have : ¬ (L.findIdx (isW who) < L.length) := fun h => by
        have := List.any_eq_false.1 e2 _ (List.getElem_mem h)
        exact this List.findIdx_getElem
      simp only [this, dite_false]
    rw [e1] at hfind
    have HF := Lib.hid hfind
    have HW := Lib.hid hw
    clear hfind hw e1 e2 hn hm h2 hH hL ok
    go_enter Tryz.func45, Tryz.ntmps45
    go_wp2_with fail
    refine HF.out.mono ?_
    rintro e w1 ⟨rfl, hb1⟩
    go_wp2_with fail
    go_ret
    exact ⟨_, rfl, by rw [HW.out]; exact own_nil _ _, hb1⟩
  · have hw : waitsP (H, L) who = foldI (rawP (H, L) L[L.findIdx (isW who)] (L.findIdx (isW who))) := by
      unfold waitsP
      simp only [h0, dite_true]
      rw [fold_uniq]
    have hx1 : (L[L.findIdx (isW who)]).1 = who := by simpa [isW] using e3
    have hx6 := (ok.mL _ (List.getElem_mem h0)).2
    rw [e1] at hfind
    have HX := Lib.hid (HL.out.atLn h0)
    have hraw : rawP (H, L) L[L.findIdx (isW who)] (L.findIdx (isW who)) = (H.filter fun c => inwayP c L[L.findIdx (isW who)]).map (·.1) ++ (L.take (L.findIdx (isW who))).map (·.1) := rfl
    rw [hraw] at hw
    rw [hm] at h0
    generalize L[L.findIdx (isW who)] = x at *
    generalize L.findIdx (isW who) = q at *
    have HW := Lib.hid hw
    have HF := Lib.hid hfind
    clear hfind hw e1 e2 e3 hn hm h2 hH hL ok hraw
    go_enter Tryz.func45, Tryz.ntmps45
    go_wp2_with fail
    refine HF.out.mono ?_
    rintro e w1 ⟨rfl, hb1⟩
    have HB1 := Lib.hid hb1
    clear hb1 HF
    go_wp2_with fail
    go_loopg [6, 7] n (fun k v i wr => RW1 w H x k v i wr)
    case atStart => exact ⟨0, by rw [HN.out]; omega, rfl, by simpa [foldI] using own_nil _ _, HB1.out⟩
    case round =>
      obtain ⟨j, hj, rfl, ho, hb⟩ := hrel
      have HJ := Lib.hid hj
      have HB := Lib.hid hb
      have HO := Lib.hid ho
      clear hj hb ho
      have T2 := H2.out.below HB.out hbs
      have b0 := T2.c0
      have b1' := T2.c1
      clear b1
      by_cases hlt : j < n
      · have hxl : j < H.length := by rw [HN.out]; exact hlt
        obtain ⟨g, o, rfl, hg, d0, d1, _⟩ := (HH.out.below HB.out).atHd hxl
        obtain ⟨gL, oL, rfl, hgL, _, _, f2⟩ := HX.out
        have f2' := (cell_of_heap (HB.out.block gL hgL) _).trans f2
        have hgL' : gL < wr.heap.size := Nat.lt_of_lt_of_le hgL HB.out.size
        have hbr : b < wr.heap.size := Nat.lt_of_lt_of_le hbs HB.out.size
        have hy6 := (MH.out _ (List.getElem_mem hxl)).2
        have hhit := raw_hit (x := x) hxl
        have hpass := raw_pass (x := x) hxl
        have hrl := raw_len H j x
        have hiw : inwayP H[j] x = ((H[j]).1 != who && !fitB (H[j]).2 x.2) := by rw [← hx1]; rfl
        rw [hiw] at hhit hpass
        have HRL := Lib.hid hrl
        have HXK := Lib.hid hx1
        generalize hx2 : x.2 = x2 at *
        generalize (H[j]).1 = y1 at *
        generalize (H[j]).2 = y2 at *
        have HHIT := Lib.hid hhit
        have HPASS := Lib.hid hpass
        clear hhit hpass hiw hrl T2 HX
        by_cases hw : y1 = who
        · have e0 : (who != who) = false := by simp
          have hp := HPASS.out (by simp [hw])
          have HP := Lib.hid hp
          subst hw
          clear hp HHIT HPASS
          go_wp2_with fail
          go_quiet (fail)
          go_wp2_with fail
          go_roundg (n - (j + 1))
          case measure => have := HJ.out; have := HN.out; omega
          case rel => exact ⟨j + 1, by rw [HN.out]; omega, by go_num, by rw [HP.out]; exact own_belowE HO.out (below_drewN (Below.refl _ _) _), below_drewN HB.out _⟩
        have hwb : (y1 != who) = true := by simpa using hw
        cases hf : fitB y2 x2 with
        | true =>
          have HP := Lib.hid (HPASS.out (by simp [hf]))
          clear HHIT HPASS
          have hrf := fun W => ref_fits (x2 : Int) (y2 : Int) W
          rw [mdN_of hx6, mdN_of hy6, fit_comm hx6 hy6, hf] at hrf
          have HRF := Lib.hid hrf
          have hS0 : (fun W : World => W.cell? ⟨b, 0, none⟩ = some (.slice (some ⟨g, o, none⟩) n c) ∧ W.cell? ⟨b, 1, none⟩ = some (.slice (some ⟨gL, oL, none⟩) m c') ∧ W.cell? ⟨g, o + j * 3, none⟩ = some (.int .i64 y1) ∧ W.cell? ⟨g, o + j * 3 + 1, none⟩ = some (.int .i64 (y2 : Int)) ∧ W.cell? ⟨gL, oL + q * 3 + 2, none⟩ = some (.int .i64 (x2 : Int))) wr.drew := ⟨b0, b1', d0, d1, f2'⟩
          have hlt1 := hg
          have hlt2 := hgL'
          have hlt3 := hbr
          clear hrf hf f2
          go_wp2_with fail
          go_region_held3 (fun W : World => W.cell? ⟨b, 0, none⟩ = some (.slice (some ⟨g, o, none⟩) n c) ∧ W.cell? ⟨b, 1, none⟩ = some (.slice (some ⟨gL, oL, none⟩) m c') ∧ W.cell? ⟨g, o + j * 3, none⟩ = some (.int .i64 y1) ∧ W.cell? ⟨g, o + j * 3 + 1, none⟩ = some (.int .i64 (y2 : Int)) ∧ W.cell? ⟨gL, oL + q * 3 + 2, none⟩ = some (.int .i64 (x2 : Int)))
            (first | exact hS0 | exact hS1)
            (first | (go_at_call 69; refine (HRF.out _).mono ?_; rintro e w5 ⟨rfl, hb5⟩; have HB6 := Lib.hid hb5; have hS1 : (fun W : World => W.cell? ⟨b, 0, none⟩ = some (.slice (some ⟨g, o, none⟩) n c) ∧ W.cell? ⟨b, 1, none⟩ = some (.slice (some ⟨gL, oL, none⟩) m c') ∧ W.cell? ⟨g, o + j * 3, none⟩ = some (.int .i64 y1) ∧ W.cell? ⟨g, o + j * 3 + 1, none⟩ = some (.int .i64 (y2 : Int)) ∧ W.cell? ⟨gL, oL + q * 3 + 2, none⟩ = some (.int .i64 (x2 : Int))) w5 := ⟨(cell_of_heap (hb5.block b hlt3) _).trans hS0.1, (cell_of_heap (hb5.block b hlt3) _).trans hS0.2.1, (cell_of_heap (hb5.block g hlt1) _).trans hS0.2.2.1, (cell_of_heap (hb5.block g hlt1) _).trans hS0.2.2.2.1, (cell_of_heap (hb5.block gL hlt2) _).trans hS0.2.2.2.2⟩; clear hb5))
          go_wp2_with fail
          go_roundg (n - (j + 1))
          case measure => have := HJ.out; have := HN.out; omega
          case rel => exact ⟨j + 1, by rw [HN.out]; omega, by go_num, by rw [HP.out]; exact own_belowE HO.out ((Below.refl _ _).drew.trans HB6.out), HB.out.trans (((Below.refl _ _).drew.trans HB6.out).mono HB.out.size)⟩
        | false =>
          have HP := Lib.hid (HHIT.out (by simp [hf, hw]))
          clear HHIT HPASS
          have hrf := fun W => ref_fits (x2 : Int) (y2 : Int) W
          rw [mdN_of hx6, mdN_of hy6, fit_comm hx6 hy6, hf] at hrf
          have HRF := Lib.hid hrf
          have hS0 : (fun W : World => W.cell? ⟨b, 0, none⟩ = some (.slice (some ⟨g, o, none⟩) n c) ∧ W.cell? ⟨b, 1, none⟩ = some (.slice (some ⟨gL, oL, none⟩) m c') ∧ W.cell? ⟨g, o + j * 3, none⟩ = some (.int .i64 y1) ∧ W.cell? ⟨g, o + j * 3 + 1, none⟩ = some (.int .i64 (y2 : Int)) ∧ W.cell? ⟨gL, oL + q * 3 + 2, none⟩ = some (.int .i64 (x2 : Int))) wr.drew := ⟨b0, b1', d0, d1, f2'⟩
          have hlt1 := hg
          have hlt2 := hgL'
          have hlt3 := hbr
          clear hrf hf f2
          go_wp2_with fail
          go_region_held3 (fun W : World => W.cell? ⟨b, 0, none⟩ = some (.slice (some ⟨g, o, none⟩) n c) ∧ W.cell? ⟨b, 1, none⟩ = some (.slice (some ⟨gL, oL, none⟩) m c') ∧ W.cell? ⟨g, o + j * 3, none⟩ = some (.int .i64 y1) ∧ W.cell? ⟨g, o + j * 3 + 1, none⟩ = some (.int .i64 (y2 : Int)) ∧ W.cell? ⟨gL, oL + q * 3 + 2, none⟩ = some (.int .i64 (x2 : Int)))
            (first | exact hS0 | exact hS1)
            (first | (go_at_call 69; refine (HRF.out _).mono ?_; rintro e w5 ⟨rfl, hb5⟩; have HB6 := Lib.hid hb5; have hS1 : (fun W : World => W.cell? ⟨b, 0, none⟩ = some (.slice (some ⟨g, o, none⟩) n c) ∧ W.cell? ⟨b, 1, none⟩ = some (.slice (some ⟨gL, oL, none⟩) m c') ∧ W.cell? ⟨g, o + j * 3, none⟩ = some (.int .i64 y1) ∧ W.cell? ⟨g, o + j * 3 + 1, none⟩ = some (.int .i64 (y2 : Int)) ∧ W.cell? ⟨gL, oL + q * 3 + 2, none⟩ = some (.int .i64 (x2 : Int))) w5 := ⟨(cell_of_heap (hb5.block b hlt3) _).trans hS0.1, (cell_of_heap (hb5.block b hlt3) _).trans hS0.2.1, (cell_of_heap (hb5.block g hlt1) _).trans hS0.2.2.1, (cell_of_heap (hb5.block g hlt1) _).trans hS0.2.2.2.1, (cell_of_heap (hb5.block gL hlt2) _).trans hS0.2.2.2.2⟩; clear hb5))
          have hbd := (Below.refl wr.heap.size wr).drew.trans HB6.out
          have hi := rinsert_ (own_belowE HO.out hbd) (Nat.le_trans HB.out.size hbd.size) (Nat.le_trans (foldI_length _) (Nat.le_trans HRL.out (by rw [HN.out]; omega))) y1
          rw [← foldI_snoc, ← HP.out] at hi
          have HI := Lib.hid hi
          have HBD := Lib.hid (HB.out.trans (hbd.mono HB.out.size))
          clear hi hbd
          obtain ⟨hs0, hs1, hs2, _, _⟩ := hS1
          go_wp2_with fail
          refine HI.out.mono ?_
          rintro e w6 ⟨v6, rfl, ho6, hb6⟩
          have HO6 := Lib.hid ho6
          have HB7 := Lib.hid (HBD.out.trans (hb6.mono HBD.out.size))
          clear ho6 hb6
          go_wp2_with fail
          go_roundg (n - (j + 1))
          case measure => have := HJ.out; have := HN.out; omega
          case rel => exact ⟨j + 1, by rw [HN.out]; omega, by go_num, HO6.out, HB7.out⟩
      · have hjn : j = n := by have := HJ.out; have := HN.out; omega
        subst hjn
        have ho := HO.out
        rw [List.take_of_length_le (by rw [HN.out]; exact Nat.le_refl _)] at ho
        have HO2 := Lib.hid ho
        clear ho HO
        go_wp2_with fail
        go_loopg [6, 8] q (fun k v i wr => RW2 w L ((H.filter fun c => inwayP c x).map (·.1)) q k v i wr)
        case atStart => exact ⟨0, by omega, rfl, by simpa using HO2.out, HB.out⟩
        case round =>
          clear HO2 HB T2 b0 b1'
          obtain ⟨j2, hj, rfl, ho, hb⟩ := hrel
          have HJ2 := Lib.hid hj
          have HB := Lib.hid hb
          have HO := Lib.hid ho
          clear hj hb ho
          have b1 := (H2.out.below HB.out hbs).c1
          by_cases hlt2 : j2 < q
          · have hxl : j2 < L.length := by rw [HM.out]; omega
            obtain ⟨g, o, rfl, _, d0, _, _⟩ := (HL.out.below HB.out).atLn hxl
            have hlen : (foldI ((H.filter fun c => inwayP c x).map (·.1) ++ (L.take j2).map (·.1))).length ≤ 100000 := by
              refine Nat.le_trans (foldI_length _) ?_
              rw [List.length_append, List.length_map, List.length_map, List.length_take]
              have := List.length_filter_le (fun c => inwayP c x) H
              have := HN.out
              omega
            have hi := rinsert_ HO.out HB.out.size hlen (L[j2]).1
            rw [← foldI_snoc, List.append_assoc, take_map_snoc hxl] at hi
            have HI := Lib.hid hi
            clear hi hlen HX
            generalize (L[j2]).1 = y at *
            go_wp2_with fail
            refine HI.out.mono ?_
            rintro e w4 ⟨v4, rfl, ho4, hb4⟩
            have HO4 := Lib.hid ho4
            have HB4 := Lib.hid (HB.out.trans (hb4.mono HB.out.size))
            clear ho4 hb4 HI HO d0
            go_wp2_with fail
            go_roundg (q - (j2 + 1))
            case measure => have := HJ2.out; omega
            case rel => exact ⟨j2 + 1, by omega, by go_num, HO4.out, HB4.out⟩
          · have hjq : j2 = q := by have := HJ2.out; omega
            subst hjq
            have HO4 := Lib.hid HO.out
            clear HO
            go_wp2_with fail
            go_ret
            exact ⟨_, rfl, by rw [HW.out]; exact HO4.out, HB.out⟩
end Go.Proofs.YtnjhhndggfjjdaaGreatDoor
namespace Go.Proofs.YtnjhhndggfjjdaaGreatDoor
open Go.RowKit
theorem own_set1 {α : Type} {E : Enc α} {T : TypeId} {W : World} {base g n c : Nat} {ys : List α} (h : Own W base E T (.slice (some ⟨g, 0, none⟩) n c) ys) {q : Nat} (hq : q < ys.length) (x : α) {i : Nat} {u : Value} (hi : i < E.k) (hx : E.enc x = (E.enc ys[q]).set i u) :
    Own (W.setCell ⟨g, q * E.k + i, none⟩ u) base E T (.slice (some ⟨g, 0, none⟩) n c) (ys.set q x) := by
  rcases h.2 with ⟨e, _⟩ | ⟨g', cap, cur, e, hb, hh, hnc, hcm, hcs, htk⟩
  · cases e
  · injection e with e1 e2 e3
    injection e1 with e1
    injection e1 with e1 _ _
    subst e1 e2 e3
    have hy : ys = ys.take q ++ ys[q] :: ys.drop (q + 1) := by rw [← List.drop_eq_getElem_cons hq, List.take_append_drop]
    have hs : ys.set q x = ys.take q ++ x :: ys.drop (q + 1) := by
      rw [List.set_eq_take_append_cons_drop, if_pos hq]
    have hcur : cur.toList = cellsE E (ys.take q) ++ E.enc ys[q] ++ (cellsE E (ys.drop (q + 1)) ++ cur.toList.drop (ys.length * E.k)) := by
      have hce : cellsE E ys = cellsE E (ys.take q) ++ (E.enc ys[q] ++ cellsE E (ys.drop (q + 1))) := by
        conv => lhs; rw [hy, cellsE_append, cellsE]
      conv => lhs; rw [← List.take_append_drop (ys.length * E.k) cur.toList, htk, hce]
      simp only [List.append_assoc]
    have hpl : (cellsE E (ys.take q)).length = q * E.k := by rw [cellsE_length, List.length_take, Nat.min_eq_left (by omega)]
    have hb0 : Blk W g T (cellsE E (ys.take q) ++ E.enc ys[q] ++ (cellsE E (ys.drop (q + 1)) ++ cur.toList.drop (ys.length * E.k))).toArray := by
      rw [← hcur]; exact hh
    have hlen : (E.enc ys[q]).length = E.k := E.len _
    have hei : E.enc ys[q] = (E.enc ys[q]).take i ++ [(E.enc ys[q])[i]'(by omega)] ++ (E.enc ys[q]).drop (i + 1) := by
      rw [List.append_assoc, List.singleton_append, ← List.drop_eq_getElem_cons (by omega), List.take_append_drop]
    have hexi : E.enc x = (E.enc ys[q]).take i ++ [u] ++ (E.enc ys[q]).drop (i + 1) := by
      rw [hx, List.set_eq_take_append_cons_drop, if_pos (by omega), List.append_assoc, List.singleton_append]
    have hb2 : Blk W g T ((cellsE E (ys.take q) ++ (E.enc ys[q]).take i) ++ [(E.enc ys[q])[i]'(by omega)] ++ ((E.enc ys[q]).drop (i + 1) ++ (cellsE E (ys.drop (q + 1)) ++ cur.toList.drop (ys.length * E.k)))).toArray := by
      have : (cellsE E (ys.take q) ++ (E.enc ys[q]).take i) ++ [(E.enc ys[q])[i]'(by omega)] ++ ((E.enc ys[q]).drop (i + 1) ++ (cellsE E (ys.drop (q + 1)) ++ cur.toList.drop (ys.length * E.k))) = cellsE E (ys.take q) ++ ((E.enc ys[q]).take i ++ [(E.enc ys[q])[i]'(by omega)] ++ (E.enc ys[q]).drop (i + 1)) ++ (cellsE E (ys.drop (q + 1)) ++ cur.toList.drop (ys.length * E.k)) := by simp only [List.append_assoc]
      rw [this, ← hei]
      exact hb0
    have hb3 := blk_setCells [u] _ [(E.enc ys[q])[i]'(by omega)] _ W (by simp) hb2
    rw [List.length_append, hpl, List.length_take, Nat.min_eq_left (by omega)] at hb3
    have hb1 : Blk (W.setCell ⟨g, q * E.k + i, none⟩ u) g T (cellsE E (ys.take q) ++ E.enc x ++ (cellsE E (ys.drop (q + 1)) ++ cur.toList.drop (ys.length * E.k))).toArray := by
      have : (cellsE E (ys.take q) ++ (E.enc ys[q]).take i) ++ [u] ++ ((E.enc ys[q]).drop (i + 1) ++ (cellsE E (ys.drop (q + 1)) ++ cur.toList.drop (ys.length * E.k))) = cellsE E (ys.take q) ++ ((E.enc ys[q]).take i ++ [u] ++ (E.enc ys[q]).drop (i + 1)) ++ (cellsE E (ys.drop (q + 1)) ++ cur.toList.drop (ys.length * E.k)) := by simp only [List.append_assoc]
      rw [this, ← hexi] at hb3
      exact hb3
    refine ⟨by rw [cellsE_length], .inr ⟨g, c, _, by rw [List.length_set], hb, hb1, by rw [List.length_set]; exact hnc, hcm, ?_, ?_⟩⟩
    · have := congrArg List.length hcur
      simp only [Array.length_toList, List.length_append, E.len] at this
      simp only [List.size_toArray, List.length_append, E.len]
      omega
    · rw [hs]
      have hl : (ys.take q ++ x :: ys.drop (q + 1)).length * E.k = (cellsE E (ys.take q) ++ E.enc x ++ cellsE E (ys.drop (q + 1))).length := by
        rw [← cellsE_length E, cellsE_append, cellsE, List.append_assoc]
      rw [hl, List.toList_toArray, ← List.append_assoc, List.take_left']
      · rw [cellsE_append, cellsE, List.append_assoc]
      · rfl
/-- a row of the call's own that holds something: where it lies -/
theorem own_slot {α : Type} {E : Enc α} {T : TypeId} {W : World} {base n c : Nat} {A : Option Addr} {ys : List α} (h : Own W base E T (.slice A n c) ys) (h0 : 0 < ys.length) :
    ∃ g cur, A = some ⟨g, 0, none⟩ ∧ base ≤ g ∧ Blk W g T cur ∧ ∀ j u, (cellsE E ys)[j]? = some u → W.cell? ⟨g, j, none⟩ = some u := by
  rcases h.2 with ⟨_, h1⟩ | ⟨g, cap, cur, e, hb, hh, hnc, hcm, hcs, htk⟩
  · omega
  · injection e with e1 e2 e3
    subst e1 e2 e3
    refine ⟨g, cur, rfl, hb, hh, fun j u hu => ?_⟩
    rw [show W.cell? ⟨g, j, none⟩ = cur[j]? from cell_of_row W g _ cur T (0, 0) hh]
    have hj := (List.getElem?_eq_some_iff.1 hu).1
    rw [cellsE_length] at hj
    rw [← htk, List.getElem?_take_of_lt (by omega)] at hu
    simpa using hu
end Go.Proofs.YtnjhhndggfjjdaaGreatDoor
namespace Go.Proofs.YtnjhhndggfjjdaaGreatDoor
open Go.RowKit
/-- holds behind an empty row -/
theorem append_firstH {W : World} {K : Nat → Prop} {A : Option Addr} {n c : Nat} {l : List Ho} (h : Lst W K eH A l) (hl : l.length = n) (hn : n ≤ 100000) :
    ∃ v' W', (Builtin.append_ #[71, 71] 71 #[.slice none 0 0, .slice A n c]).run Tryz.prog W = .ok v' W' ∧ Own W' W.heap.size eH 56 v' l ∧ Below W.heap.size W W' := by
  obtain ⟨v', W', hap, ho', hg', _⟩ := append_own tyH (own_nil W W.heap.size) h hl c (by show 0 + n ≤ _; omega) (Nat.le_refl _)
  exact ⟨v', W', hap, ho', (Below.refl _ _).grown hg' (Nat.le_refl _) (fun g hg => by simp [Value.ownBlock] at hg)⟩
def RH (w : World) (H L : List Cl) (k : Nat) (v i : Value) (wr : World) : Prop :=
  ∃ j, j + k = L.length ∧ i = .int .i64 (j : Int) ∧ Own wr w.heap.size eH 56 v (hldI H L j) ∧ Below w.heap.size w wr
set_option maxHeartbeats 2000000 in
theorem rholds_ {w : World} {b : Nat} {A A' : Option Addr} {K K' : Nat → Prop} {n m c c' : Nat} {H L : List Cl} (h2 : RTwo w b (.slice A n c) (.slice A' m c')) (hH : Lst w K eH A (H.map hdA)) (hL : Lst w K' eH A' (L.map lnA))
    (hn : H.length = n) (hm : L.length = m) (hn1 : n ≤ 10000) (hm1 : m ≤ 10000) (ok : Ok (H, L)) :
    Calls Tryz.prog 39 #[.pointer (some ⟨b, 0, none⟩)] w fun e w' => ∃ v, e = .returned v ∧ Own w' w.heap.size eH 56 v (holdsP (H, L)) ∧ Below w.heap.size w w' := by
  have b0 := h2.c0
  have hbs := h2.lt
  obtain ⟨v1, w1, hap, ho1, hb1⟩ := append_firstH (n := n) (c := c) hH (by rw [List.length_map]; exact hn) (by omega)
  rw [← hld_zero H L] at ho1
  have HAP := Lib.hid hap
  have HO1 := Lib.hid ho1
  have HB1 := Lib.hid hb1
  have H2 := Lib.hid h2
  have HL := Lib.hid hL
  have HN := Lib.hid hn
  have HM := Lib.hid hm
  have OK := Lib.hid ok
  clear hap ho1 hb1 h2 hH hL hn hm ok
  go_enter Tryz.func39, Tryz.ntmps39
  go_wp2_with (at_builtin; refine wpList_append_run rfl (.const (.slice none 0 0)) (.tmp 9) 71 71 rfl _ _ rfl rfl HAP.out ?_)
  go_loopg [3, 4, 5] m (fun k v i _ wr => RH w H L k v i wr)
  case atStart => exact ⟨0, by rw [HM.out]; omega, rfl, HO1.out, HB1.out⟩
  case round =>
    clear b0 HO1 HB1
    obtain ⟨j, hj, rfl, ho, hb⟩ := hrel
    have b1 := (H2.out.below hb hbs).c1
    have HJ := Lib.hid hj
    have HB := Lib.hid hb
    have HO := Lib.hid ho
    clear hj hb ho
    by_cases hlt : j < m
    · have hx : j < L.length := by rw [HM.out]; exact hlt
      obtain ⟨g, o, rfl, hg, d0, d1, d2⟩ := (HL.out.below HB.out).atLn hx
      obtain ⟨A3, c3, rfl, hl3, hc3, hm3, _⟩ := own_lst HO.out
      have hlen := hld_length H L j
      rw [HN.out, HM.out] at hlen
      have hfind := rfind_ (c := c3) hl3 rfl (by omega) (L[j]).1
      cases hh : hasP H (L[j]).1 with
      | true =>
        obtain ⟨k, hkk, hk, hkh⟩ : ∃ k, H.findIdx (isW (L[j]).1) = k ∧ k < H.length ∧ H.findIdx (isW (L[j]).1) < H.length := by
          rcases idx_cases (isW (L[j]).1) H with ⟨_, e⟩ | ⟨h, _⟩
          · have : hasP H (L[j]).1 = false := e
            rw [hh] at this; cases this
          · exact ⟨_, rfl, h, h⟩
        obtain ⟨e1, e2⟩ := hld_hit OK.out hx hkh
        simp only [hkk] at e1 e2
        obtain ⟨hkl, hat⟩ := hld_at L j hk
        rw [e1] at hfind
        obtain ⟨g3, cur3, rfl, hg3, hblk3, hcell3⟩ := own_slot HO.out (Nat.lt_of_le_of_lt (Nat.zero_le k) hkl)
        have hkln : k < (hldI H L j).length := hkl
        have c2 := hcell3 (k * 3 + 2) _ (cellsE_at eH hkl (i := 2) rfl)
        have hs1 := fun W (hb : Below wr.heap.size wr W) => own_set1 (own_belowE HO.out hb) hkl ((H[k]).1, (H[k]).2, (L[j]).2) (i := 2) (u := .int .i64 ((L[j]).2 : Int)) (by show 2 < 3; omega) (by rw [hat]; rfl)
        rw [← e2] at hs1
        have HS1 := Lib.hid hs1
        have HF := Lib.hid hfind
        have HBK := Lib.hid hblk3
        clear hfind e1 e2 hh hl3 hcell3 hat hs1 hkh hkk hblk3 HO
        generalize (hldI H L j)[k].2.2 = z2 at *
        generalize (L[j]).1 = y1 at *
        generalize (L[j]).2 = y2 at *
        generalize hln : (hldI H L j).length = ln at *
        clear hkl
        go_wp2_with fail
        refine HF.out.mono ?_
        rintro e w4 ⟨rfl, hb4⟩
        have hg3s : g3 < wr.heap.size := HBK.out.lt
        have d0 := (cell_of_heap (hb4.block g hg) _).trans d0
        have d2 := (cell_of_heap (hb4.block g hg) _).trans d2
        have c2 := (cell_of_heap (hb4.block g3 hg3s) _).trans c2
        have f2 := (Blk.below HBK.out hb4 hg3s).frozen (k * 3 + 2)
        have hb5 := HB.out.trans (hb4.mono HB.out.size)
        have b1 := (H2.out.below hb5 hbs).c1
        have HO6 := Lib.hid (HS1.out w4 hb4)
        have HB6 := Lib.hid (hb5.setCell (p := ⟨g3, k * 3 + 2, none⟩) hg3 (.int .i64 (y2 : Int)))
        clear hb5 hb4 HF HS1 HBK
        go_wp2_with fail
        go_roundg (m - (j + 1))
        case measure => have := HJ.out; have := HM.out; omega
        case rel => exact ⟨j + 1, by rw [HM.out]; omega, by go_num, HO6.out, HB6.out⟩
      | false =>
        obtain ⟨e1, e2⟩ := hld_miss OK.out hx hh
        rw [e1] at hfind
        have HF := Lib.hid hfind
        have HE := Lib.hid e2
        have hlk : lnA L[j] = ((L[j]).1, 0, (L[j]).2) := rfl
        rw [hlk] at HE
        clear hfind e1 e2 hh hl3 hlk
        generalize (L[j]).1 = y1 at *
        generalize (L[j]).2 = y2 at *
        generalize hln : (hldI H L j).length = ln at *
        go_wp2_with fail
        refine HF.out.mono ?_
        rintro e w4 ⟨rfl, hb4⟩
        have d0 := (cell_of_heap (hb4.block g hg) _).trans d0
        have d1 := (cell_of_heap (hb4.block g hg) _).trans d1
        have d2 := (cell_of_heap (hb4.block g hg) _).trans d2
        have hb5 := HB.out.trans (hb4.mono HB.out.size)
        have b1 := (H2.out.below hb5 hbs).c1
        obtain ⟨v6, w6, hap, ho6, hb6, _⟩ := append_hold (own_belowE HO.out hb4) hb5.size (by omega) hb5 (y1, 0, y2)
        rw [← HE.out] at ho6
        have HO6 := Lib.hid ho6
        have HB6 := Lib.hid hb6
        have HAP6 := Lib.hid hap
        clear hap ho6 hb6 hb5 hb4 HF
        go_wp2_with (at_builtin; refine wpList_append_run rfl (.tmp 44) (.tmp 52) 71 71 rfl _ _ rfl rfl HAP6.out ?_)
        go_roundg (m - (j + 1))
        case measure => have := HJ.out; have := HM.out; omega
        case rel => exact ⟨j + 1, by rw [HM.out]; omega, by go_num, HO6.out, HB6.out⟩
    · have hjm : j = m := by have := HJ.out; have := HM.out; omega
      subst hjm
      have ho := HO.out
      rw [← HM.out, hld_all] at ho
      have HO2 := Lib.hid ho
      clear ho HO
      go_wp2_with fail
      go_ret
      exact ⟨_, rfl, HO2.out, HB.out⟩
end Go.Proofs.YtnjhhndggfjjdaaGreatDoor
namespace Go.Proofs.YtnjhhndggfjjdaaGreatDoor
open Go.RowKit
/-- no row of holds -/
def NoH (o : Obj) : Prop := ∀ cur, o ≠ .cells cur 56 (0, 0)
structure RK (base : Nat) (X : Nat → Prop) (b : Nat) (s : Lk) (vH vL : Value) (w : World) : Prop where
  two : RTwo w b vH vL
  oH : Own w base eH 56 vH (s.1.map hdA)
  oL : Own w base eH 56 vL (s.2.map lnA)
  sep : ∀ g, vH.ownBlock = some g → vL.ownBlock ≠ some g
  xH : ∀ g, vH.ownBlock = some g → ¬ X g
  xL : ∀ g, vL.ownBlock = some g → ¬ X g
  xs : ∀ g, X g → g < w.heap.size
def RLk (base : Nat) (X : Nat → Prop) (b : Nat) (s : Lk) (w : World) : Prop := ∃ vH vL, RK base X b s vH vL w
section
variable {w w' : World} {base b : Nat} {X : Nat → Prop} {s : Lk} {vH vL : Value}
theorem rown_ne {α : Type} {E : Enc α} {v : Value} {l : List α} {base' : Nat} (h : RTwo w b vH vL) (ho : Own w base' E 56 v l) : v.ownBlock ≠ some b := fun e => by
  obtain ⟨_, _, cur, hc⟩ := own_blk ho e
  have := h.symm.trans hc
  injection this with this
  injection this with _ this
  cases this
theorem RK.below (h : RK base X b s vH vL w) (k : Below w.heap.size w w') : RK base X b s vH vL w' :=
  ⟨h.two.below k h.two.lt, own_belowE h.oH k, own_belowE h.oL k, h.sep, h.xH, h.xL, fun g hg => Nat.lt_of_lt_of_le (h.xs g hg) k.size⟩
theorem RLk.below (h : RLk base X b s w) (k : Below w.heap.size w w') : RLk base X b s w' := by
  obtain ⟨vH, vL, h⟩ := h
  exact ⟨vH, vL, h.below k⟩
/-- what a call of the document's lock leaves alone -/
abbrev RKeep (base : Nat) (X : Nat → Prop) (b : Nat) (w w' : World) : Prop := Keep (fun i o => i ≠ b ∧ (i < base ∨ X i ∨ NoH o)) w w'
theorem Tab.rkeep (h : Tab w) (k : RKeep base X b w w') (hb : base ≤ b) (hg : 0 < base) : Tab w' := by
  have e : w'.heap[0]? = w.heap[0]? := by
    rw [Array.getElem?_eq_getElem h.lt]
    exact k.block _ _ (Array.getElem?_eq_getElem h.lt) ⟨by omega, .inl hg⟩
  exact fun p hp => ⟨(cell_of_heap e _).trans (h p hp).1, (cell_of_heap e _).trans (h p hp).2⟩
theorem RK.far (h : RK base X b s vH vL w) {g : Nat} (hg : vH.ownBlock = some g ∨ vL.ownBlock = some g) (o : Obj) (ho : w.heap[g]? = some o) : ¬ (g ≠ b ∧ (g < base ∨ X g ∨ NoH o)) := fun ⟨_, h2⟩ => by
  rcases hg with hg | hg
  · obtain ⟨hb, _, cur, hc⟩ := own_blk h.oH hg
    rcases h2 with h2 | h2 | h2
    · omega
    · exact h.xH g hg h2
    · exact h2 cur (by rw [hc] at ho; injection ho with ho; exact ho.symm)
  · obtain ⟨hb, _, cur, hc⟩ := own_blk h.oL hg
    rcases h2 with h2 | h2 | h2
    · omega
    · exact h.xL g hg h2
    · exact h2 cur (by rw [hc] at ho; injection ho with ho; exact ho.symm)
/-- the line anew, in a row of the call's own -/
theorem rk_line {W v : _} {L' : List Cl} (h : RK base X b s vH vL w) (k : Below w.heap.size w W) (ho : Own W w.heap.size eH 56 v (L'.map lnA)) (hbase : base ≤ w.heap.size) :
    RK base X b (s.1, L') vH v (W.setCell ⟨b, 1, none⟩ v) ∧ RKeep base X b w (W.setCell ⟨b, 1, none⟩ v) := by
  have h2 := h.below k
  refine ⟨⟨Blk.set_ h2.two 1 _, own_keep h2.oH fun g hg => ?_, own_base (own_keep ho fun g hg => ?_) hbase, fun g hg hg' => ?_, h.xH, fun g hg hx => by have := (own_blk ho hg).1; have := h.xs g hx; omega, fun g hg => by have := h2.xs g hg; simpa [World.setCell] using this⟩, (Keep.of_below k).setCell (fun _ _ hi => hi.1 rfl) _⟩
  · exact Below.heap_setCell W ⟨b, 1, none⟩ _ g (fun e => by subst e; exact rown_ne h2.two h2.oH hg)
  · exact Below.heap_setCell W ⟨b, 1, none⟩ _ g (fun e => by subst e; exact rown_ne h2.two ho hg)
  · have h3 := (own_blk h.oH hg).2.1
    have h4 := (own_blk ho hg').1
    omega
/-- the holders anew, in a row of the call's own -/
theorem rk_held {W v : _} {H' : List Cl} (h : RK base X b s vH vL w) (k : Below w.heap.size w W) (ho : Own W w.heap.size eH 56 v (H'.map hdA)) (hbase : base ≤ w.heap.size) :
    RK base X b (H', s.2) v vL (W.setCell ⟨b, 0, none⟩ v) ∧ RKeep base X b w (W.setCell ⟨b, 0, none⟩ v) := by
  have h2 := h.below k
  refine ⟨⟨Blk.set_ h2.two 0 _, own_base (own_keep ho fun g hg => ?_) hbase, own_keep h2.oL fun g hg => ?_, fun g hg hg' => ?_, fun g hg hx => by have := (own_blk ho hg).1; have := h.xs g hx; omega, h.xL, fun g hg => by have := h2.xs g hg; simpa [World.setCell] using this⟩, (Keep.of_below k).setCell (fun _ _ hi => hi.1 rfl) _⟩
  · exact Below.heap_setCell W ⟨b, 0, none⟩ _ g (fun e => by subst e; exact rown_ne h2.two ho hg)
  · exact Below.heap_setCell W ⟨b, 0, none⟩ _ g (fun e => by subst e; exact rown_ne h2.two h2.oL hg)
  · have h3 := (own_blk h.oL hg').2.1
    have h4 := (own_blk ho hg).1
    omega
/-- a holder's mode stored -/
theorem rk_set {H L : List Cl} {g n c : Nat} (h : RK base X b (H, L) (.slice (some ⟨g, 0, none⟩) n c) vL w) {k : Nat} (hk : k < H.length) (x : Cl) (hx0 : (H[k]?).map (·.1) = some x.1) :
    RK base X b (H.set k x, L) (.slice (some ⟨g, 0, none⟩) n c) vL (w.setCell ⟨g, k * 3 + 1, none⟩ (.int .i64 (x.2 : Int))) ∧ RKeep base X b w (w.setCell ⟨g, k * 3 + 1, none⟩ (.int .i64 (x.2 : Int))) := by
  have hx : (H[k]).1 = x.1 := by rw [List.getElem?_eq_getElem hk, Option.map_some] at hx0; injection hx0
  have hgb : b ≠ g := fun e => by subst e; exact rown_ne h.two h.oH rfl
  have hkm : k < (H.map hdA).length := by rw [List.length_map]; exact hk
  have ho := own_set1 h.oH hkm (hdA x) (i := 1) (u := .int .i64 (x.2 : Int)) (by show 1 < 3; omega) (by
    rw [List.getElem_map]
    show [Value.int .i64 x.1, .int .i64 (x.2 : Int), .int .i64 ((0 : Nat) : Int)] = [Value.int .i64 (H[k]).1, .int .i64 (x.2 : Int), .int .i64 ((0 : Nat) : Int)]
    rw [hx])
  refine ⟨⟨Blk.far h.two (p := ⟨g, k * 3 + 1, none⟩) hgb _, ?_, own_keep h.oL fun g' hg' => ?_, h.sep, h.xH, h.xL, fun g hg => by have := h.xs g hg; simpa [World.setCell] using this⟩, (Keep.refl _).setCell (p := ⟨g, k * 3 + 1, none⟩) (fun o ho => h.far (.inl rfl) o ho) _⟩
  · have e : (H.set k x).map hdA = (H.map hdA).set k (hdA x) := List.map_set
    simp only [e]
    exact ho
  · exact Below.heap_setCell w ⟨g, k * 3 + 1, none⟩ _ g' (fun e => by subst e; exact h.sep _ rfl hg')
/-- a holder more -/
theorem rk_append {H L : List Cl} (h : RK base X b (H, L) vH vL w) (hbase : base ≤ w.heap.size) (hn : H.length ≤ 100000) (x : Cl) :
    ∃ v' W', (Builtin.append_ #[71, 71] 71 #[vH, .slice (some ⟨w.heap.size, 0, none⟩) 1 1]).run Tryz.prog (w.alloc (.cells #[.int .i64 x.1, .int .i64 (x.2 : Int), .int .i64 0] 56)) = .ok v' W' ∧
      RTwo W' b vH vL ∧ RK base X b (H ++ [x], L) v' vL (W'.setCell ⟨b, 0, none⟩ v') ∧ RKeep base X b w (W'.setCell ⟨b, 0, none⟩ v') ∧ ∀ i, i < w.heap.size → vH.ownBlock ≠ some i → i ≠ b → (W'.setCell ⟨b, 0, none⟩ v').heap[i]? = w.heap[i]? := by
  have hal := alloc_below w (.cells #[.int .i64 x.1, .int .i64 (x.2 : Int), .int .i64 0] 56)
  have h2 := h.below hal
  obtain ⟨v', W', hap, ho', hg', hat⟩ := append_own tyH h2.oH (lst_hold w (hdA x)) rfl 1 (by show (H.map hdA).length + 1 ≤ _; rw [List.length_map]; omega) (Nat.le_trans hbase hal.size)
  have hap' : (Builtin.append_ #[71, 71] 71 #[vH, .slice (some ⟨w.heap.size, 0, none⟩) 1 1]).run Tryz.prog (w.alloc (.cells #[.int .i64 x.1, .int .i64 (x.2 : Int), .int .i64 0] 56)) = .ok v' W' := hap
  have hb' : b < (w.alloc (.cells #[.int .i64 x.1, .int .i64 (x.2 : Int), .int .i64 0] 56)).heap.size := h2.two.lt
  have t2 : RTwo W' b vH vL := (hg'.block b hb' (fun e => rown_ne h2.two h2.oH e.symm)).trans h2.two
  have hL2 : Own W' base eH 56 vL (L.map lnA) := own_keep h2.oL fun g hg => hg'.block g (own_blk h2.oL hg).2.1 (fun e => h.sep g e.symm hg)
  refine ⟨v', W', hap', t2, ⟨Blk.set_ t2 0 _, own_keep (by simp only [List.map_append]; exact ho') fun g hg => ?_, own_keep hL2 fun g hg => ?_, fun g hg hg' => ?_, fun g hg hx => ?_, h.xL, fun g hg => by have := h2.xs g hg; have := hg'.size; simp [World.setCell]; omega⟩, ?_, fun i hi h3 h4 => ?_⟩
  · exact Below.heap_setCell W' ⟨b, 0, none⟩ _ g (fun e => by subst e; exact rown_ne t2 ho' hg)
  · exact Below.heap_setCell W' ⟨b, 0, none⟩ _ g (fun e => by subst e; exact rown_ne t2 hL2 hg)
  · rcases hat with e | e
    · exact h.sep g (e ▸ hg) hg'
    · have h5 := (own_blk h2.oL hg').2.1
      rw [e] at hg
      injection hg with hg
      omega
  · rcases hat with e | e
    · exact h.xH g (e ▸ hg) hx
    · have h5 := h2.xs g hx
      rw [e] at hg
      injection hg with hg
      omega
  · exact (((Keep.of_below hal).grown hg' fun g o hg ho => h.far (.inl hg) o ho).setCell (fun _ _ hi => hi.1 rfl) _)
  · rw [Below.heap_setCell W' ⟨b, 0, none⟩ _ i h4]
    exact (hg'.block i (Nat.lt_of_lt_of_le hi hal.size) (fun e => h3 e.symm)).trans (hal.block i hi)
end
end Go.Proofs.YtnjhhndggfjjdaaGreatDoor
