/- The lock of a name, to be changed: package locks' lockOf. -/
import Derived.Test.YtnjhhndggfjjdaaDoorLkH
import Derived.Deep.RegionWith
set_option maxRecDepth 4000
namespace Go.Proofs.YtnjhhndggfjjdaaDoor
open Go.RowKit
theorem rows_iff {w : World} {rs : List Re} {s : TS} : RowsOk w rs s ↔ rs.length = s.length ∧ ∀ (j : Nat) (r : Re) (e : Ent), rs[j]? = some r → s[j]? = some e → RowOk w r e := by
  constructor
  · intro h
    refine ⟨h.1, fun j r e hr he => ?_⟩
    obtain ⟨h1, rfl⟩ := List.getElem?_eq_some_iff.1 hr
    obtain ⟨h2, rfl⟩ := List.getElem?_eq_some_iff.1 he
    exact h.2 j h1 h2
  · intro h
    exact ⟨h.1, fun j hj hs => h.2 j _ _ (List.getElem?_eq_getElem hj) (List.getElem?_eq_getElem hs)⟩
theorem rows_insert {w : World} {rs : List Re} {s : TS} (h : RowsOk w rs s) {k : Nat} (hk : k ≤ rs.length) {r : Re} {e : Ent} (hr : RowOk w r e) : RowsOk w (rs.take k ++ r :: rs.drop k) (s.take k ++ e :: s.drop k) := by
  rw [rows_iff] at *
  obtain ⟨hl, h⟩ := h
  have l1 : (rs.take k).length = k := by rw [List.length_take]; omega
  have l2 : (s.take k).length = k := by rw [List.length_take]; omega
  refine ⟨by simp; omega, fun j r' e' h1 h2 => ?_⟩
  rcases Nat.lt_trichotomy j k with hj | hj | hj
  · rw [List.getElem?_append_left (by omega), List.getElem?_take_of_lt hj] at h1 h2
    exact h j r' e' h1 h2
  · subst hj
    rw [List.getElem?_append_right (by omega), l1, Nat.sub_self] at h1
    rw [List.getElem?_append_right (by omega), l2, Nat.sub_self] at h2
    simp only [List.getElem?_cons_zero, Option.some.injEq] at h1 h2
    subst h1 h2
    exact hr
  · rw [List.getElem?_append_right (by omega), l1, show j - k = (j - k - 1) + 1 by omega, List.getElem?_cons_succ, List.getElem?_drop] at h1
    rw [List.getElem?_append_right (by omega), l2, show j - k = (j - k - 1) + 1 by omega, List.getElem?_cons_succ, List.getElem?_drop] at h2
    exact h _ r' e' h1 h2
theorem rows_set {w : World} {rs : List Re} {s : TS} (h : RowsOk w rs s) {k : Nat} {r : Re} {e : Ent} (hr : RowOk w r e) : RowsOk w (rs.set k r) (s.set k e) := by
  rw [rows_iff] at *
  obtain ⟨hl, h⟩ := h
  refine ⟨by simp [hl], fun j r' e' h1 h2 => ?_⟩
  by_cases hj : k = j
  · subst hj
    rw [List.getElem?_set_self'] at h1 h2
    rcases h3 : rs[k]? with _ | r3
    · rw [h3] at h1; cases h1
    · rcases h4 : s[k]? with _ | e4
      · rw [h4] at h2; cases h2
      · rw [h3] at h1
        rw [h4] at h2
        have h1 : r = r' := by simpa using h1
        have h2 : e = e' := by simpa using h2
        subst h1 h2
        exact hr
  · rw [List.getElem?_set_ne hj] at h1 h2
    exact h j r' e' h1 h2
/-- the locks with one of this name among them -/
def openN (s : TS) (m : Nm) : TS := if atN s m then s else s.take (spotN s m) ++ (m, ([], [])) :: s.drop (spotN s m)
def newR (m : Nm) : Re := ((none, 0, 0), (none, 0, 0), m)
theorem new_ok (w : World) (m : Nm) : RowOk w (newR m) (m, ([], [])) :=
  ⟨rfl, ⟨none, 0, rfl, Lst.nil _ _ _ _, Nat.le_refl _, by unfold maxLen; omega, fun _ => rfl⟩, ⟨none, 0, rfl, Lst.nil _ _ _ _, Nat.le_refl _, by unfold maxLen; omega, fun _ => rfl⟩⟩
/-- the table at block b, its locks in a row of the call's own -/
structure LO (w0 w : World) (b : Nat) (n : Int) (g c : Nat) (rs : List Re) (s : TS) : Prop where
  blk : Blk w b 50 #[.int .i64 n, .slice (some ⟨g, 0, none⟩) s.length c]
  own : Own w w0.heap.size eL 62 (.slice (some ⟨g, 0, none⟩) s.length c) rs
  rows : RowsOk w rs s
  keep : Keep (fun i _ => i ≠ b) w0 w
theorem tab_ne {α : Type} {E : Enc α} {T : TypeId} {w : World} {b base : Nat} {cs : Array Value} {v : Value} {l : List α} (h : Blk w b 50 cs) (ho : Own w base E T v l) (ht : T ≠ 50) : v.ownBlock ≠ some b := fun e => by
  obtain ⟨_, _, cur, hc⟩ := own_blk ho e
  have := h.symm.trans hc
  injection this with this
  injection this with _ this
  exact ht this.symm
theorem rows_store {w : World} {b : Nat} {cs : Array Value} {rs : List Re} {s : TS} (hb : Blk w b 50 cs) (h : RowsOk w rs s) (i : Nat) (u : Value) : RowsOk (w.setCell ⟨b, i, none⟩ u) rs s :=
  h.kept (Q := fun i _ => i ≠ b) ((Keep.refl w).setCell (fun _ _ h => h rfl) u) fun g cur hc => ne_of_types hb hc (by decide)
def LockOf (w : World) (b : Nat) (n : Int) (s : TS) (m : Nm) (e : Ending) (w' : World) : Prop := ∃ g c rs', e = .returned (.pointer (some ⟨g, spotN s m * 5, none⟩)) ∧ LO w w' b n g c rs' (openN s m)
set_option maxHeartbeats 4000000 in
theorem lockof_ {w : World} {b : Nat} {n : Int} {A : Option Addr} {c : Nat} {rs : List Re} {s : TS} (h : LT0 w b n A c rs s) (hr : s.Pairwise fun a b => cmpN a.1 b.1 < 0) (hs : s.length ≤ 10000) (m : Nm) :
    Calls Tryd.prog 21 #[.pointer (some ⟨b, 0, none⟩), valN m] w (LockOf w b n s m) := by
  have hal := alloc_below w (.cells #[.int .i64 m.1, .string m.2.1, .string m.2.2] 28)
  have hN := Blk.new w 28 #[.int .i64 m.1, .string m.2.1, .string m.2.2]
  have h2 := h.below hal
  have hpl := lplace_ h2 hr (by omega) m
  have d0 := hN.cell 0
  have d1 := hN.cell 1
  have d2 := hN.cell 2
  have HPL := Lib.hid hpl
  have HAL := Lib.hid hal
  have HN := Lib.hid hN
  have H := Lib.hid h2
  have hbs := h2.lt
  have hbw := h.lt
  clear hpl hal hN h h2 hr
  unfold valN at *
  have hsl := spot_le' s m
  have hopen : (atN s m = true ∧ openN s m = s ∧ spotN s m < s.length) ∨ (atN s m = false ∧ openN s m = s.take (spotN s m) ++ (m, ([], [])) :: s.drop (spotN s m)) := by
    unfold openN
    cases h : atN s m
    · exact .inr ⟨rfl, by simp⟩
    · exact .inl ⟨rfl, by simp, at_lt h⟩
  go_enter Tryd.func21, Tryd.ntmps21
  go_wp2_with fail
  have hlt : w.heap.size < (w.alloc (.cells #[.int .i64 m.1, .string m.2.1, .string m.2.2] 28)).heap.size := HN.out.lt
  generalize w.alloc (.cells #[.int .i64 m.1, .string m.2.1, .string m.2.2] 28) = wA at *
  refine HPL.out.mono ?_
  rintro e w1 ⟨rfl, hb1⟩
  have HT := Lib.hid (H.out.below hb1)
  have HN1 := Lib.hid (HN.out.below hb1 hlt)
  have HB1 := Lib.hid (HAL.out.trans (hb1.mono HAL.out.size))
  clear hb1 d0 d1 d2 HPL
  have p1 := HT.out.blk.cell 1
  have hcl := lclone_ (c := c) HT.out.lst HT.out.rows.1 (by omega) HT.out.nil
  have HCL := Lib.hid hcl
  clear hcl
  obtain ⟨k, hk⟩ : ∃ k, s.length = k := ⟨_, rfl⟩
  rw [hk] at p1 HCL
  have HK := Lib.hid hk
  generalize hat : atN s m = zb at *
  generalize hz : spotN s m = z at *
  have HZ := Lib.hid hz
  clear hz hk hat
  go_wp2_with fail
  refine HCL.out.mono ?_
  rintro e w2 ⟨v2, rfl, ho2, hb2⟩
  have hT2 := HT.out.below hb2
  have hN2 := HN1.out.below hb2 HN1.out.lt
  obtain ⟨A2, c2, e2, hl2, hc2, hcm2, hnil2⟩ := own_lst ho2
  have hrl : rs.length = k := HT.out.rows.1.trans HK.out
  rw [hrl] at e2
  subst e2
  have p2 := hT2.blk.cell 1
  have f2 := hT2.blk.frozen 1
  -- behind the first store
  obtain ⟨w3, hw3⟩ : ∃ w3, w3 = w2.setCell ⟨b, 1, none⟩ (.slice A2 k c2) := ⟨_, rfl⟩
  have b3 : Blk w3 b 50 #[.int .i64 n, .slice A2 k c2] := by
    rw [hw3]
    have := hT2.blk.set_ 1 (.slice A2 k c2)
    simpa using this
  have k3 : Keep (fun i _ => i ≠ b) w w3 := by rw [hw3]; exact (Keep.of_below (HB1.out.trans (hb2.mono HB1.out.size))).setCell (fun _ _ h => h rfl) _
  have o3 : Own w3 w.heap.size eL 62 (.slice A2 k c2) rs := own_base (own_keep ho2 fun g hg => by
    rw [hw3]
    exact Below.heap_setCell w2 ⟨b, 1, none⟩ _ g (fun e => by subst e; exact tab_ne hT2.blk ho2 (by decide) hg)) HB1.out.size
  have r3 : RowsOk w3 rs s := by rw [hw3]; exact rows_store hT2.blk hT2.rows 1 _
  have n3 : Blk w3 w.heap.size 28 #[.int .i64 m.1, .string m.2.1, .string m.2.2] := by
    rw [hw3]; exact hN2.far (p := ⟨b, 1, none⟩) (fun e => by simp only at e; omega) _
  have B3 := Lib.hid b3
  have K3 := Lib.hid k3
  have O3 := Lib.hid o3
  have R3 := Lib.hid r3
  have N3 := Lib.hid n3
  have HNIL := Lib.hid hnil2
  have HRL := Lib.hid hrl
  clear b3 k3 o3 r3 n3 hT2 hN2 ho2 hl2 hb2 HT HN1 HB1 HCL p1 hnil2
  rcases hopen with ⟨hat, hop, hlt⟩ | ⟨hat, hop⟩
  · subst hat
    have q1 := B3.out.cell 1
    have hzk : z < k := by have := HK.out; omega
    obtain ⟨g, rfl⟩ : ∃ g, A2 = some ⟨g, 0, none⟩ := by
      rcases O3.out.2 with ⟨e, h0⟩ | ⟨g, _, _, e, _⟩
      · injection e with _ e _; omega
      · injection e with e; exact ⟨g, e⟩
    have HOP := Lib.hid hop
    clear hop
    go_wp2_with fail
    rw [← hw3]
    go_wp2_with fail
    go_ret
    exact ⟨g, c2, rs, by rw [HZ.out]; rfl, by rw [HOP.out, HK.out]; exact B3.out, by rw [HOP.out, HK.out]; exact O3.out, by rw [HOP.out]; exact R3.out, K3.out⟩
  · subst hat
    have q1 := B3.out.cell 1
    have hb3 : b < w3.heap.size := B3.out.lt
    have hwn : w.heap.size < w3.heap.size := N3.out.lt
    have hal3 := alloc_below w3 (.cells #[.slice none 0 0, .slice none 0 0, .int .i64 m.1, .string m.2.1, .string m.2.2] 62)
    have hne3 : (Value.slice A2 k c2).ownBlock ≠ some w3.heap.size := fun e => by have := (own_blk O3.out e).2.1; omega
    have ow3 : Own (w3.alloc (.cells #[.slice none 0 0, .slice none 0 0, .int .i64 m.1, .string m.2.1, .string m.2.2] 62)).drew w.heap.size eL 62 (.slice A2 k c2) rs := own_keep O3.out fun g hg => hal3.block g (own_blk O3.out hg).2.1
    have hins := linsert_ (vb := w3.heap.size) (x := newR m) (i := z) ow3 (Nat.le_trans K3.out.size hal3.size) (by rw [HRL.out]; have := HK.out; omega) (by rw [HRL.out]; have := HK.out; omega) (Blk.new w3 62 _) hne3
    obtain ⟨k1, hk1⟩ : ∃ k1, k + 1 = k1 := ⟨_, rfl⟩
    have HK1 := Lib.hid hk1
    clear hk1
    have hpost : ∀ (v' : Value) (w' : World), Own w' w.heap.size eL 62 v' (linsP rs z (newR m)) → (w3.alloc (.cells #[.slice none 0 0, .slice none 0 0, .int .i64 m.1, .string m.2.1, .string m.2.2] 62)).drew.grownBy w' (Value.slice A2 k c2).ownBlock →
        ∃ g c', v' = .slice (some ⟨g, 0, none⟩) k1 c' ∧ w'.cell? ⟨b, 1, none⟩ = some (.slice A2 k c2) ∧ w'.frozen? ⟨b, 1, none⟩ = false ∧ (w'.setCell ⟨b, 1, none⟩ (.slice (some ⟨g, 0, none⟩) k1 c')).cell? ⟨b, 1, none⟩ = some (.slice (some ⟨g, 0, none⟩) k1 c') ∧ LO w (w'.setCell ⟨b, 1, none⟩ (.slice (some ⟨g, 0, none⟩) k1 c')) b n g c' (linsP rs z (newR m)) (openN s m) := by
      intro v' w' ho hg
      have hbw : Blk w' b 50 #[.int .i64 n, .slice A2 k c2] := (hg.block b (Nat.lt_of_lt_of_le hb3 hal3.size) (fun e => tab_ne B3.out O3.out (by decide) e.symm)).trans (hal3.block b hb3 |>.trans B3.out)
      have hlen : (linsP rs z (newR m)).length = k1 := by rw [linsP_length, HRL.out]; exact HK1.out
      have hol : (openN s m).length = k1 := by
        rw [hop]
        have := congrArg List.length (List.take_append_drop z s)
        have := HK.out
        have := HK1.out
        simp only [List.length_append, List.length_cons] at *
        omega
      obtain ⟨g, c', rfl⟩ : ∃ g c', v' = .slice (some ⟨g, 0, none⟩) k1 c' := by
        rcases ho.2 with ⟨e, h0⟩ | ⟨g, c', _, e, _⟩
        · have := HK1.out; omega
        · exact ⟨g, c', by rw [e, hlen]⟩
      have hbs := hbw.set_ 1 (.slice (some ⟨g, 0, none⟩) k1 c')
      have hkk : Keep (fun i _ => i ≠ b) w w' := (K3.out.trans (Keep.of_below (hal3.trans (Below.refl _ _).drew))).grown hg fun g o hg ho _ => by have := (own_blk O3.out hg).1; have := lt_of_some ho; omega
      have hk2 : Keep (fun i _ => (Value.slice A2 k c2).ownBlock ≠ some i) w3 w' := (Keep.of_below (hal3.trans (Below.refl _ _).drew)).grown hg fun g _ hg _ hq => hq hg
      have hr4 : RowsOk w' rs s := R3.out.kept hk2 fun i cur hc e => by
        obtain ⟨_, _, cur', hc'⟩ := own_blk O3.out e
        rw [hc] at hc'
        injection hc' with hc'
        injection hc' with _ hc'
        cases hc'
      have hown : Own (w'.setCell ⟨b, 1, none⟩ (.slice (some ⟨g, 0, none⟩) k1 c')) w.heap.size eL 62 (.slice (some ⟨g, 0, none⟩) (openN s m).length c') (linsP rs z (newR m)) := by
        rw [hol]
        exact own_keep ho fun g' hg' => Below.heap_setCell w' ⟨b, 1, none⟩ _ g' (fun e => by subst e; exact tab_ne hbw ho (by decide) hg')
      refine ⟨g, c', rfl, hbw.cell 1, hbw.frozen 1, hbs.cell 1, ⟨by rw [hol]; simpa using hbs, hown, ?_, ?_⟩⟩
      · rw [hop]
        exact rows_store hbw (rows_insert hr4 (by rw [HRL.out]; have := HK.out; omega) (new_ok w' m)) 1 _
      · exact hkk.setCell (fun _ _ h => h rfl) _
    have HIN := Lib.hid hins
    have HPO := Lib.hid hpost
    clear hpost hop
    have q2 : (w3.alloc (.cells #[.slice none 0 0, .slice none 0 0, .int .i64 m.1, .string m.2.1, .string m.2.2] 62)).drew.cell? ⟨b, 1, none⟩ = some (.slice A2 k c2) := (cell_of_heap (hal3.block b hb3) 1).trans q1
    have n0 := N3.out.cell 0
    have n1 := N3.out.cell 1
    have n2 := N3.out.cell 2
    have HAL3 := Lib.hid hal3
    clear hal3 hins
    go_wp2_with fail
    rw [← hw3]
    have HW3 := Lib.hid hw3
    clear hw3 p2 f2
    have hzk : z < k1 := by have := HK.out; have := HK1.out; omega
    go_region_with (go_at_call 34; refine HIN.out.mono ?_; rintro e w4 ⟨v4, rfl, ho4, hg4⟩; obtain ⟨g4, c4, rfl, q4, f4, r4, hlo4⟩ := HPO.out v4 w4 ho4 hg4; have HLO := Lib.hid hlo4; clear ho4 hg4 hlo4)
    all_goals
      go_wp2_with fail
      go_ret
      exact ⟨g4, c4, _, by rw [HZ.out]; rfl, HLO.out⟩
end Go.Proofs.YtnjhhndggfjjdaaDoor
