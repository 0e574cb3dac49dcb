/- The lock of a name, to be changed: package locks' lockOf. Package locks' Ask. Plain facts: who has to do with a lock, behind whatever is done with it; how many there are. -/
import Derived.Test.YtnjhhndggfjjdaaGreatDoorJ16
import Derived.Deep.RegionWith
import Derived.Test.YtnjhhndggfjjdaaGreatDoorJ12
import Derived.Test.YtnjhhndggfjjdaaGreatDoorJ13
set_option maxRecDepth 4000
namespace Go.Proofs.YtnjhhndggfjjdaaGreatDoor
open Go.RowKit
theorem rows_iff {w : World} {rs : List Re} {s : TS} : RowsOk w rs s ↔ rs.length = s.length ∧ ∀ (j : Nat) (r : Re) (e : Ent), rs[j]? = some r → s[j]? = some e → RowOk w r e := by
  constructor
  · intro h
    refine ⟨h.1, fun j r e hr he => ?_⟩
    obtain ⟨h1, rfl⟩ := List.getElem?_eq_some_iff.1 hr
    obtain ⟨h2, rfl⟩ := List.getElem?_eq_some_iff.1 he
    exact h.2 j h1 h2
  · intro h
    exact ⟨h.1, fun j hj hs => h.2 j _ _ (List.getElem?_eq_getElem hj) (List.getElem?_eq_getElem hs)⟩
theorem rows_insert {w : World} {rs : List Re} {s : TS} (h : RowsOk w rs s) {k : Nat} (hk : k ≤ rs.length) {r : Re} {e : Ent} (hr : RowOk w r e) : RowsOk w (rs.take k ++ r :: rs.drop k) (s.take k ++ e :: s.drop k) := by
  rw [rows_iff] at *
  obtain ⟨hl, h⟩ := h
  have l1 : (rs.take k).length = k := by rw [List.length_take]; omega
  have l2 : (s.take k).length = k := by rw [List.length_take]; omega
  refine ⟨by simp; omega, fun j r' e' h1 h2 => ?_⟩
  rcases Nat.lt_trichotomy j k with hj | hj | hj
  · rw [List.getElem?_append_left (by omega), List.getElem?_take_of_lt hj] at h1 h2
    exact h j r' e' h1 h2
  · subst hj
    rw [List.getElem?_append_right (by omega), l1, Nat.sub_self] at h1
    rw [List.getElem?_append_right (by omega), l2, Nat.sub_self] at h2
    simp only [List.getElem?_cons_zero, Option.some.injEq] at h1 h2
    subst h1 h2
    exact hr
  · rw [List.getElem?_append_right (by omega), l1, show j - k = (j - k - 1) + 1 by omega, List.getElem?_cons_succ, List.getElem?_drop] at h1
    rw [List.getElem?_append_right (by omega), l2, show j - k = (j - k - 1) + 1 by omega, List.getElem?_cons_succ, List.getElem?_drop] at h2
    exact h _ r' e' h1 h2
theorem rows_set {w : World} {rs : List Re} {s : TS} (h : RowsOk w rs s) {k : Nat} {r : Re} {e : Ent} (hr : RowOk w r e) : RowsOk w (rs.set k r) (s.set k e) := by
  rw [rows_iff] at *
  obtain ⟨hl, h⟩ := h
  refine ⟨by simp [hl], fun j r' e' h1 h2 => ?_⟩
  by_cases hj : k = j
  · subst hj
    rw [List.getElem?_set_self'] at h1 h2
    rcases h3 : rs[k]? with _ | r3
    · rw [h3] at h1; cases h1
    · rcases h4 : s[k]? with _ | e4
      · rw [h4] at h2; cases h2
      · rw [h3] at h1
        rw [h4] at h2
        have h1 : r = r' := by simpa using h1
        have h2 : e = e' := by simpa using h2
        subst h1 h2
        exact hr
  · rw [List.getElem?_set_ne hj] at h1 h2
    exact h j r' e' h1 h2
/-- the locks with one of this name among them -/
def openN (s : TS) (m : Nm) : TS := if atN s m then s else s.take (spotN s m) ++ (m, ([], [])) :: s.drop (spotN s m)
def newR (m : Nm) : Re := ((none, 0, 0), (none, 0, 0), m)
theorem new_ok (w : World) (m : Nm) : RowOk w (newR m) (m, ([], [])) :=
  ⟨rfl, ⟨none, 0, rfl, Lst.nil _ _ _ _, Nat.le_refl _, by unfold maxLen; omega, fun _ => rfl⟩, ⟨none, 0, rfl, Lst.nil _ _ _ _, Nat.le_refl _, by unfold maxLen; omega, fun _ => rfl⟩⟩
/-- the table at block b, its locks in a row of the call's own -/
structure LO (w0 w : World) (b : Nat) (n : Int) (g c : Nat) (rs : List Re) (s : TS) : Prop where
  blk : Blk w b 53 #[.int .i64 n, .slice (some ⟨g, 0, none⟩) s.length c]
  own : Own w w0.heap.size eL 66 (.slice (some ⟨g, 0, none⟩) s.length c) rs
  rows : RowsOk w rs s
  keep : Keep (fun i _ => i ≠ b) w0 w
theorem tab_ne {α : Type} {E : Enc α} {T : TypeId} {w : World} {b base : Nat} {cs : Array Value} {v : Value} {l : List α} (h : Blk w b 53 cs) (ho : Own w base E T v l) (ht : T ≠ 53) : v.ownBlock ≠ some b := fun e => by
  obtain ⟨_, _, cur, hc⟩ := own_blk ho e
  have := h.symm.trans hc
  injection this with this
  injection this with _ this
  exact ht this.symm
theorem rows_store {w : World} {b : Nat} {cs : Array Value} {rs : List Re} {s : TS} (hb : Blk w b 53 cs) (h : RowsOk w rs s) (i : Nat) (u : Value) : RowsOk (w.setCell ⟨b, i, none⟩ u) rs s :=
  h.kept (Q := fun i _ => i ≠ b) ((Keep.refl w).setCell (fun _ _ h => h rfl) u) fun g cur hc => ne_of_types hb hc (by decide)
def LockOf (w : World) (b : Nat) (n : Int) (s : TS) (m : Nm) (e : Ending) (w' : World) : Prop := ∃ g c rs', e = .returned (.pointer (some ⟨g, spotN s m * 5, none⟩)) ∧ LO w w' b n g c rs' (openN s m)
set_option maxHeartbeats 4000000 in
theorem lockof_ {w : World} {b : Nat} {n : Int} {A : Option Addr} {c : Nat} {rs : List Re} {s : TS} (h : LT0 w b n A c rs s) (hr : s.Pairwise fun a b => cmpN a.1 b.1 < 0) (hs : s.length ≤ 10000) (m : Nm) :
    Calls Tryz.prog 25 #[.pointer (some ⟨b, 0, none⟩), valN m] w (LockOf w b n s m) := by
  have hal := alloc_below w (.cells #[.int .i64 m.1, .string m.2.1, .string m.2.2] 31)
  have hN := Blk.new w 31 #[.int .i64 m.1, .string m.2.1, .string m.2.2]
  have h2 := h.below hal
  have hpl := lplace_ h2 hr (by omega) m
  have d0 := hN.cell 0
  have d1 := hN.cell 1
  have d2 := hN.cell 2
  have HPL := Lib.hid hpl
  have HAL := Lib.hid hal
  have HN := Lib.hid hN
  have H := Lib.hid h2
  have hbs := h2.lt
  have hbw := h.lt
  clear hpl hal hN h h2 hr
  unfold valN at *
  have hsl := spot_le' s m
  have hopen : (atN s m = true ∧ openN s m = s ∧ spotN s m < s.length) ∨ (atN s m = false ∧ openN s m = s.take (spotN s m) ++ (m, ([], [])) :: s.drop (spotN s m)) := by
    unfold openN
    cases h : atN s m
    · exact .inr ⟨rfl, by simp⟩
    · exact .inl ⟨rfl, by simp, at_lt h⟩
  go_enter Tryz.func25, Tryz.ntmps25
  go_wp2_with fail
  have hlt : w.heap.size < (w.alloc (.cells #[.int .i64 m.1, .string m.2.1, .string m.2.2] 31)).heap.size := HN.out.lt
  generalize w.alloc (.cells #[.int .i64 m.1, .string m.2.1, .string m.2.2] 31) = wA at *
  refine HPL.out.mono ?_
  rintro e w1 ⟨rfl, hb1⟩
  have HT := Lib.hid (H.out.below hb1)
  have HN1 := Lib.hid (HN.out.below hb1 hlt)
  have HB1 := Lib.hid (HAL.out.trans (hb1.mono HAL.out.size))
  clear hb1 d0 d1 d2 HPL
  have p1 := HT.out.blk.cell 1
  have hcl := lclone_ (c := c) HT.out.lst HT.out.rows.1 (by omega) HT.out.nil
  have HCL := Lib.hid hcl
  clear hcl
  obtain ⟨k, hk⟩ : ∃ k, s.length = k := ⟨_, rfl⟩
  rw [hk] at p1 HCL
  have HK := Lib.hid hk
  generalize hat : atN s m = zb at *
  generalize hz : spotN s m = z at *
  have HZ := Lib.hid hz
  clear hz hk hat
  go_wp2_with fail
  refine HCL.out.mono ?_
  rintro e w2 ⟨v2, rfl, ho2, hb2⟩
  have hT2 := HT.out.below hb2
  have hN2 := HN1.out.below hb2 HN1.out.lt
  obtain ⟨A2, c2, e2, hl2, hc2, hcm2, hnil2⟩ := own_lst ho2
  have hrl : rs.length = k := HT.out.rows.1.trans HK.out
  rw [hrl] at e2
  subst e2
  have p2 := hT2.blk.cell 1
  have f2 := hT2.blk.frozen 1
  -- behind the first store
  obtain ⟨w3, hw3⟩ : ∃ w3, w3 = w2.setCell ⟨b, 1, none⟩ (.slice A2 k c2) := ⟨_, rfl⟩
  have b3 : Blk w3 b 53 #[.int .i64 n, .slice A2 k c2] := by
    rw [hw3]
    have := hT2.blk.set_ 1 (.slice A2 k c2)
    simpa using this
  have k3 : Keep (fun i _ => i ≠ b) w w3 := by rw [hw3]; exact (Keep.of_below (HB1.out.trans (hb2.mono HB1.out.size))).setCell (fun _ _ h => h rfl) _
  have o3 : Own w3 w.heap.size eL 66 (.slice A2 k c2) rs := own_base (own_keep ho2 fun g hg => by
    rw [hw3]
    exact Below.heap_setCell w2 ⟨b, 1, none⟩ _ g (fun e => by subst e; exact tab_ne hT2.blk ho2 (by decide) hg)) HB1.out.size
  have r3 : RowsOk w3 rs s := by rw [hw3]; exact rows_store hT2.blk hT2.rows 1 _
  have n3 : Blk w3 w.heap.size 31 #[.int .i64 m.1, .string m.2.1, .string m.2.2] := by
    rw [hw3]; exact hN2.far (p := ⟨b, 1, none⟩) (fun e => by simp only at e; omega) _
  have B3 := Lib.hid b3
  have K3 := Lib.hid k3
  have O3 := Lib.hid o3
  have R3 := Lib.hid r3
  have N3 := Lib.hid n3
  have HNIL := Lib.hid hnil2
  have HRL := Lib.hid hrl
  clear b3 k3 o3 r3 n3 hT2 hN2 ho2 hl2 hb2 HT HN1 HB1 HCL p1 hnil2
  rcases hopen with ⟨hat, hop, hlt⟩ | ⟨hat, hop⟩
  · subst hat
    have q1 := B3.out.cell 1
    have hzk : z < k := by have := HK.out; omega
    obtain ⟨g, rfl⟩ : ∃ g, A2 = some ⟨g, 0, none⟩ := by
      rcases O3.out.2 with ⟨e, h0⟩ | ⟨g, _, _, e, _⟩
      · injection e with _ e _; omega
      · injection e with e; exact ⟨g, e⟩
    have HOP := Lib.hid hop
    clear hop
    go_wp2_with fail
    rw [← hw3]
    go_wp2_with fail
    go_ret
    exact ⟨g, c2, rs, by rw [HZ.out]; rfl, by rw [HOP.out, HK.out]; exact B3.out, by rw [HOP.out, HK.out]; exact O3.out, by rw [HOP.out]; exact R3.out, K3.out⟩
  · subst hat
    have q1 := B3.out.cell 1
    have hb3 : b < w3.heap.size := B3.out.lt
    have hwn : w.heap.size < w3.heap.size := N3.out.lt
    have hal3 := alloc_below w3 (.cells #[.slice none 0 0, .slice none 0 0, .int .i64 m.1, .string m.2.1, .string m.2.2] 66)
    have hne3 : (Value.slice A2 k c2).ownBlock ≠ some w3.heap.size := fun e => by have := (own_blk O3.out e).2.1; omega
    have ow3 : Own (w3.alloc (.cells #[.slice none 0 0, .slice none 0 0, .int .i64 m.1, .string m.2.1, .string m.2.2] 66)).drew w.heap.size eL 66 (.slice A2 k c2) rs := own_keep O3.out fun g hg => hal3.block g (own_blk O3.out hg).2.1
    have hins := linsert_ (vb := w3.heap.size) (x := newR m) (i := z) ow3 (Nat.le_trans K3.out.size hal3.size) (by rw [HRL.out]; have := HK.out; omega) (by rw [HRL.out]; have := HK.out; omega) (Blk.new w3 66 _) hne3
    obtain ⟨k1, hk1⟩ : ∃ k1, k + 1 = k1 := ⟨_, rfl⟩
    have HK1 := Lib.hid hk1
    clear hk1
    have hpost : ∀ (v' : Value) (w' : World), Own w' w.heap.size eL 66 v' (linsP rs z (newR m)) → (w3.alloc (.cells #[.slice none 0 0, .slice none 0 0, .int .i64 m.1, .string m.2.1, .string m.2.2] 66)).drew.grownBy w' (Value.slice A2 k c2).ownBlock →
        ∃ g c', v' = .slice (some ⟨g, 0, none⟩) k1 c' ∧ w'.cell? ⟨b, 1, none⟩ = some (.slice A2 k c2) ∧ w'.frozen? ⟨b, 1, none⟩ = false ∧ (w'.setCell ⟨b, 1, none⟩ (.slice (some ⟨g, 0, none⟩) k1 c')).cell? ⟨b, 1, none⟩ = some (.slice (some ⟨g, 0, none⟩) k1 c') ∧ LO w (w'.setCell ⟨b, 1, none⟩ (.slice (some ⟨g, 0, none⟩) k1 c')) b n g c' (linsP rs z (newR m)) (openN s m) := by
      intro v' w' ho hg
      have hbw : Blk w' b 53 #[.int .i64 n, .slice A2 k c2] := (hg.block b (Nat.lt_of_lt_of_le hb3 hal3.size) (fun e => tab_ne B3.out O3.out (by decide) e.symm)).trans (hal3.block b hb3 |>.trans B3.out)
      have hlen : (linsP rs z (newR m)).length = k1 := by rw [linsP_length, HRL.out]; exact HK1.out
      have hol : (openN s m).length = k1 := by
        rw [hop]
        have := congrArg List.length (List.take_append_drop z s)
        have := HK.out
        have := HK1.out
        simp only [List.length_append, List.length_cons] at *
        omega
      obtain ⟨g, c', rfl⟩ : ∃ g c', v' = .slice (some ⟨g, 0, none⟩) k1 c' := by
        rcases ho.2 with ⟨e, h0⟩ | ⟨g, c', _, e, _⟩
        · have := HK1.out; omega
        · exact ⟨g, c', by rw [e, hlen]⟩
      have hbs := hbw.set_ 1 (.slice (some ⟨g, 0, none⟩) k1 c')
      have hkk : Keep (fun i _ => i ≠ b) w w' := (K3.out.trans (Keep.of_below (hal3.trans (Below.refl _ _).drew))).grown hg fun g o hg ho _ => by have := (own_blk O3.out hg).1; have := lt_of_some ho; omega
      have hk2 : Keep (fun i _ => (Value.slice A2 k c2).ownBlock ≠ some i) w3 w' := (Keep.of_below (hal3.trans (Below.refl _ _).drew)).grown hg fun g _ hg _ hq => hq hg
      have hr4 : RowsOk w' rs s := R3.out.kept hk2 fun i cur hc e => by
        obtain ⟨_, _, cur', hc'⟩ := own_blk O3.out e
        rw [hc] at hc'
        injection hc' with hc'
        injection hc' with _ hc'
        cases hc'
      have hown : Own (w'.setCell ⟨b, 1, none⟩ (.slice (some ⟨g, 0, none⟩) k1 c')) w.heap.size eL 66 (.slice (some ⟨g, 0, none⟩) (openN s m).length c') (linsP rs z (newR m)) := by
        rw [hol]
        exact own_keep ho fun g' hg' => Below.heap_setCell w' ⟨b, 1, none⟩ _ g' (fun e => by subst e; exact tab_ne hbw ho (by decide) hg')
      refine ⟨g, c', rfl, hbw.cell 1, hbw.frozen 1, hbs.cell 1, ⟨by rw [hol]; simpa using hbs, hown, ?_, ?_⟩⟩
      · rw [hop]
        exact rows_store hbw (rows_insert hr4 (by rw [HRL.out]; have := HK.out; omega) (new_ok w' m)) 1 _
      · exact hkk.setCell (fun _ _ h => h rfl) _
    have HIN := Lib.hid hins
    have HPO := Lib.hid hpost
    clear hpost hop
    have q2 : (w3.alloc (.cells #[.slice none 0 0, .slice none 0 0, .int .i64 m.1, .string m.2.1, .string m.2.2] 66)).drew.cell? ⟨b, 1, none⟩ = some (.slice A2 k c2) := (cell_of_heap (hal3.block b hb3) 1).trans q1
    have n0 := N3.out.cell 0
    have n1 := N3.out.cell 1
    have n2 := N3.out.cell 2
    have HAL3 := Lib.hid hal3
    clear hal3 hins
    go_wp2_with fail
    rw [← hw3]
    have HW3 := Lib.hid hw3
    clear hw3 p2 f2
    have hzk : z < k1 := by have := HK.out; have := HK1.out; omega
    go_region_with (go_at_call 48; refine HIN.out.mono ?_; rintro e w4 ⟨v4, rfl, ho4, hg4⟩; obtain ⟨g4, c4, rfl, q4, f4, r4, hlo4⟩ := HPO.out v4 w4 ho4 hg4; have HLO := Lib.hid hlo4; clear ho4 hg4 hlo4)
    all_goals
      go_wp2_with fail
      go_ret
      exact ⟨g4, c4, _, by rw [HZ.out]; rfl, HLO.out⟩
end Go.Proofs.YtnjhhndggfjjdaaGreatDoor
namespace Go.Proofs.YtnjhhndggfjjdaaGreatDoor
open Go.RowKit
theorem open_lt (s : TS) (m : Nm) : spotN s m < (openN s m).length := by
  unfold openN
  cases h : atN s m
  · have := spot_le' s m
    simp only [Bool.false_eq_true, if_false, List.length_append, List.length_cons, List.length_take, List.length_drop]
    omega
  · exact at_lt h
theorem open_at (s : TS) (m : Nm) : (openN s m)[spotN s m]? = some (m, lockN s m) := by
  unfold openN
  cases h : atN s m
  · have := spot_le' s m
    simp only [Bool.false_eq_true, if_false]
    rw [List.getElem?_append_right (by rw [List.length_take]; omega), List.length_take, Nat.min_eq_left this, Nat.sub_self, lock_not h]
    rfl
  · simp only [if_true]
    rw [List.getElem?_eq_getElem (at_lt h), lock_at h]
    exact congrArg some (Prod.ext (at_name h) rfl)
theorem put_open (s : TS) (m : Nm) (l : Lk) : putN s m l = (openN s m).set (spotN s m) (m, l) := by
  unfold putN openN
  cases h : atN s m
  · have := spot_le' s m
    simp only [Bool.false_eq_true, if_false]
    rw [List.set_append_right _ _ (by rw [List.length_take]; omega), List.length_take, Nat.min_eq_left this, Nat.sub_self]
    rfl
  · rfl
theorem open_length (s : TS) (m : Nm) : (openN s m).length ≤ s.length + 1 := by
  unfold openN
  cases h : atN s m
  · have := congrArg List.length (List.take_append_drop (spotN s m) s)
    simp only [Bool.false_eq_true, if_false, List.length_append, List.length_cons] at *
    omega
  · simp
theorem own_relock {w w' : World} {base g n c z : Nat} {rs : List Re} (ho : Own w base eL 66 (.slice (some ⟨g, 0, none⟩) n c) rs) (hz : z < rs.length) {cur : Array Value} (hb : Blk w g 66 cur) {vH vL : Sl} (h2 : Two w' g (z * 5) ⟨66, cur⟩ vH.val vL.val) :
    Own w' base eL 66 (.slice (some ⟨g, 0, none⟩) n c) (rs.set z (vH, vL, rs[z].2.2)) := by
  have o1 := own_set1 ho hz (vH, rs[z].2.1, rs[z].2.2) (i := 0) (u := vH.val) (by show 0 < 5; omega) rfl
  have hz2 : z < (rs.set z (vH, rs[z].2.1, rs[z].2.2)).length := by simpa using hz
  have o2 := own_set1 o1 hz2 (vH, vL, rs[z].2.2) (i := 1) (u := vL.val) (by show 1 < 5; omega) (by simp; rfl)
  rw [List.set_set] at o2
  refine own_keep o2 fun g' hg' => ?_
  simp only [Value.ownBlock, Option.some.injEq] at hg'
  subst hg'
  have hb2 := (hb.set_ (z * 5) vH.val).set_ (z * 5 + 1) vL.val
  exact h2.blk.trans hb2.symm
theorem own_row_lock {w : World} {base g n c z : Nat} {rs : List Re} {s : TS} (ho : Own w base eL 66 (.slice (some ⟨g, 0, none⟩) n c) rs) (hr : RowsOk w rs s) (hz : z < rs.length) (hs : z < s.length) :
    ∃ cur, Blk w g 66 cur ∧ Lock w g (z * 5) ⟨66, cur⟩ s[z].2 := by
  obtain ⟨_, _, cur, hc⟩ := own_blk ho rfl
  obtain ⟨A, c', e, hl, _⟩ := own_lst ho
  injection e with e _ _
  subst e
  obtain ⟨g', o, e, _, hg, h0, h1, _⟩ := hl.atL hz
  injection e with e
  injection e with e1 e2 _
  subst e1 e2
  have hrow := hr.2 z hz hs
  rw [Nat.zero_add] at h0 h1
  exact ⟨cur, hc, _, _, two_of_cells (show Blk w g _ cur from hc) (by decide) h0 h1, hrow.held, hrow.line⟩
/-- the table behind a call of one of its locks -/
theorem relocked {w0 w w' : World} {b : Nat} {n : Int} {g c : Nat} {rs : List Re} {s : TS} {m : Nm} (h : LO w0 w b n g c rs (openN s m)) {cur : Array Value} (hb : Blk w g 66 cur) {l : Lk} (hl : Lock w' g (spotN s m * 5) ⟨66, cur⟩ l) (k : Keep (fun i _ => i ≠ g) w w') :
    LT w' b n (putN s m l) ∧ Keep (fun i _ => i ≠ b) w0 w' := by
  obtain ⟨vH, vL, h2, aH, aL⟩ := hl
  have hgb : b ≠ g := ne_of_types (g := g) hb h.blk (by decide)
  have hgw : w0.heap.size ≤ g := (own_blk h.own rfl).1
  have hrl : rs.length = (openN s m).length := h.rows.1
  have hz : spotN s m < rs.length := by rw [hrl]; exact open_lt s m
  obtain ⟨A1, c1, e1, l1, _⟩ := aH
  obtain ⟨A2, c2, e2, l2, _⟩ := aL
  have aH : At w' vH l.1 := ⟨A1, c1, e1, l1, by assumption⟩
  have aL : At w' vL l.2 := ⟨A2, c2, e2, l2, by assumption⟩
  have o2 := own_relock h.own hz hb (vH := (A1, l.1.length, c1)) (vL := (A2, l.2.length, c2)) (by
    show Two w' g _ _ (.slice A1 l.1.length c1) (.slice A2 l.2.length c2)
    rw [← e1, ← e2]; exact h2)
  have hnm : rs[spotN s m].2.2 = m := by
    have := (h.rows.2 _ hz (open_lt s m)).name
    rw [this]
    have h3 := open_at s m
    rw [List.getElem?_eq_getElem (open_lt s m)] at h3
    injection h3 with h3
    rw [h3]
  have hr2 : RowsOk w' (rs.set (spotN s m) ((A1, l.1.length, c1), (A2, l.2.length, c2), rs[spotN s m].2.2)) (putN s m l) := by
    rw [put_open]
    refine rows_set (h.rows.kept k fun i cur' hc => ne_of_types hb hc (by decide)) ⟨hnm, ?_, ?_⟩
    · show At w' (.slice A1 l.1.length c1) l.1
      rw [← e1]; exact aH
    · show At w' (.slice A2 l.2.length c2) l.2
      rw [← e2]; exact aL
  have hpl : (putN s m l).length = (openN s m).length := by rw [put_open, List.length_set]
  obtain ⟨A, c', e, hlst, hlc, hcm, hnil⟩ := own_lst o2
  injection e with e3 e4 e5
  subst e3 e5
  refine ⟨⟨_, c, _, ?_, hlst.more fun i _ hi => ?_, hr2, by rw [hpl, ← hrl]; simpa using hlc, hcm, hnil⟩, ?_⟩
  · rw [hpl]
    exact (k.block b _ h.blk hgb)
  · obtain ⟨_, hi⟩ := hi
    exact (own_blk o2 hi).2.2
  · exact ⟨k.os.trans h.keep.os, k.tape.trans h.keep.tape, k.output.trans h.keep.output, Nat.le_trans h.keep.size k.size, fun i o ho hi => k.block i o (h.keep.block i o ho hi) (fun e => by have := lt_of_some ho; omega)⟩
/-- what Ask answers, and leaves -/
def TAsk (w : World) (b : Nat) (s : TS) (who : Int) (n : Nm) (mode : Int) (e : Ending) (w' : World) : Prop :=
  e = .returned (.int .i64 ((askN s who n mode).1 : Int)) ∧ LT w' b (countP (askN s who n mode).2 : Int) (askN s who n mode).2 ∧ Keep (fun i _ => i ≠ b) w w'
theorem ask_unknown {s : TS} {who : Int} {n : Nm} {mode : Int} (h : knownP n = none) : askN s who n mode = (1, s) := by unfold askN; rw [h]
theorem ask_state {s : TS} {who : Int} {n m : Nm} {mode : Int} (h : knownP n = some m) (h2 : (waitN s who).isSome = true) : askN s who n mode = (2, s) := by unfold askN; rw [h]; simp only; rw [if_pos h2]
theorem ask_nothing {s : TS} {who : Int} {n m : Nm} {mode : Int} (h : knownP n = some m) (h2 : (waitN s who).isSome = false) (h3 : mode = 0) : askN s who n mode = (0, s) := by unfold askN; rw [h]; simp only; rw [if_neg (by simp [h2]), if_pos h3]
theorem ask_full {s : TS} {who : Int} {n m : Nm} {mode : Int} (h : knownP n = some m) (h2 : (waitN s who).isSome = false) (h3 : mode ≠ 0) (h4 : hereP (lockN s m) who = false) (h5 : 200 ≤ countP s) : askN s who n mode = (10, s) := by unfold askN; rw [h]; simp only; rw [if_neg (by simp [h2]), if_neg h3, if_pos ⟨h4, h5⟩]
theorem ask_asks {s : TS} {who : Int} {n m : Nm} {mode : Int} (h : knownP n = some m) (h2 : (waitN s who).isSome = false) (h3 : mode ≠ 0) (h4 : hereP (lockN s m) who = true ∨ countP s < 200) :
    askN s who n mode = (if (askP (lockN s m) who (mdN mode)).1 then 0 else 13, putN s m (askP (lockN s m) who (mdN mode)).2) := by
  unfold askN; rw [h]; simp only
  rw [if_neg (by simp [h2]), if_neg h3, if_neg]
  rintro ⟨h5, h6⟩
  rcases h4 with h4 | h4
  · rw [h4] at h5; cases h5
  · omega
theorem lock_ok {s : TS} (h : TGood s) (m : Nm) : Ok (lockN s m) ∧ (lockN s m).1.length ≤ 10000 ∧ (lockN s m).2.length ≤ 10000 := by
  cases hat : atN s m
  · rw [lock_not hat]
    exact ⟨ok_none, by simp, by simp⟩
  · rw [lock_at hat]
    have hm := List.getElem_mem (at_lt hat)
    exact ⟨h.ok _ hm, h.small _ hm⟩
set_option maxHeartbeats 4000000 in
/-- behind the count: the lock of the name is asked -/
theorem ask_tail {w : World} {b : Nat} {s : TS} {k : Nat} (h : LT w b (k : Int) s) (hg : TGood s) (hT : Tab w) (hb0 : 0 ≠ b) (m : Nm) :
    Calls Tryz.prog 25 #[.pointer (some ⟨b, 0, none⟩), valN m] w fun e w' => ∃ g, e = .returned (.pointer (some ⟨g, spotN s m * 5, none⟩)) ∧ ∀ who mode, Calls Tryz.prog 26 #[.pointer (some ⟨g, spotN s m * 5, none⟩), .int .i64 who, .int .i64 mode] w' fun e w2 => e = .returned (.bool (askP (lockN s m) who (mdN mode)).1) ∧ LT w2 b (k : Int) (putN s m (askP (lockN s m) who (mdN mode)).2) ∧ Keep (fun i _ => i ≠ b) w w2 := by
  obtain ⟨A, c, rs, h⟩ := h
  refine (lockof_ h hg.rise hg.len m).mono ?_
  rintro e w1 ⟨g, c1, rs1, rfl, hlo⟩
  refine ⟨g, rfl, fun who mode => ?_⟩
  have hz : spotN s m < rs1.length := by rw [hlo.rows.1]; exact open_lt s m
  obtain ⟨cur, hc, hl⟩ := own_row_lock hlo.own hlo.rows hz (open_lt s m)
  have hat := open_at s m
  rw [List.getElem?_eq_getElem (open_lt s m)] at hat
  injection hat with hat
  rw [hat] at hl
  simp only at hl
  obtain ⟨ok, n1, n2⟩ := lock_ok hg m
  have hg0 : 0 ≠ g := by
    have h1 : w.heap.size ≤ g := (own_blk hlo.own rfl).1
    have h2 := hT.lt
    omega
  refine (ask_ hl ok n1 n2 (hT.keep hlo.keep fun _ => hb0) hg0 who mode).mono ?_
  rintro e w2 ⟨rfl, hl2, k2⟩
  obtain ⟨h1, h2⟩ := relocked hlo hc hl2 k2
  exact ⟨rfl, h1, h2⟩
end Go.Proofs.YtnjhhndggfjjdaaGreatDoor
namespace Go.Proofs.YtnjhhndggfjjdaaGreatDoor
open Go
theorem has_mem {l : List Cl} {x : Int} : hasP l x = true ↔ x ∈ l.map (·.1) := by
  unfold hasP
  rw [List.any_eq_true, List.mem_map]
  constructor
  · rintro ⟨c, hc, h⟩
    exact ⟨c, hc, by simpa [isW] using h⟩
  · rintro ⟨c, hc, rfl⟩
    exact ⟨c, hc, by simp [isW]⟩
/-- all that have to do with a lock -/
def whosP (s : Lk) : List Int := (holdsP s).map (·.1)
theorem whos_mem {s : Lk} (ok : Ok s) (x : Int) : x ∈ whosP s ↔ (hasP s.1 x = true ∨ hasP s.2 x = true) := by
  obtain ⟨H, L⟩ := s
  unfold whosP holdsP
  simp only [List.map_append, List.map_map, List.mem_append, List.mem_map, List.mem_filter, Function.comp]
  constructor
  · rintro (⟨c, hc, rfl⟩ | ⟨c, ⟨hc, _⟩, rfl⟩)
    · exact .inl (has_mem.2 (List.mem_map.2 ⟨c, hc, rfl⟩))
    · exact .inr (has_mem.2 (List.mem_map.2 ⟨c, hc, rfl⟩))
  · intro h
    cases hh : hasP H x
    · rcases h with h | h
      · rw [hh] at h; cases h
      · obtain ⟨c, hc, rfl⟩ := List.mem_map.1 (has_mem.1 h)
        refine .inr ⟨c, ⟨hc, ?_⟩, rfl⟩
        rw [mode_zero ok.mH c.1, hh]
        rfl
    · obtain ⟨c, hc, rfl⟩ := List.mem_map.1 (has_mem.1 hh)
      exact .inl ⟨c, hc, rfl⟩
theorem here_mem (s : Lk) (x : Int) : hereP s x = true ↔ x ∈ whosP s := by
  unfold hereP whosP
  rw [List.any_eq_true, List.mem_map]
  constructor
  · rintro ⟨c, hc, h⟩
    exact ⟨c, hc, by simpa using h⟩
  · rintro ⟨c, hc, rfl⟩
    exact ⟨c, hc, by simp⟩
theorem whos_nodup {s : Lk} (ok : Ok s) : (whosP s).Nodup := holds_nodup ok
theorem whos_length (s : Lk) : (whosP s).length = (holdsP s).length := List.length_map _
/-- two lists without doubles, the same but for one -/
theorem length_more {l m : List Int} {x : Int} (hl : l.Nodup) (hm : m.Nodup) (hx : x ∉ l) (h : ∀ y, y ∈ m ↔ y = x ∨ y ∈ l) : m.length = l.length + 1 := by
  have h2 : (x :: l).Nodup := List.nodup_cons.2 ⟨hx, hl⟩
  have := (List.perm_ext_iff_of_nodup hm h2).2 fun y => by rw [h y, List.mem_cons]
  rw [this.length_eq, List.length_cons]
theorem length_same {l m : List Int} (hl : l.Nodup) (hm : m.Nodup) (h : ∀ y, y ∈ m ↔ y ∈ l) : m.length = l.length := ((List.perm_ext_iff_of_nodup hm hl).2 h).length_eq
theorem grant_has_iff {H : List Cl} {x : Cl} {y : Int} : hasP (grantP H x) y = true ↔ y = x.1 ∨ hasP H y = true := by
  unfold grantP
  cases hh : hasP H x.1
  · rw [if_neg (by simp), has_mem, has_mem]
    simp [or_comm]
  · rw [if_pos rfl, has_mem, has_mem]
    rcases idx_cases (isW x.1) H with ⟨_, h2⟩ | ⟨hlt, _, _, hit⟩
    · unfold hasP at hh
      rw [h2] at hh; cases hh
    · have he : (H[H.findIdx (isW x.1)]).1 = x.1 := by simpa [isW] using hit
      have hs : (H.set (H.findIdx (isW x.1)) x).map (·.1) = H.map (·.1) := by
        rw [List.map_set]
        refine List.ext_getElem? fun i => ?_
        rw [List.getElem?_set]
        split
        · rename_i e
          subst e
          rw [if_pos (by simpa using hlt), List.getElem?_eq_getElem (by simpa using hlt), List.getElem_map, he]
        · rfl
      rw [hs]
      constructor
      · exact .inr
      · rintro (rfl | h)
        · exact has_mem.1 hh
        · exact h
theorem wait_has_iff {H L : List Cl} {x : Cl} {y : Int} : hasP (waitP H L x) y = true ↔ y = x.1 ∨ hasP L y = true := by
  unfold waitP
  rw [has_mem, has_mem]
  conv => rhs; rw [← List.take_append_drop (spotP H L x.1) L]
  simp only [List.map_append, List.map_cons, List.mem_append, List.mem_cons]
  constructor
  · rintro (h | h | h)
    · exact .inr (.inl h)
    · exact .inl h
    · exact .inr (.inr h)
  · rintro (h | h | h)
    · exact .inr (.inl h)
    · exact .inl h
    · exact .inr (.inr h)
/-- who has to do with it behind an Ask for something -/
theorem ask_whos {s : Lk} {who : Int} {q : Nat} (ok : Ok s) (hq : q ≠ 0) (hq6 : q < 6) (hl : hasP s.2 who = false) (y : Int) : (hasP (askP s who q).2.1 y = true ∨ hasP (askP s who q).2.2 y = true) ↔ (y = who ∨ hasP s.1 y = true ∨ hasP s.2 y = true) := by
  obtain ⟨H, L⟩ := s
  have ml : modeP L who = 0 := by
    have := mode_zero ok.mL who
    simp only at hl
    rw [hl] at this
    simpa using this
  unfold askP
  simp only at *
  rw [if_neg hq, if_neg (by simpa using ml)]
  by_cases h1 : covB (modeP H who) q = true
  · rw [if_pos h1]
    constructor
    · exact .inr
    · rintro (rfl | h)
      · left
        rw [← mode_ne ok.mH y]
        by_cases h0 : modeP H y = 0
        · rw [h0, cov_zero hq6] at h1
          exact absurd (of_decide_eq_true h1) hq
        · simpa using h0
      · exact h
  · rw [if_neg h1]
    split
    · simp only
      rw [grant_has_iff]
      simp only
      constructor
      · rintro ((h | h) | h)
        · exact .inl h
        · exact .inr (.inl h)
        · exact .inr (.inr h)
      · rintro (h | h | h)
        · exact .inl (.inl h)
        · exact .inl (.inr h)
        · exact .inr h
    · simp only
      rw [wait_has_iff]
      simp only
      constructor
      · rintro (h | h | h)
        · exact .inr (.inl h)
        · exact .inl h
        · exact .inr (.inr h)
      · rintro (h | h | h)
        · exact .inr (.inl h)
        · exact .inl h
        · exact .inr (.inr h)
/-- .. and in the line nobody else than was there, and who asked -/
theorem ask_line {s : Lk} {who : Int} {q : Nat} {y : Int} (h : hasP (askP s who q).2.2 y = true) : y = who ∨ hasP s.2 y = true := by
  obtain ⟨H, L⟩ := s
  unfold askP at h
  simp only at *
  split at h
  · exact .inr h
  · split at h
    · exact .inr h
    · split at h
      · exact .inr h
      · split at h
        · exact .inr h
        · exact wait_has_iff.1 h
theorem ask_count {s : Lk} {who : Int} {q : Nat} (ok : Ok s) (hq : q ≠ 0) (hq6 : q < 6) (hl : hasP s.2 who = false) : (holdsP (askP s who q).2).length = (holdsP s).length + (if hereP s who = true then 0 else 1) := by
  have ok2 := ok_ask ok who hq6
  have hm : ∀ y, y ∈ whosP (askP s who q).2 ↔ y = who ∨ y ∈ whosP s := fun y => by rw [whos_mem ok2, whos_mem ok, ask_whos ok hq hq6 hl]
  rw [← whos_length, ← whos_length]
  cases hh : hereP s who
  · exact length_more (whos_nodup ok) (whos_nodup ok2) (fun h => by rw [(here_mem s who).2 h] at hh; cases hh) hm
  · exact length_same (whos_nodup ok) (whos_nodup ok2) fun y => by
      rw [hm y]
      constructor
      · rintro (rfl | h)
        · exact (here_mem s y).1 hh
        · exact h
      · exact .inr
theorem drain_whos : ∀ (L H : List Cl) (y : Int), (hasP (drainP H L).2.1 y = true ∨ hasP (drainP H L).2.2 y = true) ↔ (hasP H y = true ∨ hasP L y = true)
  | [], H, y => by simp [drainP]
  | x :: L, H, y => by
    by_cases hf : fitsP H x = true
    · rw [drain_go hf]
      simp only
      rw [drain_whos L _ y, grant_has_iff]
      have : hasP (x :: L) y = true ↔ y = x.1 ∨ hasP L y = true := by rw [has_mem, has_mem]; simp
      rw [this]
      constructor
      · rintro ((h | h) | h)
        · exact .inr (.inl h)
        · exact .inl h
        · exact .inr (.inr h)
      · rintro (h | h | h)
        · exact .inl (.inr h)
        · exact .inl (.inl h)
        · exact .inr h
    · rw [drain_stop (by simpa using hf)]
theorem without_has {l : List Cl} {who y : Int} : hasP (withoutP l who) y = true ↔ y ≠ who ∧ hasP l y = true := by
  rw [has_mem, has_mem]
  unfold withoutP
  simp only [List.mem_map, List.mem_filter]
  constructor
  · rintro ⟨c, ⟨hc, h⟩, rfl⟩
    exact ⟨by simpa [isW] using h, c, hc, rfl⟩
  · rintro ⟨h, c, hc, rfl⟩
    exact ⟨c, ⟨hc, by simpa [isW] using h⟩, rfl⟩
theorem drop_whos {s : Lk} (who y : Int) : (hasP (dropP s who).2.1 y = true ∨ hasP (dropP s who).2.2 y = true) ↔ (y ≠ who ∧ (hasP s.1 y = true ∨ hasP s.2 y = true)) := by
  unfold dropP
  rw [drain_whos, without_has, without_has]
  constructor
  · rintro (⟨h, h2⟩ | ⟨h, h2⟩)
    · exact ⟨h, .inl h2⟩
    · exact ⟨h, .inr h2⟩
  · rintro ⟨h, h2 | h2⟩
    · exact .inl ⟨h, h2⟩
    · exact .inr ⟨h, h2⟩
theorem drain_line : ∀ (L H : List Cl) {y : Int}, hasP (drainP H L).2.2 y = true → hasP L y = true
  | [], H, y, h => by simp [drainP, hasP] at h
  | x :: L, H, y, h => by
    by_cases hf : fitsP H x = true
    · rw [drain_go hf] at h
      have := drain_line L _ h
      rw [has_mem] at *
      simp only [List.map_cons, List.mem_cons]
      exact .inr this
    · rw [drain_stop (by simpa using hf)] at h
      exact h
theorem drop_line {s : Lk} {who y : Int} (h : hasP (dropP s who).2.2 y = true) : hasP s.2 y = true := (without_has.1 (drain_line _ _ h)).2
theorem drop_count {s : Lk} {who : Int} (ok : Ok s) (hh : hereP s who = true) : (holdsP (dropP s who).2).length + 1 = (holdsP s).length := by
  have ok2 := ok_drop ok who
  rw [← whos_length, ← whos_length]
  refine (length_more (whos_nodup ok2) (whos_nodup ok) (x := who) (fun h => ?_) fun y => ?_).symm
  · rw [whos_mem ok2, drop_whos] at h
    exact h.1 rfl
  · rw [whos_mem ok2, whos_mem ok, drop_whos]
    constructor
    · intro h
      by_cases e : y = who
      · exact .inl e
      · exact .inr ⟨e, h⟩
    · rintro (rfl | h)
      · have := (here_mem s y).1 hh
        rwa [whos_mem ok] at this
      · exact h.2
end Go.Proofs.YtnjhhndggfjjdaaGreatDoor
