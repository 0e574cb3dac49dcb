/- Package locks' Ask. -/
import Derived.Test.YtnjhhndggfjjdaaDoorLkW
import Derived.Test.YtnjhhndggfjjdaaDoorLkO
import Derived.Test.YtnjhhndggfjjdaaDoorRqO
set_option maxRecDepth 4000
namespace Go.Proofs.YtnjhhndggfjjdaaDoor
open Go.RowKit
theorem open_lt (s : TS) (m : Nm) : spotN s m < (openN s m).length := by
  unfold openN
  cases h : atN s m
  · have := spot_le' s m
    simp only [Bool.false_eq_true, if_false, List.length_append, List.length_cons, List.length_take, List.length_drop]
    omega
  · exact at_lt h
theorem open_at (s : TS) (m : Nm) : (openN s m)[spotN s m]? = some (m, lockN s m) := by
  unfold openN
  cases h : atN s m
  · have := spot_le' s m
    simp only [Bool.false_eq_true, if_false]
    rw [List.getElem?_append_right (by rw [List.length_take]; omega), List.length_take, Nat.min_eq_left this, Nat.sub_self, lock_not h]
    rfl
  · simp only [if_true]
    rw [List.getElem?_eq_getElem (at_lt h), lock_at h]
    exact congrArg some (Prod.ext (at_name h) rfl)
theorem put_open (s : TS) (m : Nm) (l : Lk) : putN s m l = (openN s m).set (spotN s m) (m, l) := by
  unfold putN openN
  cases h : atN s m
  · have := spot_le' s m
    simp only [Bool.false_eq_true, if_false]
    rw [List.set_append_right _ _ (by rw [List.length_take]; omega), List.length_take, Nat.min_eq_left this, Nat.sub_self]
    rfl
  · rfl
theorem open_length (s : TS) (m : Nm) : (openN s m).length ≤ s.length + 1 := by
  unfold openN
  cases h : atN s m
  · have := congrArg List.length (List.take_append_drop (spotN s m) s)
    simp only [Bool.false_eq_true, if_false, List.length_append, List.length_cons] at *
    omega
  · simp
theorem own_relock {w w' : World} {base g n c z : Nat} {rs : List Re} (ho : Own w base eL 62 (.slice (some ⟨g, 0, none⟩) n c) rs) (hz : z < rs.length) {cur : Array Value} (hb : Blk w g 62 cur) {vH vL : Sl} (h2 : Two w' g (z * 5) ⟨62, cur⟩ vH.val vL.val) :
    Own w' base eL 62 (.slice (some ⟨g, 0, none⟩) n c) (rs.set z (vH, vL, rs[z].2.2)) := by
  have o1 := own_set1 ho hz (vH, rs[z].2.1, rs[z].2.2) (i := 0) (u := vH.val) (by show 0 < 5; omega) rfl
  have hz2 : z < (rs.set z (vH, rs[z].2.1, rs[z].2.2)).length := by simpa using hz
  have o2 := own_set1 o1 hz2 (vH, vL, rs[z].2.2) (i := 1) (u := vL.val) (by show 1 < 5; omega) (by simp; rfl)
  rw [List.set_set] at o2
  refine own_keep o2 fun g' hg' => ?_
  simp only [Value.ownBlock, Option.some.injEq] at hg'
  subst hg'
  have hb2 := (hb.set_ (z * 5) vH.val).set_ (z * 5 + 1) vL.val
  exact h2.blk.trans hb2.symm
theorem own_row_lock {w : World} {base g n c z : Nat} {rs : List Re} {s : TS} (ho : Own w base eL 62 (.slice (some ⟨g, 0, none⟩) n c) rs) (hr : RowsOk w rs s) (hz : z < rs.length) (hs : z < s.length) :
    ∃ cur, Blk w g 62 cur ∧ Lock w g (z * 5) ⟨62, cur⟩ s[z].2 := by
  obtain ⟨_, _, cur, hc⟩ := own_blk ho rfl
  obtain ⟨A, c', e, hl, _⟩ := own_lst ho
  injection e with e _ _
  subst e
  obtain ⟨g', o, e, _, hg, h0, h1, _⟩ := hl.atL hz
  injection e with e
  injection e with e1 e2 _
  subst e1 e2
  have hrow := hr.2 z hz hs
  rw [Nat.zero_add] at h0 h1
  exact ⟨cur, hc, _, _, two_of_cells (show Blk w g _ cur from hc) (by decide) h0 h1, hrow.held, hrow.line⟩
/-- the table behind a call of one of its locks -/
theorem relocked {w0 w w' : World} {b : Nat} {n : Int} {g c : Nat} {rs : List Re} {s : TS} {m : Nm} (h : LO w0 w b n g c rs (openN s m)) {cur : Array Value} (hb : Blk w g 62 cur) {l : Lk} (hl : Lock w' g (spotN s m * 5) ⟨62, cur⟩ l) (k : Keep (fun i _ => i ≠ g) w w') :
    LT w' b n (putN s m l) ∧ Keep (fun i _ => i ≠ b) w0 w' := by
  obtain ⟨vH, vL, h2, aH, aL⟩ := hl
  have hgb : b ≠ g := ne_of_types (g := g) hb h.blk (by decide)
  have hgw : w0.heap.size ≤ g := (own_blk h.own rfl).1
  have hrl : rs.length = (openN s m).length := h.rows.1
  have hz : spotN s m < rs.length := by rw [hrl]; exact open_lt s m
  obtain ⟨A1, c1, e1, l1, _⟩ := aH
  obtain ⟨A2, c2, e2, l2, _⟩ := aL
  have aH : At w' vH l.1 := ⟨A1, c1, e1, l1, by assumption⟩
  have aL : At w' vL l.2 := ⟨A2, c2, e2, l2, by assumption⟩
  have o2 := own_relock h.own hz hb (vH := (A1, l.1.length, c1)) (vL := (A2, l.2.length, c2)) (by
    show Two w' g _ _ (.slice A1 l.1.length c1) (.slice A2 l.2.length c2)
    rw [← e1, ← e2]; exact h2)
  have hnm : rs[spotN s m].2.2 = m := by
    have := (h.rows.2 _ hz (open_lt s m)).name
    rw [this]
    have h3 := open_at s m
    rw [List.getElem?_eq_getElem (open_lt s m)] at h3
    injection h3 with h3
    rw [h3]
  have hr2 : RowsOk w' (rs.set (spotN s m) ((A1, l.1.length, c1), (A2, l.2.length, c2), rs[spotN s m].2.2)) (putN s m l) := by
    rw [put_open]
    refine rows_set (h.rows.kept k fun i cur' hc => ne_of_types hb hc (by decide)) ⟨hnm, ?_, ?_⟩
    · show At w' (.slice A1 l.1.length c1) l.1
      rw [← e1]; exact aH
    · show At w' (.slice A2 l.2.length c2) l.2
      rw [← e2]; exact aL
  have hpl : (putN s m l).length = (openN s m).length := by rw [put_open, List.length_set]
  obtain ⟨A, c', e, hlst, hlc, hcm, hnil⟩ := own_lst o2
  injection e with e3 e4 e5
  subst e3 e5
  refine ⟨⟨_, c, _, ?_, hlst.more fun i _ hi => ?_, hr2, by rw [hpl, ← hrl]; simpa using hlc, hcm, hnil⟩, ?_⟩
  · rw [hpl]
    exact (k.block b _ h.blk hgb)
  · obtain ⟨_, hi⟩ := hi
    exact (own_blk o2 hi).2.2
  · exact ⟨k.os.trans h.keep.os, k.tape.trans h.keep.tape, k.output.trans h.keep.output, Nat.le_trans h.keep.size k.size, fun i o ho hi => k.block i o (h.keep.block i o ho hi) (fun e => by have := lt_of_some ho; omega)⟩
/-- what Ask answers, and leaves -/
def TAsk (w : World) (b : Nat) (s : TS) (who : Int) (n : Nm) (mode : Int) (e : Ending) (w' : World) : Prop :=
  e = .returned (.int .i64 ((askN s who n mode).1 : Int)) ∧ LT w' b (countP (askN s who n mode).2 : Int) (askN s who n mode).2 ∧ Keep (fun i _ => i ≠ b) w w'
theorem ask_unknown {s : TS} {who : Int} {n : Nm} {mode : Int} (h : knownP n = none) : askN s who n mode = (1, s) := by unfold askN; rw [h]
theorem ask_state {s : TS} {who : Int} {n m : Nm} {mode : Int} (h : knownP n = some m) (h2 : (waitN s who).isSome = true) : askN s who n mode = (2, s) := by unfold askN; rw [h]; simp only; rw [if_pos h2]
theorem ask_nothing {s : TS} {who : Int} {n m : Nm} {mode : Int} (h : knownP n = some m) (h2 : (waitN s who).isSome = false) (h3 : mode = 0) : askN s who n mode = (0, s) := by unfold askN; rw [h]; simp only; rw [if_neg (by simp [h2]), if_pos h3]
theorem ask_full {s : TS} {who : Int} {n m : Nm} {mode : Int} (h : knownP n = some m) (h2 : (waitN s who).isSome = false) (h3 : mode ≠ 0) (h4 : hereP (lockN s m) who = false) (h5 : 200 ≤ countP s) : askN s who n mode = (10, s) := by unfold askN; rw [h]; simp only; rw [if_neg (by simp [h2]), if_neg h3, if_pos ⟨h4, h5⟩]
theorem ask_asks {s : TS} {who : Int} {n m : Nm} {mode : Int} (h : knownP n = some m) (h2 : (waitN s who).isSome = false) (h3 : mode ≠ 0) (h4 : hereP (lockN s m) who = true ∨ countP s < 200) :
    askN s who n mode = (if (askP (lockN s m) who (mdN mode)).1 then 0 else 13, putN s m (askP (lockN s m) who (mdN mode)).2) := by
  unfold askN; rw [h]; simp only
  rw [if_neg (by simp [h2]), if_neg h3, if_neg]
  rintro ⟨h5, h6⟩
  rcases h4 with h4 | h4
  · rw [h4] at h5; cases h5
  · omega
theorem lock_ok {s : TS} (h : TGood s) (m : Nm) : Ok (lockN s m) ∧ (lockN s m).1.length ≤ 10000 ∧ (lockN s m).2.length ≤ 10000 := by
  cases hat : atN s m
  · rw [lock_not hat]
    exact ⟨ok_none, by simp, by simp⟩
  · rw [lock_at hat]
    have hm := List.getElem_mem (at_lt hat)
    exact ⟨h.ok _ hm, h.small _ hm⟩
set_option maxHeartbeats 4000000 in
/-- behind the count: the lock of the name is asked -/
theorem ask_tail {w : World} {b : Nat} {s : TS} {k : Nat} (h : LT w b (k : Int) s) (hg : TGood s) (hT : Tab w) (hb0 : 0 ≠ b) (m : Nm) :
    Calls Tryd.prog 21 #[.pointer (some ⟨b, 0, none⟩), valN m] w fun e w' => ∃ g, e = .returned (.pointer (some ⟨g, spotN s m * 5, none⟩)) ∧ ∀ who mode, Calls Tryd.prog 22 #[.pointer (some ⟨g, spotN s m * 5, none⟩), .int .i64 who, .int .i64 mode] w' fun e w2 => e = .returned (.bool (askP (lockN s m) who (mdN mode)).1) ∧ LT w2 b (k : Int) (putN s m (askP (lockN s m) who (mdN mode)).2) ∧ Keep (fun i _ => i ≠ b) w w2 := by
  obtain ⟨A, c, rs, h⟩ := h
  refine (lockof_ h hg.rise hg.len m).mono ?_
  rintro e w1 ⟨g, c1, rs1, rfl, hlo⟩
  refine ⟨g, rfl, fun who mode => ?_⟩
  have hz : spotN s m < rs1.length := by rw [hlo.rows.1]; exact open_lt s m
  obtain ⟨cur, hc, hl⟩ := own_row_lock hlo.own hlo.rows hz (open_lt s m)
  have hat := open_at s m
  rw [List.getElem?_eq_getElem (open_lt s m)] at hat
  injection hat with hat
  rw [hat] at hl
  simp only at hl
  obtain ⟨ok, n1, n2⟩ := lock_ok hg m
  have hg0 : 0 ≠ g := by
    have h1 : w.heap.size ≤ g := (own_blk hlo.own rfl).1
    have h2 := hT.lt
    omega
  refine (ask_ hl ok n1 n2 (hT.keep hlo.keep fun _ => hb0) hg0 who mode).mono ?_
  rintro e w2 ⟨rfl, hl2, k2⟩
  obtain ⟨h1, h2⟩ := relocked hlo hc hl2 k2
  exact ⟨rfl, h1, h2⟩
end Go.Proofs.YtnjhhndggfjjdaaDoor
