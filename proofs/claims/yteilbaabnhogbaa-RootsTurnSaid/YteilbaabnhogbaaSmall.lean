/- What a disk's small calls answer and do: Len, has, broken, Writes, Sync, Break. -/
import Derived.Test.YteilbaabnhogbaaProg
import Derived.Test.YteilbaabnhogbaaMem
import Derived.WalkKit
import Derived.ProofKit
import Derived.LoopTactic
import Derived.Laws.Cover1
import Derived.Lib.Hide
import Derived.Laws.MakeOwn
import Derived.Laws.NewBlocks
import Derived.WalkLawsBesides
namespace Go.Proofs.Yteilbaabnhogbaa
open Go.RowKit
abbrev ptr (g : Nat) : Value := .pointer (some ⟨g, 0, none⟩)
section
variable {w : World} {g : Nat} {O : Nat → Prop} {s : St}
theorem len_ (h : DiskAt w g O s) : Calls Try.prog 43 #[ptr g] w fun e w' => e = .returned (.int .i64 (s.n : Int)) ∧ w = w' := by
  obtain ⟨gt, v, h⟩ := h
  have c0 := h.head.cell 0
  simp at c0
  clear h
  go_enter Try.func43, Try.ntmps43
  go_wp2
  go_ret
  exact ⟨rfl, rfl⟩
theorem has_yes (h : DiskAt w g O s) (i : Nat) (hi : i < s.n) : Calls Try.prog 36 #[ptr g, .int .i64 (i : Int)] w fun e w' => e = .returned (.bool true) ∧ w = w' := by
  have H := Lib.hid h
  clear h
  go_enter Try.func36, Try.ntmps36
  go_wp2_with (go_at_call 43; refine (len_ H.out).mono ?_; rintro e w' ⟨rfl, rfl⟩)
  go_ret
  exact ⟨rfl, rfl⟩
theorem has_no (h : DiskAt w g O s) (i : Int) (hi : i < 0 ∨ (s.n : Int) ≤ i) : Calls Try.prog 36 #[ptr g, .int .i64 i] w fun e w' => e = .returned (.bool false) ∧ w = w' := by
  have H := Lib.hid h
  clear h
  rcases Int.lt_or_le i 0 with h0 | h0
  · clear hi
    go_enter Try.func36, Try.ntmps36
    go_wp2
    go_ret
    exact ⟨rfl, rfl⟩
  · have h1 : (s.n : Int) ≤ i := by omega
    have h2 : decide (i < (s.n : Int)) = false := by simpa using h1
    clear hi
    go_enter Try.func36, Try.ntmps36
    go_wp2_with (go_at_call 43; refine (len_ H.out).mono ?_; rintro e w' ⟨rfl, rfl⟩)
    go_ret
    exact ⟨rfl, rfl⟩
theorem broken_ (h : DiskAt w g O s) : Calls Try.prog 19 #[ptr g] w fun e w' => e = .returned (.bool s.broken) ∧ w = w' := by
  obtain ⟨gt, v, h⟩ := h
  have c3 := h.head.cell 3
  have c4 := h.head.cell 4
  simp at c3 c4
  clear h
  unfold St.broken
  generalize s.ends = e at *
  generalize s.left = l at *
  cases e
  · go_enter Try.func19, Try.ntmps19
    go_wp2
    go_ret
    exact ⟨rfl, rfl⟩
  · go_enter Try.func19, Try.ntmps19
    go_wp2
    go_ret
    refine ⟨?_, rfl⟩
    have : ((l : Int) == 0) = (l == 0) := by rw [Bool.eq_iff_iff]; simp
    simp [this]
theorem broken_is {b : Bool} (h : DiskAt w g O s) (hb : s.broken = b) : Calls Try.prog 19 #[ptr g] w fun e w' => e = .returned (.bool b) ∧ w = w' :=
  (broken_ h).mono fun _ _ ⟨h1, h2⟩ => ⟨by rw [h1, hb], h2⟩
/-- the head turned: all else stands -/
theorem DiskM.set {gt : Nat} {v : Value} {t : List Sec} {u : List Wr} (h : DiskM w g O gt v t u s) {w' : World} {v' : Value} {u' : List Wr} {s' : St} (hw : Keep (fun i _ => i ≠ g) w w')
    (hh : Blk w' g 42 #[.slice (some ⟨gt, 0, none⟩) s'.n s'.n, v', .int .i64 (s'.count : Int), .bool s'.ends, .int .i64 (s'.left : Int)])
    (hu : w'.ownsRow 0 52 65 v' u'.length (unsL u').flatten) (ho : ∀ k, v'.ownBlock = some k → O k) (hs : s'.ok) : DiskM w' g O gt v' t u' s' :=
  ⟨hh, h.there.keep hw (fun e => h.head_ne_there e.symm), hu, h.og, h.ot, ho, hs⟩
theorem keep_set (hg : O g) (w : World) (i : Nat) (v : Value) : Keep (fun i _ => i ≠ g) w (w.setCell ⟨g, i, none⟩ v) ∧ Keep (Out O) w (w.setCell ⟨g, i, none⟩ v) :=
  ⟨(Keep.refl w).setCell (fun _ _ hk => hk rfl) v, (Keep.refl w).setCell (fun _ _ hk => hk hg) v⟩
theorem sync_no (h : DiskAt w g O s) (hb : s.broken = true) : Calls Try.prog 25 #[ptr g] w fun e w' => e = .returned (.bool false) ∧ w = w' := by
  have H := Lib.hid h
  have HB := Lib.hid hb
  clear h hb
  go_enter Try.func25, Try.ntmps25
  go_wp2_with (go_at_call 19; refine (broken_is H.out HB.out).mono ?_; rintro e w' ⟨rfl, rfl⟩)
  go_ret
  exact ⟨rfl, rfl⟩
theorem sync_ (h : DiskAt w g O s) (hb : s.broken = false) : Calls Try.prog 25 #[ptr g] w fun e w' => e = .returned (.bool true) ∧ DiskAt w' g O s.sync ∧ Keep (Out O) w w' := by
  have H := Lib.hid h
  have HB := Lib.hid hb
  obtain ⟨gt, v, h⟩ := h
  have c1 := h.head.cell 1
  have f1 := h.head.frozen 1
  simp at c1
  have HM := Lib.hid h
  clear h hb
  go_enter Try.func25, Try.ntmps25
  go_wp2_with (go_at_call 19; refine (broken_is H.out HB.out).mono ?_; rintro e w' ⟨rfl, rfl⟩)
  go_ret
  obtain ⟨k1, k2⟩ := keep_set HM.out.og w 1 (.slice none 0 0)
  refine ⟨rfl, ⟨gt, .slice none 0 0, HM.out.set k1 ?_ (World.ownsRow_nil _ _ _ _) (fun k hk => by cases hk) HM.out.ok.sync⟩, k2⟩
  rw [St.n_sync]
  exact HM.out.head.set_ 1 (.slice none 0 0)
theorem break_no (h : DiskAt w g O s) (hb : s.broken = true) (n : Int) : Calls Try.prog 11 #[ptr g, .int .i64 n] w fun e w' => e = .returned (.tuple #[]) ∧ w = w' := by
  have H := Lib.hid h
  have HB := Lib.hid hb
  clear h hb
  go_enter Try.func11, Try.ntmps11
  go_wp2_with (go_at_call 19; refine (broken_is H.out HB.out).mono ?_; rintro e w' ⟨rfl, rfl⟩)
  exact bodyPost_ret (v := .tuple #[]) (by simp [results, Try.results11, go_sem]) rfl ⟨rfl, rfl⟩
theorem break_ (h : DiskAt w g O s) (hb : s.broken = false) (n : Int) : Calls Try.prog 11 #[ptr g, .int .i64 n] w fun e w' => e = .returned (.tuple #[]) ∧ DiskAt w' g O (s.brk n.toNat) ∧ Keep (Out O) w w' := by
  have H := Lib.hid h
  have HB := Lib.hid hb
  obtain ⟨gt, v, h⟩ := h
  have c3 := h.head.cell 3
  have c4 := h.head.cell 4
  have f3 := h.head.frozen 3
  have f4 := h.head.frozen 4
  simp at c3 c4
  have HM := Lib.hid h
  clear h hb
  go_enter Try.func11, Try.ntmps11
  go_wp2_with (go_at_call 19; refine (broken_is H.out HB.out).mono ?_; rintro e w' ⟨rfl, rfl⟩)
  all_goals
    go_end0
    obtain ⟨k1, k2⟩ := keep_set HM.out.og w 3 (.bool true)
    have k3 := fun x => (keep_set (w := w.setCell ⟨g, 3, none⟩ (.bool true)) (i := 4) HM.out.og x)
    have hh := fun x => (HM.out.head.set_ 3 (.bool true)).set_ 4 x
    refine ⟨rfl, ⟨gt, v, HM.out.set (k1.trans (k3 _).1) ?_ ?_ HM.out.ou (HM.out.ok.brk _)⟩, k2.trans (k3 _).2⟩
    · have e : ∀ m : Int, m = (n.toNat : Int) → (w.setCell ⟨g, 3, none⟩ (.bool true)).setCell ⟨g, 4, none⟩ (.int .i64 m) = (w.setCell ⟨g, 3, none⟩ (.bool true)).setCell ⟨g, 4, none⟩ (.int .i64 (n.toNat : Int)) := fun m hm => by rw [hm]
      rw [e _ (by omega)]
      exact hh (.int .i64 (n.toNat : Int))
    · exact ownsRow_keep HM.out.uns (k1.trans (k3 _).1) (fun i _ hi => own_ne HM.out.uns HM.out.head (by decide) i hi)
end
end Go.Proofs.Yteilbaabnhogbaa
