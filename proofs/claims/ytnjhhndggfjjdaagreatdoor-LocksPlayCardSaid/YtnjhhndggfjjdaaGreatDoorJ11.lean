/- The document's row of numbers that rises: one more put where it belongs. -/
import Derived.Test.YtnjhhndggfjjdaaGreatDoorJ02
import Derived.Deep.RegionLaw
set_option maxRecDepth 4000
namespace Go.Proofs.YtnjhhndggfjjdaaGreatDoor
open Go.RowKit
/-- x put into a row that rises -/
def spotI (l : List Int) (x : Int) : Nat := l.findIdx fun y => decide (x ≤ y)
def insI (l : List Int) (x : Int) : List Int := if l[spotI l x]? = some x then l else l.take (spotI l x) ++ x :: l.drop (spotI l x)
theorem spot_at {l : List Int} {x : Int} {j : Nat} (hj : j < l.length) (hb : ∀ q (_ : q < j) (hl : q < l.length), l[q] < x) (hx : x ≤ l[j]) : spotI l x = j :=
  (List.findIdx_eq hj).2 ⟨by simpa using hx, fun q hq => by have := hb q hq (by omega); simp; omega⟩
theorem spot_end {l : List Int} {x : Int} (hb : ∀ q (hl : q < l.length), l[q] < x) : spotI l x = l.length :=
  List.findIdx_eq_length.2 fun y hy => by
    obtain ⟨q, hq, rfl⟩ := List.getElem_of_mem hy
    have := hb q hq
    simp; omega
theorem ins_same {l : List Int} {x : Int} {j : Nat} (hs : spotI l x = j) (hj : j < l.length) (he : l[j] = x) : insI l x = l := by
  unfold insI
  rw [hs, if_pos (by rw [List.getElem?_eq_getElem hj, he])]
theorem ins_new {l : List Int} {x : Int} {j : Nat} (hs : spotI l x = j) (hne : l[j]? ≠ some x) : insI l x = l.take j ++ x :: l.drop j := by
  unfold insI
  rw [hs, if_neg hne]
def InsR (w : World) (l : List Int) (x : Int) (k : Nat) (i : Value) (wr : World) : Prop := ∃ j, j + k = l.length ∧ i = .int .i64 (j : Int) ∧ (∀ q (hq : q < j) (hl : q < l.length), l[q] < x) ∧ Below w.heap.size w wr
set_option maxHeartbeats 8000000 in
theorem rinsert2_ {w : World} {base : Nat} {v : Value} {l : List Int} (h : Own w base eI 3 v l) (hbase : base ≤ w.heap.size) (hn : l.length ≤ 100000) (x : Int) :
    Calls Tryz.prog 44 #[v, .int .i64 x] w fun e w' => ∃ v', e = .returned v' ∧ Own w' base eI 3 v' (insI l x) ∧ Below w.heap.size w w' ∧ (v' = v ∨ Own w' w.heap.size eI 3 v' (insI l x)) := by
  have HO := Lib.hid h
  obtain ⟨A, c, e, hl, hc, hcm, _⟩ := own_lst h
  subst e
  have HH := Lib.hid hl
  clear h hl
  generalize hN : l.length = n at *
  have HL := Lib.hid hN
  clear hN
  go_enter Tryz.func44, Tryz.ntmps44
  go_wp2_with fail
  go_loopg [5] n (fun k i wr => InsR w l x k i wr)
  case atStart => exact ⟨0, by rw [HL.out]; omega, rfl, fun q hq => absurd hq (Nat.not_lt_zero q), Below.refl _ _⟩
  case round =>
    obtain ⟨j, hj, rfl, h1, hb⟩ := hrel
    have hjn : j ≤ n := by have := HL.out; omega
    have HJ := Lib.hid hj
    have HB := Lib.hid hb
    have H1 := Lib.hid h1
    clear hj hb h1
    by_cases hlt : j < n
    · have hx : j < l.length := by rw [HL.out]; exact hlt
      obtain ⟨g, o, rfl, hg, d0⟩ := (HH.out.below HB.out).atI hx
      by_cases hless : l[j] < x
      · have hnx : ∀ q (hq : q < j + 1) (hl : q < l.length), l[q] < x := fun q hq hql => by
          rcases Nat.lt_or_ge q j with h5 | h5
          · exact H1.out q h5 hql
          · obtain rfl : q = j := by omega
            exact hless
        have HN := Lib.hid hnx
        clear hnx
        generalize l[j] = y at *
        go_wp2_with fail
        go_roundg (n - (j + 1))
        case measure => have := HJ.out; have := HL.out; omega
        case rel => exact ⟨j + 1, by rw [HL.out]; omega, by go_num, HN.out, HB.out⟩
      have hsp := spot_at hx H1.out (by omega)
      by_cases heq : l[j] = x
      · have he := ins_same hsp hx heq
        have HE := Lib.hid he
        rw [heq] at d0
        have e0 : ¬ (x < x) := by omega
        clear he hsp hless heq
        go_wp2_with fail
        go_ret
        have HO2 := own_belowE HO.out HB.out
        exact ⟨_, rfl, by rw [HE.out]; exact HO2, HB.out, .inl rfl⟩
      · have he := ins_new hsp (by rw [List.getElem?_eq_getElem hx]; intro e; injection e with e; exact heq e)
        have HE := Lib.hid he
        have hneb : (l[j] == x) = false := by simpa using heq
        clear he hsp
        generalize l[j] = y at *
        have hlj : (l.take j).length = j := by rw [List.length_take, HL.out]; omega
        have HLJ := Lib.hid hlj
        obtain ⟨m2, hm2⟩ : ∃ m, n - j = m := ⟨_, rfl⟩
        obtain ⟨A2, hd2, hr2, _⟩ := tail_ints HH.out HL.out hc (show j ≤ n by omega) hm2
        have hd1 := fun W => head_ints (some ⟨g, o, none⟩) n c j (by omega) W
        have hlm : (l.drop j).length = m2 := by rw [List.length_drop, HL.out]; exact hm2
        have HLM := Lib.hid hlm
        have hjm : j + 1 + m2 ≤ 200000 := by omega
        have HQ := Lib.hid ((HH.out.below HB.out).take j)
        have HTL := Lib.hid (hr2.below HB.out)
        clear hlj hr2 hlm hm2 HH HO
        go_wp2_with fail
        go_region_law (first
          | (refine step_append_own tyI rfl (.tmp 39) (.tmp 42) rfl rfl HO6.out rfl (HTL.out.below HB6.out) HLM.out (by show _ + m2 ≤ 1000000; rw [List.length_append, HLJ.out]; show j + 1 + m2 ≤ 1000000; omega) HB6.out.size ?_; intro v7 W7 ho7 hg7; have HO7 := Lib.hid ho7; have HB7 : Hid (Below wr.heap.size wr W7) := HB6.out.trans (grown_own HO6.out hg7 HB6.out.size); clear ho7 hg7)
          | (refine step_append_own tyI rfl (.tmp 36) (.tmp 38) rfl rfl HO5.out rfl HS5.out rfl (by show _ + 1 ≤ 1000000; rw [HLJ.out]; omega) HB5.out.size ?_; intro v6 W6 ho6 hg6; have HO6 := Lib.hid ho6; have HB6 : Hid (Below wr.heap.size wr W6) := HB5.out.trans (grown_own HO5.out hg6 HB5.out.size); clear ho6 hg6)
          | (refine step_append_own tyI rfl (.tmp 36) (.tmp 38) rfl rfl (own_belowE HO5.out (alloc_below W5 (.cells #[.int .i64 x] 3))) rfl (int_one W5 x) rfl (by show _ + 1 ≤ 1000000; rw [HLJ.out]; omega) (Nat.le_trans HB5.out.size (alloc_below W5 (.cells #[.int .i64 x] 3)).size) ?_; intro v6 W6 ho6 hg6; have HO6 := Lib.hid ho6; have HB6 : Hid (Below wr.heap.size wr W6) := (HB5.out.alloc HB5.out.size _).trans (grown_own (own_belowE HO5.out (alloc_below W5 (.cells #[.int .i64 x] 3))) hg6 (Nat.le_trans HB5.out.size (alloc_below W5 (.cells #[.int .i64 x] 3)).size)); clear ho6 hg6)
          | (refine step_append_own (v := .slice none 0 0) (ys := []) tyI rfl (.const (.slice none 0 0)) (.tmp 35) rfl rfl (own_nil (wr.alloc (.cells #[.int .i64 x] 3)).drew wr.heap.size) rfl (HQ.out.below (alloc_below wr (.cells #[.int .i64 x] 3)).drew) HLJ.out (by show 0 + j ≤ 1000000; omega) (alloc_below wr (.cells #[.int .i64 x] 3)).size ?_; intro v5 W5 ho5 hg5; rw [List.nil_append] at ho5; have HO5 := Lib.hid ho5; have HB5 : Hid (Below wr.heap.size wr W5) := (alloc_below wr (.cells #[.int .i64 x] 3)).drew.trans ((Below.refl _ _).grown hg5 (alloc_below wr (.cells #[.int .i64 x] 3)).size (fun q hq => by simp [Value.ownBlock] at hq)); have HS5 := Lib.hid ((int_one wr x).below ((Below.refl (wr.alloc (.cells #[.int .i64 x] 3)).heap.size (wr.alloc (.cells #[.int .i64 x] 3))).drew.trans ((Below.refl _ _).grown hg5 (Nat.le_refl _) (fun q hq => by simp [Value.ownBlock] at hq)))); clear ho5 hg5)
          | (refine step_append_own (v := .slice none 0 0) (ys := []) tyI rfl (.const (.slice none 0 0)) (.tmp 35) rfl rfl (own_nil wr.drew wr.heap.size) rfl (HQ.out.below (Below.refl _ _).drew) HLJ.out (by show 0 + j ≤ 1000000; omega) (Nat.le_refl _) ?_; intro v5 W5 ho5 hg5; rw [List.nil_append] at ho5; have HO5 := Lib.hid ho5; have HB5 : Hid (Below wr.heap.size wr W5) := (Below.refl wr.heap.size wr).drew.trans ((Below.refl _ _).grown hg5 (Nat.le_refl _) (fun q hq => by simp [Value.ownBlock] at hq)); clear ho5 hg5))
        all_goals
          have hres := own_base (base' := w.heap.size) HO7.out HB.out.size
          rw [List.append_assoc, List.singleton_append, ← HE.out] at hres
          have HR := Lib.hid hres
          have HBE := Lib.hid (HB.out.trans (HB7.out.mono HB.out.size))
          clear hres
          go_wp2_with fail
          go_ret
          exact ⟨_, rfl, own_base HR.out hbase, HBE.out, .inr HR.out⟩
    · obtain rfl : j = n := by omega
      have hsp : spotI l x = j := (spot_end fun q hq => H1.out q (by have := HL.out; omega) hq).trans HL.out
      have he := ins_new (x := x) hsp (by rw [List.getElem?_eq_none (by rw [HL.out]; exact Nat.le_refl _)]; simp)
      have HE := Lib.hid he
      clear he hsp
      have hlj : (l.take j).length = j := by rw [List.length_take, HL.out]; omega
      have HLJ := Lib.hid hlj
      obtain ⟨m2, hm2⟩ : ∃ m, j - j = m := ⟨_, rfl⟩
      obtain ⟨A2, hd2, hr2, _⟩ := tail_ints HH.out HL.out hc (show j ≤ j by omega) hm2
      have hd1 := fun W => head_ints A j c j (by omega) W
      have hlm : (l.drop j).length = m2 := by rw [List.length_drop, HL.out]; exact hm2
      have HLM := Lib.hid hlm
      have hjm : j + 1 + m2 ≤ 200000 := by omega
      have HQ := Lib.hid ((HH.out.below HB.out).take j)
      have HTL := Lib.hid (hr2.below HB.out)
      clear hlj hr2 hlm hm2 HH HO
      go_wp2_with fail
      go_region_law (first
        | (refine step_append_own tyI rfl (.tmp 39) (.tmp 42) rfl rfl HO6.out rfl (HTL.out.below HB6.out) HLM.out (by show _ + m2 ≤ 1000000; rw [List.length_append, HLJ.out]; show j + 1 + m2 ≤ 1000000; omega) HB6.out.size ?_; intro v7 W7 ho7 hg7; have HO7 := Lib.hid ho7; have HB7 : Hid (Below wr.heap.size wr W7) := HB6.out.trans (grown_own HO6.out hg7 HB6.out.size); clear ho7 hg7)
        | (refine step_append_own tyI rfl (.tmp 36) (.tmp 38) rfl rfl HO5.out rfl HS5.out rfl (by show _ + 1 ≤ 1000000; rw [HLJ.out]; omega) HB5.out.size ?_; intro v6 W6 ho6 hg6; have HO6 := Lib.hid ho6; have HB6 : Hid (Below wr.heap.size wr W6) := HB5.out.trans (grown_own HO5.out hg6 HB5.out.size); clear ho6 hg6)
        | (refine step_append_own tyI rfl (.tmp 36) (.tmp 38) rfl rfl (own_belowE HO5.out (alloc_below W5 (.cells #[.int .i64 x] 3))) rfl (int_one W5 x) rfl (by show _ + 1 ≤ 1000000; rw [HLJ.out]; omega) (Nat.le_trans HB5.out.size (alloc_below W5 (.cells #[.int .i64 x] 3)).size) ?_; intro v6 W6 ho6 hg6; have HO6 := Lib.hid ho6; have HB6 : Hid (Below wr.heap.size wr W6) := (HB5.out.alloc HB5.out.size _).trans (grown_own (own_belowE HO5.out (alloc_below W5 (.cells #[.int .i64 x] 3))) hg6 (Nat.le_trans HB5.out.size (alloc_below W5 (.cells #[.int .i64 x] 3)).size)); clear ho6 hg6)
        | (refine step_append_own (v := .slice none 0 0) (ys := []) tyI rfl (.const (.slice none 0 0)) (.tmp 35) rfl rfl (own_nil (wr.alloc (.cells #[.int .i64 x] 3)).drew wr.heap.size) rfl (HQ.out.below (alloc_below wr (.cells #[.int .i64 x] 3)).drew) HLJ.out (by show 0 + j ≤ 1000000; omega) (alloc_below wr (.cells #[.int .i64 x] 3)).size ?_; intro v5 W5 ho5 hg5; rw [List.nil_append] at ho5; have HO5 := Lib.hid ho5; have HB5 : Hid (Below wr.heap.size wr W5) := (alloc_below wr (.cells #[.int .i64 x] 3)).drew.trans ((Below.refl _ _).grown hg5 (alloc_below wr (.cells #[.int .i64 x] 3)).size (fun q hq => by simp [Value.ownBlock] at hq)); have HS5 := Lib.hid ((int_one wr x).below ((Below.refl (wr.alloc (.cells #[.int .i64 x] 3)).heap.size (wr.alloc (.cells #[.int .i64 x] 3))).drew.trans ((Below.refl _ _).grown hg5 (Nat.le_refl _) (fun q hq => by simp [Value.ownBlock] at hq)))); clear ho5 hg5)
        | (refine step_append_own (v := .slice none 0 0) (ys := []) tyI rfl (.const (.slice none 0 0)) (.tmp 35) rfl rfl (own_nil wr.drew wr.heap.size) rfl (HQ.out.below (Below.refl _ _).drew) HLJ.out (by show 0 + j ≤ 1000000; omega) (Nat.le_refl _) ?_; intro v5 W5 ho5 hg5; rw [List.nil_append] at ho5; have HO5 := Lib.hid ho5; have HB5 : Hid (Below wr.heap.size wr W5) := (Below.refl wr.heap.size wr).drew.trans ((Below.refl _ _).grown hg5 (Nat.le_refl _) (fun q hq => by simp [Value.ownBlock] at hq)); clear ho5 hg5))
      all_goals
        have hres := own_base (base' := w.heap.size) HO7.out HB.out.size
        rw [List.append_assoc, List.singleton_append, ← HE.out] at hres
        have HR := Lib.hid hres
        have HBE := Lib.hid (HB.out.trans (HB7.out.mono HB.out.size))
        clear hres
        go_wp2_with fail
        go_ret
        exact ⟨_, rfl, own_base HR.out hbase, HBE.out, .inr HR.out⟩
theorem rinsert_ {w : World} {base : Nat} {v : Value} {l : List Int} (h : Own w base eI 3 v l) (hbase : base ≤ w.heap.size) (hn : l.length ≤ 100000) (x : Int) :
    Calls Tryz.prog 44 #[v, .int .i64 x] w fun e w' => ∃ v', e = .returned v' ∧ Own w' base eI 3 v' (insI l x) ∧ Below w.heap.size w w' :=
  (rinsert2_ h hbase hn x).mono fun _ _ ⟨v', h1, h2, h3, _⟩ => ⟨v', h1, h2, h3⟩
end Go.Proofs.YtnjhhndggfjjdaaGreatDoor
