/- Package waits' Ring. -/
import Derived.Test.YtoojoldcomokhaaWtB
import Derived.Test.YtoojoldcomokhaaWtR
import Derived.Test.YtoojoldcomokhaaSrtS
set_option maxRecDepth 4000
namespace Go.Proofs.Ytoojoldcomokhaa
open Go.RowKit Go.Maps Go.Sort
/-- numbers sorted in the row's own memory -/
theorem sort_own {w : World} {base : Nat} {v : Value} {zs : List Int} (h : Own w base eI 3 v zs) (hn : zs.length ≤ 100000) :
    Calls Try.prog 15 #[v] w fun e w' => e = .returned (.tuple #[]) ∧ Own w' base eI 3 v (sortedI zs) ∧ Below base w w' := by
  rcases h.2 with ⟨rfl, h0⟩ | ⟨g, cap, cur, rfl, _⟩
  · obtain rfl := List.eq_nil_of_length_eq_zero h0
    refine (sort_none _ _ _).mono ?_
    rintro e w' ⟨rfl, rfl⟩
    exact ⟨rfl, by rw [show sortedI [] = [] by simp [sortedI]]; exact h, Below.refl _ _⟩
  · obtain ⟨h1, h2, _⟩ := own_holds h
    refine (sort_ints g 0 cap zs w h1 h2 (by omega)).mono ?_
    rintro e w' ⟨rfl, n, os, rfl⟩
    obtain ⟨k1, k2⟩ := own_sorted h n os
    exact ⟨rfl, k1, k2⟩
/-- the step of a range over a set -/
theorem wpList_next_set (w : World) {ops : Array Oper} {rest : List Oper} {o : Oper} {a : Act} {Q : Exit → Act → World → Prop} (hg : o.guard = none) (it : Operand) (hop : o.op = Op.next it false) (b r n : Nat) (D : DataW Unit) (left : Lit → Bool) (cnt : Nat)
    (hit : a.eval it = .pointer (some ⟨r, 0, none⟩)) (h : w.ranges Try.prog 3 unitElem b r n D left cnt)
    (hDone : cnt = 0 → (∀ kl, left kl = false) → wpList Try.prog ops Q rest (a.put o.dst (.tuple #[.bool false])) w)
    (hMore : ∀ (x : Int) (w' : World) (cnt' : Nat), Wf x → left (.int .i64 x) = true → Maps.has D (.int .i64 x) = true → w'.ranges Try.prog 3 unitElem b r n D (fun z => left z && !z.sameKey (.int .i64 x)) cnt' → cnt' < cnt →
      w.grownBy w' (some r) → w'.heap.size = w.heap.size → (Instr.entry (.pointer (some ⟨r, 0, none⟩))).run Try.prog w' = .ok (.tuple #[.int .i64 x, .agg #[]]) w' → wpList Try.prog ops Q rest (a.put o.dst (.tuple #[.bool true, .int .i64 x, .agg #[]])) w') :
    wpList Try.prog ops Q (o :: rest) a w :=
  wpList_next_ranges w hg it hop 3 lawI unitElem (Value.int .i64) (fun _ : Unit => Value.agg #[]) (fun key kl hkey => by obtain ⟨x, rfl, _⟩ := Maps.keyOf_int_inv Try.underlying3 hkey; exact ⟨x, rfl⟩) (fun v y hv => ⟨(), (unitElem_inv hv).1⟩)
    b r n D left cnt hit h hDone (fun x c kl y w' cnt' hkey hlk _ hat hrg hlt hgr hsz hen => by
      obtain ⟨x', ex, rfl, hwx⟩ := Maps.keyOf_int_inv Try.underlying3 hkey
      cases ex
      exact hMore x w' cnt' hwx hlk (has_true_of_atKey hat) hrg hlt hgr hsz hen)
/-- while a set is gone over: those of it that were met and are in the other set -/
structure Both (w : World) (r1 r2 it : Nat) (m1 m2 rs : List Int) (left : Lit → Bool) (cnt : Nat) (v : Value) (wr : World) : Prop where
  rg : wr.ranges (H := Unit) Try.prog 3 unitElem r1 it m1.length (setOf (.agg []) (m1.map (Lit.int .i64))) left cnt
  met : Met wr r2 m2
  own : Own wr w.heap.size eI 3 v rs
  nodup : rs.Nodup
  mem : ∀ x, x ∈ rs ↔ x ∈ m1 ∧ left (.int .i64 x) = false ∧ x ∈ m2
  below : Below w.heap.size w wr
theorem left_next (left : Lit → Bool) (x y : Int) : (left (.int .i64 y) && !(Lit.int .i64 y).sameKey (.int .i64 x)) = false ↔ left (.int .i64 y) = false ∨ y = x := by
  cases left (.int .i64 y) <;> simp [Lit.sameKey]
section
variable {w wr wn : World} {r1 r2 it : Nat} {m1 m2 rs : List Int} {left : Lit → Bool} {cnt cnt1 : Nat} {v : Value} {x : Int}
theorem both_next (h : Both w r1 r2 it m1 m2 rs left cnt v wr) (hg : wr.grownBy wn (some it)) (h2 : r2 ≠ it) (hit : w.heap.size ≤ it) : Met wn r2 m2 ∧ Own wn w.heap.size eI 3 v rs ∧ Below w.heap.size w wn := by
  refine ⟨h.met.kept hg (fun e => h2 (by injection e)), own_keep h.own fun g hgo => hg.block g (own_blk h.own hgo).2.1 fun e => ?_, h.below.grown hg h.below.size fun g hgo => by injection hgo with hgo; omega⟩
  injection e with e
  subst e
  obtain ⟨_, _, cur, hc⟩ := own_blk h.own hgo
  obtain ⟨es, clock, since, seen, c0, _, _, _, _, hr, _⟩ := h.rg
  rw [hc] at hr
  cases hr
theorem both_out (h : Both w r1 r2 it m1 m2 rs left cnt v wr) (hrg : wn.ranges (H := Unit) Try.prog 3 unitElem r1 it m1.length (setOf (.agg []) (m1.map (Lit.int .i64))) (fun z => left z && !z.sameKey (.int .i64 x)) cnt1) (hm : Met wn r2 m2) (ho : Own wn w.heap.size eI 3 v rs) (hb : Below w.heap.size w wn) (hx : x ∉ m2) :
    Both w r1 r2 it m1 m2 rs (fun z => left z && !z.sameKey (.int .i64 x)) cnt1 v (wn.alloc (.cells #[] 40)) := by
  have hal := alloc_below wn (.cells #[] 40)
  refine ⟨hrg.alloc _, hm.below hal, own_keep ho fun g hg => hal.block g (own_blk ho hg).2.1, h.nodup, fun y => ?_, hb.alloc hb.size _⟩
  rw [h.mem, left_next]
  constructor
  · exact fun ⟨a, b, c⟩ => ⟨a, .inl b, c⟩
  · rintro ⟨a, b | rfl, c⟩
    · exact ⟨a, b, c⟩
    · exact absurd c hx
theorem both_in (h : Both w r1 r2 it m1 m2 rs left cnt v wr) (hrg : wn.ranges (H := Unit) Try.prog 3 unitElem r1 it m1.length (setOf (.agg []) (m1.map (Lit.int .i64))) (fun z => left z && !z.sameKey (.int .i64 x)) cnt1) (hm : Met wn r2 m2) (ho : Own wn w.heap.size eI 3 v rs) (hb : Below w.heap.size w wn)
    (hx1 : x ∈ m1) (hlx : left (.int .i64 x) = true) (hx2 : x ∈ m2) (hn : rs.length ≤ 100000) :
    ∃ v' W', (Builtin.append_ #[27, 27] 27 #[v, .slice (some ⟨wn.heap.size + 1, 0, none⟩) 1 1]).run Try.prog ((wn.alloc (.cells #[] 40)).alloc (.cells #[.int .i64 x] 3)) = .ok v' W' ∧
      Both w r1 r2 it m1 m2 (rs ++ [x]) (fun z => left z && !z.sameKey (.int .i64 x)) cnt1 v' W' := by
  have hal := alloc_below wn (.cells #[] 40)
  have e1 : (wn.alloc (.cells #[] 40)).heap.size = wn.heap.size + 1 := by simp
  have hr1 := hrg.alloc (.cells #[] 40)
  have hm1 := hm.below hal
  have ho1 := own_keep (W' := wn.alloc (.cells #[] 40)) ho fun g hg => hal.block g (own_blk ho hg).2.1
  have hb1 := hb.alloc hb.size (.cells #[] 40)
  generalize wn.alloc (.cells #[] 40) = wA at *
  rw [← e1]
  have hal2 := alloc_below wA (.cells #[.int .i64 x] 3)
  have ho2 := own_keep (W' := wA.alloc (.cells #[.int .i64 x] 3)) ho1 fun g hg => hal2.block g (own_blk ho1 hg).2.1
  have hb2 := hb1.alloc hb1.size (.cells #[.int .i64 x] 3)
  have hr2 := hr1.alloc (.cells #[.int .i64 x] 3)
  have hm2 := hm1.below hal2
  obtain ⟨v', W', hap, ho3, hg3, _⟩ := append_own tyI ho2 (int_one wA x) rfl 1 (by show rs.length + 1 ≤ _; omega) hb2.size
  have far : ∀ b, (∀ cur, (wA.alloc (.cells #[.int .i64 x] 3)).heap[b]? ≠ some (.cells cur 3 (0, 0))) → some b ≠ v.ownBlock := fun b h e => by
    obtain ⟨_, _, cur, hc⟩ := own_blk ho2 e.symm
    exact h cur hc
  have f1 : some r1 ≠ v.ownBlock := far r1 fun cur e => by
    obtain ⟨es, clock, hb, _⟩ := hr2.owns
    rw [hb] at e; cases e
  have f2 : some r2 ≠ v.ownBlock := far r2 fun cur e => by
    obtain ⟨es, clock, hb, _⟩ := hm2
    rw [hb] at e; cases e
  have f3 : some it ≠ v.ownBlock := far it fun cur e => by
    obtain ⟨es, clock, since, seen, c0, _, _, _, _, hr, _⟩ := hr2
    rw [hr] at e; cases e
  refine ⟨v', W', hap, hr2.kept hg3 f1 f3, hm2.kept hg3 f2, ho3, ?_, fun y => ?_, hb2.grown hg3 hb2.size fun g hg => (own_blk ho2 hg).1⟩
  · rw [List.nodup_append]
    refine ⟨h.nodup, by simp, fun y hy z hz e => ?_⟩
    rw [List.mem_singleton.1 hz] at e
    subst e
    have := ((h.mem y).1 hy).2.1
    rw [hlx] at this
    cases this
  · rw [List.mem_append, h.mem, left_next, List.mem_singleton]
    constructor
    · rintro (⟨a, b, c⟩ | rfl)
      · exact ⟨a, .inl b, c⟩
      · exact ⟨hx1, .inr rfl, hx2⟩
    · rintro ⟨a, b | b, c⟩
      · exact .inl ⟨a, b, c⟩
      · exact .inr b
end
set_option maxHeartbeats 2000000 in
theorem ring_ {w : World} {K : Nat → Prop} {A : Option Addr} {l : List (Int × Int)} {n c : Nat} (hl : Lst w K eE A l) (hn : l.length = n) (hmax : n ≤ 10000) (hw : ∀ e ∈ l, Wf e.1 ∧ Wf e.2) {who : Int} (hwho : Wf who) :
    Calls Try.prog 10 #[.slice A n c, .int .i64 who] w fun e w' => ∃ v r, e = .returned v ∧ Own w' w.heap.size eI 3 v r ∧ IsRing l who r ∧ Below w.heap.size w w' := by
  have HL := Lib.hid hl.lt
  have HN := Lib.hid hn
  have HW := Lib.hid hw
  have HO := Lib.hid hwho
  clear hl hn hw hwho
  go_enter Try.func10, Try.ntmps10
  go_wp2_with fail
  refine (new_graph w).mono ?_
  rintro e w1 ⟨b1, b2, rfl, hb1, hb2, hg1, hbl1⟩
  have HG1 := Lib.hid hg1
  have HB1 := Lib.hid hbl1
  have hl1 := hg1.a1.lt
  have hl2 := hg1.a2.lt
  clear hg1 hbl1
  go_wp2_with fail
  have hal := alloc_below w1 (.cells #[.map (some b1), .map (some b2)] 35)
  have hbx := Blk.new w1 35 #[.map (some b1), .map (some b2)]
  have hlst : Lst (w1.alloc (.cells #[.map (some b1), .map (some b2)] 35)) (fun i => i < w.heap.size) eE A l := (HL.out.keep (Q := fun i _ => i < w.heap.size) ⟨HB1.out.os, HB1.out.tape, HB1.out.output, HB1.out.size, fun i o h hi => (HB1.out.block i hi).trans h⟩ fun _ _ _ h => h).below hal
  generalize w1.alloc (.cells #[.map (some b1), .map (some b2)] 35) = w2 at *
  refine (add_ (HG1.out.below hal) hlst (fun i hi => ⟨Nat.lt_of_lt_of_le hi HB1.out.size, by omega, by omega⟩) HN.out hmax HW.out).mono ?_
  rintro e w3 ⟨rfl, hg3, hk3⟩
  have hb3 : Blk w3 w1.heap.size 35 #[.map (some b1), .map (some b2)] := hbx.keep hk3 (kg_other (by omega) (by omega) (by decide))
  have hbl3 : Below w.heap.size w w3 := (HB1.out.trans (hal.mono HB1.out.size)).trans (hk3.below (Nat.le_trans HB1.out.size hal.size) fun i o hi => ⟨by omega, by omega, .inl (Nat.lt_of_lt_of_le hi HB1.out.size)⟩)
  have c0 := hb3.cell 0
  have c1 := hb3.cell 1
  have HG3 := Lib.hid hg3
  have HB3 := Lib.hid hbl3
  have HX3 := Lib.hid hb3
  clear hal hbx hlst hg3 hk3 hb3 hbl3 hl1 hl2
  go_wp2_with fail
  refine (reached_ HG3.out.a2 (by rw [flip_length, HN.out]; exact hmax) HO.out).mono ?_
  rintro e w4 ⟨m2, rfl, hm2, hnd2, hr2, hwf2, hb4⟩
  have HG4 := Lib.hid (HG3.out.below hb4)
  have HX4 := Lib.hid (HX3.out.below hb4 HX3.out.lt)
  have HB4 := Lib.hid (HB3.out.trans (hb4.mono HB3.out.size))
  have HM2 := Lib.hid hm2
  have HR2 := Lib.hid hr2
  have c0 := HX4.out.cell 0
  have c1 := HX4.out.cell 1
  have hle4 := hb4.size
  clear hm2 hnd2 hr2 hwf2 hb4
  go_wp2_with fail
  refine (reached_ HG4.out.a1 (by rw [HN.out]; exact hmax) HO.out).mono ?_
  rintro e w5 ⟨m1, rfl, hm1, hnd1, hr1, hwf1, hb5⟩
  have hsz5 : w.heap.size ≤ w5.heap.size := Nat.le_trans (HB4.out.size) hb5.size
  have HM25 := Lib.hid (HM2.out.below hb5)
  have HB5 := Lib.hid (HB4.out.trans (hb5.mono HB4.out.size))
  have HM1 := Lib.hid hm1
  have HR1 := Lib.hid hr1
  have HND := Lib.hid hnd1
  have hsh : m1.length ≤ n := by have := met_short hnd1 fun x hx => (hr1 x).1 hx; rw [HN.out] at this; exact this
  have hr2lt : w3.heap.size < w4.heap.size := HM2.out.lt
  have hr1lt : w4.heap.size < w5.heap.size := hm1.lt
  clear hm1 hnd1 hr1 hwf1 hb5 HM2 c0 c1
  go_wp2_with (at_range; refine wpList_range_own _ rfl _ 38 rfl 3 40 lawI Try.underlying38 unitElem w4.heap.size m1.length _ rfl HM1.out ?_; intro w0 hrg0 hg0 hs0)
  go_frame
  go_loopw [7] (fun v wr => ∃ left cnt rs, Both w w4.heap.size w3.heap.size w5.heap.size m1 m2 rs left cnt v wr) (fun _ wr => wr.rangeLeft w4.heap.size w5.heap.size)
  case atStart =>
    refine ⟨_, _, [], hrg0, HM25.out.kept hg0 (by simp), own_nil _ _, List.nodup_nil, fun x => ?_, HB5.out.grown hg0 hsz5 (fun g hg => by cases hg)⟩
    rw [met_has]
    simp
    intro h1 h2
    exact absurd h1 h2
  case round =>
    obtain ⟨left, cnt, rs, h⟩ := hrel
    have HH := Lib.hid h
    have hrg := h.rg
    clear h
    go_wp2_with (at_next; refine wpList_next_set _ rfl _ rfl w4.heap.size w5.heap.size m1.length _ left cnt rfl hrg ?_ ?_)
    · intro _ hl0
      have HL0 := Lib.hid hl0
      have hlen : rs.length ≤ n := by have := nodup_short HH.out.nodup fun x hx => ((HH.out.mem x).1 hx).1; omega
      clear hl0 hrg
      go_wp2_with fail
      refine (sort_own HH.out.own (by omega)).mono ?_
      rintro e wz ⟨rfl, ho, hb⟩
      have HOZ := Lib.hid ho
      have HBZ := Lib.hid (HH.out.below.trans hb)
      clear ho hb
      go_wp2_with fail
      go_ret
      refine ⟨_, _, rfl, HOZ.out, ⟨sort_up HH.out.nodup, fun x => ?_⟩, HBZ.out⟩
      rw [sortedI, mem_sort, HH.out.mem, HL0.out, HR1.out, HR2.out, reach_flip]
      simp
    · intro x wn cnt1 hwx hlx hhas hrg1 hlt1 hg1 hs1 hen
      obtain ⟨hmet, hown, hbel⟩ := both_next HH.out hg1 (by omega) (by omega)
      have hx1 : x ∈ m1 := by rw [met_has] at hhas; simpa using hhas
      have hlk := hmet.look hwx
      have hlen : rs.length ≤ n := by have := nodup_short HH.out.nodup fun x hx => ((HH.out.mem x).1 hx).1; omega
      have HRG1 := Lib.hid hrg1
      have hlt2 : cnt1 < wr.rangeLeft w4.heap.size w5.heap.size := by rw [hrg.left_eq]; exact hlt1
      have HLT := Lib.hid hlt2
      by_cases hx2 : x ∈ m2
      · rw [decide_eq_true hx2] at hlk
        obtain ⟨v', W', hap, hboth⟩ := both_in HH.out hrg1 hmet hown hbel hx1 hlx hx2 (by omega)
        have HAP := Lib.hid hap
        have HB := Lib.hid hboth
        clear hap hboth hmet hown hbel hhas hrg1 hlt1 hg1 hs1 hlx hrg hlt2
        go_wp2_with (at_builtin; refine wpList_append_run rfl (.tmp 35) (.tmp 37) 27 27 rfl _ _ rfl rfl HAP.out ?_)
        go_roundw
        case rel => exact ⟨_, _, _, HB.out⟩
        case measure => rw [HB.out.rg.left_eq]; exact HLT.out
      · rw [decide_eq_false hx2] at hlk
        have HB := Lib.hid (both_out HH.out hrg1 hmet hown hbel hx2)
        clear hmet hown hbel hhas hrg1 hlt1 hg1 hs1 hlx hrg hlt2
        go_wp2_with fail
        go_roundw
        case rel => exact ⟨_, _, _, HB.out⟩
        case measure => rw [HB.out.rg.left_eq]; exact HLT.out
end Go.Proofs.Ytoojoldcomokhaa
