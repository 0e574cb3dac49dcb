/- QueueOrder, walked. -/
import Derived.Test.YtglcdchjddnjgaaMqL
import Derived.Test.YtglcdchjddnjgaaMqB
import Derived.Test.YtglcdchjddnjgaaMqQ
import Derived.Test.YtglcdchjddnjgaaPick
import Derived.Test.YtglcdchjddnjgaaBits
import Derived.Test.YtglcdchjddnjgaaOpenP
import Derived.Test.YtglcdchjddnjgaaSix
import Derived.Deep.RegionHeld3
set_option maxRecDepth 4000
namespace Go.Proofs.Ytglcdchjddnjgaa
open Go.RowKit
/-- a fact that the walk must not look through -/
structure ShutQ (p : Prop) : Prop where out : p
/-- the truths of what is left, of those that were picked -/
def leftB (ps : List Bool) : List Bool := ps.map (!·)
theorem leftB_set (ps : List Bool) (k : Nat) : (leftB ps).set k false = leftB (ps.set k true) := by simp [leftB, List.map_set]
theorem leftB_at {ps : List Bool} {k : Nat} {b : Bool} (h : ps[k]? = some b) : (leftB ps)[k]? = some (!b) := by simp [leftB, h]
/-- what the law knows of a world: the row of truths, and the messages -/
structure QO (w : World) (bl : Nat) (ls : List Bool) (v : Value) (l : List Mg) (wr : World) : Prop where
  bel : Below w.heap.size w wr
  ge : w.heap.size ≤ bl
  blk : Blk wr bl 4 (cellsT ls)
  own : OwnM wr (bl + 1) v l
section
variable {w wr w' : World} {bl : Nat} {ls : List Bool} {v v' : Value} {l l' : List Mg}
theorem QO.next (h : QO w bl ls v l wr) (k : Below wr.heap.size wr w') : QO w bl ls v l w' := ⟨h.bel.trans (k.mono h.bel.size), h.ge, h.blk.below k h.blk.lt, own_belowE h.own k⟩
theorem QO.made (h : QO w bl ls v l wr) (k : Below wr.heap.size wr w') (ho : OwnM w' wr.heap.size v' l') : QO w bl ls v' l' w' :=
  ⟨h.bel.trans (k.mono h.bel.size), h.ge, h.blk.below k h.blk.lt, own_base ho h.blk.lt⟩
theorem QO.mark (h : QO w bl ls v l wr) (q : Nat) (b : Bool) : QO w bl (ls.set q b) v l (wr.setCell ⟨bl, q, none⟩ (.bool b)) := by
  have k : Keep (fun i _ => i ≠ bl) wr (wr.setCell ⟨bl, q, none⟩ (.bool b)) := (Keep.refl wr).setCell (fun _ _ e => e rfl) _
  have hb := h.blk.set_ q (.bool b)
  rw [cellsT_set] at hb
  refine ⟨h.bel.trans (k.below h.bel.size fun i _ hi e => by have := h.ge; omega), h.ge, hb, own_keep h.own fun g hg => ?_⟩
  obtain ⟨h1, _, _, hc⟩ := own_blk h.own hg
  exact Below.heap_setCell _ _ _ _ (by show g ≠ bl; omega)
end
theorem made_left (n : Nat) (hn : n ≤ 1000000) (w : World) : (Instr.makeSlice 25 (.int .i64 (n : Int)) (.int .i64 (n : Int))).run Try.prog w =
    .ok (.slice (some ⟨w.heap.size, 0, none⟩) n n) (w.alloc (.cells (cellsT (List.replicate n false)) 4)) := made_truths n hn w
/-- the first loop: all is left -/
def Fill (w : World) (bl n : Nat) (k : Nat) (i : Value) (wr : World) : Prop :=
  ∃ j ls, j + k = n ∧ i = .int .i64 (j : Int) ∧ ls.length = n ∧ (∀ q, q < j → ls[q]? = some true) ∧ QO w bl ls (.slice none 0 0) [] wr
/-- the second: messages are put -/
def Puts (w : World) (bl n : Nat) (k : Nat) (v i : Value) (wr : World) : Prop :=
  ∃ j ps l, j + k = n ∧ i = .int .i64 (j : Int) ∧ ps.length = n ∧ ps.count true = j ∧ PutQ ps l ∧ QO w bl (leftB ps) v l wr
/-- a number that is left is looked for -/
def SeekQ (w : World) (bl n : Nat) (ps : List Bool) (v : Value) (l : List Mg) (k : Nat) (q : Value) (wr : World) : Prop :=
  ∃ z : Nat, q = .int .i64 (z : Int) ∧ z < n ∧ ps[(z + k) % n]? = some false ∧ QO w bl (leftB ps) v l wr
/-- the last: messages come out -/
def Outs (w : World) (bw : Nat) (k : Nat) (v : Value) (wr : World) : Prop :=
  ∃ was l, l.length = k ∧ k ≤ 100 ∧ LeftQ was l ∧ OwnM wr w.heap.size v l ∧ v.ownBlock ≠ some bw ∧ Blk wr bw 28 was.cells ∧ w.heap.size ≤ bw ∧ Below w.heap.size w wr
theorem fill_all {n : Nat} {ls : List Bool} (hl : ls.length = n) (h : ∀ q, q < n → ls[q]? = some true) : ls = leftB (List.replicate n false) := by
  apply List.ext_getElem?
  intro q
  unfold leftB
  rw [List.getElem?_map, List.getElem?_replicate]
  by_cases hq : q < n
  · rw [h q hq, if_pos hq]; rfl
  · rw [if_neg hq, List.getElem?_eq_none (by omega)]; rfl
theorem fill_set {n j : Nat} {ls : List Bool} (hl : ls.length = n) (hj : j < n) (h : ∀ q, q < j → ls[q]? = some true) : ∀ q, q < j + 1 → (ls.set j true)[q]? = some true := fun q hq => by
  rw [List.getElem?_set]
  by_cases e : j = q
  · subst e; simp [hl, hj]
  · rw [if_neg e]; exact h q (by omega)
theorem rmsgs_b (a b : Mg) (w : World) : Calls Try.prog 9 #[a.val, b.val] w fun e w' => e = .returned (.int .i64 (cmpG a b)) ∧ Below w.heap.size w w' := by
  refine (rmsgs_ a b w).mono ?_
  rintro e w' ⟨rfl, rfl⟩
  have k := alloc_below w (.cells a.cells 28)
  exact ⟨rfl, k.alloc k.size _⟩
theorem Lst.head_m {w : World} {K : Nat → Prop} {A : Option Addr} {y : Mg} {l : List Mg} (h : Lst w K eM A (y :: l)) :
    ∃ g o, A = some ⟨g, o, none⟩ ∧ g < w.heap.size ∧ w.cell? ⟨g, o, none⟩ = some (.int .i64 y.id) ∧ w.cell? ⟨g, o + 1, none⟩ = some (.int .i64 y.pri) ∧ w.cell? ⟨g, o + 2, none⟩ = some (.int .i64 y.retry) ∧
      w.cell? ⟨g, o + 3, none⟩ = some (.bool y.claimed) ∧ w.cell? ⟨g, o + 4, none⟩ = some (.string y.corr) ∧ w.cell? ⟨g, o + 5, none⟩ = some (.string y.body) := by
  obtain ⟨g, o, e, hl, hc⟩ := h.atM (j := 0) (by simp)
  simp only [Nat.zero_mul, Nat.add_zero] at hc
  exact ⟨g, o, e, hl, hc⟩
theorem put_moreQ {ps : List Bool} {l : List Mg} (h : PutQ ps l) {k p : Nat} (hk : ps[k]? = some false) : PutQ (ps.set k true) (addM l ⟨(k : Int) + 1, (p : Int), 0, false, ⟨#[]⟩, ⟨#[]⟩⟩) := putq_more h hk rfl (by show (0 : Int) ≤ p; omega) rfl
theorem wf_small {x : Int} (h : 0 ≤ x ∧ x ≤ 1000000) : Wf x := WalkArith.wf_i64 (by omega)
set_option maxRecDepth 8000 in
set_option maxHeartbeats 1000000 in
theorem queueOrderN (A : Option Addr) (n c : Nat) (zs : List Int) (A2 : Option Addr) (m c2 : Nat) (os : List Int) (w : World) (hz : Ints w A n zs) (ho : Ints w A2 m os) (hn : n ≤ 30) (hm : n ≤ m) :
    Calls Try.prog 3 #[.slice A n c, .slice A2 m c2] w fun e w' => e = .returned (.bool true) ∧ Below w.heap.size w w' := by
  have HZ := Lib.hid hz
  have HO := Lib.hid ho
  clear hz ho
  go_enter Try.func3, Try.ntmps3
  go_wp2_with fail
  refine (alive15_ _).mono ?_
  rintro e w1 ⟨rfl, hb1⟩
  have HB1 := Lib.hid hb1
  have hmk := made_left n (by omega) w1
  have g1 : decide ((30 : Int) < (n : Int)) = false := decide_eq_false (by omega)
  have g2 : decide (m < n) = false := decide_eq_false (by omega)
  have g3 : decide ((m : Int) < (n : Int)) = false := decide_eq_false (by omega)
  clear hb1
  go_wp2_with fail
  have hq0 : QO w w1.heap.size (List.replicate n false) (.slice none 0 0) [] (w1.alloc (.cells (cellsT (List.replicate n false)) 4)) :=
    ⟨HB1.out.alloc HB1.out.size _, HB1.out.size, Blk.new w1 _ _, own_nil _ _⟩
  have HQ0 := Lib.hid hq0
  clear hq0 hmk HB1
  generalize w1.alloc (.cells (cellsT (List.replicate n false)) 4) = w2 at *
  generalize w1.heap.size = bl at *
  go_loopg [8] n (fun k i wr => Fill w bl n k i wr)
  case atStart => exact ⟨0, _, by omega, rfl, List.length_replicate, fun q hq => absurd hq (Nat.not_lt_zero q), HQ0.out⟩
  case round =>
    obtain ⟨j, ls, hj, rfl, hl, hf, hq⟩ := hrel
    have HJ := Lib.hid hj
    have HL := Lib.hid hl
    have HF := Lib.hid hf
    have HQ := Lib.hid hq
    clear hj hl hf hq
    by_cases hlt : j < n
    · have hcq := (HQ.out.blk.cell j).trans (cellsT_at (List.getElem?_eq_getElem (show j < ls.length by have := HL.out; omega)))
      have hfq := HQ.out.blk.frozen j
      have HQ1 := Lib.hid (HQ.out.mark j true)
      have HF1 := Lib.hid (fill_set HL.out hlt HF.out)
      have hl2 : (ls.set j true).length = n := by rw [List.length_set]; exact HL.out
      have HL2 := Lib.hid hl2
      clear hl2
      go_wp2_with fail
      go_roundg (n - (j + 1))
      case measure => have := HJ.out; omega
      case rel => exact ⟨j + 1, _, by omega, by go_num, HL2.out, HF1.out, HQ1.out⟩
    · have hjn : j = n := by have := HJ.out; omega
      subst hjn
      have hq := HQ.out
      rw [fill_all HL.out HF.out] at hq
      have HQ1 := Lib.hid hq
      clear hq hlt HJ HL HF HQ HQ0
      go_wp2_with fail
      go_loopg [6, 9] j (fun k v i wr => Puts w bl j k v i wr)
      case atStart => exact ⟨0, _, [], by omega, rfl, List.length_replicate, by rw [List.count_replicate]; rfl, putq_none j, HQ1.out⟩
      case round =>
        obtain ⟨i, ps, l, hi, rfl, hpl, hpc, hp, hq⟩ := hrel
        have HI := Lib.hid hi
        have HPL := Lib.hid hpl
        have HPC := Lib.hid hpc
        have HP := Lib.hid hp
        have HQ := Lib.hid hq
        clear hi hpl hpc hp hq HQ1
        by_cases hlt : i < j
        · obtain ⟨b, o, rfl, hbb, hcs⟩ := (HO.out.below HQ.out.bel).2 (by omega)
          obtain ⟨z, hzi⟩ : ∃ z, os[i]? = some z := ⟨_, List.getElem?_eq_getElem (by have := HO.out.1; omega)⟩
          have hcz := hcs i z hzi
          have him : i < m := by omega
          obtain ⟨a, ha, hand⟩ := and1023 z
          clear hcs hzi
          go_wp2_with fail
          obtain ⟨d, hd, hfree⟩ := free_ahead HPL.out HPC.out hlt (Nat.mod_lt a (show 0 < j by omega))
          have HFREE := Lib.hid hfree
          have hqa : Value.int .i64 ((a : Int) % (j : Int)) = .int .i64 ((a % j : Nat) : Int) := rfl
          have HQA := Lib.hid hqa
          have hql := Nat.mod_lt a (show 0 < j by omega)
          clear hfree hqa hd hcz
          go_loopg [10] d (fun k q wr => SeekQ w bl j ps u6 l k q wr)
          case atStart => exact ⟨a % j, HQA.out, hql, HFREE.out, HQ.out⟩
          case round =>
            obtain ⟨q, rfl, hq, hfr, hy⟩ := hrel
            have HFR := Lib.hid hfr
            have HS := Lib.hid hy
            clear hfr hy HQ HQA HFREE
            obtain ⟨bv, hbv⟩ : ∃ bv, ps[q]? = some bv := ⟨_, List.getElem?_eq_getElem (by have := HPL.out; omega)⟩
            have hcq := (HS.out.blk.cell q).trans (cellsT_at (leftB_at hbv))
            have HBV := Lib.hid hbv
            clear hbv
            have hfq := HS.out.blk.frozen q
            cases bv
            · have hq5 := HS.out.mark q false
              rw [leftB_set] at hq5
              obtain ⟨b5, o5, rfl, hb5, hc5⟩ := (HZ.out.below hq5.bel).2 (by omega)
              obtain ⟨z5, hz5⟩ : ∃ z, zs[q]? = some z := ⟨_, List.getElem?_eq_getElem (by have := HZ.out.1; omega)⟩
              have hcz := hc5 q z5 hz5
              obtain ⟨p5, hp5, hand5⟩ := and3 z5
              obtain ⟨hs1, hs2⟩ := count_set HPL.out HPC.out HBV.out
              have hpm := put_moreQ HP.out HBV.out (p := p5)
              obtain ⟨A6, c6, rfl, hl6, hc6, _, hn6⟩ := own_lst hq5.own
              have hlj : l.length ≤ 100 := by have := HP.out.len; rw [HPC.out] at this; omega
              have had := add_m hl6 rfl (by omega) hc6 ⟨(q : Int) + 1, (p5 : Int), 0, false, ⟨#[]⟩, ⟨#[]⟩⟩
              simp only [Mg.val, Mg.cells] at had
              have HAD := Lib.hid had
              have HS1 := Lib.hid hs1
              have HS2 := Lib.hid hs2
              have HPM := Lib.hid hpm
              have HQ5 := Lib.hid hq5
              clear had hs1 hs2 hpm hq5 hl6 hc6 hn6 hz5 hc5 hb5 HP HS HBV HFR HPC
              clear hlj
              generalize l.length = n6 at *
              go_wp2_with fail
              generalize wr.setCell ⟨bl, q, none⟩ (.bool false) = w5 at *
              refine HAD.out.mono ?_
              rintro e w6 ⟨v6, rfl, ho6, hb6⟩
              have HQ6 := Lib.hid (HQ5.out.made hb6 ho6)
              clear ho6 hb6 HAD HQ5
              go_wp2_with fail
              go_roundg (j - (i + 1))
              case measure => have := HI.out; omega
              case rel => exact ⟨i + 1, _, _, by omega, by go_num, HS1.out, HS2.out, HPM.out, HQ6.out⟩
            · obtain ⟨d', hd', hq1, hn1⟩ := next_ahead hq HFR.out HBV.out
              have hqa : Value.int .i64 (((q : Int) + 1) % (j : Int)) = .int .i64 (((q + 1) % j : Nat) : Int) := rfl
              have HQA := Lib.hid hqa
              have HQ1 := Lib.hid hq1
              have HN1 := Lib.hid hn1
              clear hqa hq1 hn1
              go_wp2_with fail
              go_roundg d'
              case measure => omega
              case rel => exact ⟨(q + 1) % j, HQA.out, HQ1.out, HN1.out, HS.out⟩
        · have hij : i = j := by have := HI.out; omega
          subst hij
          obtain ⟨A6, c6, rfl, hl6, hc6, _, hn6⟩ := own_lst HQ.out.own
          have hlj : l.length = i := by have := HP.out.len; rw [HPC.out] at this; exact this
          have hri := rises_m (c := c6) hl6 hlj (by omega) (fun m hm => by
            obtain ⟨_, _, k, hk, e⟩ := HP.out.all m hm
            have := (List.getElem?_eq_some_iff.1 hk).1
            have := HPL.out
            rw [e]
            exact wf_small (by omega))
          rw [rises_up HP.out.up HP.out.ids] at hri
          have HLF := Lib.hid (leftq_first HP.out)
          have HLJ := Lib.hid hlj
          have HRI := Lib.hid hri
          clear hri hl6 hc6 hn6 HP HPC HPL HI
          have hqq := HQ.out
          rw [hlj] at hqq ⊢
          have HQ := Lib.hid hqq
          clear hlj hqq
          go_wp2_with fail
          refine HRI.out.mono ?_
          rintro e w5 ⟨rfl, hb5⟩
          have HQ5 := Lib.hid (HQ.out.next hb5)
          clear hb5 HQ HRI hlt
          go_wp2_with fail
          have hal := alloc_below w5 (.cells #[.int .i64 0, .int .i64 (-1), .int .i64 0, .bool false, .string ⟨#[]⟩, .string ⟨#[]⟩] 28)
          have hk5 := HQ5.out
          have hout : Outs w w5.heap.size i (.slice A6 i c6) (w5.alloc (.cells #[.int .i64 0, .int .i64 (-1), .int .i64 0, .bool false, .string ⟨#[]⟩, .string ⟨#[]⟩] 28)) := by
            refine ⟨⟨0, -1, 0, false, ⟨#[]⟩, ⟨#[]⟩⟩, l, HLJ.out, by omega, HLF.out, ?_, ?_, Blk.new w5 _ _, hk5.bel.size, hk5.bel.trans (hal.mono hk5.bel.size)⟩
            · exact own_base (own_belowE hk5.own hal) (Nat.le_trans hk5.ge (Nat.le_succ _))
            · exact fun e => Nat.lt_irrefl _ (own_blk hk5.own e).2.1
          have HOUT := Lib.hid hout
          clear hal hk5 hout HQ5 HLF HLJ
          generalize w5.alloc (.cells #[.int .i64 0, .int .i64 (-1), .int .i64 0, .bool false, .string ⟨#[]⟩, .string ⟨#[]⟩] 28) = w6 at *
          generalize w5.heap.size = bw at *
          go_loopg [6] i (fun k v wr => Outs w bw k v wr)
          case atStart => exact HOUT.out
          case round =>
            obtain ⟨was, l, hll, hk, hlq, ho, hne, hb, hge, hbel⟩ := hrel
            have HNE := ShutQ.mk hne
            clear hne
            clear HOUT
            rcases l with _ | ⟨y, l⟩
            · obtain ⟨A7, c7, rfl, _⟩ := own_lst ho
              have HBEL := Lib.hid hbel
              clear hlq ho hb hge hbel hll hk
              rw [List.length_nil]
              go_wp2_with fail
              go_ret
              exact ⟨rfl, HBEL.out⟩
            · obtain ⟨A7, c7, rfl, hl7, hc7, _, hn7⟩ := own_lst ho
              obtain ⟨n7, hn77⟩ : ∃ k, (y :: l).length = k + 1 := ⟨l.length, rfl⟩
              obtain ⟨e1, e2, e3, e4, e5⟩ := leftq_next hlq
              have hle := least_m (c := c7) hl7 hn77 (by omega)
              rw [e1] at hle
              have HLE := Lib.hid hle
              have HL7 := Lib.hid hl7
              have HB := Lib.hid hb
              have HN7 := Lib.hid hn7
              have HC7 := ShutQ.mk hc7
              have HBEL := Lib.hid hbel
              have HGE := Lib.hid hge
              have HNN := ShutQ.mk hn77
              have HLL := ShutQ.mk hll
              have HK := Lib.hid hk
              have E2 := ShutQ.mk e2
              have E3 := ShutQ.mk e3
              have E4 := ShutQ.mk e4
              have E5 := ShutQ.mk e5
              clear hle hl7 hb hn7 hc7 hbel hge hll hk e1 e2 e3 e4 e5 hlq ho
              rw [hn77]
              clear hn77
              go_wp2_with fail
              refine HLE.out.mono ?_
              rintro e w7 ⟨rfl, hb7⟩
              have hbk := Blk.below HB.out hb7 HB.out.lt
              obtain ⟨x0, x1, x2, x3, x4, x5⟩ := was
              obtain ⟨d0, d1, d2, d3, d4, d5⟩ := blk_six (m := ⟨x0, x1, x2, x3, x4, x5⟩) hbk
              have hl8 := HL7.out.below hb7
              obtain ⟨g, o, rfl, _, q0, q1, q2, q3, q4, q5⟩ := hl8.head_m
              obtain ⟨y0, y1, y2, y3, y4, y5⟩ := y
              simp only at q0 q1 q2 q3 q4 q5
              have hcall := fun W => rmsgs_b ⟨x0, x1, x2, x3, x4, x5⟩ ⟨y0, y1, y2, y3, y4, y5⟩ W
              have hz := E2.out
              generalize cmpG ⟨x0, x1, x2, x3, x4, x5⟩ ⟨y0, y1, y2, y3, y4, y5⟩ = z at *
              have hz2 : ¬ 0 ≤ z := by omega
              simp only [Mg.val, Mg.cells] at hcall
              have HC := Lib.hid hcall
              have HL8 := Lib.hid hl8
              have HBK := Lib.hid hbk
              have HB7 := Lib.hid (HBEL.out.trans (hb7.mono HBEL.out.size))
              clear hcall hl8 hbk hb7 HL7 HB HBEL HLE E2 hz
              go_wp2_with fail
              have hdl := block_of_cell d0
              have hgl := block_of_cell q0
              have hS0 : (fun W : World => W.cell? ⟨bw, 0, none⟩ = some (.int .i64 x0) ∧ W.cell? ⟨bw, 1, none⟩ = some (.int .i64 x1) ∧ W.cell? ⟨bw, 2, none⟩ = some (.int .i64 x2) ∧ W.cell? ⟨bw, 3, none⟩ = some (.bool x3) ∧ W.cell? ⟨bw, 4, none⟩ = some (.string x4) ∧ W.cell? ⟨bw, 5, none⟩ = some (.string x5) ∧ W.cell? ⟨g, o, none⟩ = some (.int .i64 y0) ∧ W.cell? ⟨g, o + 1, none⟩ = some (.int .i64 y1) ∧ W.cell? ⟨g, o + 2, none⟩ = some (.int .i64 y2) ∧ W.cell? ⟨g, o + 3, none⟩ = some (.bool y3) ∧ W.cell? ⟨g, o + 4, none⟩ = some (.string y4) ∧ W.cell? ⟨g, o + 5, none⟩ = some (.string y5)) w7.drew := ⟨d0, d1, d2, d3, d4, d5, q0, q1, q2, q3, q4, q5⟩
              go_region_held3 (fun W : World => W.cell? ⟨bw, 0, none⟩ = some (.int .i64 x0) ∧ W.cell? ⟨bw, 1, none⟩ = some (.int .i64 x1) ∧ W.cell? ⟨bw, 2, none⟩ = some (.int .i64 x2) ∧ W.cell? ⟨bw, 3, none⟩ = some (.bool x3) ∧ W.cell? ⟨bw, 4, none⟩ = some (.string x4) ∧ W.cell? ⟨bw, 5, none⟩ = some (.string x5) ∧ W.cell? ⟨g, o, none⟩ = some (.int .i64 y0) ∧ W.cell? ⟨g, o + 1, none⟩ = some (.int .i64 y1) ∧ W.cell? ⟨g, o + 2, none⟩ = some (.int .i64 y2) ∧ W.cell? ⟨g, o + 3, none⟩ = some (.bool y3) ∧ W.cell? ⟨g, o + 4, none⟩ = some (.string y4) ∧ W.cell? ⟨g, o + 5, none⟩ = some (.string y5))
                (first | exact hS0 | exact hS1)
                (first | (go_at_call 9; refine (HC.out w7.drew).mono ?_; rintro e w8 ⟨rfl, hb8'⟩; have hb8 : Below w7.heap.size w7 w8 := (Below.refl _ w7).drew.trans hb8'; have hS1 : (fun W : World => W.cell? ⟨bw, 0, none⟩ = some (.int .i64 x0) ∧ W.cell? ⟨bw, 1, none⟩ = some (.int .i64 x1) ∧ W.cell? ⟨bw, 2, none⟩ = some (.int .i64 x2) ∧ W.cell? ⟨bw, 3, none⟩ = some (.bool x3) ∧ W.cell? ⟨bw, 4, none⟩ = some (.string x4) ∧ W.cell? ⟨bw, 5, none⟩ = some (.string x5) ∧ W.cell? ⟨g, o, none⟩ = some (.int .i64 y0) ∧ W.cell? ⟨g, o + 1, none⟩ = some (.int .i64 y1) ∧ W.cell? ⟨g, o + 2, none⟩ = some (.int .i64 y2) ∧ W.cell? ⟨g, o + 3, none⟩ = some (.bool y3) ∧ W.cell? ⟨g, o + 4, none⟩ = some (.string y4) ∧ W.cell? ⟨g, o + 5, none⟩ = some (.string y5)) w8 := ⟨(cell_of_heap (hb8.block _ hdl) _).trans d0, (cell_of_heap (hb8.block _ hdl) _).trans d1, (cell_of_heap (hb8.block _ hdl) _).trans d2, (cell_of_heap (hb8.block _ hdl) _).trans d3, (cell_of_heap (hb8.block _ hdl) _).trans d4, (cell_of_heap (hb8.block _ hdl) _).trans d5, (cell_of_heap (hb8.block _ hgl) _).trans q0, (cell_of_heap (hb8.block _ hgl) _).trans q1, (cell_of_heap (hb8.block _ hgl) _).trans q2, (cell_of_heap (hb8.block _ hgl) _).trans q3, (cell_of_heap (hb8.block _ hgl) _).trans q4, (cell_of_heap (hb8.block _ hgl) _).trans q5⟩; have HBK8 := Lib.hid (Blk.below HBK.out hb8 HBK.out.lt); have HL9 := Lib.hid (HL8.out.below (w' := w8) hb8); have HB8 := Lib.hid (HB7.out.trans (hb8.mono HB7.out.size)); clear hb8 hb8'))
              obtain ⟨d0, d1, d2, d3, d4, d5, q0, q1, q2, q3, q4, q5⟩ := hS1
              have f0 := HBK8.out.frozen 0
              have f1 := HBK8.out.frozen 1
              have f2 := HBK8.out.frozen 2
              have f3 := HBK8.out.frozen 3
              have f4 := HBK8.out.frozen 4
              have f5 := HBK8.out.frozen 5
              have hst := blk_store6 (a' := .int .i64 y0) (b' := .int .i64 y1) (c' := .int .i64 y2) (d' := .bool y3) (e' := .string y4) (f' := .string y5) (show Blk w8 bw 28 #[.int .i64 x0, .int .i64 x1, .int .i64 x2, .bool x3, .string x4, .string x5] from HBK8.out)
              have hkp := keep_six w8 bw (.int .i64 y0) (.int .i64 y1) (.int .i64 y2) (.bool y3) (.string y4) (.string y5)
              have HST := ShutQ.mk hst
              have HKP := ShutQ.mk hkp
              clear hS0 hst hkp HC HBK HL8 HB7 hdl hgl
              have hl10 := HL9.out.keep HKP.out (fun i _ _ hi e => HNE.out (e ▸ hi.2))
              have hcut := cut_m (c := c7) hl10 HNN.out (by have := HK.out; have := HLL.out; have := HNN.out; omega) (by have := HC7.out; have := HNN.out; omega) HN7.out y0
              rw [E3.out, E4.out] at hcut
              have hbel := HB8.out.trans (HKP.out.below HB8.out.size fun i _ hi e => by have := HGE.out; omega)
              have HCUT := ShutQ.mk hcut
              have HBEL := ShutQ.mk hbel
              clear hl10 hcut hbel HL9 HBK8 HB8 HKP E3 E4
              go_wp2_with fail
              generalize ((((((w8.setCell ⟨bw, 0, none⟩ (.int .i64 y0)).setCell ⟨bw, 1, none⟩ (.int .i64 y1)).setCell ⟨bw, 2, none⟩ (.int .i64 y2)).setCell ⟨bw, 3, none⟩ (.bool y3)).setCell ⟨bw, 4, none⟩ (.string y4)).setCell ⟨bw, 5, none⟩ (.string y5)) = w9 at *
              refine HCUT.out.mono ?_
              rintro e w10 ⟨v10, rfl, ho10, hb10⟩
              have HNE10 : Hid (v10.ownBlock ≠ some bw) := fun e => by have h1 := (own_blk ho10 e).1; have h2 := HST.out.lt; omega
              have HO10 := Lib.hid (own_base ho10 HBEL.out.size)
              have HST10 := Lib.hid (Blk.below HST.out hb10 HST.out.lt)
              have HB10 := Lib.hid (HBEL.out.trans (hb10.mono HBEL.out.size))
              clear ho10 hb10 HCUT HST HBEL
              go_wp2_with fail
              go_roundg n7
              case measure => have := HLL.out; have := HNN.out; omega
              case rel => exact ⟨⟨y0, y1, y2, y3, y4, y5⟩, l, by have := HNN.out; simpa using this, by have := HK.out; have := HLL.out; have := HNN.out; omega, E5.out, HO10.out, HNE10.out, HST10.out, HGE.out, HB10.out⟩
theorem queueOrder (A : Option Addr) (n c : Nat) (zs : List Int) (A2 : Option Addr) (m c2 : Nat) (os : List Int) (w : World) (hz : Ints w A n zs) (ho : Ints w A2 m os) :
    Calls Try.prog 3 #[.slice A n c, .slice A2 m c2] w fun e w' => e = .returned (.bool true) ∧ Below w.heap.size w w' := by
  rcases Nat.lt_or_ge 30 n with h1 | h1
  · clear hz ho
    go_enter Try.func3, Try.ntmps3
    go_wp2_with fail
    refine (alive15_ _).mono ?_
    rintro e w1 ⟨rfl, hb1⟩
    have HB1 := Lib.hid hb1
    clear hb1
    have g1 : decide ((30 : Int) < (n : Int)) = true := decide_eq_true (by omega)
    go_wp2_with fail
    all_goals (go_ret; exact ⟨rfl, HB1.out⟩)
  · rcases Nat.lt_or_ge m n with h2 | h2
    · clear hz ho
      go_enter Try.func3, Try.ntmps3
      go_wp2_with fail
      refine (alive15_ _).mono ?_
      rintro e w1 ⟨rfl, hb1⟩
      have HB1 := Lib.hid hb1
      clear hb1
      have g1 : decide ((30 : Int) < (n : Int)) = false := decide_eq_false (by omega)
      have g2 : decide (m < n) = true := decide_eq_true h2
      have g3 : decide ((m : Int) < (n : Int)) = true := decide_eq_true (by omega)
      go_wp2_with fail
      all_goals (go_ret; exact ⟨rfl, HB1.out⟩)
    · exact queueOrderN A n c zs A2 m c2 os w hz ho h1 h2
end Go.Proofs.Ytglcdchjddnjgaa
