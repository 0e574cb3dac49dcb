/- TreeOrder, walked. -/
import Derived.Test.YtocaaebmelhhnaaTreeAl
import Derived.Test.YtocaaebmelhhnaaRefC
import Derived.Test.YtocaaebmelhhnaaRowS
import Derived.Test.YtocaaebmelhhnaaTPick
import Derived.Test.YtocaaebmelhhnaaOpenP
set_option maxRecDepth 4000
namespace Go.Proofs.Ytocaaebmelhhnaa
open Go.RowKit
/-- what the law knows of a world: both trees' rows -/
structure XW (w : World) (K : Nat → Prop) (bt bu : Nat) (L M : List Rw) (wr : World) : Prop where
  bel : Below w.heap.size w wr
  get : w.heap.size ≤ bt
  geu : w.heap.size ≤ bu
  ne : bt ≠ bu
  fr : ∀ i, wr.heap.size ≤ i → K i
  tt : Tree wr K bt L
  tu : Tree wr K bu M
section
variable {w wr w' : World} {K : Nat → Prop} {bt bu bl : Nat} {L L' M M' : List Rw} {bs : List Bool} {t : TypeId} {cs : Array Value}
theorem XW.next (h : XW w K bt bu L M wr) (k : Below wr.heap.size wr w') : XW w K bt bu L M w' := ⟨h.bel.trans (k.mono h.bel.size), h.get, h.geu, h.ne, fun i hi => h.fr i (Nat.le_trans k.size hi), h.tt.below k, h.tu.below k⟩
theorem XW.putT (h : XW w K bt bu L M wr) (ht : Tree w' K bt L') (k : Keep (fun i _ => i ≠ bt) wr w') : XW w K bt bu L' M w' :=
  ⟨h.bel.trans (k.below h.bel.size fun i _ hi e => by have := h.get; omega), h.get, h.geu, h.ne, fun i hi => h.fr i (Nat.le_trans k.size hi), ht, h.tu.keep k (fun e => h.ne e.symm) fun i hi e => h.tt.not (e ▸ hi)⟩
theorem XW.putU (h : XW w K bt bu L M wr) (ht : Tree w' K bu M') (k : Keep (fun i _ => i ≠ bu) wr w') : XW w K bt bu L M' w' :=
  ⟨h.bel.trans (k.below h.bel.size fun i _ hi e => by have := h.geu; omega), h.get, h.geu, h.ne, fun i hi => h.fr i (Nat.le_trans k.size hi), h.tt.keep k h.ne fun i hi e => h.tu.not (e ▸ hi), ht⟩
/-- beside a block that is neither tree's -/
structure YW (w : World) (K : Nat → Prop) (bt bu bl : Nat) (L M : List Rw) (bs : List Bool) (wr : World) : Prop where
  x : XW w K bt bu L M wr
  ge : w.heap.size ≤ bl
  net : bl ≠ bt
  neu : bl ≠ bu
  no : ¬ K bl
  blk : Blk wr bl 4 (cellsT bs)
theorem YW.next (h : YW w K bt bu bl L M bs wr) (k : Below wr.heap.size wr w') : YW w K bt bu bl L M bs w' := ⟨h.x.next k, h.ge, h.net, h.neu, h.no, h.blk.below k h.blk.lt⟩
theorem YW.putU (h : YW w K bt bu bl L M bs wr) (ht : Tree w' K bu M') (k : Keep (fun i _ => i ≠ bu) wr w') : YW w K bt bu bl L M' bs w' := ⟨h.x.putU ht k, h.ge, h.net, h.neu, h.no, h.blk.keep k h.neu⟩
theorem YW.mark (h : YW w K bt bu bl L M bs wr) (q : Nat) : YW w K bt bu bl L M (bs.set q true) (wr.setCell ⟨bl, q, none⟩ (.bool true)) := by
  have k : Keep (fun i _ => i ≠ bl) wr (wr.setCell ⟨bl, q, none⟩ (.bool true)) := (Keep.refl wr).setCell (fun _ _ e => e rfl) _
  have hb := h.blk.set_ q (.bool true)
  rw [cellsT_set] at hb
  refine ⟨⟨h.x.bel.trans (k.below h.x.bel.size fun i _ hi e => by have := h.ge; omega), h.x.get, h.x.geu, h.x.ne, fun i hi => h.x.fr i (Nat.le_trans k.size hi), h.x.tt.keep k (fun e => h.net e.symm) fun i hi e => h.no (e ▸ hi), h.x.tu.keep k (fun e => h.neu e.symm) fun i hi e => h.no (e ▸ hi)⟩, h.ge, h.net, h.neu, h.no, hb⟩
/-- a new block beside both trees -/
theorem XW.lay (h : XW w K bt bu L M wr) (bs : List Bool) : YW w (fun i => K i ∧ i ≠ wr.heap.size) bt bu wr.heap.size L M bs (wr.alloc (.cells (cellsT bs) 4)) := by
  have k := alloc_below wr (.cells (cellsT bs) 4)
  have hb := Blk.new wr 4 (cellsT bs)
  have h1 := h.tt.lt
  have h2 := h.tu.lt
  exact ⟨⟨h.bel.trans (k.mono h.bel.size), h.get, h.geu, h.ne, fun i hi => ⟨h.fr i (Nat.le_trans k.size hi), by have := hb.lt; omega⟩,
    (h.tt.more (K' := fun i => K i ∧ i ≠ wr.heap.size) (fun i hi hk => ⟨hk, by omega⟩) fun e => h.tt.not e.1).below k, (h.tu.more (K' := fun i => K i ∧ i ≠ wr.heap.size) (fun i hi hk => ⟨hk, by omega⟩) fun e => h.tu.not e.1).below k⟩,
    h.bel.size, by omega, by omega, fun e => e.2 rfl, hb⟩
end
/-- a new tree of no rows: nothing lies below it -/
def NoneRel (w : World) (i : Value) (wr : World) : Prop := i = .int .i64 0 ∧ (∀ K : Nat → Prop, ¬ K w.heap.size → Tree wr K w.heap.size []) ∧ Below w.heap.size w wr
set_option maxHeartbeats 1000000 in
theorem new_none (w : World) : Calls Try.prog 8 #[.slice none 0 0] w fun e w' => e = .returned (.pointer (some ⟨w.heap.size, 0, none⟩)) ∧ (∀ K : Nat → Prop, ¬ K w.heap.size → Tree w' K w.heap.size []) ∧ Below w.heap.size w w' := by
  go_enter Try.func8, Try.ntmps8
  go_wp2_with fail
  go_loopg [10] 0 (fun _ i wr => NoneRel w i wr)
  case atStart => exact ⟨rfl, fun K hK => ⟨List.Pairwise.nil, none, ⟨hK, Blk.new _ _ _⟩, Nat.zero_le _, rfl⟩, alloc_below _ _⟩
  case round =>
    obtain ⟨rfl, ht, hb⟩ := hrel
    have HT := Lib.hid ht
    have HB := Lib.hid hb
    clear ht hb
    go_wp2_with fail
    go_ret
    exact ⟨rfl, HT.out, HB.out⟩
def PutsT (w : World) (K : Nat → Prop) (bt bu n : Nat) (k : Nat) (i : Value) (wr : World) : Prop :=
  ∃ j L, j + k = n ∧ i = .int .i64 (j : Int) ∧ L.length = j ∧ HasK (fun q => q < j) L ∧ XW w K bt bu L [] wr
def PutsU (w : World) (K : Nat → Prop) (bt bu bl n : Nat) (L : List Rw) (k : Nat) (i : Value) (wr : World) : Prop :=
  ∃ j M bs, j + k = n ∧ i = .int .i64 (j : Int) ∧ bs.length = n ∧ bs.count true = j ∧ M.length = j ∧ HasK (fun q => bs[q]? = some true) M ∧ YW w K bt bu bl L M bs wr
def Seek (w : World) (K : Nat → Prop) (bt bu bl n : Nat) (L M : List Rw) (bs : List Bool) (k : Nat) (v : Value) (wr : World) : Prop :=
  ∃ q : Nat, v = .int .i64 (q : Int) ∧ q < n ∧ bs[(q + k) % n]? = some false ∧ YW w K bt bu bl L M bs wr
set_option maxRecDepth 8000 in
set_option maxHeartbeats 4000000 in
theorem treeOrderN (n : Nat) (A : Option Addr) (m c : Nat) (zs : List Int) (w : World) (hz : Ints w A m zs) (hn : n ≤ 100) (hm : n ≤ m) :
    Calls Try.prog 5 #[.int .i64 (n : Int), .slice A m c] w fun e w' => e = .returned (.bool true) ∧ Below w.heap.size w w' := by
  have HZ := Lib.hid hz
  clear hz
  go_enter Try.func5, Try.ntmps5
  go_wp2_with fail
  refine (alive_ _).mono ?_
  rintro e w1 ⟨rfl, hb1⟩
  have HB1 := Lib.hid hb1
  clear hb1
  go_wp2_with fail
  refine (new_none w1).mono ?_
  rintro e w2 ⟨rfl, ht2, hb2⟩
  have HT2 := Lib.hid ht2
  have HB2 := Lib.hid hb2
  clear ht2 hb2
  go_wp2_with fail
  refine (new_none w2).mono ?_
  rintro e w3 ⟨rfl, ht3, hb3⟩
  have ht2 := HT2.out (fun i => i ≠ w1.heap.size ∧ i ≠ w2.heap.size) (fun h => h.1 rfl)
  have ht3 := ht3 (fun i => i ≠ w1.heap.size ∧ i ≠ w2.heap.size) (fun h => h.2 rfl)
  have hlt2 := ht2.lt
  have hlt3 := ht3.lt
  have hs2 := Nat.le_trans HB1.out.size HB2.out.size
  have hX0 : XW w (fun i => i ≠ w1.heap.size ∧ i ≠ w2.heap.size) w1.heap.size w2.heap.size [] [] w3 :=
    ⟨HB1.out.trans ((HB2.out.mono HB1.out.size).trans (hb3.mono hs2)), HB1.out.size, hs2, by omega, fun i hi => by constructor <;> omega, ht2.below hb3, ht3⟩
  have HX0 := Lib.hid hX0
  clear hX0 hs2 hlt2 hlt3 ht2 ht3 hb3 HB2 HT2
  generalize (fun i => i ≠ w1.heap.size ∧ i ≠ w2.heap.size) = K at *
  generalize w1.heap.size = bt at *
  generalize w2.heap.size = bu at *
  go_wp2_with fail
  go_loopg [8] n (fun k i wr => PutsT w K bt bu n k i wr)
  case atStart => exact ⟨0, [], by omega, rfl, rfl, has_none.congr fun k => ⟨fun h => h.elim, fun h => absurd h (Nat.not_lt_zero k)⟩, HX0.out⟩
  case round =>
    obtain ⟨j, L, hj, rfl, hl, hh, hx⟩ := hrel
    have HJ := Lib.hid hj
    have HL := Lib.hid hl
    have HH := Lib.hid hh
    have HX := Lib.hid hx
    clear hj hl hh hx
    by_cases hlt : j < n
    · have h7 : 7 * j < 8000 := by omega
      have hpt := fun (W : World) (h : XW w K bt bu L [] W) => put_tree h.tt (by have := HL.out; omega) h.fr (rowK j)
      have hfr := HH.out.fresh HX.out.tt.up (fun k hk => by omega) (q := j) (by omega) (by omega)
      have hha := HH.out.put HX.out.tt.up (fun k hk => by omega) (q := j) (by omega)
      have hln := put_len L (rowK j)
      rw [show (rowK j).1 = keyB (7 * j) from rfl] at hpt hln
      rw [hfr] at hpt hln
      have HPT := Lib.hid hpt
      have HHA := Lib.hid hha
      have HLN := Lib.hid hln
      clear hpt hha hln hfr
      unfold rowK at HPT HHA HLN
      go_wp2_with fail
      rw [show 7 * (j : Int) = ((7 * j : Nat) : Int) by omega]
      refine (key_ (7 * j) h7 _).mono ?_
      rintro e w4 ⟨rfl, m4, rfl⟩
      have HX1 := Lib.hid (HX.out.next (below_drewN (Below.refl _ _) m4))
      generalize wr.drewN m4 = w4 at *
      have hpt := HPT.out w4 HX1.out
      have HPU := Lib.hid hpt
      clear hpt h7
      go_wp2_with fail
      refine HPU.out.mono ?_
      rintro e w5 ⟨rfl, ht5, hk5⟩
      have HX2 := Lib.hid (HX1.out.putT ht5 hk5)
      clear ht5 hk5
      go_wp2_with fail
      go_roundg (n - (j + 1))
      case measure => have := HJ.out; omega
      case rel => exact ⟨j + 1, _, by omega, by go_num, by have := HLN.out; rw [if_neg Bool.false_ne_true, HL.out] at this; exact this, HHA.out.congr fun k => ⟨fun h => by rcases h with h | h <;> omega, fun h => by show k = j ∨ k < j; omega⟩, HX2.out⟩
    · have hjn : j = n := by have := HJ.out; omega
      subst hjn
      have hmk := made_truths j (by omega)
      have hY0 := HX.out.lay (List.replicate j false)
      have HY0 := Lib.hid hY0
      clear hY0 hlt HJ
      go_wp2_with fail
      generalize wr.alloc (.cells (cellsT (List.replicate j false)) 4) = w4 at *
      generalize wr.heap.size = bl at *
      generalize (fun i => K i ∧ i ≠ bl) = K3 at *
      clear hmk
      go_loopg [10] j (fun k i wr => PutsU w K3 bt bu bl j L k i wr)
      case atStart => exact ⟨0, [], List.replicate j false, by omega, rfl, List.length_replicate, by rw [List.count_replicate]; rfl, rfl, has_none.congr fun k => ⟨fun h => h.elim, fun h => absurd h (none_at j k)⟩, HY0.out⟩
      case round =>
        obtain ⟨i, M, bs, hi, rfl, hbl, hbc, hml, hm2, hy⟩ := hrel
        have HI := Lib.hid hi
        have HBL := Lib.hid hbl
        have HBC := Lib.hid hbc
        have HML := Lib.hid hml
        have HM2 := Lib.hid hm2
        have HY := Lib.hid hy
        clear hi hbl hbc hml hm2 hy
        by_cases hlt : i < j
        · obtain ⟨b, o, rfl, hbb, hcs⟩ := (HZ.out.below HY.out.x.bel).2 (by omega)
          obtain ⟨z, hzi⟩ : ∃ z, zs[i]? = some z := ⟨_, List.getElem?_eq_getElem (by have := HZ.out.1; omega)⟩
          have hcz := hcs i z hzi
          have him : i < m := by omega
          obtain ⟨a, ha, hand⟩ := and1023 z
          clear hcs hzi
          go_wp2_with fail
          obtain ⟨d, hd, hfree⟩ := free_ahead HBL.out HBC.out hlt (Nat.mod_lt a (show 0 < j by omega))
          have HFREE := Lib.hid hfree
          have hqa : Value.int .i64 ((a : Int) % (j : Int)) = .int .i64 ((a % j : Nat) : Int) := rfl
          have HQA := Lib.hid hqa
          have hql := Nat.mod_lt a (show 0 < j by omega)
          clear hfree hqa hd
          go_loopg [11] d (fun k v wr => Seek w K3 bt bu bl j L M bs k v wr)
          case atStart => exact ⟨a % j, HQA.out, hql, HFREE.out, HY.out⟩
          case round =>
            obtain ⟨q, rfl, hq, hfr, hy⟩ := hrel
            have HFR := Lib.hid hfr
            have HS := Lib.hid hy
            clear hfr hy
            obtain ⟨bv, hbv⟩ : ∃ bv, bs[q]? = some bv := ⟨_, List.getElem?_eq_getElem (by have := HBL.out; omega)⟩
            have hcq := (HS.out.blk.cell q).trans (cellsT_at hbv)
            have HBV := Lib.hid hbv
            clear hbv
            have hfq := HS.out.blk.frozen q
            cases bv
            · have hPb : ∀ k, bs[k]? = some true → k ≤ 1000 := fun k hk => by have := (List.getElem?_eq_some_iff.1 hk).1; have := HBL.out; omega
              have hno : ¬ bs[q]? = some true := by rw [HBV.out]; simp
              have hpt := fun (W : World) (h : YW w K3 bt bu bl L M (bs.set q true) W) => put_tree h.x.tu (by have := HML.out; have := HI.out; omega) h.x.fr (rowK q)
              have hfr := HM2.out.fresh HS.out.x.tu.up hPb (q := q) (by omega) hno
              have hha := HM2.out.put HS.out.x.tu.up hPb (q := q) (by omega)
              have hln := put_len M (rowK q)
              rw [show (rowK q).1 = keyB (7 * q) from rfl] at hpt hln
              rw [hfr] at hpt hln
              obtain ⟨hs1, hs2⟩ := count_set HBL.out HBC.out HBV.out
              have HS1 := Lib.hid hs1
              have HS2 := Lib.hid hs2
              have HHB := Lib.hid (hha.congr fun k => (set_at bs q k (by have := HBL.out; omega)).symm)
              have HPT := Lib.hid hpt
              have HLN := Lib.hid hln
              have HY2 := Lib.hid (HS.out.mark q)
              have h7 : 7 * q < 8000 := by omega
              clear hpt hha hln hfr hs1 hs2 hPb hno
              unfold rowK at HPT HLN HHB
              go_wp2_with fail
              rw [show 7 * (q : Int) = ((7 * q : Nat) : Int) by omega]
              refine (key_ (7 * q) h7 _).mono ?_
              rintro e w6 ⟨rfl, m6, rfl⟩
              have HY3 := Lib.hid (HY2.out.next (below_drewN (Below.refl _ _) m6))
              generalize (wr.setCell ⟨bl, q, none⟩ (.bool true)).drewN m6 = w6 at *
              have hpt := HPT.out w6 HY3.out
              have HPU := Lib.hid hpt
              clear hpt h7
              go_wp2_with fail
              refine HPU.out.mono ?_
              rintro e w7 ⟨rfl, ht7, hk7⟩
              have HY4 := Lib.hid (HY3.out.putU ht7 hk7)
              clear ht7 hk7
              go_wp2_with fail
              go_roundg (j - (i + 1))
              case measure => have := HI.out; omega
              case rel => exact ⟨i + 1, _, bs.set q true, by omega, by go_num, HS1.out, HS2.out, by have := HLN.out; rw [if_neg Bool.false_ne_true, HML.out] at this; exact this, HHB.out, HY4.out⟩
            · obtain ⟨d', hd', hq1, hn1⟩ := next_ahead hq HFR.out HBV.out
              have hqa : Value.int .i64 (((q : Int) + 1) % (j : Int)) = .int .i64 (((q + 1) % j : Nat) : Int) := rfl
              have HQA := Lib.hid hqa
              have HQ1 := Lib.hid hq1
              have HN1 := Lib.hid hn1
              clear hqa hq1 hn1
              go_wp2_with fail
              go_roundg d'
              case measure => omega
              case rel => exact ⟨(q + 1) % j, HQA.out, HQ1.out, HN1.out, HS.out⟩
        · have hij : i = j := by have := HI.out; omega
          subst hij
          have hLM : L = M := up_ext HY.out.x.tt.up HY.out.x.tu.up fun x => by
            rw [HH.out x, HM2.out x]
            exact ⟨fun ⟨k, hk, e⟩ => ⟨k, (all_set HBL.out HBC.out k).2 hk, e⟩, fun ⟨k, hk, e⟩ => ⟨k, (all_set HBL.out HBC.out k).1 hk, e⟩⟩
          have HLM := Lib.hid hLM
          have hlen := len_tree HY.out.x.tt HY.out.x.fr
          rw [HL.out] at hlen
          have HLEN := Lib.hid hlen
          clear hlen hLM
          go_wp2_with fail
          refine HLEN.out.mono ?_
          rintro e w5 ⟨rfl, hb5⟩
          have HY1 := Lib.hid (HY.out.next hb5)
          have hal := all_tree HY1.out.x.tt (by have := HL.out; omega) HY1.out.x.fr
          rw [HL.out] at hal
          have HAL := Lib.hid hal
          clear hb5 hal
          go_wp2_with fail
          refine HAL.out.mono ?_
          rintro e w6 ⟨A6, c6, rfl, hr6, _, _, hb6⟩
          have HY2 := Lib.hid (HY1.out.next hb6)
          have R6 := Lib.hid hr6
          have hal := all_tree HY2.out.x.tu (by have := HML.out; omega) HY2.out.x.fr
          rw [HML.out] at hal
          have HAL2 := Lib.hid hal
          clear hb6 hr6 hal
          go_wp2_with fail
          refine HAL2.out.mono ?_
          rintro e w7 ⟨A7, c7, rfl, hr7, _, _, hb7⟩
          have HY3 := Lib.hid (HY2.out.next hb7)
          have hsm := same_rows (c := c6) (c2 := c7) (R6.out.below hb7) hr7 HL.out HML.out (by omega)
          rw [decide_eq_true HLM.out] at hsm
          have HSM := Lib.hid hsm
          clear hb7 hr7 hsm
          go_wp2_with fail
          refine HSM.out.mono ?_
          rintro e w8 ⟨rfl, hb8⟩
          have HY4 := Lib.hid (HY3.out.next hb8)
          clear hb8
          go_wp2_with fail
          go_ret
          exact ⟨rfl, HY4.out.x.bel⟩
theorem treeOrder (n : Int) (A : Option Addr) (m c : Nat) (zs : List Int) (w : World) (hz : Ints w A m zs) :
    Calls Try.prog 5 #[.int .i64 n, .slice A m c] w fun e w' => e = .returned (.bool true) ∧ Below w.heap.size w w' := by
  by_cases hg : 0 ≤ n ∧ n ≤ 100 ∧ n ≤ m
  · have := treeOrderN n.toNat A m c zs w hz (by omega) (by omega)
    rw [Int.toNat_of_nonneg (by omega)] at this
    exact this
  · go_enter Try.func5, Try.ntmps5
    go_wp2_with fail
    refine (alive_ _).mono ?_
    rintro e w1 ⟨rfl, hb1⟩
    have HB1 := Lib.hid hb1
    clear hb1
    go_wp2_with fail
    all_goals (go_ret; exact ⟨rfl, HB1.out⟩)
end Go.Proofs.Ytocaaebmelhhnaa
