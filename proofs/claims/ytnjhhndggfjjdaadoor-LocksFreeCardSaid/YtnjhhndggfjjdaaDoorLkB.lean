/- Where the lock of a name stands: the library's BinarySearchFunc at locks. -/
import Derived.Test.YtnjhhndggfjjdaaDoorLkM
import Derived.RegionTactic
import Derived.Deep.RegionWith
import Derived.BigQuiet
import Derived.Deep.QuietTactic
set_option maxRecDepth 4000
namespace Go.Proofs.YtnjhhndggfjjdaaDoor
open Go.RowKit
set_option maxHeartbeats 1000000 in
theorem placeF_ (r : Re) (n : Nm) (w : World) : Calls Tryd.prog 51 #[valL r, valN n] w fun e w' => e = .returned (.int .i64 (cmpN r.2.2 n)) ∧ Below w.heap.size w w' := by
  obtain ⟨⟨A1, n1, c1⟩, ⟨A2, n2, c2⟩, r1, r2, r3⟩ := r
  obtain ⟨d, o, q⟩ := n
  have hal := (alloc_below w (.cells #[.slice A1 n1 c1, .slice A2 n2 c2, .int .i64 r1, .string r2, .string r3] 62)).trans ((alloc_below (w.alloc (.cells #[.slice A1 n1 c1, .slice A2 n2 c2, .int .i64 r1, .string r2, .string r3] 62)) (.cells #[.int .i64 d, .string o, .string q] 28)).mono (by simp))
  have hcm := ncompare_ (r1, r2, r3) (d, o, q)
  unfold valL valN Sl.val at *
  simp only at *
  generalize cmpN (r1, r2, r3) (d, o, q) = z at *
  have HAL := Lib.hid hal
  have HCM := Lib.hid hcm
  clear hal hcm
  go_enter Tryd.func51, Tryd.ntmps51
  go_wp2_with (go_at_call 52; refine (HCM.out _).mono ?_; rintro e w' ⟨rfl, hb'⟩)
  go_ret
  exact ⟨rfl, HAL.out.trans (hb'.mono HAL.out.size)⟩
theorem enters_placeF : ∀ args w, (callFunc 51 args).run Tryd.prog w = .ok (.enter 51 args) w := enters_of Tryd.func51 (by kernel_rfl) rfl
/-- the rows ahead of a name -/
def aheadR (n : Nm) (r : Re) : Bool := decide (cmpN r.2.2 n < 0)
def spotR (l : List Re) (n : Nm) : Nat := l.findIdx fun r => !aheadR n r
def hitR (l : List Re) (n : Nm) : Bool := match l[spotR l n]? with
  | some r => cmpN r.2.2 n == 0
  | none => false
def RiseR (l : List Re) (n : Nm) : Prop := ∀ i j (hi : i < l.length) (hj : j < l.length), i ≤ j → aheadR n l[j] = true → aheadR n l[i] = true
theorem spotR_at {l : List Re} {n : Nm} {k : Nat} (hk : k ≤ l.length) (h1 : ∀ q (hq : q < l.length), q < k → aheadR n l[q] = true) (h2 : ∀ q (hq : q < l.length), k ≤ q → aheadR n l[q] = false) : spotR l n = k := by
  unfold spotR
  rcases Nat.lt_or_ge k l.length with h | h
  · exact (List.findIdx_eq h).2 ⟨by simp [h2 k h (Nat.le_refl _)], fun q hq => by simp [h1 q (by omega) hq]⟩
  · obtain rfl : k = l.length := by omega
    exact List.findIdx_eq_length.2 fun x hx => by
      obtain ⟨q, hq, rfl⟩ := List.getElem_of_mem hx
      simp [h1 q hq hq]
theorem mid_num {a b : Nat} (h : a + b ≤ 4000000) : wrap64 (IntKind.u64.wrap (wrap64 ((a : Int) + (b : Int))) / 2) = (((a + b) / 2 : Nat) : Int) := by
  have e : wrap64 ((a : Int) + (b : Int)) = ((a + b : Nat) : Int) := by unfold wrap64; omega
  rw [e, show IntKind.u64.wrap ((a + b : Nat) : Int) = ((a + b : Nat) : Int) by simp [IntKind.wrap, IntKind.bits, IntKind.signed]; omega]
  unfold wrap64
  omega
def BsR (w : World) (l : List Re) (n : Nm) (k : Nat) (i j : Value) (wr : World) : Prop :=
  ∃ a b : Nat, b - a = k ∧ a ≤ b ∧ b ≤ l.length ∧ i = .int .i64 (a : Int) ∧ j = .int .i64 (b : Int) ∧ (∀ q (hq : q < l.length), q < a → aheadR n l[q] = true) ∧ (∀ q (hq : q < l.length), b ≤ q → aheadR n l[q] = false) ∧ Below w.heap.size w wr
set_option maxHeartbeats 2000000 in
theorem search_ {w : World} {A : Option Addr} {m c : Nat} {l : List Re} (h : Lst w (IsL w) eL A l) (hl : l.length = m) (hm : m ≤ 1000000) (n : Nm) (hr : RiseR l n) :
    Calls Tryd.prog 50 #[.slice A m c, valN n, .func (.func 51) #[] #[]] w fun e w' => e = .returned (.tuple #[.int .i64 (spotR l n : Int), .bool (hitR l n)]) ∧ Below w.heap.size w w' := by
  have H := Lib.hid h
  have HL := Lib.hid hl
  have HR := Lib.hid hr
  clear h hl hr
  unfold valN
  have hal := alloc_below w (.cells #[.int .i64 n.1, .string n.2.1, .string n.2.2] 28)
  have hB := Blk.new w 28 #[.int .i64 n.1, .string n.2.1, .string n.2.2]
  have HAL := Lib.hid hal
  have HB0 := Lib.hid hB
  clear hal hB
  go_enter Tryd.func50, Tryd.ntmps50
  go_wp2_with fail
  generalize hwA : w.alloc (.cells #[.int .i64 n.1, .string n.2.1, .string n.2.2] 28) = wA at *
  go_loopg [9, 10] m (fun k i j wr => BsR wA l n k i j wr)
  case atStart => exact ⟨0, m, by omega, by omega, by rw [HL.out]; exact Nat.le_refl _, rfl, rfl, fun q _ hq => absurd hq (Nat.not_lt_zero q), fun q hq h => by rw [HL.out] at hq; omega, Below.refl _ _⟩
  case round =>
    obtain ⟨a, b, hk, hab, hbl, rfl, rfl, h1, h2, hb⟩ := hrel
    have H1 := Lib.hid h1
    have H2 := Lib.hid h2
    have HB := Lib.hid hb
    have HK := Lib.hid hk
    clear h1 h2 hb hk
    have hlm : l.length = m := HL.out
    by_cases hlt : a < b
    · have hmid := mid_num (a := a) (b := b) (by omega)
      have f1 : (0 : Int) ≤ ((a : Int) + (b : Int)) / 2 := by omega
      have f2 : ((a : Int) + (b : Int)) / 2 < (m : Int) := by omega
      have f3 : (((a : Int) + (b : Int)) / 2).toNat = (a + b) / 2 := by omega
      have hx : (a + b) / 2 < l.length := by omega
      have hqm : (a + b) / 2 < m := by omega
      obtain ⟨g, o, rfl, _, hg, d0, d1, d2, d3, d4⟩ := (lst_below H.out (HAL.out.trans (HB.out.mono HAL.out.size))).atL hx
      have hcl := placeF_ l[(a + b) / 2] n
      have hah : aheadR n l[(a + b) / 2] = decide (cmpN l[(a + b) / 2].2.2 n < 0) := rfl
      have hup : aheadR n l[(a + b) / 2] = true → ∀ i (hi : i < l.length), i < (a + b) / 2 + 1 → aheadR n l[i] = true := fun h i hi h2 => HR.out i _ hi hx (by omega) h
      have hdn : aheadR n l[(a + b) / 2] = false → ∀ i (hi : i < l.length), (a + b) / 2 ≤ i → aheadR n l[i] = false := fun h i hi h2 => by
        cases h3 : aheadR n l[i]
        · rfl
        · rw [HR.out _ i hx hi h2 h3] at h; cases h
      have hbx : wr.cell? ⟨w.heap.size, 0, none⟩ = some (.int .i64 n.1) ∧ wr.cell? ⟨w.heap.size, 1, none⟩ = some (.string n.2.1) ∧ wr.cell? ⟨w.heap.size, 2, none⟩ = some (.string n.2.2) := by
        have h := HB0.out.below HB.out HB0.out.lt
        exact ⟨h.cell 0, h.cell 1, h.cell 2⟩
      obtain ⟨b0, b1, b2⟩ := hbx
      have HUP := Lib.hid hup
      have HDN := Lib.hid hdn
      have HAH := Lib.hid hah
      unfold valN valL at hcl
      generalize cmpN l[(a + b) / 2].2.2 n = z at *
      generalize l[(a + b) / 2].1.val = u1 at *
      generalize l[(a + b) / 2].2.1.val = u2 at *
      generalize l[(a + b) / 2].2.2.1 = u3 at *
      generalize l[(a + b) / 2].2.2.2.1 = u4 at *
      generalize l[(a + b) / 2].2.2.2.2 = u5 at *
      clear hup hdn hah
      go_wp2_with fail
      have hS0 : (fun W : World => W.cell? ⟨g, o + (a + b) / 2 * 5, none⟩ = some u1 ∧ W.cell? ⟨g, o + (a + b) / 2 * 5 + 1, none⟩ = some u2 ∧ W.cell? ⟨g, o + (a + b) / 2 * 5 + 2, none⟩ = some (.int .i64 u3) ∧ W.cell? ⟨g, o + (a + b) / 2 * 5 + 3, none⟩ = some (.string u4) ∧ W.cell? ⟨g, o + (a + b) / 2 * 5 + 4, none⟩ = some (.string u5) ∧ W.cell? ⟨w.heap.size, 0, none⟩ = some (.int .i64 n.1) ∧ W.cell? ⟨w.heap.size, 1, none⟩ = some (.string n.2.1) ∧ W.cell? ⟨w.heap.size, 2, none⟩ = some (.string n.2.2)) wr.drew := ⟨d0, d1, d2, d3, d4, b0, b1, b2⟩
      have hgw := block_of_cell b0
      go_region_held3 (fun W : World => W.cell? ⟨g, o + (a + b) / 2 * 5, none⟩ = some u1 ∧ W.cell? ⟨g, o + (a + b) / 2 * 5 + 1, none⟩ = some u2 ∧ W.cell? ⟨g, o + (a + b) / 2 * 5 + 2, none⟩ = some (.int .i64 u3) ∧ W.cell? ⟨g, o + (a + b) / 2 * 5 + 3, none⟩ = some (.string u4) ∧ W.cell? ⟨g, o + (a + b) / 2 * 5 + 4, none⟩ = some (.string u5) ∧ W.cell? ⟨w.heap.size, 0, none⟩ = some (.int .i64 n.1) ∧ W.cell? ⟨w.heap.size, 1, none⟩ = some (.string n.2.1) ∧ W.cell? ⟨w.heap.size, 2, none⟩ = some (.string n.2.2))
        (first | exact hS0 | exact hS1)
        (first | (go_at_call 51; refine (hcl _).mono ?_; rintro e w1 ⟨rfl, hb1⟩; have HB1 := Lib.hid hb1; have hS1 : (fun W : World => W.cell? ⟨g, o + (a + b) / 2 * 5, none⟩ = some u1 ∧ W.cell? ⟨g, o + (a + b) / 2 * 5 + 1, none⟩ = some u2 ∧ W.cell? ⟨g, o + (a + b) / 2 * 5 + 2, none⟩ = some (.int .i64 u3) ∧ W.cell? ⟨g, o + (a + b) / 2 * 5 + 3, none⟩ = some (.string u4) ∧ W.cell? ⟨g, o + (a + b) / 2 * 5 + 4, none⟩ = some (.string u5) ∧ W.cell? ⟨w.heap.size, 0, none⟩ = some (.int .i64 n.1) ∧ W.cell? ⟨w.heap.size, 1, none⟩ = some (.string n.2.1) ∧ W.cell? ⟨w.heap.size, 2, none⟩ = some (.string n.2.2)) w1 := ⟨(cell_of_heap (hb1.block g hg) _).trans d0, (cell_of_heap (hb1.block g hg) _).trans d1, (cell_of_heap (hb1.block g hg) _).trans d2, (cell_of_heap (hb1.block g hg) _).trans d3, (cell_of_heap (hb1.block g hg) _).trans d4, (cell_of_heap (hb1.block _ hgw) _).trans b0, (cell_of_heap (hb1.block _ hgw) _).trans b1, (cell_of_heap (hb1.block _ hgw) _).trans b2⟩; clear hb1))
      have HB2 := Lib.hid (HB.out.trans ((Below.refl _ wr).drew.trans HB1.out |>.mono HB.out.size))
      by_cases hz : z < 0
      · have e : decide (z < 0) = true := by simpa using hz
        rw [e] at HAH
        rw [e]
        have HUP2 := Lib.hid (HUP.out HAH.out)
        go_wp2_with fail
        go_roundg (b - ((a + b) / 2 + 1))
        case measure => have := HK.out; omega
        case rel => exact ⟨(a + b) / 2 + 1, b, by omega, by omega, by omega, by go_num, rfl, HUP2.out, H2.out, HB2.out⟩
      · have e : decide (z < 0) = false := by simpa using hz
        rw [e] at HAH
        rw [e]
        have HDN2 := Lib.hid (HDN.out HAH.out)
        go_wp2_with fail
        go_roundg ((a + b) / 2 - a)
        case measure => have := HK.out; omega
        case rel => exact ⟨a, (a + b) / 2, by omega, by omega, by omega, rfl, by go_num, H1.out, HDN2.out, HB2.out⟩
    · obtain rfl : a = b := by omega
      have hsp : spotR l n = a := spotR_at hbl (fun q hq h => H1.out q hq h) (fun q hq h => H2.out q hq h)
      have HSP := Lib.hid hsp
      have HBE := Lib.hid (HAL.out.trans (HB.out.mono HAL.out.size))
      have hbx : wr.cell? ⟨w.heap.size, 0, none⟩ = some (.int .i64 n.1) ∧ wr.cell? ⟨w.heap.size, 1, none⟩ = some (.string n.2.1) ∧ wr.cell? ⟨w.heap.size, 2, none⟩ = some (.string n.2.2) := by
        have h := HB0.out.below HB.out HB0.out.lt
        exact ⟨h.cell 0, h.cell 1, h.cell 2⟩
      obtain ⟨b0, b1, b2⟩ := hbx
      clear hsp
      by_cases ham : a < m
      · have hx : a < l.length := by omega
        obtain ⟨g, o, rfl, _, hg, d0, d1, d2, d3, d4⟩ := (lst_below H.out HBE.out).atL hx
        have hcl := placeF_ l[a] n
        have hhit : hitR l n = (cmpN l[a].2.2 n == 0) := by
          unfold hitR
          rw [HSP.out, List.getElem?_eq_getElem hx]
        have HH := Lib.hid hhit
        unfold valN valL at hcl
        generalize cmpN l[a].2.2 n = z at *
        generalize l[a].1.val = u1 at *
        generalize l[a].2.1.val = u2 at *
        generalize l[a].2.2.1 = u3 at *
        generalize l[a].2.2.2.1 = u4 at *
        generalize l[a].2.2.2.2 = u5 at *
        clear hhit
        have hgw := block_of_cell b0
        have hdt : decide ((a : Int) < (m : Int)) = true := by simpa using ham
        go_wp2_with fail
        have hS0 : (fun W : World => W.cell? ⟨g, o + a * 5, none⟩ = some u1 ∧ W.cell? ⟨g, o + a * 5 + 1, none⟩ = some u2 ∧ W.cell? ⟨g, o + a * 5 + 2, none⟩ = some (.int .i64 u3) ∧ W.cell? ⟨g, o + a * 5 + 3, none⟩ = some (.string u4) ∧ W.cell? ⟨g, o + a * 5 + 4, none⟩ = some (.string u5) ∧ W.cell? ⟨w.heap.size, 0, none⟩ = some (.int .i64 n.1) ∧ W.cell? ⟨w.heap.size, 1, none⟩ = some (.string n.2.1) ∧ W.cell? ⟨w.heap.size, 2, none⟩ = some (.string n.2.2)) wr.drew := ⟨d0, d1, d2, d3, d4, b0, b1, b2⟩
        go_region_held3 (fun W : World => W.cell? ⟨g, o + a * 5, none⟩ = some u1 ∧ W.cell? ⟨g, o + a * 5 + 1, none⟩ = some u2 ∧ W.cell? ⟨g, o + a * 5 + 2, none⟩ = some (.int .i64 u3) ∧ W.cell? ⟨g, o + a * 5 + 3, none⟩ = some (.string u4) ∧ W.cell? ⟨g, o + a * 5 + 4, none⟩ = some (.string u5) ∧ W.cell? ⟨w.heap.size, 0, none⟩ = some (.int .i64 n.1) ∧ W.cell? ⟨w.heap.size, 1, none⟩ = some (.string n.2.1) ∧ W.cell? ⟨w.heap.size, 2, none⟩ = some (.string n.2.2))
          (first | exact hS0 | exact hS1)
          (first | (go_at_call 51; refine (hcl _).mono ?_; rintro e w1 ⟨rfl, hb1⟩; have HB1 := Lib.hid hb1; have hS1 : (fun W : World => W.cell? ⟨g, o + a * 5, none⟩ = some u1 ∧ W.cell? ⟨g, o + a * 5 + 1, none⟩ = some u2 ∧ W.cell? ⟨g, o + a * 5 + 2, none⟩ = some (.int .i64 u3) ∧ W.cell? ⟨g, o + a * 5 + 3, none⟩ = some (.string u4) ∧ W.cell? ⟨g, o + a * 5 + 4, none⟩ = some (.string u5) ∧ W.cell? ⟨w.heap.size, 0, none⟩ = some (.int .i64 n.1) ∧ W.cell? ⟨w.heap.size, 1, none⟩ = some (.string n.2.1) ∧ W.cell? ⟨w.heap.size, 2, none⟩ = some (.string n.2.2)) w1 := ⟨(cell_of_heap (hb1.block g hg) _).trans d0, (cell_of_heap (hb1.block g hg) _).trans d1, (cell_of_heap (hb1.block g hg) _).trans d2, (cell_of_heap (hb1.block g hg) _).trans d3, (cell_of_heap (hb1.block g hg) _).trans d4, (cell_of_heap (hb1.block _ hgw) _).trans b0, (cell_of_heap (hb1.block _ hgw) _).trans b1, (cell_of_heap (hb1.block _ hgw) _).trans b2⟩; clear hb1))
        have HB2 := Lib.hid (HBE.out.trans ((Below.refl _ wr).drew.trans HB1.out |>.mono HBE.out.size))
        go_wp2_with fail
        refine bodyPost_ret (v := .tuple #[.int .i64 (a : Int), .bool (z == 0)]) (by simp [results, Tryd.results50, go_sem]) rfl ?_
        exact ⟨by rw [HSP.out, HH.out], HB2.out⟩
      · have hdt : decide ((a : Int) < (m : Int)) = false := by simpa using ham
        have hhit : hitR l n = false := by
          unfold hitR
          rw [HSP.out, List.getElem?_eq_none (by omega)]
        have HH := Lib.hid hhit
        clear hhit
        go_wp2_with fail
        go_quiet (fail)
        go_wp2_with fail
        refine bodyPost_ret (v := .tuple #[.int .i64 (a : Int), .bool false]) (by simp [results, Tryd.results50, go_sem]) rfl ?_
        exact ⟨by rw [HSP.out, HH.out], below_drewN HBE.out _⟩
end Go.Proofs.YtnjhhndggfjjdaaDoor
