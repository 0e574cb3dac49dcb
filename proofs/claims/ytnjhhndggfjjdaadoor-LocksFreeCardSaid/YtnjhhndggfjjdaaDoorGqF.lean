/- Who is in the way, and whether something fits: package grant's inWay and fits. -/
import Derived.Test.YtnjhhndggfjjdaaDoorGrI
set_option maxRecDepth 4000
namespace Go.Proofs.YtnjhhndggfjjdaaDoor
open Go.RowKit
theorem inway_ (c x : Cl) (hc : c.2 < 6) (hx : x.2 < 6) (w : World) (hT : Tab w) :
    Calls Tryd.prog 44 #[valC c, valC x] w fun e w' => e = .returned (.bool (inwayP c x)) ∧ Below w.heap.size w w' := by
  obtain ⟨c1, c2⟩ := c
  obtain ⟨x1, x2⟩ := x
  unfold valC inwayP
  simp only at hc hx ⊢
  obtain ⟨W2, hW2⟩ : ∃ W2, W2 = ((w.alloc (.cells #[.int .i64 c1, .int .i64 (c2 : Int)] 78)).alloc (.cells #[.int .i64 x1, .int .i64 (x2 : Int)] 78)) := ⟨_, rfl⟩
  have hbel : Below w.heap.size w W2 := by rw [hW2]; exact ((Below.refl _ _).alloc (Nat.le_refl _) _).alloc (by simp) _
  have hF := fits_ (c2 : Int) (x2 : Int) W2 (hT.below hbel)
  rw [mdN_of hc, mdN_of hx] at hF
  generalize fitB c2 x2 = f at *
  have HF := Lib.hid hF
  have HB := Lib.hid hbel
  clear hF hbel hT
  by_cases h : c1 = x1
  · subst h
    have e : (c1 != c1) = false := by simp
    rw [e]
    clear HF
    go_enter Tryd.func44, Tryd.ntmps44
    go_wp2
    go_ret
    rw [← hW2]
    exact ⟨by simp, HB.out⟩
  · have e : (c1 != x1) = true := by simpa using h
    have e2 : (c1 == x1) = false := by simpa using h
    rw [e, Bool.true_and]
    go_enter Tryd.func44, Tryd.ntmps44
    go_wp2_with (go_at_call 65; rw [← hW2]; refine HF.out.mono ?_; rintro e w' ⟨rfl, nn, rfl⟩)
    go_ret
    rw [← hW2]
    exact ⟨rfl, below_drewN HB.out _⟩
theorem pred_fits (x : Cl) (B : Nat) (w : World) (hT : Tab w) (hx : x.2 < 6) (hB : B < w.heap.size) (h0 : w.cell? ⟨B, 0, none⟩ = some (.int .i64 x.1)) (h1 : w.cell? ⟨B, 1, none⟩ = some (.int .i64 (x.2 : Int))) (l : List Cl) (hl : ∀ c ∈ l, 0 < c.2 ∧ c.2 < 6) :
    Pred 58 #[.pointer (some ⟨B, 0, none⟩)] (fun c => inwayP c x) l w := fun W c hc hb => by
  have h0' : W.cell? ⟨B, 0, none⟩ = some (.int .i64 x.1) := (hb.cell (p := ⟨B, 0, none⟩) hB).trans h0
  have h1' : W.cell? ⟨B, 1, none⟩ = some (.int .i64 (x.2 : Int)) := (hb.cell (p := ⟨B, 1, none⟩) hB).trans h1
  have hBW : B < W.heap.size := Nat.lt_of_lt_of_le hB hb.size
  have hne : B ≠ W.heap.size := by omega
  have hnew := hb.alloc hb.size (.cells #[.int .i64 c.1, .int .i64 (c.2 : Int)] 78)
  have hI := inway_ c x (hl c hc).2 hx _ (hT.below hnew)
  show Calls Tryd.prog 58 #[valC c, .pointer (some ⟨B, 0, none⟩)] W fun e w' => e = .returned (.bool (inwayP c x)) ∧ Below w.heap.size w w'
  generalize inwayP c x = r at *
  unfold valC at hI ⊢
  obtain ⟨c1, c2⟩ := c
  obtain ⟨x1, x2⟩ := x
  simp only at *
  have HI := Lib.hid hI
  have HN := Lib.hid hnew
  clear h0 h1 hb hnew hI hT hc hx hl
  go_enter Tryd.func58, Tryd.ntmps58
  go_wp2_with (go_at_call 44; refine HI.out.mono ?_; rintro e w' ⟨rfl, hb'⟩)
  go_ret
  exact ⟨rfl, HN.out.trans (hb'.mono HN.out.size)⟩
theorem enters_fits : ∀ args w, (callFunc 58 args).run Tryd.prog w = .ok (.enter 58 args) w := enters_of Tryd.func58 (by kernel_rfl) rfl
/-- what stands around a lock in its block: the block's type, and all its cells -/
structure Zn where
  T : TypeId
  cs : Array Value
/-- the block's cells with these two slices at a place -/
def Zn.with (zn : Zn) (off : Nat) (vH vL : Value) : Array Value := (zn.cs.setIfInBounds off vH).setIfInBounds (off + 1) vL
/-- the lock at place off of block b has these two slices; all else of its block is as told; it is no block of claims, holds or numbers -/
structure Two (w : World) (b off : Nat) (zn : Zn) (vH vL : Value) : Prop where
  blk : Blk w b zn.T (zn.with off vH vL)
  sz : off + 1 < zn.cs.size
  ty : zn.T ≠ 78 ∧ zn.T ≠ 3 ∧ zn.T ≠ 53
theorem with_0 (zn : Zn) (off : Nat) (vH vL u : Value) : (zn.with off vH vL).setIfInBounds off u = zn.with off u vL := by
  unfold Zn.with
  rw [Array.setIfInBounds_comm _ _ (show off + 1 ≠ off by omega)]
  simp
theorem with_1 (zn : Zn) (off : Nat) (vH vL u : Value) : (zn.with off vH vL).setIfInBounds (off + 1) u = zn.with off vH u := by
  unfold Zn.with
  simp
theorem Two.set0 {w : World} {b off : Nat} {zn : Zn} {vH vL : Value} (h : Two w b off zn vH vL) (u : Value) : Two (w.setCell ⟨b, off, none⟩ u) b off zn u vL := ⟨by have := h.blk.set_ off u; rwa [with_0] at this, h.sz, h.ty⟩
theorem Two.set1 {w : World} {b off : Nat} {zn : Zn} {vH vL : Value} (h : Two w b off zn vH vL) (u : Value) : Two (w.setCell ⟨b, off + 1, none⟩ u) b off zn vH u := ⟨by have := h.blk.set_ (off + 1) u; rwa [with_1] at this, h.sz, h.ty⟩
theorem Two.same {w w' : World} {b off : Nat} {zn : Zn} {vH vL : Value} (h : Two w b off zn vH vL) (e : w'.heap[b]? = w.heap[b]?) : Two w' b off zn vH vL := ⟨e.trans h.blk, h.sz, h.ty⟩
theorem Two.lt {w : World} {b off : Nat} {zn : Zn} {vH vL : Value} (h : Two w b off zn vH vL) : b < w.heap.size := Blk.lt h.blk
theorem Two.c0 {w : World} {b off : Nat} {zn : Zn} {vH vL : Value} (h : Two w b off zn vH vL) : w.cell? ⟨b, off, none⟩ = some vH := by
  rw [h.blk.cell]
  have := h.sz
  unfold Zn.with
  simp [Array.getElem?_setIfInBounds]
  omega
theorem Two.c1 {w : World} {b off : Nat} {zn : Zn} {vH vL : Value} (h : Two w b off zn vH vL) : w.cell? ⟨b, off + 1, none⟩ = some vL := by
  rw [h.blk.cell]
  have := h.sz
  unfold Zn.with
  simp [Array.getElem?_setIfInBounds]
  omega
theorem Two.below {w w' : World} {B b off : Nat} {zn : Zn} {vH vL : Value} (h : Two w b off zn vH vL) (k : Below B w w') (hb : b < B) : Two w' b off zn vH vL := h.same (k.block b hb)
theorem fits_lock {w : World} {b off : Nat} {zn : Zn} {vH vL : Value} {K : Nat → Prop} {A : Option Addr} {c : Nat} {H : List Cl} (h2 : Two w b off zn vH vL) (hv : vH = .slice A H.length c) (h : Lst w K eC A H) (hn : H.length ≤ 1000000) (hm : ∀ c ∈ H, 0 < c.2 ∧ c.2 < 6) (x : Cl) (hx : x.2 < 6) (hT : Tab w) :
    Calls Tryd.prog 39 #[.pointer (some ⟨b, off, none⟩), valC x] w fun e w' => e = .returned (.bool (fitsP H x)) ∧ Below w.heap.size w w' := by
  subst hv
  have hbl := alloc_below w (.cells #[.int .i64 x.1, .int .i64 (x.2 : Int)] 78)
  have hI := contains_ (c := c) (h.below hbl) rfl hn enters_fits (pred_fits x w.heap.size _ (hT.below hbl) hx (by simp) ((Blk.new w _ _).cell 0) ((Blk.new w _ _).cell 1) H hm)
  unfold fitsP
  generalize (H.any fun c => inwayP c x) = r at *
  have b0 := h2.c0
  have hbs : b < w.heap.size := Two.lt h2
  have hbn : b ≠ w.heap.size := by omega
  generalize H.length = n at *
  obtain ⟨x1, x2⟩ := x
  unfold valC
  simp only at *
  have HI := Lib.hid hI
  have HB := Lib.hid hbl
  clear hI h h2 hT hx hm hbl
  go_enter Tryd.func39, Tryd.ntmps39
  go_wp2_with (go_at_call 57; refine HI.out.mono ?_; rintro e w' ⟨rfl, hb'⟩)
  go_ret
  exact ⟨rfl, HB.out.trans (hb'.mono HB.out.size)⟩
end Go.Proofs.YtnjhhndggfjjdaaDoor
