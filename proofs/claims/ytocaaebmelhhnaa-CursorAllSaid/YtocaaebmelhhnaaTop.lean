/- A tree as a whole: its top, Len, Height, Get. -/
import Derived.Test.YtocaaebmelhhnaaTreeT
import Derived.Test.YtocaaebmelhhnaaFromI
import Derived.StillTailTactics
import Derived.Deep.RegionWith
set_option maxRecDepth 4000
namespace Go.Proofs.Ytocaaebmelhhnaa
open Go.RowKit
/-- a tree: none below its root, or a part of some height -/
abbrev Te := Option ((h : Nat) × Tr h)
def topT : Te → (h : Nat) × Tr h
  | none => ⟨0, ([] : List Rw)⟩
  | some p => p
def flatTe (T : Te) : List Rw := flatT (topT T).1 (topT T).2
def OkTe (T : Te) : Prop := OkT (topT T).1 (topT T).2
/-- the tree's own block, of which K does not say so, and all below its root, of which K says so -/
def TeAt (w : World) (K : Nat → Prop) (b : Nat) : Te → Prop
  | none => ¬ K b ∧ Blk w b 61 #[.nilIface]
  | some ⟨h, t⟩ => ¬ K b ∧ ∃ bt, Blk w b 61 #[.iface (tyT h) (.pointer (some ⟨bt, 0, none⟩))] ∧ TrAt h w K (.iface (tyT h) (.pointer (some ⟨bt, 0, none⟩))) t
section
variable {w w' : World} {K : Nat → Prop} {b : Nat} {T : Te}
theorem TeAt.not (a : TeAt w K b T) : ¬ K b := by
  match T, a with
  | none, a => exact a.1
  | some ⟨_, _⟩, a => exact a.1
theorem TeAt.lt (a : TeAt w K b T) : b < w.heap.size := by
  match T, a with
  | none, a => exact a.2.lt
  | some ⟨_, _⟩, a => obtain ⟨_, _, h, _⟩ := a; exact h.lt
theorem TeAt.keep {L : Nat → Prop} (a : TeAt w K b T) (k : Keep (fun i _ => L i) w w') (hb : L b) (hK : ∀ i, K i → L i) : TeAt w' K b T := by
  match T, a with
  | none, a => exact ⟨a.1, a.2.keep k hb⟩
  | some ⟨_, _⟩, a =>
    obtain ⟨h0, bt, h1, h2⟩ := a
    exact ⟨h0, bt, h1.keep k hb, h2.keep (k.mono fun i _ _ hi => hK i hi)⟩
theorem TeAt.below (a : TeAt w K b T) (k : Below w.heap.size w w') : TeAt w' K b T := by
  match T, a with
  | none, a => exact ⟨a.1, a.2.below k a.2.lt⟩
  | some ⟨_, _⟩, a =>
    obtain ⟨h0, bt, h1, h2⟩ := a
    exact ⟨h0, bt, h1.below k h1.lt, h2.below k⟩
theorem TeAt.more {K' : Nat → Prop} (a : TeAt w K b T) (hk : ∀ i, i < w.heap.size → K i → K' i) (hn : ¬ K' b) : TeAt w K' b T := by
  match T, a with
  | none, a => exact ⟨hn, a.2⟩
  | some ⟨_, _⟩, a =>
    obtain ⟨_, bt, h1, h2⟩ := a
    exact ⟨hn, bt, h1, h2.more hk⟩
end
def TopP (w : World) (K : Nat → Prop) (T : Te) (e : Ending) (w' : World) : Prop :=
  ∃ bt, e = .returned (.iface (tyT (topT T).1) (.pointer (some ⟨bt, 0, none⟩))) ∧ TrAt (topT T).1 w' K (.iface (tyT (topT T).1) (.pointer (some ⟨bt, 0, none⟩))) (topT T).2 ∧ Below w.heap.size w w'
set_option maxHeartbeats 1000000 in
theorem top_ {w : World} {K : Nat → Prop} {b : Nat} {T : Te} (a : TeAt w K b T) (hK : ∀ i, w.heap.size ≤ i → K i) :
    Calls Try.prog 28 #[.pointer (some ⟨b, 0, none⟩)] w (TopP w K T) := by
  match T, a with
  | none, a =>
    have hl := newLeaf_ (Rws.nil w K none) rfl (Nat.zero_le _) (Nat.le_refl 0) (fun _ => rfl) hK
    have HL := Lib.hid hl
    have hc := a.2.cell 0
    simp only [List.getElem?_toArray, List.getElem?_cons_zero] at hc
    clear a hl
    go_enter Try.func28, Try.ntmps28
    go_wp2_with fail
    refine HL.out.mono ?_
    rintro e w1 ⟨b1, rfl, ht1, hb1⟩
    have HT1 := Lib.hid ht1
    have HB1 := Lib.hid hb1
    clear ht1 hb1
    go_wp2_with fail
    go_ret
    exact ⟨b1, rfl, HT1.out, HB1.out⟩
  | some ⟨h, t⟩, a =>
    obtain ⟨_, bt, h1, h2⟩ := a
    have hc := h1.cell 0
    simp only [List.getElem?_toArray, List.getElem?_cons_zero] at hc
    have HT := Lib.hid h2
    have qn : ∀ (W : World) (v : Value), (binOp .eql 59 (.iface (tyT h) v) .nilIface).run Try.prog W = .ok (.bool false) W := fun W v => by cases h <;> rfl
    clear h1 h2
    go_enter Try.func28, Try.ntmps28
    go_wp2_with fail
    go_ret
    exact ⟨bt, rfl, HT.out, Below.refl _ _⟩
set_option maxHeartbeats 1000000 in
theorem len_ {w : World} {K : Nat → Prop} {b : Nat} {T : Te} (a : TeAt w K b T) (hK : ∀ i, w.heap.size ≤ i → K i) :
    Calls Try.prog 12 #[.pointer (some ⟨b, 0, none⟩)] w fun e w' => e = .returned (.int .i64 ((flatTe T).length : Nat)) ∧ Below w.heap.size w w' := by
  have ht := top_ a hK
  have HT := Lib.hid ht
  unfold flatTe
  unfold TopP at HT
  clear a ht hK
  generalize (topT T).2 = t at *
  generalize (topT T).1 = h at *
  obtain ⟨m, hm0⟩ : ∃ m, (flatT h t).length = m := ⟨_, rfl⟩
  rw [hm0]
  have HM := Lib.hid hm0
  clear hm0
  go_enter Try.func12, Try.ntmps12
  go_wp2_with fail
  refine HT.out.mono ?_
  rintro e w1 ⟨b1, rfl, ht1, hb1⟩
  obtain ⟨_, hd⟩ := ht1.head
  have ev := hd.val
  cases ev
  have hr := rows_ hd
  rw [HM.out] at hr
  have HR := Lib.hid hr
  have hm := fun n => m_rows h n b1
  have HB1 := Lib.hid hb1
  clear hb1 hd ht1 hr
  go_wp2_with fail
  refine HR.out.mono ?_
  rintro e w2 ⟨rfl, rfl⟩
  go_wp2_with fail
  go_ret
  exact ⟨rfl, HB1.out⟩
set_option maxHeartbeats 1000000 in
theorem height_of {w : World} {K : Nat → Prop} {b : Nat} {T : Te} (a : TeAt w K b T) (hK : ∀ i, w.heap.size ≤ i → K i) :
    Calls Try.prog 13 #[.pointer (some ⟨b, 0, none⟩)] w fun e w' => e = .returned (.int .i64 (((topT T).1 + 1 : Nat))) ∧ Below w.heap.size w w' := by
  have ht := top_ a hK
  have HT := Lib.hid ht
  unfold TopP at HT
  clear a ht hK
  generalize (topT T).2 = t at *
  generalize (topT T).1 = h at *
  obtain ⟨z, hz⟩ : ∃ z, h + 1 = z := ⟨_, rfl⟩
  rw [hz]
  have HZ := Lib.hid hz
  clear hz
  go_enter Try.func13, Try.ntmps13
  go_wp2_with fail
  refine HT.out.mono ?_
  rintro e w1 ⟨b1, rfl, ht1, hb1⟩
  obtain ⟨_, hd⟩ := ht1.head
  have ev := hd.val
  cases ev
  have hh := height_ hd
  rw [HZ.out] at hh
  have HR := Lib.hid hh
  have hm := fun n => m_height h n b1
  have HB1 := Lib.hid hb1
  clear hb1 hd ht1 hh
  go_wp2_with fail
  refine HR.out.mono ?_
  rintro e w2 ⟨rfl, rfl⟩
  go_wp2_with fail
  go_ret
  exact ⟨rfl, HB1.out⟩
set_option maxHeartbeats 1000000 in
theorem get_of {w : World} {K : Nat → Prop} {b : Nat} {T : Te} (a : TeAt w K b T) (ok : OkTe T) (hK : ∀ i, w.heap.size ≤ i → K i) (k : ByteArray) :
    Calls Try.prog 16 #[.pointer (some ⟨b, 0, none⟩), .string k] w fun e w' => e = .returned (.tuple #[.string (getT (topT T).1 (topT T).2 k).1, .bool (getT (topT T).1 (topT T).2 k).2]) ∧ Below w.heap.size w w' := by
  have ht := top_ a hK
  have HT := Lib.hid ht
  unfold TopP at HT
  unfold OkTe at ok
  clear a ht hK
  generalize (topT T).2 = t at *
  generalize (topT T).1 = h at *
  obtain ⟨g, hg0⟩ : ∃ g, getT h t k = g := ⟨_, rfl⟩
  rw [hg0]
  have HG := Lib.hid hg0
  clear hg0
  go_enter Try.func16, Try.ntmps16
  go_wp2_with fail
  refine HT.out.mono ?_
  rintro e w1 ⟨b1, rfl, ht1, hb1⟩
  have hg := get_part h w1 K b1 t k ht1 ok
  have hm := fun n => m_get h n b1
  have hcf := c_get h
  rw [HG.out] at hg
  have HR := Lib.hid hg
  have HB1 := Lib.hid hb1
  clear hb1 ht1 hg
  go_wp2_with fail
  refine HR.out.mono ?_
  rintro e w2 ⟨rfl, n, rfl⟩
  go_wp2_with fail
  go_ret2
  exact ⟨rfl, below_drewN HB1.out n⟩
end Go.Proofs.Ytocaaebmelhhnaa
