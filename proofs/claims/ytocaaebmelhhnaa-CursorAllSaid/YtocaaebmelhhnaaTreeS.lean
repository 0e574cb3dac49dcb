/- The small calls of a part of a tree; a new leaf. -/
import Derived.Test.YtocaaebmelhhnaaTreeM
import Derived.Below
set_option maxRecDepth 4000
namespace Go.Proofs.Ytocaaebmelhhnaa
open Go.RowKit
theorem still_of {P : Program} {f : FuncId} {args : Array Value} {w : World} {v : Value} (h : Calls P f args w fun e w' => e = .returned v ∧ w = w') : Calls P f args w fun e w' => e = .returned v ∧ w' = w := h.mono fun _ _ ⟨a, b⟩ => ⟨a, b.symm⟩
section
variable {h : Nat} {w : World} {K : Nat → Prop} {b : Nat} {v : Value} {t : Tr h}
theorem first_ (a : HdAt h w K b v t) : Calls Try.prog 52 #[.pointer (some ⟨b, 0, none⟩)] w fun e w' => e = .returned (.string (leastT h t)) ∧ w = w' := by
  have hc := a.least
  clear a
  go_enter Try.func52, Try.ntmps52
  go_wp2
  go_ret
  exact ⟨rfl, rfl⟩
theorem rows_ (a : HdAt h w K b v t) : Calls Try.prog 59 #[.pointer (some ⟨b, 0, none⟩)] w fun e w' => e = .returned (.int .i64 ((flatT h t).length : Nat)) ∧ w = w' := by
  have hc := a.count
  clear a
  go_enter Try.func59, Try.ntmps59
  go_wp2
  go_ret
  exact ⟨rfl, rfl⟩
theorem height_ (a : HdAt h w K b v t) : Calls Try.prog 55 #[.pointer (some ⟨b, 0, none⟩)] w fun e w' => e = .returned (.int .i64 ((h + 1 : Nat))) ∧ w = w' := by
  have hc := a.level
  clear a
  go_enter Try.func55, Try.ntmps55
  go_wp2
  go_ret
  exact ⟨rfl, rfl⟩
theorem over_ (a : HdAt h w K b v t) : Calls Try.prog 57 #[.pointer (some ⟨b, 0, none⟩)] w fun e w' => e = .returned (.bool (decide (6 < widthT h t))) ∧ w = w' := by
  have hc := a.width
  clear a
  generalize widthT h t = m at *
  go_enter Try.func57, Try.ntmps57
  go_wp2
  go_ret
  exact ⟨retBk (decide_eq_decide.2 (by omega)), rfl⟩
theorem under_ (a : HdAt h w K b v t) : Calls Try.prog 60 #[.pointer (some ⟨b, 0, none⟩)] w fun e w' => e = .returned (.bool (decide (widthT h t < 3))) ∧ w = w' := by
  have hc := a.width
  clear a
  generalize widthT h t = m at *
  go_enter Try.func60, Try.ntmps60
  go_wp2
  go_ret
  exact ⟨retBk (decide_eq_decide.2 (by omega)), rfl⟩
end
theorem as_leaf (v : Value) (w : World) : (Instr.typeAssert (.iface 77 v) 59 77 false).run Try.prog w = .ok v w := by kernel_rfl
theorem as_inner (v : Value) (w : World) : (Instr.typeAssert (.iface 79 v) 59 79 false).run Try.prog w = .ok v w := by kernel_rfl
theorem as_inner_yes (v : Value) (w : World) : (Instr.typeAssert (.iface 79 v) 59 79 true).run Try.prog w = .ok (.tuple #[v, .bool true]) w := by kernel_rfl
theorem as_inner_no (v : Value) (w : World) : (Instr.typeAssert (.iface 77 v) 59 79 true).run Try.prog w = .ok (.tuple #[.pointer none, .bool false]) w := by kernel_rfl
/-- one part, made of its block -/
theorem leaf_at {w : World} {K : Nat → Prop} {b n c : Nat} {A : Option Addr} {xs : List Rw} (hb : Blk w b 87 #[.string (leastT 0 xs), .int .i64 n, .int .i64 n, .int .i64 1, .slice A n c]) (hK : K b) (hr : Rws w K A xs) (hl : xs.length = n) (hc : n ≤ c) (hA : A = none → c = 0) :
    TrAt 0 w K (.iface 77 (.pointer (some ⟨b, 0, none⟩))) xs :=
  ⟨b, A, n, c, ⟨rfl, hK, hb.lt, by rw [hb.cell]; rfl, by rw [hb.cell, ← hl]; rfl, by rw [hb.cell, ← hl]; rfl, by rw [hb.cell]; rfl⟩, by rw [hb.cell]; rfl, hr, hl, hc, hA⟩
theorem inner_at {h : Nat} {w : World} {K : Nat → Prop} {b n c : Nat} {A : Option Addr} {vs : List Value} {ks : List (Tr h)} (hb : Blk w b 85 #[.string (leastK (leastT h) ks), .int .i64 n, .int .i64 ((flatL h ks).length : Nat), .int .i64 ((h + 1 + 1 : Nat)), .slice A n c]) (hK : K b) (hp : PsAt h w K A n c vs ks) :
    TrAt (h + 1) w K (.iface 79 (.pointer (some ⟨b, 0, none⟩))) ks :=
  ⟨b, A, n, c, vs, ⟨rfl, hK, hb.lt, by rw [hb.cell]; rfl, by rw [hb.cell, ← hp.count]; rfl, by rw [hb.cell]; rfl, by rw [hb.cell]; rfl⟩, by rw [hb.cell]; rfl, hp.vls, hp.len, hp.cap, hp.none, hp.kids⟩
set_option maxHeartbeats 400000 in
theorem newLeaf_ {w : World} {K : Nat → Prop} {A : Option Addr} {n c : Nat} {xs : List Rw} (h : Rws w K A xs) (hl : xs.length = n) (hn : n ≤ 100000) (hc : n ≤ c) (hA : A = none → c = 0) (hK : ∀ i, w.heap.size ≤ i → K i) :
    Calls Try.prog 34 #[.slice A n c] w fun e w' => ∃ b, e = .returned (.pointer (some ⟨b, 0, none⟩)) ∧ TrAt 0 w' K (.iface 77 (.pointer (some ⟨b, 0, none⟩))) xs ∧ Below w.heap.size w w' := by
  have H := Lib.hid h
  have HL := Lib.hid hl
  have HA := Lib.hid hA
  have HK := Lib.hid hK
  match xs, h with
  | [], h =>
    obtain rfl : n = 0 := hl.symm
    clear h hl hA hK
    go_enter Try.func34, Try.ntmps34
    go_wp2
    go_ret
    exact ⟨_, rfl, leaf_at (Blk.new _ _ _) (HK.out _ (Nat.le_refl _)) (H.out.below (alloc_below _ _)) rfl hc HA.out, alloc_below _ _⟩
  | x :: r, h =>
    have h0 : 0 < n := by rw [← hl]; simp
    obtain ⟨b, o, rfl, hk, hv⟩ := H.out.at_ (j := 0) (by simp)
    have hbl := block_of_cell hk
    simp only [Nat.zero_mul, Nat.add_zero, List.getElem_cons_zero] at hk
    clear h hl hA hK hv
    go_enter Try.func34, Try.ntmps34
    go_wp2
    go_ret
    exact ⟨_, rfl, leaf_at (Blk.new _ _ _) (HK.out _ (Nat.le_refl _)) (H.out.below (alloc_below _ _)) HL.out hc HA.out, alloc_below _ _⟩
end Go.Proofs.Ytocaaebmelhhnaa
