/- The place of the first message of which something holds: the library's IndexFunc, and package queue's function values. -/
import Derived.Test.YtglcdchjddnjgaaMqM
import Derived.Test.YtglcdchjddnjgaaMqO
import Derived.Shelf.Abstract
set_option maxRecDepth 4000
namespace Go.Proofs.Ytglcdchjddnjgaa
open Go.RowKit
/-- a function value that answers p of each of these, and turns nothing that was there -/
def PredM (g : Nat) (lb : Array Value) (p : Mg → Bool) (l : List Mg) (w : World) : Prop :=
  ∀ (W : World) (x : Mg), x ∈ l → Below w.heap.size w W → Calls Try.prog g (#[x.val] ++ lb) W fun e w' => e = .returned (.bool (p x)) ∧ Below w.heap.size w w'
def SeesM (w : World) (p : Mg → Bool) (l : List Mg) (k : Nat) (i : Value) (wr : World) : Prop := ∃ j, j + k = l.length ∧ i = .int .i64 (j : Int) ∧ (∀ q (hq : q < j) (hl : q < l.length), p l[q] = false) ∧ Below w.heap.size w wr
set_option maxHeartbeats 1000000 in
theorem index_m {w : World} {K : Nat → Prop} {A : Option Addr} {n c : Nat} {l : List Mg} (h : Lst w K eM A l) (hl : l.length = n) (hn : n ≤ 1000000) {p : Mg → Bool} {g : Nat} {lb : Array Value}
    (eg : ∀ args w, (callFunc g args).run Try.prog w = .ok (.enter g args) w) (hp : PredM g lb p l w) :
    Calls Try.prog 14 #[.slice A n c, .func (.func g) #[] lb] w fun e w' => e = .returned (.int .i64 (idxI p l)) ∧ Below w.heap.size w w' := by
  have H := Lib.hid h
  have HL := Lib.hid hl
  have HP := Lib.hid hp
  clear h hl hp
  go_enter Try.func14, Try.ntmps14
  go_wp2
  go_loopg [5, 8] n (fun m _ i wr => SeesM w p l m i wr)
  case atStart => exact ⟨0, by rw [HL.out]; omega, rfl, fun q hq => absurd hq (Nat.not_lt_zero q), Below.refl _ _⟩
  case round =>
    obtain ⟨j, hj, rfl, h1, hb⟩ := hrel
    have HJ := Lib.hid hj
    have H1 := Lib.hid h1
    have HB := Lib.hid hb
    clear hj h1 hb
    by_cases hlt : j < n
    · have hx : j < l.length := by rw [HL.out]; exact hlt
      obtain ⟨b, o, rfl, hb, c0, c1, c2, c3, c4, c5⟩ := (H.out.below HB.out).atM hx
      have hcall := HP.out wr l[j] (List.getElem_mem hx) HB.out
      have e1 : idxI p l = (j : Int) ∨ p l[j] = false := by
        cases hpj : p l[j]
        · exact .inr rfl
        · exact .inl (idx_hit hx hpj fun q hq => H1.out q hq (by omega))
      have e2 : p l[j] = false → ∀ q (hq : q < j + 1) (hl : q < l.length), p l[q] = false := fun h q hq hl => by
        rcases Nat.lt_or_ge q j with h5 | h5
        · exact H1.out q h5 hl
        · obtain rfl : q = j := by omega
          exact h
      have E2 := Lib.hid e2
      have E1 := Lib.hid e1
      clear e1 e2 hb
      obtain ⟨x, hxx⟩ : ∃ x, l[j] = x := ⟨_, rfl⟩
      rw [hxx] at c0 c1 c2 c3 c4 c5 hcall E1 E2
      clear hxx
      generalize hpb : p x = pb at *
      clear hpb
      obtain ⟨x0, x1, x2, x3, x4, x5⟩ := x
      simp only [Mg.val, Mg.cells] at hcall c0 c1 c2 c3 c4 c5
      cases pb
      · go_wp2_with (go_at_fn g; refine hcall.mono ?_; rintro e w' ⟨rfl, hb'⟩)
        go_roundg (n - (j + 1))
        case measure => have := HJ.out; have := HL.out; omega
        case rel => exact ⟨j + 1, by have := HL.out; omega, by go_num, E2.out (by simp), hb'⟩
      · go_wp2_with (go_at_fn g; refine hcall.mono ?_; rintro e w' ⟨rfl, hb'⟩)
        go_ret
        refine ⟨?_, hb'⟩
        rcases E1.out with h | h
        · rw [h]; rfl
        · cases h
    · have he : j = l.length := by have := HJ.out; have := HL.out; omega
      have e1 : idxI p l = -1 := idx_miss fun q hq => H1.out q (by omega) hq
      have E1 := Lib.hid e1
      clear e1 he
      go_wp2
      go_ret
      exact ⟨by rw [E1.out]; rfl, HB.out⟩
set_option maxHeartbeats 1000000 in
theorem pred_add (m : Mg) (B : Nat) (w : World) (hB : Blk w B 28 m.cells) (l : List Mg) : PredM 15 #[.pointer (some ⟨B, 0, none⟩)] (behM m) l w := fun W x _ hb => by
  have hB' := hB.below hb hB.lt
  have hne : B ≠ W.heap.size := by have := hB'.lt; omega
  have hlt := hB'.lt
  obtain ⟨m0, m1, m2, m3, m4, m5⟩ := m
  obtain ⟨x0, x1, x2, x3, x4, x5⟩ := x
  have d0 := hB'.cell 0
  have d1 := hB'.cell 1
  have d2 := hB'.cell 2
  have d3 := hB'.cell 3
  have d4 := hB'.cell 4
  have d5 := hB'.cell 5
  simp only [Mg.cells, List.getElem?_toArray, List.getElem?_cons_zero, List.getElem?_cons_succ] at d0 d1 d2 d3 d4 d5
  have hnew := hb.alloc hb.size (.cells #[.int .i64 x0, .int .i64 x1, .int .i64 x2, .bool x3, .string x4, .string x5] 28)
  have hnew2 := (hnew.alloc hnew.size (.cells #[.int .i64 m0, .int .i64 m1, .int .i64 m2, .bool m3, .string m4, .string m5] 28))
  have hnew3 := hnew2.alloc hnew2.size (.cells #[.int .i64 x0, .int .i64 x1, .int .i64 x2, .bool x3, .string x4, .string x5] 28)
  have hcall := fun W => msgs_ ⟨m0, m1, m2, m3, m4, m5⟩ ⟨x0, x1, x2, x3, x4, x5⟩ W
  unfold behM
  generalize cmpG ⟨m0, m1, m2, m3, m4, m5⟩ ⟨x0, x1, x2, x3, x4, x5⟩ = z at *
  simp only [Mg.val, Mg.cells] at hcall ⊢
  have HN := Lib.hid hnew3
  have HC := Lib.hid hcall
  clear hB hb hnew hnew2 hnew3 hB' hcall
  show Calls Try.prog 15 #[.agg #[.int .i64 x0, .int .i64 x1, .int .i64 x2, .bool x3, .string x4, .string x5], .pointer (some ⟨B, 0, none⟩)] W _
  go_enter Try.func15, Try.ntmps15
  go_wp2_with (go_at_call 16; refine (HC.out _).mono ?_; rintro e w' ⟨rfl, rfl⟩)
  go_ret
  exact ⟨rfl, HN.out⟩
theorem pred_find (id : Int) (B : Nat) (w : World) (hB : B < w.heap.size) (hc : w.cell? ⟨B, 0, none⟩ = some (.int .i64 id)) (l : List Mg) : PredM 21 #[.pointer (some ⟨B, 0, none⟩)] (isM id) l w := fun W x _ hb => by
  have hc' : W.cell? ⟨B, 0, none⟩ = some (.int .i64 id) := (hb.cell (p := ⟨B, 0, none⟩) hB).trans hc
  have hBW : B < W.heap.size := Nat.lt_of_lt_of_le hB hb.size
  have hne : B ≠ W.heap.size := by omega
  obtain ⟨x0, x1, x2, x3, x4, x5⟩ := x
  have hnew := hb.alloc hb.size (.cells #[.int .i64 x0, .int .i64 x1, .int .i64 x2, .bool x3, .string x4, .string x5] 28)
  have HN := Lib.hid hnew
  clear hc hb hnew
  show Calls Try.prog 21 #[.agg #[.int .i64 x0, .int .i64 x1, .int .i64 x2, .bool x3, .string x4, .string x5], .pointer (some ⟨B, 0, none⟩)] W _
  go_enter Try.func21, Try.ntmps21
  go_wp2
  all_goals (go_ret; exact ⟨rfl, HN.out⟩)
theorem pred_least (w : World) (l : List Mg) : PredM 18 #[] freeM l w := fun W x _ hb => by
  obtain ⟨x0, x1, x2, x3, x4, x5⟩ := x
  have hnew := hb.alloc hb.size (.cells #[.int .i64 x0, .int .i64 x1, .int .i64 x2, .bool x3, .string x4, .string x5] 28)
  have HN := Lib.hid hnew
  clear hb hnew
  show Calls Try.prog 18 #[.agg #[.int .i64 x0, .int .i64 x1, .int .i64 x2, .bool x3, .string x4, .string x5]] W _
  go_enter Try.func18, Try.ntmps18
  go_wp2
  all_goals (go_ret; exact ⟨rfl, HN.out⟩)
theorem pred_match (co : ByteArray) (B : Nat) (w : World) (hB : B < w.heap.size) (hc : w.cell? ⟨B, 0, none⟩ = some (.string co)) (l : List Mg) : PredM 20 #[.pointer (some ⟨B, 0, none⟩)] (freeC co) l w := fun W x _ hb => by
  have hc' : W.cell? ⟨B, 0, none⟩ = some (.string co) := (hb.cell (p := ⟨B, 0, none⟩) hB).trans hc
  have hBW : B < W.heap.size := Nat.lt_of_lt_of_le hB hb.size
  have hne : B ≠ W.heap.size := by omega
  obtain ⟨x0, x1, x2, x3, x4, x5⟩ := x
  have hnew := hb.alloc hb.size (.cells #[.int .i64 x0, .int .i64 x1, .int .i64 x2, .bool x3, .string x4, .string x5] 28)
  have HN := Lib.hid hnew
  clear hc hb hnew
  show Calls Try.prog 20 #[.agg #[.int .i64 x0, .int .i64 x1, .int .i64 x2, .bool x3, .string x4, .string x5], .pointer (some ⟨B, 0, none⟩)] W _
  cases x3
  · go_enter Try.func20, Try.ntmps20
    go_wp2
    go_ret
    exact ⟨by simp [freeC], HN.out⟩
  · go_enter Try.func20, Try.ntmps20
    go_wp2
    go_ret
    exact ⟨by simp [freeC], HN.out⟩
theorem enters_add : ∀ args w, (callFunc 15 args).run Try.prog w = .ok (.enter 15 args) w := enters_of Try.func15 (by kernel_rfl) rfl
theorem enters_find : ∀ args w, (callFunc 21 args).run Try.prog w = .ok (.enter 21 args) w := enters_of Try.func21 (by kernel_rfl) rfl
theorem enters_least : ∀ args w, (callFunc 18 args).run Try.prog w = .ok (.enter 18 args) w := enters_of Try.func18 (by kernel_rfl) rfl
theorem enters_match : ∀ args w, (callFunc 20 args).run Try.prog w = .ok (.enter 20 args) w := enters_of Try.func20 (by kernel_rfl) rfl
end Go.Proofs.Ytglcdchjddnjgaa
