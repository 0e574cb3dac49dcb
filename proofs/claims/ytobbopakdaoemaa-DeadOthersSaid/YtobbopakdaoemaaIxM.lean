/- The place of the first message of which something holds: the library's IndexFunc. -/
import Derived.Test.YtobbopakdaoemaaMqC
import Derived.Test.YtobbopakdaoemaaMqP
import Derived.Shelf.Abstract
set_option maxRecDepth 4000
namespace Go.Proofs.Ytobbopakdaoemaa
open Go.RowKit
/-- a function value that answers p of each of these, and turns nothing that was there -/
def PredM (g : Nat) (lb : Array Value) (p : Mg → Bool) (l : List Mg) (w : World) : Prop :=
  ∀ (W : World) (x : Mg), x ∈ l → Below w.heap.size w W → Calls Try.prog g (#[x.val] ++ lb) W fun e w' => e = .returned (.bool (p x)) ∧ Below w.heap.size w w'
def SeesM (w : World) (p : Mg → Bool) (l : List Mg) (k : Nat) (i : Value) (wr : World) : Prop := ∃ j, j + k = l.length ∧ i = .int .i64 (j : Int) ∧ (∀ q (hq : q < j) (hl : q < l.length), p l[q] = false) ∧ Below w.heap.size w wr
set_option maxHeartbeats 1000000 in
theorem index_m {w : World} {K : Nat → Prop} {A : Option Addr} {n c : Nat} {l : List Mg} (h : Lst w K eM A l) (hl : l.length = n) (hn : n ≤ 1000000) {p : Mg → Bool} {g : Nat} {lb : Array Value}
    (eg : ∀ args w, (callFunc g args).run Try.prog w = .ok (.enter g args) w) (hp : PredM g lb p l w) :
    Calls Try.prog 25 #[.slice A n c, .func (.func g) #[] lb] w fun e w' => e = .returned (.int .i64 (idxI p l)) ∧ Below w.heap.size w w' := by
  have H := Lib.hid h
  have HL := Lib.hid hl
  have HP := Lib.hid hp
  clear h hl hp
  go_enter Try.func25, Try.ntmps25
  go_wp2
  go_loopg [5, 8] n (fun m _ i wr => SeesM w p l m i wr)
  case atStart => exact ⟨0, by rw [HL.out]; omega, rfl, fun q hq => absurd hq (Nat.not_lt_zero q), Below.refl _ _⟩
  case round =>
    obtain ⟨j, hj, rfl, h1, hb⟩ := hrel
    have HJ := Lib.hid hj
    have H1 := Lib.hid h1
    have HB := Lib.hid hb
    clear hj h1 hb
    by_cases hlt : j < n
    · have hx : j < l.length := by rw [HL.out]; exact hlt
      obtain ⟨b, o, rfl, hb, c0, c1, c2, c3, c4, c5⟩ := (H.out.below HB.out).atM hx
      have hcall := HP.out wr l[j] (List.getElem_mem hx) HB.out
      have e1 : idxI p l = (j : Int) ∨ p l[j] = false := by
        cases hpj : p l[j]
        · exact .inr rfl
        · exact .inl (idx_hit hx hpj fun q hq => H1.out q hq (by omega))
      have e2 : p l[j] = false → ∀ q (hq : q < j + 1) (hl : q < l.length), p l[q] = false := fun h q hq hl => by
        rcases Nat.lt_or_ge q j with h5 | h5
        · exact H1.out q h5 hl
        · obtain rfl : q = j := by omega
          exact h
      have E2 := Lib.hid e2
      have E1 := Lib.hid e1
      clear e1 e2 hb
      obtain ⟨x, hxx⟩ : ∃ x, l[j] = x := ⟨_, rfl⟩
      rw [hxx] at c0 c1 c2 c3 c4 c5 hcall E1 E2
      clear hxx
      generalize hpb : p x = pb at *
      clear hpb
      obtain ⟨x0, x1, x2, x3, x4, x5⟩ := x
      simp only [Mg.val, Mg.cells] at hcall c0 c1 c2 c3 c4 c5
      cases pb
      · go_wp2_with (go_at_fn g; refine hcall.mono ?_; rintro e w' ⟨rfl, hb'⟩)
        go_roundg (n - (j + 1))
        case measure => have := HJ.out; have := HL.out; omega
        case rel => exact ⟨j + 1, by have := HL.out; omega, by go_num, E2.out (by simp), hb'⟩
      · go_wp2_with (go_at_fn g; refine hcall.mono ?_; rintro e w' ⟨rfl, hb'⟩)
        go_ret
        refine ⟨?_, hb'⟩
        rcases E1.out with h | h
        · rw [h]; rfl
        · cases h
    · have he : j = l.length := by have := HJ.out; have := HL.out; omega
      have e1 : idxI p l = -1 := idx_miss fun q hq => H1.out q (by omega) hq
      have E1 := Lib.hid e1
      clear e1 he
      go_wp2
      go_ret
      exact ⟨by rw [E1.out]; rfl, HB.out⟩
end Go.Proofs.Ytobbopakdaoemaa
