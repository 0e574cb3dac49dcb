/- Do rows rise, the document asks. -/
import Derived.Test.YtahfjdilfnjppaaRowM
import Derived.Test.YtahfjdilfnjppaaCmpR
import Derived.Deep.LoopGhost
set_option maxRecDepth 4000
namespace Go.Proofs.Ytahfjdilfnjppaa
open Go.RowKit
def RiseRel (w : World) (xs : List Rw) (k : Nat) (i : Value) (wr : World) : Prop := ∃ j, j + k = xs.length ∧ i = .int .i64 ((j : Int) + 1) ∧ risesR xs = risesR (xs.drop j) ∧ Below w.heap.size w wr
set_option maxHeartbeats 400000 in
theorem rises_ {w : World} {K : Nat → Prop} {A : Option Addr} {n c : Nat} {xs : List Rw} (h : Rws w K A xs) (hn : xs.length = n) (hm : n ≤ 1000000) (hs : ∀ r ∈ xs, r.1.size ≤ maxLen) :
    Calls Try.prog 5 #[.slice A n c] w fun e w' => e = .returned (.bool (risesR xs)) ∧ Below w.heap.size w w' := by
  have H := Lib.hid h
  have HN := Lib.hid hn
  have HS := Lib.hid hs
  clear h hn hs
  go_enter Try.func5, Try.ntmps5
  go_wp2
  go_loopg [3] n (fun k i wr => RiseRel w xs k i wr)
  case atStart => exact ⟨0, by rw [HN.out]; omega, rfl, rfl, Below.refl _ _⟩
  case round =>
    obtain ⟨j, hj, rfl, ht, hb⟩ := hrel
    have HT := Lib.hid ht
    have HB := Lib.hid hb
    have HJ := Lib.hid hj
    clear ht hb hj
    by_cases hlt : j + 1 < n
    · have hx : j < xs.length := by rw [HN.out]; omega
      have hy : j + 1 < xs.length := by rw [HN.out]; exact hlt
      obtain ⟨b, o, rfl, hc, hd⟩ := (H.out.below HB.out).at_ hx
      obtain ⟨b2, o2, he, hc2, hd2⟩ := (H.out.below HB.out).at_ hy
      cases he
      clear hd hd2
      obtain ⟨h1, h2⟩ := rises_at hy HT.out
      have hz := HS.out _ (List.getElem_mem hx)
      generalize xs[j].1 = k1 at *
      generalize xs[j + 1].1 = k2 at *
      have HZ := Lib.hid hz
      clear hz
      by_cases hp : cmpS k1 k2 < 0
      · have hp2 : ¬ 0 ≤ cmpS k1 k2 := by omega
        have H1 := Lib.hid (h1 hp)
        clear h1 h2
        go_wp2
        go_quiet ((go_at_call 10; exact Calls.quiet_of (refKeys _ _ _ HZ.out)))
        go_wp2
        go_roundg (n - (j + 1))
        case measure => have := HJ.out; have := HN.out; omega
        case rel => exact ⟨j + 1, by have := HN.out; omega, by go_num, H1.out, below_drewN HB.out _⟩
      · have hp2 : 0 ≤ cmpS k1 k2 := by omega
        have H1 := Lib.hid (h2 hp)
        clear h1 h2
        go_wp2
        go_quiet ((go_at_call 10; exact Calls.quiet_of (refKeys _ _ _ HZ.out)))
        go_wp2
        go_ret
        exact ⟨by rw [H1.out]; rfl, below_drewN HB.out _⟩
    · have e := rises_end (by rw [HN.out]; exact hlt) HT.out
      have E := Lib.hid e
      clear e
      go_wp2
      go_ret
      exact ⟨by rw [E.out]; rfl, HB.out⟩
end Go.Proofs.Ytahfjdilfnjppaa
