/- Some kids of an inner part replaced by others. -/
import Derived.Test.YtocaaebmelhhnaaTreeW
import Derived.Test.YtocaaebmelhhnaaTreeS
import Derived.StillTailTactics
import Derived.Below
set_option maxRecDepth 4000
namespace Go.Proofs.Ytocaaebmelhhnaa
open Go.RowKit
set_option maxHeartbeats 1000000 in
theorem with_ {h : Nat} {w : World} {K : Nat → Prop} {b n c n2 c2 : Nat} {A A2 : Option Addr} {vs vs2 : List Value} {ks ks2 : List (Tr h)} (hc4 : w.cell? ⟨b, 4, none⟩ = some (.slice A n c)) (hp : PsAt h w K A n c vs ks) (hp2 : PsAt h w K A2 n2 c2 vs2 ks2)
    {q d : Nat} (hq : q + d ≤ n) (hn : n ≤ 50000) (hn2 : n2 ≤ 50000) (hK : ∀ i, w.heap.size ≤ i → K i) :
    Calls Try.prog 78 #[.pointer (some ⟨b, 0, none⟩), .int .i64 (q : Int), .int .i64 (d : Int), .slice A2 n2 c2] w fun e w' => ∃ v, e = .returned v ∧ NewP h w K (ks.take q ++ ks2 ++ ks.drop (q + d)) v w' := by
  have hcap := hp.cap
  have hd1 := fun W => head_vls A n c q (by omega) W
  obtain ⟨m, hm⟩ : ∃ m, n - (q + d) = m := ⟨_, rfl⟩
  obtain ⟨A3, hd2, hp3⟩ := tail_ps hp hq hm
  have hcc := concatp3 (b := w.heap.size) (hp.take (show q ≤ n by omega)) hp2 hp3 (by omega) hK rfl
  have HCC := Lib.hid hcc
  have hbl := block_of_cell hc4
  clear hp hp2 hp3 hcc hm hcap
  generalize c - (q + d) = c3 at *
  generalize hz : q + d = z at *
  have hzz : (q : Int) + (d : Int) = (z : Int) := by omega
  have hwz : IntKind.i64.wrap (z : Int) = (z : Int) := by rw [IntKind.wrap_i64]; omega
  clear hz
  go_enter Try.func78, Try.ntmps78
  go_wp2_with fail
  refine wp_region_still_tail 15 (by kernel_rfl) (by kernel_rfl) ?_
  simp only [List.take_succ_cons, List.take_zero, List.drop_succ_cons, List.drop_zero]
  repeat still_step
  refine wpStill_nil ?_
  go_wp2_with (go_at_call 80; refine HCC.out.mono ?_; rintro e w1 ⟨v1, rfl, hn1⟩; have HN1 := Lib.hid hn1; clear hn1)
  go_ret
  exact ⟨v1, rfl, HN1.out⟩
/-- from place j on down, no kid behind it was to take the key -/
def AtRel (h : Nat) (w : World) (ks : List (Tr h)) (k : ByteArray) (m : Nat) (i : Value) (wr : World) : Prop := i = .int .i64 (m : Int) ∧ m < ks.length ∧ atT h ks k (ks.length - 1) = atT h ks k m ∧ w = wr
theorem atT_step {h : Nat} {ks : List (Tr h)} {k : ByteArray} {m : Nat} {t : Tr h} (h0 : 0 < m) (hg : ks[m]? = some t) : atT h ks k m = if 0 < cmpS (leastT h t) k then atT h ks k (m - 1) else m := by
  obtain ⟨j, rfl⟩ : ∃ j, m = j + 1 := ⟨m - 1, by omega⟩
  rw [atT, hg]; rfl
set_option maxHeartbeats 1000000 in
theorem at_kid {h : Nat} {w : World} {K : Nat → Prop} {b n c : Nat} {A : Option Addr} {vs : List Value} {ks : List (Tr h)} (hc4 : w.cell? ⟨b, 4, none⟩ = some (.slice A n c)) (hp : PsAt h w K A n c vs ks) (h0 : 0 < n) (hn : n ≤ 100000) (k : ByteArray) :
    Calls Try.prog 77 #[.pointer (some ⟨b, 0, none⟩), .string k] w fun e w' => e = .returned (.int .i64 (placeT h ks k : Nat)) ∧ w = w' := by
  have H := Lib.hid hp
  have HC := Lib.hid hp.count
  clear hp
  unfold placeT
  go_enter Try.func77, Try.ntmps77
  go_wp2_with fail
  go_loopg [5] (n - 1) (fun m i wr => AtRel h w ks k m i wr)
  case atStart =>
    have hw : IntKind.i64.wrap ((n : Int) - 1) = ((n - 1 : Nat) : Int) := by rw [IntKind.wrap_i64]; omega
    refine ⟨?_, by have := HC.out; omega, by rw [HC.out], rfl⟩
    first | rw [hw] | (congr 1; omega)
  case round =>
    obtain ⟨rfl, hlt, hat, rfl⟩ := hrel
    have HL := Lib.hid hlt
    have HA := Lib.hid hat
    clear hlt hat
    by_cases hz : gk = 0
    · subst hz
      have he : atT h ks k (ks.length - 1) = 0 := HA.out
      have HE := Lib.hid he
      clear he
      go_wp2_with fail
      go_ret
      exact ⟨by rw [HE.out]; rfl, rfl⟩
    · have h1 : 0 < gk := by omega
      have hlt : gk < n := by have := HL.out; have := HC.out; omega
      have hg : ks[gk]? = some (ks[gk]'HL.out) := List.getElem?_eq_getElem _
      obtain ⟨b2, o2, bt2, rfl, hc2, hd2, _⟩ := H.out.at_ hg
      have hst := atT_step (k := k) h1 hg
      have hf := first_ hd2
      have hm := fun n => m_first h n bt2
      have HF := Lib.hid hf
      have hrg := cmpS_range (leastT h (ks[gk]'HL.out)) k
      have hw : IntKind.i64.wrap ((gk : Int) - 1) = ((gk - 1 : Nat) : Int) := by rw [IntKind.wrap_i64]; omega
      clear hf hd2 hg hz
      generalize leastT h (ks[gk]'HL.out) = ls at *
      by_cases hp : 0 < cmpS ls k
      · rw [if_pos hp] at hst
        have HST := Lib.hid hst
        clear hst
        go_wp2_with fail
        refine HF.out.mono ?_
        rintro e w1 ⟨rfl, rfl⟩
        go_wp2_with fail
        refine (keys_ _ _ _).mono ?_
        rintro e w1 ⟨rfl, rfl⟩
        go_wp2_with fail
        go_roundg (gk - 1)
        case measure => omega
        case rel => exact ⟨by first | rw [hw] | congr 1, by have := HL.out; omega, by rw [HA.out, HST.out], rfl⟩
      · rw [if_neg hp] at hst
        have HST := Lib.hid hst
        clear hst
        go_wp2_with fail
        refine HF.out.mono ?_
        rintro e w1 ⟨rfl, rfl⟩
        go_wp2_with fail
        refine (keys_ _ _ _).mono ?_
        rintro e w1 ⟨rfl, rfl⟩
        go_wp2_with fail
        go_ret
        exact ⟨by rw [HA.out, HST.out]; rfl, rfl⟩
end Go.Proofs.Ytocaaebmelhhnaa
