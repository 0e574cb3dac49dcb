/- What the document's own writer's Flag does. -/
import Derived.Test.YtlapicjbnheioaaBRefFlag
namespace Go.Proofs.Ytlapicjbnheioaa
open Go.RowKit
set_option maxHeartbeats 400000 in
theorem vFlag (w : World) (N g : Nat) (bs : List UInt8) (b : Bool) (hw : VAt w N g bs) (hn : bs.length ≤ 900000) :
    Calls Try.prog 28 #[.pointer (some ⟨g, 0, none⟩), .bool b] w fun e w' => e = .returned (.tuple #[]) ∧ VAt w' N g (bs ++ encFlag b) ∧ Keep (Rf N) w w' := by
  obtain ⟨v, hb, ho, hN⟩ := hw
  obtain ⟨A, c, rfl, _, _, _⟩ := own_rb ho
  have c0 := hb.cell 0
  simp at c0
  have hlt := hb.lt
  obtain ⟨A', n', c', W', hap, d0, f0, hR, hK⟩ := ref_append hb ho hN (alloc_below w (.cells (cellsB (encFlag b)).toArray 5)) (rb_new w (encFlag b)) 1 (by rw [encFlag_len]; omega)
  have HR := Lib.hid hR
  have HK := Lib.hid hK
  clear hb ho hR hK
  cases b
  · have ec : (cellsB (encFlag false)).toArray = #[.int .u8 0] := rfl
    rw [ec] at hap
    go_enter Try.func28, Try.ntmps28
    go_wp2_with (at_builtin; refine wpList_append_run rfl (.tmp 10) (.tmp 12) 30 30 rfl _ _ rfl rfl hap ?_)
    go_end0
    exact ⟨rfl, HR.out, HK.out⟩
  · have ec : (cellsB (encFlag true)).toArray = #[.int .u8 1] := rfl
    rw [ec] at hap
    go_enter Try.func28, Try.ntmps28
    go_wp2_with (at_builtin; refine wpList_append_run rfl (.tmp 10) (.tmp 12) 30 30 rfl _ _ rfl rfl hap ?_)
    go_end0
    exact ⟨rfl, HR.out, HK.out⟩
end Go.Proofs.Ytlapicjbnheioaa

