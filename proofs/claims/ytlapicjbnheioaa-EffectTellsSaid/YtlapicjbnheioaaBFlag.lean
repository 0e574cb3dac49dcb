/- What a writer's Flag does. -/
import Derived.Test.YtlapicjbnheioaaBWrites
namespace Go.Proofs.Ytlapicjbnheioaa
open Go.RowKit
set_option maxHeartbeats 400000 in
theorem wFlag (w : World) (g : Nat) (bs : List UInt8) (b : Bool) (hw : WriterAt w g bs) (hn : bs.length ≤ 900000) :
    Calls Try.prog 48 #[.pointer (some ⟨g, 0, none⟩), .bool b] w fun e w' => e = .returned (.tuple #[]) ∧ WriterAt w' g (bs ++ encFlag b) ∧ Keep (But g) w w' := by
  cases b
  all_goals
    go_enter Try.func48, Try.ntmps48
    go_wp2_with fail
    refine (add_ w g bs _ hw (by rw [show (ByteArray.mk #[_]).size = 1 from rfl]; omega)).mono ?_
    rintro e w2 ⟨rfl, hw2, hk2⟩
    go_wp2
    go_end0
    exact ⟨rfl, hw2, hk2⟩
end Go.Proofs.Ytlapicjbnheioaa
