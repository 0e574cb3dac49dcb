/- What the calls of package order that compare keys answer. -/
import Derived.Test.YtahfjdilfnjppaaCmpB
set_option maxRecDepth 4000
namespace Go.Proofs.Ytahfjdilfnjppaa
open Go.RowKit
theorem keys_ (a b : ByteArray) (w : World) : Calls Try.prog 13 #[.string a, .string b] w fun e w' => e = .returned (.int .i64 (cmpS a b)) ∧ w = w' := by
  go_enter Try.func13, Try.ntmps13
  go_wp2_with (go_at_call 14; refine (compareS _ _ _).mono ?_; rintro e w' ⟨rfl, rfl⟩)
  go_ret
  exact ⟨rfl, rfl⟩
end Go.Proofs.Ytahfjdilfnjppaa
