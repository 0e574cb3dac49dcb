/- The order of messages: the document's. -/
import Derived.Test.YtobbopakdaoemaaMqP
import Derived.Test.YtobbopakdaoemaaKeep
import Derived.Test.YtobbopakdaoemaaProg
import Derived.WalkKit
import Derived.ProofKit
import Derived.Lib.Hide
set_option maxRecDepth 4000
namespace Go.Proofs.Ytobbopakdaoemaa
open Go.RowKit
theorem retO {a b : Int} (h : a = b) : Ending.returned (.int .i64 a) = .returned (.int .i64 b) := by rw [h]
theorem rmsgs_ (a b : Mg) (w : World) : Calls Try.prog 22 #[a.val, b.val] w fun e w' => e = .returned (.int .i64 (cmpG a b)) ∧ (w.alloc (.cells a.cells 34)).alloc (.cells b.cells 34) = w' := by
  obtain ⟨i, p, x2, x3, x4, x5⟩ := a
  obtain ⟨j, q, y2, y3, y4, y5⟩ := b
  have e0 : cmpG ⟨i, p, x2, x3, x4, x5⟩ ⟨j, q, y2, y3, y4, y5⟩ = cmpM p i q j := rfl
  rw [e0]
  show Calls Try.prog 22 #[.agg #[.int .i64 i, .int .i64 p, .int .i64 x2, .bool x3, .string x4, .string x5], .agg #[.int .i64 j, .int .i64 q, .int .i64 y2, .bool y3, .string y4, .string y5]] w _
  clear e0
  rcases Int.lt_trichotomy p q with h | h | h
  · go_enter Try.func22, Try.ntmps22
    go_wp2
    go_ret
    exact ⟨retO (by have : cmpI p q = -1 := if_pos h
                    rw [cmpM, this]; rfl), rfl⟩
  · subst h
    have e : cmpM p i p j = cmpI i j := by rw [cmpM, if_pos ((cmpI_eq p p).2 rfl)]
    have E := Lib.hid e
    clear e
    rcases Int.lt_trichotomy i j with h | h | h
    · go_enter Try.func22, Try.ntmps22
      go_wp2
      go_ret
      exact ⟨retO (by rw [E.out, cmpI, if_pos h]), rfl⟩
    · subst h
      go_enter Try.func22, Try.ntmps22
      go_wp2
      go_ret
      exact ⟨retO (by rw [E.out, cmpI, if_neg (by omega), if_neg (by omega)]), rfl⟩
    · have h1 : ¬ i < j := by omega
      go_enter Try.func22, Try.ntmps22
      go_wp2
      go_ret
      exact ⟨retO (by rw [E.out, cmpI, if_neg (by omega), if_pos h]), rfl⟩
  · have h1 : ¬ p < q := by omega
    have h2 : (p == q) = false := by simp; omega
    go_enter Try.func22, Try.ntmps22
    go_wp2
    go_ret
    exact ⟨retO (by have : cmpI p q = 1 := by rw [cmpI, if_neg (by omega), if_pos h]
                    rw [cmpM, this]; rfl), rfl⟩
end Go.Proofs.Ytobbopakdaoemaa
