/- The document's example, which each law of stage 7 asks first. -/
import Derived.Test.YtajhaakbplfleaaNodeC
namespace Go.Proofs.Ytajhaakbplfleaa
open Go.RowKit
theorem findNil (k : ByteArray) (w : World) : Calls Try.prog 10 #[.slice none 0 0, .string k] w fun e w' => e = .returned (.tuple #[.int .i64 0, .bool false]) ∧ w = w' :=
  find_ (Rws.nil w (fun _ => True) none) rfl (Nat.zero_le _) k
def OneP (w : World) (r : Rw) (e : Ending) (w' : World) : Prop :=
  ∃ b o c, e = .returned (.slice (some ⟨b, o, none⟩) 1 c) ∧ w'.cell? ⟨b, o, none⟩ = some (.string r.1) ∧ Below w.heap.size w w'
theorem putNil (r : Rw) (w : World) : Calls Try.prog 9 #[.slice none 0 0, .agg #[.string r.1, .string r.2]] w (OneP w r) := by
  refine (put_ (Rws.nil w (fun _ => True) none) rfl (Nat.zero_le _) (Nat.zero_le _) r).mono ?_
  rintro e w' ⟨v, rfl, A, c, rfl, hr, _, _, _, hb⟩
  have e1 : putR [] r = [r] := rfl
  rw [e1] at hr ⊢
  obtain ⟨b, o, rfl, hc, _⟩ := hr.at_ (j := 0) (by simp)
  exact ⟨b, o, c, rfl, by simpa using hc, hb⟩
set_option maxHeartbeats 400000 in
theorem alive_ (w : World) : Calls Try.prog 5 #[] w fun e w' => e = .returned (.bool true) ∧ Below w.heap.size w w' := by
  go_enter Try.func5, Try.ntmps5
  go_wp2_with (first | (go_at_call 10; refine (findNil _ _).mono ?_; rintro e w' ⟨rfl, rfl⟩) | (go_at_call 9; refine (putNil (⟨#[97]⟩, ⟨#[]⟩) _).mono ?_; rintro e w' ⟨b, o, c, rfl, hc, hb⟩; have HB := Lib.hid hb; clear hb))
  go_ret
  exact ⟨rfl, HB.out⟩
end Go.Proofs.Ytajhaakbplfleaa
