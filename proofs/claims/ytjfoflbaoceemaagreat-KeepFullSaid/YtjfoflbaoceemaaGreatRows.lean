/-
  No cell of these rows narrows 'for every input' (looked for: loops, veiled, ifaces, maps, wideKeys, modest, calm, conditions, laid).
  DERIVED. THE GIVEN ROWS OF THIS SEAT. 7 by the template 'for every input the law returns true; each argument reads behind the call as it read before'; 0 by the template 'total and deterministic' (their statements: YtjfoflbaoceemaaGreatTotals.lean).
  GIVEN WITH THE SEED: the statements are not yours to turn. If you find one false, say at which input.
  Laid BY PROGRAM, IN A SANDBOX (cutbox-rows.mjs): the forced cells as the released guide's own fill.sh prints them over the translation 5ba9ecc6a5de68ef… (all of the seat's roots in one cut). By AI agents, Wed Nov 11 2026. No macro, syntax, notation, axiom, sorry.
-/
import Derived.Test.YtjfoflbaoceemaaGreatChecked
import GoSem.Claim
import GoSem.ClaimJoined
import GoSem.ClaimMapViews
import Derived.JoinedTies
import Derived.KernelRfl
namespace Go.Proofs.YtjfoflbaoceemaaGreat
/- THE CELL 'sum', in the pinned program and in every row, IS THE sha256 OF THE DUMP (.gsa) THAT YtjfoflbaoceemaaGreatProg.lean LOADS. Nothing in Lean hashes anything: it is a label: what it is worth is what the hold of that sum in a sandbox is worth. -/
noncomputable def Tryz.pinned : Pinned := { name := "ytjfoflbaoceemaagreat", sum := "5ba9ecc6a5de68efef8ab1b5ae332d71da3fdc2d14ee2a4549c2b7fdbdf36371", checked := Tryz.checked }
namespace Rows
def none {H : Type} : Left H := { results := [], args := [] }

/-- 'postelaw21.KeepPlays': WHATEVER THE INPUT: true; the input reads as it did. -/
def keepPlaysSpec : ChangeSpec := { name := "keepPlays", fn := fun _ => fun
  | [d] => { results := [.lit (.bool true)], args := [d] }
  | _ => none }
def keepPlaysRow : OpenClaim := { program := "ytjfoflbaoceemaagreat", sum := "5ba9ecc6a5de68efef8ab1b5ae332d71da3fdc2d14ee2a4549c2b7fdbdf36371", func := "poste/postelaw21.KeepPlays", spec := "keepPlays", inPlace := ["slices.overlaps[poste/api.Object]"], unfollowed := true, recurses := true, apart := false }
def KeepPlaysSaid : Prop := keepPlaysRow.holds Tryz.pinned (OpenSpec.ofChange keepPlaysSpec)

/-- ITS FALSE NEIGHBOUR: 'it returns false'. Refute it at one input. -/
def keepPlaysWrong : ChangeSpec := { name := "keepPlays", fn := fun _ => fun
  | [d] => { results := [.lit (.bool false)], args := [d] }
  | _ => none }
def KeepPlaysWrongFalsely : Prop := keepPlaysRow.holds Tryz.pinned (OpenSpec.ofChange keepPlaysWrong)

/-- 'postelaw21.KeepOpens': WHATEVER THE INPUT: true; the input reads as it did. -/
def keepOpensSpec : ChangeSpec := { name := "keepOpens", fn := fun _ => fun
  | [d1, d2, d3, d4] => { results := [.lit (.bool true)], args := [d1, d2, d3, d4] }
  | _ => none }
def keepOpensRow : OpenClaim := { program := "ytjfoflbaoceemaagreat", sum := "5ba9ecc6a5de68efef8ab1b5ae332d71da3fdc2d14ee2a4549c2b7fdbdf36371", func := "poste/postelaw21.KeepOpens", spec := "keepOpens", inPlace := ["slices.overlaps[poste/api.Object]"], unfollowed := true, recurses := true, apart := false }
def KeepOpensSaid : Prop := keepOpensRow.holds Tryz.pinned (OpenSpec.ofChange keepOpensSpec)

/-- ITS FALSE NEIGHBOUR: 'it returns false'. Refute it at one input. -/
def keepOpensWrong : ChangeSpec := { name := "keepOpens", fn := fun _ => fun
  | [d1, d2, d3, d4] => { results := [.lit (.bool false)], args := [d1, d2, d3, d4] }
  | _ => none }
def KeepOpensWrongFalsely : Prop := keepOpensRow.holds Tryz.pinned (OpenSpec.ofChange keepOpensWrong)

/-- 'postelaw21.KeepSure': WHATEVER THE INPUT: true; the input reads as it did. -/
def keepSureSpec : ChangeSpec := { name := "keepSure", fn := fun _ => fun
  | [d1, d2, d3] => { results := [.lit (.bool true)], args := [d1, d2, d3] }
  | _ => none }
def keepSureRow : OpenClaim := { program := "ytjfoflbaoceemaagreat", sum := "5ba9ecc6a5de68efef8ab1b5ae332d71da3fdc2d14ee2a4549c2b7fdbdf36371", func := "poste/postelaw21.KeepSure", spec := "keepSure", inPlace := ["slices.overlaps[poste/api.Object]"], unfollowed := true, recurses := true, apart := false }
def KeepSureSaid : Prop := keepSureRow.holds Tryz.pinned (OpenSpec.ofChange keepSureSpec)

/-- ITS FALSE NEIGHBOUR: 'it returns false'. Refute it at one input. -/
def keepSureWrong : ChangeSpec := { name := "keepSure", fn := fun _ => fun
  | [d1, d2, d3] => { results := [.lit (.bool false)], args := [d1, d2, d3] }
  | _ => none }
def KeepSureWrongFalsely : Prop := keepSureRow.holds Tryz.pinned (OpenSpec.ofChange keepSureWrong)

/-- 'postelaw21.KeepTwice': WHATEVER THE INPUT: true; the input reads as it did. -/
def keepTwiceSpec : ChangeSpec := { name := "keepTwice", fn := fun _ => fun
  | [d1, d2, d3] => { results := [.lit (.bool true)], args := [d1, d2, d3] }
  | _ => none }
def keepTwiceRow : OpenClaim := { program := "ytjfoflbaoceemaagreat", sum := "5ba9ecc6a5de68efef8ab1b5ae332d71da3fdc2d14ee2a4549c2b7fdbdf36371", func := "poste/postelaw21.KeepTwice", spec := "keepTwice", inPlace := ["slices.overlaps[poste/api.Object]"], unfollowed := true, recurses := true, apart := false }
def KeepTwiceSaid : Prop := keepTwiceRow.holds Tryz.pinned (OpenSpec.ofChange keepTwiceSpec)

/-- ITS FALSE NEIGHBOUR: 'it returns false'. Refute it at one input. -/
def keepTwiceWrong : ChangeSpec := { name := "keepTwice", fn := fun _ => fun
  | [d1, d2, d3] => { results := [.lit (.bool false)], args := [d1, d2, d3] }
  | _ => none }
def KeepTwiceWrongFalsely : Prop := keepTwiceRow.holds Tryz.pinned (OpenSpec.ofChange keepTwiceWrong)

/-- 'postelaw21.KeepLong': WHATEVER THE INPUT: true; the input reads as it did. -/
def keepLongSpec : ChangeSpec := { name := "keepLong", fn := fun _ => fun
  | [d1, d2] => { results := [.lit (.bool true)], args := [d1, d2] }
  | _ => none }
def keepLongRow : OpenClaim := { program := "ytjfoflbaoceemaagreat", sum := "5ba9ecc6a5de68efef8ab1b5ae332d71da3fdc2d14ee2a4549c2b7fdbdf36371", func := "poste/postelaw21.KeepLong", spec := "keepLong", inPlace := ["slices.overlaps[poste/api.Object]"], unfollowed := true, recurses := true, apart := false }
def KeepLongSaid : Prop := keepLongRow.holds Tryz.pinned (OpenSpec.ofChange keepLongSpec)

/-- ITS FALSE NEIGHBOUR: 'it returns false'. Refute it at one input. -/
def keepLongWrong : ChangeSpec := { name := "keepLong", fn := fun _ => fun
  | [d1, d2] => { results := [.lit (.bool false)], args := [d1, d2] }
  | _ => none }
def KeepLongWrongFalsely : Prop := keepLongRow.holds Tryz.pinned (OpenSpec.ofChange keepLongWrong)

/-- 'postelaw21.KeepFull': WHATEVER THE INPUT: true; the input reads as it did. -/
def keepFullSpec : ChangeSpec := { name := "keepFull", fn := fun _ => fun
  | [d1, d2] => { results := [.lit (.bool true)], args := [d1, d2] }
  | _ => none }
def keepFullRow : OpenClaim := { program := "ytjfoflbaoceemaagreat", sum := "5ba9ecc6a5de68efef8ab1b5ae332d71da3fdc2d14ee2a4549c2b7fdbdf36371", func := "poste/postelaw21.KeepFull", spec := "keepFull", inPlace := ["slices.overlaps[poste/api.Object]"], unfollowed := true, recurses := true, apart := false }
def KeepFullSaid : Prop := keepFullRow.holds Tryz.pinned (OpenSpec.ofChange keepFullSpec)

/-- ITS FALSE NEIGHBOUR: 'it returns false'. Refute it at one input. -/
def keepFullWrong : ChangeSpec := { name := "keepFull", fn := fun _ => fun
  | [d1, d2] => { results := [.lit (.bool false)], args := [d1, d2] }
  | _ => none }
def KeepFullWrongFalsely : Prop := keepFullRow.holds Tryz.pinned (OpenSpec.ofChange keepFullWrong)

/-- 'postelaw21.KeepErrors': WHATEVER THE INPUT: true; the input reads as it did. -/
def keepErrorsSpec : ChangeSpec := { name := "keepErrors", fn := fun _ => fun
  | [d1, d2] => { results := [.lit (.bool true)], args := [d1, d2] }
  | _ => none }
def keepErrorsRow : OpenClaim := { program := "ytjfoflbaoceemaagreat", sum := "5ba9ecc6a5de68efef8ab1b5ae332d71da3fdc2d14ee2a4549c2b7fdbdf36371", func := "poste/postelaw21.KeepErrors", spec := "keepErrors", inPlace := ["slices.overlaps[poste/api.Object]"], unfollowed := true, recurses := true, apart := false }
def KeepErrorsSaid : Prop := keepErrorsRow.holds Tryz.pinned (OpenSpec.ofChange keepErrorsSpec)

/-- ITS FALSE NEIGHBOUR: 'it returns false'. Refute it at one input. -/
def keepErrorsWrong : ChangeSpec := { name := "keepErrors", fn := fun _ => fun
  | [d1, d2] => { results := [.lit (.bool false)], args := [d1, d2] }
  | _ => none }
def KeepErrorsWrongFalsely : Prop := keepErrorsRow.holds Tryz.pinned (OpenSpec.ofChange keepErrorsWrong)

/- THE SECOND FORM. 'bulk': how many values and letters a reading holds, each counted each time it is reached (what is shared counts as often as it is met; a slice's spare places count too). A statement '..UptoSaid' is the law's where the arguments, and the package variables that the reading takes, are together of bulk at most 1048576: NARROWER than '..Said'. Prove '..Said' where nothing that the law and all that it calls make is longer than what came in: it says more and counts as full. Else prove '..UptoSaid'. A law counts once. -/
mutual
def uptoBulk {H : Type} : DataW H → Nat
  | .lit (.string bytes) => bytes.length + 1
  | .lit _ => 1
  | .nil => 1
  | .ptr d => uptoBulk d + 1
  | .slice elems spare => uptoBulkAll elems + uptoBulkAll spare + 1
  | .agg parts => uptoBulkAll parts + 1
  | .iface _ d => uptoBulk d + 1
  | .map entries => uptoBulkEntries entries + 1
  | .held _ => 1
def uptoBulkAll {H : Type} : List (DataW H) → Nat
  | [] => 0
  | d :: r => uptoBulk d + uptoBulkAll r
def uptoBulkEntries {H : Type} : List (Lit × DataW H) → Nat
  | [] => 0
  | x :: r => uptoBulkEntry x + uptoBulkEntries r
def uptoBulkEntry {H : Type} : Lit × DataW H → Nat
  | (.string bytes, d) => bytes.length + uptoBulk d + 1
  | (_, d) => uptoBulk d + 1
 end
def uptoSmall : (H : Type) → List (DataW H) → Bool := fun _ ds => decide (uptoBulkAll ds ≤ 1048576)
def OpenSpec.upto (s : _root_.Go.ChangeSpec) : _root_.Go.OpenSpec := { _root_.Go.OpenSpec.ofChange s with cond := some uptoSmall }

/-- 'postelaw21.KeepPlays', WHERE WHAT IT READS IS OF BULK AT MOST 1048576: true; the input reads as it did. -/
def keepPlaysUptoRow : OpenClaim := { program := "ytjfoflbaoceemaagreat", sum := "5ba9ecc6a5de68efef8ab1b5ae332d71da3fdc2d14ee2a4549c2b7fdbdf36371", func := "poste/postelaw21.KeepPlays", spec := "keepPlays", inPlace := ["slices.overlaps[poste/api.Object]"], unfollowed := true, recurses := true, apart := false, narrowed := true }
def KeepPlaysUptoSaid : Prop := keepPlaysUptoRow.holds Tryz.pinned (OpenSpec.upto keepPlaysSpec)

/-- 'postelaw21.KeepOpens', WHERE WHAT IT READS IS OF BULK AT MOST 1048576: true; the input reads as it did. -/
def keepOpensUptoRow : OpenClaim := { program := "ytjfoflbaoceemaagreat", sum := "5ba9ecc6a5de68efef8ab1b5ae332d71da3fdc2d14ee2a4549c2b7fdbdf36371", func := "poste/postelaw21.KeepOpens", spec := "keepOpens", inPlace := ["slices.overlaps[poste/api.Object]"], unfollowed := true, recurses := true, apart := false, narrowed := true }
def KeepOpensUptoSaid : Prop := keepOpensUptoRow.holds Tryz.pinned (OpenSpec.upto keepOpensSpec)

/-- 'postelaw21.KeepSure', WHERE WHAT IT READS IS OF BULK AT MOST 1048576: true; the input reads as it did. -/
def keepSureUptoRow : OpenClaim := { program := "ytjfoflbaoceemaagreat", sum := "5ba9ecc6a5de68efef8ab1b5ae332d71da3fdc2d14ee2a4549c2b7fdbdf36371", func := "poste/postelaw21.KeepSure", spec := "keepSure", inPlace := ["slices.overlaps[poste/api.Object]"], unfollowed := true, recurses := true, apart := false, narrowed := true }
def KeepSureUptoSaid : Prop := keepSureUptoRow.holds Tryz.pinned (OpenSpec.upto keepSureSpec)

/-- 'postelaw21.KeepTwice', WHERE WHAT IT READS IS OF BULK AT MOST 1048576: true; the input reads as it did. -/
def keepTwiceUptoRow : OpenClaim := { program := "ytjfoflbaoceemaagreat", sum := "5ba9ecc6a5de68efef8ab1b5ae332d71da3fdc2d14ee2a4549c2b7fdbdf36371", func := "poste/postelaw21.KeepTwice", spec := "keepTwice", inPlace := ["slices.overlaps[poste/api.Object]"], unfollowed := true, recurses := true, apart := false, narrowed := true }
def KeepTwiceUptoSaid : Prop := keepTwiceUptoRow.holds Tryz.pinned (OpenSpec.upto keepTwiceSpec)

/-- 'postelaw21.KeepLong', WHERE WHAT IT READS IS OF BULK AT MOST 1048576: true; the input reads as it did. -/
def keepLongUptoRow : OpenClaim := { program := "ytjfoflbaoceemaagreat", sum := "5ba9ecc6a5de68efef8ab1b5ae332d71da3fdc2d14ee2a4549c2b7fdbdf36371", func := "poste/postelaw21.KeepLong", spec := "keepLong", inPlace := ["slices.overlaps[poste/api.Object]"], unfollowed := true, recurses := true, apart := false, narrowed := true }
def KeepLongUptoSaid : Prop := keepLongUptoRow.holds Tryz.pinned (OpenSpec.upto keepLongSpec)

/-- 'postelaw21.KeepFull', WHERE WHAT IT READS IS OF BULK AT MOST 1048576: true; the input reads as it did. -/
def keepFullUptoRow : OpenClaim := { program := "ytjfoflbaoceemaagreat", sum := "5ba9ecc6a5de68efef8ab1b5ae332d71da3fdc2d14ee2a4549c2b7fdbdf36371", func := "poste/postelaw21.KeepFull", spec := "keepFull", inPlace := ["slices.overlaps[poste/api.Object]"], unfollowed := true, recurses := true, apart := false, narrowed := true }
def KeepFullUptoSaid : Prop := keepFullUptoRow.holds Tryz.pinned (OpenSpec.upto keepFullSpec)

/-- 'postelaw21.KeepErrors', WHERE WHAT IT READS IS OF BULK AT MOST 1048576: true; the input reads as it did. -/
def keepErrorsUptoRow : OpenClaim := { program := "ytjfoflbaoceemaagreat", sum := "5ba9ecc6a5de68efef8ab1b5ae332d71da3fdc2d14ee2a4549c2b7fdbdf36371", func := "poste/postelaw21.KeepErrors", spec := "keepErrors", inPlace := ["slices.overlaps[poste/api.Object]"], unfollowed := true, recurses := true, apart := false, narrowed := true }
def KeepErrorsUptoSaid : Prop := keepErrorsUptoRow.holds Tryz.pinned (OpenSpec.upto keepErrorsSpec)

end Rows
end Go.Proofs.YtjfoflbaoceemaaGreat
