/-
  No cell of these rows narrows 'for every input' (looked for: loops, veiled, ifaces, maps, wideKeys, modest, calm, conditions, laid).
  DERIVED. THE GIVEN ROWS OF THIS SEAT. 4 by the template 'for every input the law returns true; each argument reads behind the call as it read before'; 0 by the template 'total and deterministic' (their statements: YtkgafnfbnpbacaaTotals.lean).
  GIVEN WITH THE SEED: the statements are not yours to turn. If you find one false, say at which input.
  Laid BY PROGRAM, IN A SANDBOX (cutbox-rows.mjs): the forced cells as the released guide's own fill.sh prints them over the translation 16549cad8ed5aa18… (all of the seat's roots in one cut). By AI agents, Wed Nov 11 2026. No macro, syntax, notation, axiom, sorry.
-/
import Derived.Test.YtkgafnfbnpbacaaChecked
import GoSem.Claim
import GoSem.ClaimJoined
import GoSem.ClaimMapViews
import Derived.JoinedTies
import Derived.KernelRfl
namespace Go.Proofs.Ytkgafnfbnpbacaa
/- THE CELL 'sum', in the pinned program and in every row, IS THE sha256 OF THE DUMP (.gsa) THAT YtkgafnfbnpbacaaProg.lean LOADS. Nothing in Lean hashes anything: it is a label: what it is worth is what the hold of that sum in a sandbox is worth. -/
noncomputable def Try.pinned : Pinned := { name := "ytkgafnfbnpbacaa", sum := "16549cad8ed5aa186b5f85f5a7f6b41cbbdc39b4950e5dcfae0a1e5522370ffc", checked := Try.checked }
namespace Rows
def none {H : Type} : Left H := { results := [], args := [] }

/-- 'postelaw3.SectorsPlay': WHATEVER THE INPUT: true; the input reads as it did. -/
def sectorsPlaySpec : ChangeSpec := { name := "sectorsPlay", fn := fun _ => fun
  | [d1, d2] => { results := [.lit (.bool true)], args := [d1, d2] }
  | _ => none }
def sectorsPlayRow : OpenClaim := { program := "ytkgafnfbnpbacaa", sum := "16549cad8ed5aa186b5f85f5a7f6b41cbbdc39b4950e5dcfae0a1e5522370ffc", func := "poste/postelaw3.SectorsPlay", spec := "sectorsPlay", apart := false }
def SectorsPlaySaid : Prop := sectorsPlayRow.holds Try.pinned (OpenSpec.ofChange sectorsPlaySpec)

/-- ITS FALSE NEIGHBOUR: 'it returns false'. Refute it at one input. -/
def sectorsPlayWrong : ChangeSpec := { name := "sectorsPlay", fn := fun _ => fun
  | [d1, d2] => { results := [.lit (.bool false)], args := [d1, d2] }
  | _ => none }
def SectorsPlayWrongFalsely : Prop := sectorsPlayRow.holds Try.pinned (OpenSpec.ofChange sectorsPlayWrong)

/-- 'postelaw3.SectorsSure': WHATEVER THE INPUT: true; the input reads as it did. -/
def sectorsSureSpec : ChangeSpec := { name := "sectorsSure", fn := fun _ => fun
  | [d1, d2, d3] => { results := [.lit (.bool true)], args := [d1, d2, d3] }
  | _ => none }
def sectorsSureRow : OpenClaim := { program := "ytkgafnfbnpbacaa", sum := "16549cad8ed5aa186b5f85f5a7f6b41cbbdc39b4950e5dcfae0a1e5522370ffc", func := "poste/postelaw3.SectorsSure", spec := "sectorsSure", apart := false }
def SectorsSureSaid : Prop := sectorsSureRow.holds Try.pinned (OpenSpec.ofChange sectorsSureSpec)

/-- ITS FALSE NEIGHBOUR: 'it returns false'. Refute it at one input. -/
def sectorsSureWrong : ChangeSpec := { name := "sectorsSure", fn := fun _ => fun
  | [d1, d2, d3] => { results := [.lit (.bool false)], args := [d1, d2, d3] }
  | _ => none }
def SectorsSureWrongFalsely : Prop := sectorsSureRow.holds Try.pinned (OpenSpec.ofChange sectorsSureWrong)

/-- 'postelaw3.SectorsBreak': WHATEVER THE INPUT: true; the input reads as it did. -/
def sectorsBreakSpec : ChangeSpec := { name := "sectorsBreak", fn := fun _ => fun
  | [d1, d2] => { results := [.lit (.bool true)], args := [d1, d2] }
  | _ => none }
def sectorsBreakRow : OpenClaim := { program := "ytkgafnfbnpbacaa", sum := "16549cad8ed5aa186b5f85f5a7f6b41cbbdc39b4950e5dcfae0a1e5522370ffc", func := "poste/postelaw3.SectorsBreak", spec := "sectorsBreak", apart := false }
def SectorsBreakSaid : Prop := sectorsBreakRow.holds Try.pinned (OpenSpec.ofChange sectorsBreakSpec)

/-- ITS FALSE NEIGHBOUR: 'it returns false'. Refute it at one input. -/
def sectorsBreakWrong : ChangeSpec := { name := "sectorsBreak", fn := fun _ => fun
  | [d1, d2] => { results := [.lit (.bool false)], args := [d1, d2] }
  | _ => none }
def SectorsBreakWrongFalsely : Prop := sectorsBreakRow.holds Try.pinned (OpenSpec.ofChange sectorsBreakWrong)

/-- 'postelaw3.SectorsLast': WHATEVER THE INPUT: true; the input reads as it did. -/
def sectorsLastSpec : ChangeSpec := { name := "sectorsLast", fn := fun _ => fun
  | [d1, d2, d3] => { results := [.lit (.bool true)], args := [d1, d2, d3] }
  | _ => none }
def sectorsLastRow : OpenClaim := { program := "ytkgafnfbnpbacaa", sum := "16549cad8ed5aa186b5f85f5a7f6b41cbbdc39b4950e5dcfae0a1e5522370ffc", func := "poste/postelaw3.SectorsLast", spec := "sectorsLast", apart := false }
def SectorsLastSaid : Prop := sectorsLastRow.holds Try.pinned (OpenSpec.ofChange sectorsLastSpec)

/-- ITS FALSE NEIGHBOUR: 'it returns false'. Refute it at one input. -/
def sectorsLastWrong : ChangeSpec := { name := "sectorsLast", fn := fun _ => fun
  | [d1, d2, d3] => { results := [.lit (.bool false)], args := [d1, d2, d3] }
  | _ => none }
def SectorsLastWrongFalsely : Prop := sectorsLastRow.holds Try.pinned (OpenSpec.ofChange sectorsLastWrong)

/- THE SECOND FORM. 'bulk': how many values and letters a reading holds, each counted each time it is reached (what is shared counts as often as it is met; a slice's spare places count too). A statement '..UptoSaid' is the law's where the arguments, and the package variables that the reading takes, are together of bulk at most 1048576: NARROWER than '..Said'. Prove '..Said' where nothing that the law and all that it calls make is longer than what came in: it says more and counts as full. Else prove '..UptoSaid'. A law counts once. -/
mutual
def uptoBulk {H : Type} : DataW H → Nat
  | .lit (.string bytes) => bytes.length + 1
  | .lit _ => 1
  | .nil => 1
  | .ptr d => uptoBulk d + 1
  | .slice elems spare => uptoBulkAll elems + uptoBulkAll spare + 1
  | .agg parts => uptoBulkAll parts + 1
  | .iface _ d => uptoBulk d + 1
  | .map entries => uptoBulkEntries entries + 1
  | .held _ => 1
def uptoBulkAll {H : Type} : List (DataW H) → Nat
  | [] => 0
  | d :: r => uptoBulk d + uptoBulkAll r
def uptoBulkEntries {H : Type} : List (Lit × DataW H) → Nat
  | [] => 0
  | x :: r => uptoBulkEntry x + uptoBulkEntries r
def uptoBulkEntry {H : Type} : Lit × DataW H → Nat
  | (.string bytes, d) => bytes.length + uptoBulk d + 1
  | (_, d) => uptoBulk d + 1
 end
def uptoSmall : (H : Type) → List (DataW H) → Bool := fun _ ds => decide (uptoBulkAll ds ≤ 1048576)
def OpenSpec.upto (s : _root_.Go.ChangeSpec) : _root_.Go.OpenSpec := { _root_.Go.OpenSpec.ofChange s with cond := some uptoSmall }

/-- 'postelaw3.SectorsPlay', WHERE WHAT IT READS IS OF BULK AT MOST 1048576: true; the input reads as it did. -/
def sectorsPlayUptoRow : OpenClaim := { program := "ytkgafnfbnpbacaa", sum := "16549cad8ed5aa186b5f85f5a7f6b41cbbdc39b4950e5dcfae0a1e5522370ffc", func := "poste/postelaw3.SectorsPlay", spec := "sectorsPlay", apart := false, narrowed := true }
def SectorsPlayUptoSaid : Prop := sectorsPlayUptoRow.holds Try.pinned (OpenSpec.upto sectorsPlaySpec)

/-- 'postelaw3.SectorsSure', WHERE WHAT IT READS IS OF BULK AT MOST 1048576: true; the input reads as it did. -/
def sectorsSureUptoRow : OpenClaim := { program := "ytkgafnfbnpbacaa", sum := "16549cad8ed5aa186b5f85f5a7f6b41cbbdc39b4950e5dcfae0a1e5522370ffc", func := "poste/postelaw3.SectorsSure", spec := "sectorsSure", apart := false, narrowed := true }
def SectorsSureUptoSaid : Prop := sectorsSureUptoRow.holds Try.pinned (OpenSpec.upto sectorsSureSpec)

/-- 'postelaw3.SectorsBreak', WHERE WHAT IT READS IS OF BULK AT MOST 1048576: true; the input reads as it did. -/
def sectorsBreakUptoRow : OpenClaim := { program := "ytkgafnfbnpbacaa", sum := "16549cad8ed5aa186b5f85f5a7f6b41cbbdc39b4950e5dcfae0a1e5522370ffc", func := "poste/postelaw3.SectorsBreak", spec := "sectorsBreak", apart := false, narrowed := true }
def SectorsBreakUptoSaid : Prop := sectorsBreakUptoRow.holds Try.pinned (OpenSpec.upto sectorsBreakSpec)

/-- 'postelaw3.SectorsLast', WHERE WHAT IT READS IS OF BULK AT MOST 1048576: true; the input reads as it did. -/
def sectorsLastUptoRow : OpenClaim := { program := "ytkgafnfbnpbacaa", sum := "16549cad8ed5aa186b5f85f5a7f6b41cbbdc39b4950e5dcfae0a1e5522370ffc", func := "poste/postelaw3.SectorsLast", spec := "sectorsLast", apart := false, narrowed := true }
def SectorsLastUptoSaid : Prop := sectorsLastUptoRow.holds Try.pinned (OpenSpec.upto sectorsLastSpec)

end Rows
end Go.Proofs.Ytkgafnfbnpbacaa
