/- A change: plain, and as a value. -/
import Derived.Test.YtlapicjbnheioaaMg
set_option maxRecDepth 4000
namespace Go.Proofs.Ytlapicjbnheioaa
/-- a change -/
structure Ef where
  kind : Int
  obj : ByteArray
  key : ByteArray
  val : ByteArray
  n : Int
  limit : Int
  tried : Bool
  msg : Mg
def Ef.zero : Ef := ⟨0, ⟨#[]⟩, ⟨#[]⟩, ⟨#[]⟩, 0, 0, false, Mg.zero⟩
/-- its numbers are an int's -/
def Ef.fits (e : Ef) : Prop := (-9223372036854775808 ≤ e.kind ∧ e.kind ≤ 9223372036854775807) ∧ (-9223372036854775808 ≤ e.n ∧ e.n ≤ 9223372036854775807) ∧ (-9223372036854775808 ≤ e.limit ∧ e.limit ≤ 9223372036854775807) ∧ e.msg.fits
/-- its texts are not too long -/
def Ef.short (e : Ef) : Prop := e.obj.size ≤ 9000 ∧ e.key.size ≤ 9000 ∧ e.val.size ≤ 9000 ∧ e.msg.corr.size ≤ 9000 ∧ e.msg.body.size ≤ 9000
abbrev Ef.cells (e : Ef) : Array Value := #[.int .i64 e.kind, .string e.obj, .string e.key, .string e.val, .int .i64 e.n, .int .i64 e.limit, .bool e.tried, .int .i64 e.msg.id, .int .i64 e.msg.pri, .int .i64 e.msg.retry, .bool e.msg.claimed, .string e.msg.corr, .string e.msg.body]
abbrev Ef.val_ (e : Ef) : Value := .agg e.cells
end Go.Proofs.Ytlapicjbnheioaa
