/- A cursor's small calls: New, Seek; the next key. -/
import Derived.Test.YtocaaebmelhhnaaTreeNew
set_option maxRecDepth 4000
namespace Go.Proofs.Ytocaaebmelhhnaa
open Go.RowKit
/-- the next key -/
def nextK (k : ByteArray) : ByteArray := k ++ ⟨#[0]⟩
theorem order_next (k : ByteArray) (w : World) (h : k.size < maxLen) : Calls Try.prog 32 #[.string k] w fun e w' => e = .returned (.string (nextK k)) ∧ w = w' := by
  have h2 : k.size + 1 ≤ 9223372036854775807 := by unfold maxLen at h; omega
  go_enter Try.func32, Try.ntmps32
  go_wp2
  go_ret
  exact ⟨rfl, rfl⟩
/-- a cursor: its tree, and the least key that is not ahead of it -/
def Cur (w : World) (b bt : Nat) (k : ByteArray) : Prop := Blk w b 74 #[.pointer (some ⟨bt, 0, none⟩), .string k]
theorem cur_new (bt : Nat) (w : World) : Calls Try.prog 23 #[.pointer (some ⟨bt, 0, none⟩)] w fun e w' => e = .returned (.pointer (some ⟨w.heap.size, 0, none⟩)) ∧ Cur w' w.heap.size bt ⟨#[]⟩ ∧ Below w.heap.size w w' := by
  have hb := Blk.new w 74 #[.pointer (some ⟨bt, 0, none⟩), .string ⟨#[]⟩]
  have hk := alloc_below w (.cells #[.pointer (some ⟨bt, 0, none⟩), .string ⟨#[]⟩] 74)
  have HB := Lib.hid hb
  have HK := Lib.hid hk
  clear hb hk
  go_enter Try.func23, Try.ntmps23
  go_wp2
  go_ret
  exact ⟨rfl, HB.out, HK.out⟩
theorem cur_seek {w : World} {b bt : Nat} {k : ByteArray} (a : Cur w b bt k) (k2 : ByteArray) : Calls Try.prog 24 #[.pointer (some ⟨b, 0, none⟩), .string k2] w fun e w' => (∃ v, e = .returned v) ∧ Cur w' b bt k2 ∧ Keep (fun i _ => i ≠ b) w w' := by
  have hc := Blk.cell a 1
  have hf := Blk.frozen a 1
  simp only [List.getElem?_toArray, List.getElem?_cons_succ, List.getElem?_cons_zero] at hc
  have h2 : Cur (w.setCell ⟨b, 1, none⟩ (.string k2)) b bt k2 := Blk.set_ a 1 (.string k2)
  have hk : Keep (fun i _ => i ≠ b) w (w.setCell ⟨b, 1, none⟩ (.string k2)) := (Keep.refl w).setCell (p := ⟨b, 1, none⟩) (fun _ _ h => h rfl) _
  have H2 := Lib.hid h2
  have HK := Lib.hid hk
  clear h2 hk a
  go_enter Try.func24, Try.ntmps24
  go_wp2
  go_end0
  exact ⟨⟨_, rfl⟩, H2.out, HK.out⟩
end Go.Proofs.Ytocaaebmelhhnaa
