/- What a writer's Flag does. What the document's own writer does. What the document's own writer's Flag does. What the document's own writer does: Int and Text. Messages as bytes: Bytes, the program's and the document's. -/
import Derived.Test.YtpggnklbgkdjcaaJ15
import Derived.Lib.AppendStr
import Derived.Test.YtpggnklbgkdjcaaJ07
set_option maxRecDepth 4000
namespace Go.Proofs.Ytpggnklbgkdjcaa
open Go.RowKit
set_option maxHeartbeats 400000 in
theorem wFlag (w : World) (g : Nat) (bs : List UInt8) (b : Bool) (hw : WriterAt w g bs) (hn : bs.length ≤ 900000) :
    Calls Try.prog 67 #[.pointer (some ⟨g, 0, none⟩), .bool b] w fun e w' => e = .returned (.tuple #[]) ∧ WriterAt w' g (bs ++ encFlag b) ∧ Keep (But g) w w' := by
  cases b
  all_goals
    go_enter Try.func67, Try.ntmps67
    go_wp2_with fail
    refine (add_ w g bs _ hw (by rw [show (ByteArray.mk #[_]).size = 1 from rfl]; omega)).mono ?_
    rintro e w2 ⟨rfl, hw2, hk2⟩
    go_wp2
    go_end0
    exact ⟨rfl, hw2, hk2⟩
end Go.Proofs.Ytpggnklbgkdjcaa
namespace Go.Proofs.Ytpggnklbgkdjcaa
open Go.RowKit
theorem blk_rb {w : World} {g B : Nat} {xs : List UInt8} (h : Blk w g 5 (cellsB xs).toArray) (hB : g < B) : RB w B (some ⟨g, 0, none⟩) xs.length xs :=
  ⟨rfl, fun _ => ⟨g, 0, rfl, hB, fun j x hx => by rw [h.cell]; simp [cellsB, hx]⟩⟩
/-- all blocks below N -/
abbrev Lo (N : Nat) : Nat → Obj → Prop := fun i _ => i < N
/-- blocks below N, and blocks that hold neither bytes nor the document's writer -/
def Rf (N : Nat) : Nat → Obj → Prop := fun i o => i < N ∨ ∃ cs t, o = .cells cs t (0, 0) ∧ t ≠ 5 ∧ t ≠ 49
/-- the document's writer at block g: bs was written -/
def VAt (w : World) (N g : Nat) (bs : List UInt8) : Prop :=
  ∃ v, Blk w g 49 #[v] ∧ w.ownsRow N 5 1 v bs.length (cellsB bs) ∧ N ≤ g
/-- bytes behind a row, as one run; what is behind it -/
theorem ref_append {w : World} {N g : Nat} {bs : List UInt8} {v : Value} (hb : Blk w g 49 #[v]) (ho : w.ownsRow N 5 1 v bs.length (cellsB bs)) (hN : N ≤ g) {W : World} (hW : Below w.heap.size w W) {B : Nat} {A : Option Addr} {xs : List UInt8}
    (hr : RB W B A xs.length xs) (c : Nat) (hlen : bs.length + xs.length ≤ 1000000) :
    ∃ A' n' c' W', (Builtin.append_ #[27, 27] 27 #[v, .slice A xs.length c]).run Try.prog W = .ok (.slice A' n' c') W' ∧ W'.cell? ⟨g, 0, none⟩ = some v ∧ W'.frozen? ⟨g, 0, none⟩ = false ∧
      VAt (W'.setCell ⟨g, 0, none⟩ (.slice A' n' c')) N g (bs ++ xs) ∧ Keep (Rf N) w (W'.setCell ⟨g, 0, none⟩ (.slice A' n' c')) := by
  have hNw : N ≤ w.heap.size := by have := hb.lt; omega
  have how : W.ownsRow N 5 1 v bs.length (cellsB bs) := by
    refine ⟨ho.1, ?_⟩
    rcases ho.2 with h | ⟨q, cap, cur, h1, h2, h3, h4⟩
    · exact .inl h
    · exact .inr ⟨q, cap, cur, h1, h2, (hW.block q (lt_of_some h3)).trans h3, h4⟩
  obtain ⟨v', W', hrun, ho', hg, hat⟩ := append_rb how hr c hlen (Nat.le_trans hNw hW.size)
  obtain ⟨A', c', rfl, _, _, _⟩ := own_rb ho'
  have hbW : Blk W g 49 #[v] := hb.below hW hb.lt
  have hgne : some g ≠ v.ownBlock := by
    rcases ho.2 with ⟨rfl, _⟩ | ⟨q, cap, cur, rfl, _, hh, _⟩
    · simp [Value.ownBlock]
    · intro e
      simp only [Value.ownBlock, Option.some.injEq] at e
      exact ne_of_types hb hh (by decide) e.symm
  have hbW' : Blk W' g 49 #[v] := (hg.block g hbW.lt hgne).trans hbW
  have k1 : Keep (Rf N) w W' := by
    refine (Keep.of_below hW).grown hg (fun q o hq hwo hK => ?_)
    rcases ho.2 with ⟨rfl, _⟩ | ⟨q', cap, cur, rfl, hNq, hh, _⟩
    · simp [Value.ownBlock] at hq
    · simp only [Value.ownBlock, Option.some.injEq] at hq
      subst hq
      rw [hh] at hwo
      injection hwo with hwo
      rcases hK with hK | ⟨cs, t, rfl, h5, _⟩
      · omega
      · injection hwo with _ h; exact h5 h.symm
  have k2 : Keep (Rf N) w (W'.setCell ⟨g, 0, none⟩ (.slice A' (bs.length + xs.length) c')) := by
    refine k1.setCell (fun o ho2 hK => ?_) _
    rw [show w.heap[(⟨g, 0, none⟩ : Addr).block]? = some (.cells #[v] 49 (0, 0)) from hb] at ho2
    injection ho2 with ho2
    rcases hK with hK | ⟨cs, t, rfl, _, h31⟩
    · exact absurd hK (by show ¬ g < N; omega)
    · injection ho2 with _ h; exact h31 h.symm
  refine ⟨A', _, c', W', hrun, by rw [hbW'.cell]; rfl, hbW'.frozen 0, ⟨_, by simpa using hbW'.set_ 0 (.slice A' (bs.length + xs.length) c'), ?_, hN⟩, k2⟩
  rw [List.length_append]
  refine ⟨ho'.1, ?_⟩
  rcases ho'.2 with h | ⟨q, cap, cur, h1, h2, h3, h4⟩
  · exact .inl h
  · exact .inr ⟨q, cap, cur, h1, h2, (Below.heap_setCell W' ⟨g, 0, none⟩ _ q (ne_of_types hbW' h3 (by decide))).trans h3, h4⟩
theorem rb_new (w : World) (xs : List UInt8) : RB (w.alloc (.cells (cellsB xs).toArray 5)) (w.heap.size + 1) (some ⟨w.heap.size, 0, none⟩) xs.length xs := blk_rb (Blk.new w 5 _) (by omega)
end Go.Proofs.Ytpggnklbgkdjcaa
namespace Go.Proofs.Ytpggnklbgkdjcaa
open Go.RowKit
set_option maxHeartbeats 400000 in
theorem vFlag (w : World) (N g : Nat) (bs : List UInt8) (b : Bool) (hw : VAt w N g bs) (hn : bs.length ≤ 900000) :
    Calls Try.prog 43 #[.pointer (some ⟨g, 0, none⟩), .bool b] w fun e w' => e = .returned (.tuple #[]) ∧ VAt w' N g (bs ++ encFlag b) ∧ Keep (Rf N) w w' := by
  obtain ⟨v, hb, ho, hN⟩ := hw
  obtain ⟨A, c, rfl, _, _, _⟩ := own_rb ho
  have c0 := hb.cell 0
  simp at c0
  have hlt := hb.lt
  obtain ⟨A', n', c', W', hap, d0, f0, hR, hK⟩ := ref_append hb ho hN (alloc_below w (.cells (cellsB (encFlag b)).toArray 5)) (rb_new w (encFlag b)) 1 (by rw [encFlag_len]; omega)
  have HR := Lib.hid hR
  have HK := Lib.hid hK
  clear hb ho hR hK
  cases b
  · have ec : (cellsB (encFlag false)).toArray = #[.int .u8 0] := rfl
    rw [ec] at hap
    go_enter Try.func43, Try.ntmps43
    go_wp2_with (at_builtin; refine wpList_append_run rfl (.tmp 10) (.tmp 12) 27 27 rfl _ _ rfl rfl hap ?_)
    go_end0
    exact ⟨rfl, HR.out, HK.out⟩
  · have ec : (cellsB (encFlag true)).toArray = #[.int .u8 1] := rfl
    rw [ec] at hap
    go_enter Try.func43, Try.ntmps43
    go_wp2_with (at_builtin; refine wpList_append_run rfl (.tmp 10) (.tmp 12) 27 27 rfl _ _ rfl rfl hap ?_)
    go_end0
    exact ⟨rfl, HR.out, HK.out⟩
end Go.Proofs.Ytpggnklbgkdjcaa

namespace Go.Proofs.Ytpggnklbgkdjcaa
open Go.RowKit
theorem byte_and (x : Int) (V k : Nat) (h0 : 0 ≤ x) (h1 : x ≤ 18446744073709551615) (hV : x.toNat = V) : bits .and .u64 (x / 2 ^ (8 * k)) 255 % 256 = ((UInt8.ofNat (V / 256 ^ k % 256)).toNat : Int) := by
  obtain ⟨X, rfl⟩ := Int.eq_ofNat_of_zero_le h0
  rw [Int.toNat_natCast] at hV
  subst hV
  have e : ((X : Int) / 2 ^ (8 * k)) = ((X / 256 ^ k : Nat) : Int) := by
    have : ((2 : Int) ^ (8 * k)) = ((256 ^ k : Nat) : Int) := by
      rw [Int.pow_mul, Int.natCast_pow]; rfl
    rw [this]; rfl
  have hle : X / 256 ^ k ≤ X := Nat.div_le_self _ _
  have h255 := u64_and_nat (X / 256 ^ k) 255 (by omega) (by omega)
  rw [show ((255 : Nat) : Int) = 255 from rfl] at h255
  have hm : X / 256 ^ k &&& 255 = X / 256 ^ k % 256 := Nat.and_two_pow_sub_one_eq_mod _ 8
  rw [e, h255, hm, toNat_ofMod]
  omega
theorem and255 (n : Int) : bits .and .i64 n 255 = n % 256 := by
  have h : (BitVec.ofInt 64 255).toNat = 2 ^ 8 - 1 := by decide
  have key : (BitVec.ofInt 64 n &&& BitVec.ofInt 64 255).toNat = (n % ((2 ^ 64 : Nat) : Int)).toNat % 2 ^ 8 := by
    rw [BitVec.toNat_and, BitVec.toNat_ofInt, h, Nat.and_two_pow_sub_one_eq_mod]
  show IntKind.i64.wrap ((BitVec.ofInt 64 n &&& BitVec.ofInt 64 255).toNat : Nat) = n % 256
  rw [key, IntKind.wrap_i64]
  omega
def VRel (w : World) (N g : Nat) (bs : List UInt8) (V : Nat) (i : Value) (wr : World) : Prop :=
  ∃ k : Nat, k ≤ 8 ∧ i = .int .i64 (k : Int) ∧ VAt wr N g (bs ++ leN k V) ∧ Keep (Rf N) w wr
set_option maxRecDepth 4000 in
set_option maxHeartbeats 400000 in
theorem vInt (w : World) (N g : Nat) (bs : List UInt8) (n : Int) (hw : VAt w N g bs) (hn : bs.length ≤ 900000) :
    Calls Try.prog 19 #[.pointer (some ⟨g, 0, none⟩), .int .i64 n] w fun e w' => e = .returned (.tuple #[]) ∧ VAt w' N g (bs ++ encInt n) ∧ Keep (Rf N) w w' := by
  have HW := Lib.hid hw
  clear hw
  have hp := wrap_u64_pos n
  have hp2 : IntKind.u64.wrap n ≤ 18446744073709551615 := by rw [IntKind.wrap_u64]; omega
  have HU := Lib.hid (wrap_u64_nat n)
  go_enter Try.func19, Try.ntmps19
  go_wp2_with fail
  generalize IntKind.u64.wrap n = x at *
  go_loopw [5] (fun i wr => VRel w N g bs (u64 n) i wr) (fun i _ => 8 - (intOf i).toNat)
  case atStart => exact ⟨0, Nat.zero_le _, rfl, by simpa [leN] using HW.out, Keep.refl w⟩
  case round =>
    obtain ⟨k, hk, rfl, hR, hK⟩ := hrel
    by_cases hlt : k < 8
    · have hbl : (bs ++ leN k (u64 n)).length ≤ 900010 := by simp [leN_length]; omega
      have hsn : bs ++ leN (k + 1) (u64 n) = (bs ++ leN k (u64 n)) ++ [UInt8.ofNat (u64 n / 256 ^ k % 256)] := by rw [leN_snoc, List.append_assoc]
      generalize bs ++ leN k (u64 n) = bk at *
      have HSN := Lib.hid hsn
      clear hsn
      obtain ⟨v, hb, ho, hN⟩ := hR
      obtain ⟨A, c, rfl, _, _, _⟩ := own_rb ho
      have c0 := hb.cell 0
      simp at c0
      have hlt2 := hb.lt
      obtain ⟨A', n', c', W', hap, d0, f0, hR, hK2⟩ := ref_append hb ho hN (alloc_below wr (.cells (cellsB [UInt8.ofNat (u64 n / 256 ^ k % 256)]).toArray 5)) (rb_new wr [UInt8.ofNat (u64 n / 256 ^ k % 256)]) 1 (by simp; omega)
      have ec : (cellsB [UInt8.ofNat (u64 n / 256 ^ k % 256)]).toArray = #[.int .u8 (bits .and .u64 (x / 2 ^ (8 * k)) 255 % 256)] := by
        rw [byte_and x (u64 n) k hp hp2 HU.out]; rfl
      rw [ec] at hap
      have HR := Lib.hid hR
      have HK := Lib.hid (hK.trans hK2)
      clear ho hb hK hR hK2 ec
      go_wp2_with (at_builtin; refine wpList_append_run rfl (.tmp 16) (.tmp 24) 27 27 rfl _ _ rfl rfl hap ?_)
      go_roundw
      case rel => exact ⟨k + 1, by omega, by go_num, by rw [HSN.out]; exact HR.out, HK.out⟩
      case measure => simp [intOf]; omega
    · obtain rfl : k = 8 := by omega
      have HR := Lib.hid hR
      have HK := Lib.hid hK
      clear hR hK
      go_wp2
      go_end0
      exact ⟨rfl, HR.out, HK.out⟩
theorem ref_append_str {w : World} {N g : Nat} {bs : List UInt8} {v : Value} (hb : Blk w g 49 #[v]) (ho : w.ownsRow N 5 1 v bs.length (cellsB bs)) (hN : N ≤ g) (s : ByteArray) (hlen : bs.length + s.size ≤ 1000000) :
    ∃ A' n' c' W', (Builtin.append_ #[27, 9] 27 #[v, .string s]).run Try.prog w = .ok (.slice A' n' c') W' ∧ W'.cell? ⟨g, 0, none⟩ = some v ∧ W'.frozen? ⟨g, 0, none⟩ = false ∧
      VAt (W'.setCell ⟨g, 0, none⟩ (.slice A' n' c')) N g (bs ++ s.data.toList) ∧ Keep (Rf N) w (W'.setCell ⟨g, 0, none⟩ (.slice A' n' c')) := by
  obtain ⟨i0, hi, hz0, hz1, hz2⟩ := info_parts info5
  obtain ⟨v', W', hrun, ho', hg, _⟩ := Lib.run_append_own_string (P := Try.prog) w N 27 9 27 5 i0 Try.underlying27 Try.underlying9 hi hz0 hz1 hz2 v bs.length (cellsB bs) ho s (by unfold maxLen; omega) (by omega) (by have := hb.lt; omega)
  have ho2 : W'.ownsRow N 5 1 v' (bs.length + s.size) (cellsB (bs ++ s.data.toList)) := by rw [cellsB_append]; exact ho'
  obtain ⟨A', c', rfl, _, _, _⟩ := own_rb ho2
  have hgne : some g ≠ v.ownBlock := by
    rcases ho.2 with ⟨rfl, _⟩ | ⟨q, cap, cur, rfl, _, hh, _⟩
    · simp [Value.ownBlock]
    · intro e
      simp only [Value.ownBlock, Option.some.injEq] at e
      exact ne_of_types hb hh (by decide) e.symm
  have hbW' : Blk W' g 49 #[v] := (hg.block g hb.lt hgne).trans hb
  have k1 : Keep (Rf N) w W' := by
    refine (Keep.refl w).grown hg (fun q o hq hwo hK => ?_)
    rcases ho.2 with ⟨rfl, _⟩ | ⟨q', cap, cur, rfl, hNq, hh, _⟩
    · simp [Value.ownBlock] at hq
    · simp only [Value.ownBlock, Option.some.injEq] at hq
      subst hq
      rw [hh] at hwo
      injection hwo with hwo
      rcases hK with hK | ⟨cs, t, rfl, h5, _⟩
      · omega
      · injection hwo with _ h; exact h5 h.symm
  have k2 : Keep (Rf N) w (W'.setCell ⟨g, 0, none⟩ (.slice A' (bs.length + s.size) c')) := by
    refine k1.setCell (fun o ho2 hK => ?_) _
    rw [show w.heap[(⟨g, 0, none⟩ : Addr).block]? = some (.cells #[v] 49 (0, 0)) from hb] at ho2
    injection ho2 with ho2
    rcases hK with hK | ⟨cs, t, rfl, _, h31⟩
    · exact absurd hK (by show ¬ g < N; omega)
    · injection ho2 with _ h; exact h31 h.symm
  refine ⟨A', _, c', W', hrun, by rw [hbW'.cell]; rfl, hbW'.frozen 0, ⟨_, by simpa using hbW'.set_ 0 (.slice A' (bs.length + s.size) c'), ?_, hN⟩, k2⟩
  rw [List.length_append, show s.data.toList.length = s.size by simp]
  refine ⟨ho2.1, ?_⟩
  rcases ho2.2 with h | ⟨q, cap, cur, h1, h2, h3, h4⟩
  · exact .inl h
  · exact .inr ⟨q, cap, cur, h1, h2, (Below.heap_setCell W' ⟨g, 0, none⟩ _ q (ne_of_types hbW' h3 (by decide))).trans h3, h4⟩
theorem head_cells (m : Nat) (hm : m ≤ 9000) : (cellsB (leN 2 m)).toArray = #[.int .u8 (bits .and .i64 (m : Int) 255 % 256), .int .u8 ((m : Int) / 256)] := by
  rw [and255]
  have e0 : (m : Int) % 256 % 256 = ((UInt8.ofNat (m % 256)).toNat : Int) := by rw [toNat_ofMod]; omega
  have e1 : (m : Int) / 256 = ((UInt8.ofNat (m / 256 % 256)).toNat : Int) := by rw [toNat_ofMod]; omega
  rw [e0, e1]
  rfl
set_option maxRecDepth 4000 in
set_option maxHeartbeats 400000 in
theorem vText (w : World) (N g : Nat) (bs : List UInt8) (s : ByteArray) (hw : VAt w N g bs) (hn : bs.length ≤ 900000) (hs : s.size ≤ 9000) :
    Calls Try.prog 20 #[.pointer (some ⟨g, 0, none⟩), .string s] w fun e w' => e = .returned (.tuple #[]) ∧ VAt w' N g (bs ++ encText s.data.toList) ∧ Keep (Rf N) w w' := by
  have e : bs ++ encText s.data.toList = (bs ++ leN 2 s.size) ++ s.data.toList := by
    unfold encText; rw [List.take_of_length_le (by simp; omega)]; simp
  have E := Lib.hid e
  clear e
  obtain ⟨v, hb, ho, hN⟩ := hw
  obtain ⟨A, c, rfl, _, _, _⟩ := own_rb ho
  have c0 := hb.cell 0
  simp at c0
  have hlt := hb.lt
  obtain ⟨A', n', c', W', hap, d0, f0, hR, hK⟩ := ref_append hb ho hN (alloc_below w (.cells (cellsB (leN 2 s.size)).toArray 5)) (rb_new w (leN 2 s.size)) 2 (by rw [leN_length]; omega)
  rw [head_cells s.size hs, leN_length] at hap
  have hb1 : (bs ++ leN 2 s.size).length ≤ 900002 := by rw [List.length_append, leN_length]; omega
  generalize bs ++ leN 2 s.size = b1 at *
  have HK := Lib.hid hK
  obtain ⟨v1, hbb, ho1, _⟩ := hR
  have hv1 : v1 = .slice A' n' c' := by
    have h1 := hbb.cell 0
    rw [show (W'.setCell ⟨g, 0, none⟩ (.slice A' n' c')).cell? ⟨g, 0, none⟩ = some (.slice A' n' c') from World.cell?_setCell_same _ _ _ d0] at h1
    simp at h1
    exact h1.symm
  subst hv1
  obtain ⟨A2, n2, c2', W3, hap2, d2, f2, hR2, hK2⟩ := ref_append_str hbb ho1 hN s (by omega)
  have HR2 := Lib.hid hR2
  have HK2 := Lib.hid hK2
  clear hb ho hK hbb ho1 hR2 hK2
  go_enter Try.func20, Try.ntmps20
  go_wp2_with (first | (at_builtin; refine wpList_append_run rfl (.tmp 13) (.tmp 22) 27 27 rfl _ _ rfl rfl hap ?_) | (at_builtin; refine wpList_append_run rfl (.tmp 30) (.tmp 31) 27 9 rfl _ _ rfl rfl hap2 ?_))
  go_end0
  exact ⟨rfl, by rw [E.out]; exact HR2.out, HK.out.trans HK2.out⟩
end Go.Proofs.Ytpggnklbgkdjcaa

namespace Go.Proofs.Ytpggnklbgkdjcaa
open Go.RowKit
theorem writer_new (w : World) : WriterAt (w.alloc (.cells #[.pointer none, .int .i64 0] 42)) w.heap.size [] := ⟨[], .pointer none, Blk.new w 42 _, rfl, rfl⟩
theorem Keep.lo {N g : Nat} {a b : World} (h : Keep (But g) a b) (hN : N ≤ g) : Keep (Lo N) a b := h.mono fun i _ _ hi => by simp only [But, Lo] at *; omega
theorem Keep.end_ {a b : World} (h : Keep (Lo a.heap.size) a b) : Below a.heap.size a b := h.below (Nat.le_refl _) fun _ _ hi => hi
/-- a boxed message, and a writer behind it -/
structure WM (w : World) (m : Mg) (bs : List UInt8) (wk : World) : Prop where
  lo : Keep (Lo w.heap.size) w wk
  box : Blk wk w.heap.size 55 m.cells
  wr : WriterAt wk (w.heap.size + 1) bs
section
variable {w wk w' : World} {m : Mg} {bs bs' : List UInt8}
theorem WM.first (w : World) (m : Mg) : WM w m [] ((w.alloc (.cells m.cells 55)).alloc (.cells #[.pointer none, .int .i64 0] 42)) := by
  have h1 := alloc_below w (.cells m.cells 55)
  refine ⟨Keep.of_below (h1.alloc h1.size _), (Blk.new w 55 m.cells).alloc _, ?_⟩
  have := writer_new (w.alloc (.cells m.cells 55))
  rw [show (w.alloc (.cells m.cells 55)).heap.size = w.heap.size + 1 by simp] at this
  exact this
theorem WM.next (h : WM w m bs wk) (hw : WriterAt w' (w.heap.size + 1) bs') (hk : Keep (But (w.heap.size + 1)) wk w') : WM w m bs' w' :=
  ⟨h.lo.trans (hk.lo (by omega)), h.box.keep hk (by simp only [But]; omega), hw⟩
end
set_option maxHeartbeats 1000000 in
theorem mbytes_ (m : Mg) (hc : m.corr.size ≤ 9000) (hb : m.body.size ≤ 9000) (w : World) : Calls Try.prog 42 #[m.val] w
    fun e w' => ∃ g, e = .returned (.slice (some ⟨g, 0, none⟩) m.bytes.length m.bytes.length) ∧ Blk w' g 5 (cellsB m.bytes).toArray ∧ w.heap.size ≤ g ∧ Below w.heap.size w w' := by
  obtain ⟨z, hz⟩ : ∃ z, m.bytes = z := ⟨_, rfl⟩
  have HM := Lib.hid (WM.first w m)
  have HZ := Lib.hid hz
  have hl := m.onto_len [] hc hb
  rw [hz]
  clear hz
  have hlz : z.length ≤ 20000 := by
    have h1 : m.onto [] = z := HZ.out
    have h2 : ([] : List UInt8).length = 0 := rfl
    rw [h1] at hl
    omega
  have HLZ := Lib.hid hlz
  clear hl hlz
  simp only [Mg.bytes, Mg.onto] at HZ
  obtain ⟨i, p, r, cl, c, b⟩ := m
  simp only at hc hb HZ
  have hlc : (encText c.data.toList).length ≤ 9002 := by
    have h1 := List.length_take_le' 65535 c.data.toList
    have h2 : c.data.toList.length = c.size := rfl
    rw [encText_len]
    omega
  have HLC := Lib.hid hlc
  clear hlc
  go_enter Try.func42, Try.ntmps42
  go_wp2_with fail
  simp only [Mg.cells] at HM
  refine (wInt _ _ _ i HM.out.wr (by simp)).mono ?_
  rintro e w1 ⟨rfl, hw1, hk1⟩
  have H1 := Lib.hid (HM.out.next hw1 hk1)
  have q0 := H1.out.box.cell 1
  clear hw1 hk1 HM
  go_wp2_with fail
  refine (wInt _ _ _ p H1.out.wr (by simp [encInt_len])).mono ?_
  rintro e w2 ⟨rfl, hw2, hk2⟩
  have H2 := Lib.hid (H1.out.next hw2 hk2)
  have q0 := H2.out.box.cell 2
  clear hw2 hk2 H1
  go_wp2_with fail
  refine (wInt _ _ _ r H2.out.wr (by simp [encInt_len])).mono ?_
  rintro e w3 ⟨rfl, hw3, hk3⟩
  have H3 := Lib.hid (H2.out.next hw3 hk3)
  have q0 := H3.out.box.cell 3
  clear hw3 hk3 H2
  go_wp2_with fail
  refine (wFlag _ _ _ cl H3.out.wr (by simp [encInt_len])).mono ?_
  rintro e w4 ⟨rfl, hw4, hk4⟩
  have H4 := Lib.hid (H3.out.next hw4 hk4)
  have q0 := H4.out.box.cell 4
  clear hw4 hk4 H3
  go_wp2_with fail
  refine (wText _ _ _ c H4.out.wr (by simp [encInt_len, encFlag_len]) (by omega)).mono ?_
  rintro e w5 ⟨rfl, hw5, hk5⟩
  have H5 := Lib.hid (H4.out.next hw5 hk5)
  have q0 := H5.out.box.cell 5
  clear hw5 hk5 H4
  go_wp2_with fail
  refine (wText _ _ _ b H5.out.wr (by have := HLC.out; simp [encInt_len, encFlag_len]; omega) (by omega)).mono ?_
  rintro e w6 ⟨rfl, hw6, hk6⟩
  have H6 := Lib.hid (H5.out.next hw6 hk6)
  clear hw6 hk6 H5 q0
  go_wp2_with fail
  rw [HZ.out] at H6
  refine (wBytes _ _ _ H6.out.wr (by have := HLZ.out; omega)).mono ?_
  rintro e w7 ⟨rfl, hb7, hB7⟩
  have HB7 := Lib.hid hb7
  have HS := Lib.hid H6.out.lo.size
  have HE := Lib.hid ((H6.out.lo.trans (Keep.of_below hB7)).end_)
  clear hb7 hB7 H6
  go_wp2_with fail
  go_ret
  exact ⟨w6.heap.size, rfl, HB7.out, HS.out, HE.out⟩
/-- the document's writer, a new one; beside what else is done -/
theorem vat_new (w : World) (N : Nat) (hN : N ≤ w.heap.size) : VAt (w.alloc (.cells #[.slice none 0 0] 49)) N w.heap.size [] :=
  ⟨.slice none 0 0, Blk.new w 49 _, ⟨rfl, .inl ⟨rfl, rfl⟩⟩, hN⟩
theorem VAt.below {w w' : World} {N g : Nat} {bs : List UInt8} (h : VAt w N g bs) (k : Below w.heap.size w w') : VAt w' N g bs := by
  obtain ⟨v, hb, ho, hN⟩ := h
  refine ⟨v, hb.below k hb.lt, ⟨ho.1, ?_⟩, hN⟩
  rcases ho.2 with h | ⟨q, cap, cur, h1, h2, h3, h4⟩
  · exact .inl h
  · exact .inr ⟨q, cap, cur, h1, h2, (k.block q (lt_of_some h3)).trans h3, h4⟩
/-- a boxed message, and the document's writer beside it -/
structure VM (w : World) (N g : Nat) (m : Mg) (bs : List UInt8) (wk : World) : Prop where
  keep : Keep (Rf N) w wk
  box : Blk wk w.heap.size 55 m.cells
  wr : VAt wk N g bs
section
variable {w wk w' : World} {N g : Nat} {m : Mg} {bs bs' : List UInt8}
theorem VM.first (h : VAt w N g bs) (m : Mg) : VM w N g m bs (w.alloc (.cells m.cells 55)) :=
  ⟨Keep.of_below (alloc_below w _), Blk.new w _ _, h.below (alloc_below w _)⟩
theorem VM.next (h : VM w N g m bs wk) (hw : VAt w' N g bs') (hk : Keep (Rf N) wk w') : VM w N g m bs' w' :=
  ⟨h.keep.trans hk, h.box.keep hk (.inr ⟨_, _, rfl, by decide, by decide⟩), hw⟩
end
set_option maxHeartbeats 1000000 in
theorem putMsg_ (m : Mg) (hc : m.corr.size ≤ 9000) (hb : m.body.size ≤ 9000) (bs : List UInt8) (hbs : bs.length ≤ 800000) (w : World) (N g : Nat) (h : VAt w N g bs) : Calls Try.prog 21 #[.pointer (some ⟨g, 0, none⟩), m.val] w
    fun e w' => e = .returned (.tuple #[]) ∧ VAt w' N g (m.onto bs) ∧ Keep (Rf N) w w' := by
  obtain ⟨z, hz⟩ : ∃ z, m.onto bs = z := ⟨_, rfl⟩
  have HM := Lib.hid (VM.first h m)
  have HZ := Lib.hid hz
  rw [hz]
  clear hz h
  simp only [Mg.onto] at HZ
  obtain ⟨i, p, r, cl, c, b⟩ := m
  simp only at hc hb HZ
  have hlc : (encText c.data.toList).length ≤ 9002 := by
    have h1 := List.length_take_le' 65535 c.data.toList
    have h2 : c.data.toList.length = c.size := rfl
    rw [encText_len]
    omega
  have HLC := Lib.hid hlc
  clear hlc
  go_enter Try.func21, Try.ntmps21
  go_wp2_with fail
  simp only [Mg.cells] at HM
  refine (vInt _ _ _ _ i HM.out.wr (by omega)).mono ?_
  rintro e w1 ⟨rfl, hw1, hk1⟩
  have H1 := Lib.hid (HM.out.next hw1 hk1)
  have q0 := H1.out.box.cell 1
  clear hw1 hk1 HM
  go_wp2_with fail
  refine (vInt _ _ _ _ p H1.out.wr (by simp [encInt_len]; omega)).mono ?_
  rintro e w2 ⟨rfl, hw2, hk2⟩
  have H2 := Lib.hid (H1.out.next hw2 hk2)
  have q0 := H2.out.box.cell 2
  clear hw2 hk2 H1
  go_wp2_with fail
  refine (vInt _ _ _ _ r H2.out.wr (by simp [encInt_len]; omega)).mono ?_
  rintro e w3 ⟨rfl, hw3, hk3⟩
  have H3 := Lib.hid (H2.out.next hw3 hk3)
  have q0 := H3.out.box.cell 3
  clear hw3 hk3 H2
  go_wp2_with fail
  refine (vFlag _ _ _ _ cl H3.out.wr (by simp [encInt_len]; omega)).mono ?_
  rintro e w4 ⟨rfl, hw4, hk4⟩
  have H4 := Lib.hid (H3.out.next hw4 hk4)
  have q0 := H4.out.box.cell 4
  clear hw4 hk4 H3
  go_wp2_with fail
  refine (vText _ _ _ _ c H4.out.wr (by simp [encInt_len, encFlag_len]; omega) (by omega)).mono ?_
  rintro e w5 ⟨rfl, hw5, hk5⟩
  have H5 := Lib.hid (H4.out.next hw5 hk5)
  have q0 := H5.out.box.cell 5
  clear hw5 hk5 H4
  go_wp2_with fail
  refine (vText _ _ _ _ b H5.out.wr (by have := HLC.out; simp [encInt_len, encFlag_len]; omega) (by omega)).mono ?_
  rintro e w6 ⟨rfl, hw6, hk6⟩
  have H6 := Lib.hid (H5.out.next hw6 hk6)
  clear hw6 hk6 H5 q0
  rw [HZ.out] at H6
  go_wp2_with fail
  go_end0
  exact ⟨rfl, H6.out.wr, H6.out.keep⟩
end Go.Proofs.Ytpggnklbgkdjcaa
