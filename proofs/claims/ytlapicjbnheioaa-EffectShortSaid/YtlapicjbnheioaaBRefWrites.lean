/- What the document's own writer does: Int and Text. -/
import Derived.Test.YtlapicjbnheioaaBRefFlag
import Derived.Lib.AppendStr
namespace Go.Proofs.Ytlapicjbnheioaa
open Go.RowKit
theorem byte_and (x : Int) (V k : Nat) (h0 : 0 ≤ x) (h1 : x ≤ 18446744073709551615) (hV : x.toNat = V) : bits .and .u64 (x / 2 ^ (8 * k)) 255 % 256 = ((UInt8.ofNat (V / 256 ^ k % 256)).toNat : Int) := by
  obtain ⟨X, rfl⟩ := Int.eq_ofNat_of_zero_le h0
  rw [Int.toNat_natCast] at hV
  subst hV
  have e : ((X : Int) / 2 ^ (8 * k)) = ((X / 256 ^ k : Nat) : Int) := by
    have : ((2 : Int) ^ (8 * k)) = ((256 ^ k : Nat) : Int) := by
      rw [Int.pow_mul, Int.natCast_pow]; rfl
    rw [this]; rfl
  have hle : X / 256 ^ k ≤ X := Nat.div_le_self _ _
  have h255 := u64_and_nat (X / 256 ^ k) 255 (by omega) (by omega)
  rw [show ((255 : Nat) : Int) = 255 from rfl] at h255
  have hm : X / 256 ^ k &&& 255 = X / 256 ^ k % 256 := Nat.and_two_pow_sub_one_eq_mod _ 8
  rw [e, h255, hm, toNat_ofMod]
  omega
theorem and255 (n : Int) : bits .and .i64 n 255 = n % 256 := by
  have h : (BitVec.ofInt 64 255).toNat = 2 ^ 8 - 1 := by decide
  have key : (BitVec.ofInt 64 n &&& BitVec.ofInt 64 255).toNat = (n % ((2 ^ 64 : Nat) : Int)).toNat % 2 ^ 8 := by
    rw [BitVec.toNat_and, BitVec.toNat_ofInt, h, Nat.and_two_pow_sub_one_eq_mod]
  show IntKind.i64.wrap ((BitVec.ofInt 64 n &&& BitVec.ofInt 64 255).toNat : Nat) = n % 256
  rw [key, IntKind.wrap_i64]
  omega
def VRel (w : World) (N g : Nat) (bs : List UInt8) (V : Nat) (i : Value) (wr : World) : Prop :=
  ∃ k : Nat, k ≤ 8 ∧ i = .int .i64 (k : Int) ∧ VAt wr N g (bs ++ leN k V) ∧ Keep (Rf N) w wr
set_option maxRecDepth 4000 in
set_option maxHeartbeats 400000 in
theorem vInt (w : World) (N g : Nat) (bs : List UInt8) (n : Int) (hw : VAt w N g bs) (hn : bs.length ≤ 900000) :
    Calls Try.prog 26 #[.pointer (some ⟨g, 0, none⟩), .int .i64 n] w fun e w' => e = .returned (.tuple #[]) ∧ VAt w' N g (bs ++ encInt n) ∧ Keep (Rf N) w w' := by
  have HW := Lib.hid hw
  clear hw
  have hp := wrap_u64_pos n
  have hp2 : IntKind.u64.wrap n ≤ 18446744073709551615 := by rw [IntKind.wrap_u64]; omega
  have HU := Lib.hid (wrap_u64_nat n)
  go_enter Try.func26, Try.ntmps26
  go_wp2_with fail
  generalize IntKind.u64.wrap n = x at *
  go_loopw [5] (fun i wr => VRel w N g bs (u64 n) i wr) (fun i _ => 8 - (intOf i).toNat)
  case atStart => exact ⟨0, Nat.zero_le _, rfl, by simpa [leN] using HW.out, Keep.refl w⟩
  case round =>
    obtain ⟨k, hk, rfl, hR, hK⟩ := hrel
    by_cases hlt : k < 8
    · have hbl : (bs ++ leN k (u64 n)).length ≤ 900010 := by simp [leN_length]; omega
      have hsn : bs ++ leN (k + 1) (u64 n) = (bs ++ leN k (u64 n)) ++ [UInt8.ofNat (u64 n / 256 ^ k % 256)] := by rw [leN_snoc, List.append_assoc]
      generalize bs ++ leN k (u64 n) = bk at *
      have HSN := Lib.hid hsn
      clear hsn
      obtain ⟨v, hb, ho, hN⟩ := hR
      obtain ⟨A, c, rfl, _, _, _⟩ := own_rb ho
      have c0 := hb.cell 0
      simp at c0
      have hlt2 := hb.lt
      obtain ⟨A', n', c', W', hap, d0, f0, hR, hK2⟩ := ref_append hb ho hN (alloc_below wr (.cells (cellsB [UInt8.ofNat (u64 n / 256 ^ k % 256)]).toArray 5)) (rb_new wr [UInt8.ofNat (u64 n / 256 ^ k % 256)]) 1 (by simp; omega)
      have ec : (cellsB [UInt8.ofNat (u64 n / 256 ^ k % 256)]).toArray = #[.int .u8 (bits .and .u64 (x / 2 ^ (8 * k)) 255 % 256)] := by
        rw [byte_and x (u64 n) k hp hp2 HU.out]; rfl
      rw [ec] at hap
      have HR := Lib.hid hR
      have HK := Lib.hid (hK.trans hK2)
      clear ho hb hK hR hK2 ec
      go_wp2_with (at_builtin; refine wpList_append_run rfl (.tmp 16) (.tmp 24) 30 30 rfl _ _ rfl rfl hap ?_)
      go_roundw
      case rel => exact ⟨k + 1, by omega, by go_num, by rw [HSN.out]; exact HR.out, HK.out⟩
      case measure => simp [intOf]; omega
    · obtain rfl : k = 8 := by omega
      have HR := Lib.hid hR
      have HK := Lib.hid hK
      clear hR hK
      go_wp2
      go_end0
      exact ⟨rfl, HR.out, HK.out⟩
theorem ref_append_str {w : World} {N g : Nat} {bs : List UInt8} {v : Value} (hb : Blk w g 58 #[v]) (ho : w.ownsRow N 5 1 v bs.length (cellsB bs)) (hN : N ≤ g) (s : ByteArray) (hlen : bs.length + s.size ≤ 1000000) :
    ∃ A' n' c' W', (Builtin.append_ #[30, 9] 30 #[v, .string s]).run Try.prog w = .ok (.slice A' n' c') W' ∧ W'.cell? ⟨g, 0, none⟩ = some v ∧ W'.frozen? ⟨g, 0, none⟩ = false ∧
      VAt (W'.setCell ⟨g, 0, none⟩ (.slice A' n' c')) N g (bs ++ s.data.toList) ∧ Keep (Rf N) w (W'.setCell ⟨g, 0, none⟩ (.slice A' n' c')) := by
  obtain ⟨i0, hi, hz0, hz1, hz2⟩ := info_parts info5
  obtain ⟨v', W', hrun, ho', hg, _⟩ := Lib.run_append_own_string (P := Try.prog) w N 30 9 30 5 i0 Try.underlying30 Try.underlying9 hi hz0 hz1 hz2 v bs.length (cellsB bs) ho s (by unfold maxLen; omega) (by omega) (by have := hb.lt; omega)
  have ho2 : W'.ownsRow N 5 1 v' (bs.length + s.size) (cellsB (bs ++ s.data.toList)) := by rw [cellsB_append]; exact ho'
  obtain ⟨A', c', rfl, _, _, _⟩ := own_rb ho2
  have hgne : some g ≠ v.ownBlock := by
    rcases ho.2 with ⟨rfl, _⟩ | ⟨q, cap, cur, rfl, _, hh, _⟩
    · simp [Value.ownBlock]
    · intro e
      simp only [Value.ownBlock, Option.some.injEq] at e
      exact ne_of_types hb hh (by decide) e.symm
  have hbW' : Blk W' g 58 #[v] := (hg.block g hb.lt hgne).trans hb
  have k1 : Keep (Rf N) w W' := by
    refine (Keep.refl w).grown hg (fun q o hq hwo hK => ?_)
    rcases ho.2 with ⟨rfl, _⟩ | ⟨q', cap, cur, rfl, hNq, hh, _⟩
    · simp [Value.ownBlock] at hq
    · simp only [Value.ownBlock, Option.some.injEq] at hq
      subst hq
      rw [hh] at hwo
      injection hwo with hwo
      rcases hK with hK | ⟨cs, t, rfl, h5, _⟩
      · omega
      · injection hwo with _ h; exact h5 h.symm
  have k2 : Keep (Rf N) w (W'.setCell ⟨g, 0, none⟩ (.slice A' (bs.length + s.size) c')) := by
    refine k1.setCell (fun o ho2 hK => ?_) _
    rw [show w.heap[(⟨g, 0, none⟩ : Addr).block]? = some (.cells #[v] 58 (0, 0)) from hb] at ho2
    injection ho2 with ho2
    rcases hK with hK | ⟨cs, t, rfl, _, h31⟩
    · exact absurd hK (by show ¬ g < N; omega)
    · injection ho2 with _ h; exact h31 h.symm
  refine ⟨A', _, c', W', hrun, by rw [hbW'.cell]; rfl, hbW'.frozen 0, ⟨_, by simpa using hbW'.set_ 0 (.slice A' (bs.length + s.size) c'), ?_, hN⟩, k2⟩
  rw [List.length_append, show s.data.toList.length = s.size by simp]
  refine ⟨ho2.1, ?_⟩
  rcases ho2.2 with h | ⟨q, cap, cur, h1, h2, h3, h4⟩
  · exact .inl h
  · exact .inr ⟨q, cap, cur, h1, h2, (Below.heap_setCell W' ⟨g, 0, none⟩ _ q (ne_of_types hbW' h3 (by decide))).trans h3, h4⟩
theorem head_cells (m : Nat) (hm : m ≤ 9000) : (cellsB (leN 2 m)).toArray = #[.int .u8 (bits .and .i64 (m : Int) 255 % 256), .int .u8 ((m : Int) / 256)] := by
  rw [and255]
  have e0 : (m : Int) % 256 % 256 = ((UInt8.ofNat (m % 256)).toNat : Int) := by rw [toNat_ofMod]; omega
  have e1 : (m : Int) / 256 = ((UInt8.ofNat (m / 256 % 256)).toNat : Int) := by rw [toNat_ofMod]; omega
  rw [e0, e1]
  rfl
set_option maxRecDepth 4000 in
set_option maxHeartbeats 400000 in
theorem vText (w : World) (N g : Nat) (bs : List UInt8) (s : ByteArray) (hw : VAt w N g bs) (hn : bs.length ≤ 900000) (hs : s.size ≤ 9000) :
    Calls Try.prog 27 #[.pointer (some ⟨g, 0, none⟩), .string s] w fun e w' => e = .returned (.tuple #[]) ∧ VAt w' N g (bs ++ encText s.data.toList) ∧ Keep (Rf N) w w' := by
  have e : bs ++ encText s.data.toList = (bs ++ leN 2 s.size) ++ s.data.toList := by
    unfold encText; rw [List.take_of_length_le (by simp; omega)]; simp
  have E := Lib.hid e
  clear e
  obtain ⟨v, hb, ho, hN⟩ := hw
  obtain ⟨A, c, rfl, _, _, _⟩ := own_rb ho
  have c0 := hb.cell 0
  simp at c0
  have hlt := hb.lt
  obtain ⟨A', n', c', W', hap, d0, f0, hR, hK⟩ := ref_append hb ho hN (alloc_below w (.cells (cellsB (leN 2 s.size)).toArray 5)) (rb_new w (leN 2 s.size)) 2 (by rw [leN_length]; omega)
  rw [head_cells s.size hs, leN_length] at hap
  have hb1 : (bs ++ leN 2 s.size).length ≤ 900002 := by rw [List.length_append, leN_length]; omega
  generalize bs ++ leN 2 s.size = b1 at *
  have HK := Lib.hid hK
  obtain ⟨v1, hbb, ho1, _⟩ := hR
  have hv1 : v1 = .slice A' n' c' := by
    have h1 := hbb.cell 0
    rw [show (W'.setCell ⟨g, 0, none⟩ (.slice A' n' c')).cell? ⟨g, 0, none⟩ = some (.slice A' n' c') from World.cell?_setCell_same _ _ _ d0] at h1
    simp at h1
    exact h1.symm
  subst hv1
  obtain ⟨A2, n2, c2', W3, hap2, d2, f2, hR2, hK2⟩ := ref_append_str hbb ho1 hN s (by omega)
  have HR2 := Lib.hid hR2
  have HK2 := Lib.hid hK2
  clear hb ho hK hbb ho1 hR2 hK2
  go_enter Try.func27, Try.ntmps27
  go_wp2_with (first | (at_builtin; refine wpList_append_run rfl (.tmp 13) (.tmp 22) 30 30 rfl _ _ rfl rfl hap ?_) | (at_builtin; refine wpList_append_run rfl (.tmp 30) (.tmp 31) 30 9 rfl _ _ rfl rfl hap2 ?_))
  go_end0
  exact ⟨rfl, by rw [E.out]; exact HR2.out, HK.out.trans HK2.out⟩
end Go.Proofs.Ytlapicjbnheioaa

