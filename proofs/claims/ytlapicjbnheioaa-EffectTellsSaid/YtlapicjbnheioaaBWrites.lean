/- What a writer's calls do: Int, Text, Flag. -/
import Derived.Test.YtlapicjbnheioaaBSplit
namespace Go.Proofs.Ytlapicjbnheioaa
open Go.RowKit

theorem Keep.setBut {g : Nat} {w w1 : World} (h : Keep (But g) w w1) (i : Nat) (v : Value) : Keep (But g) w (w1.setCell ⟨g, i, none⟩ v) := h.setCell (fun _ _ hk => hk rfl) v
theorem add_post {w : World} {g : Nat} {bs : List UInt8} {s : ByteArray} {l : List ByteArray} {q : Value} (hb : Blk w g 51 #[q, .int .i64 (bs.length : Int)]) (hp : Parts w l q) (hs : spell l = bs) {z : Int} (hz : z = (bs.length : Int) + (s.size : Int)) :
    WriterAt (((w.setCell ⟨g, 0, none⟩ (.pointer (some ⟨w.heap.size, 0, none⟩))).setCell ⟨g, 1, none⟩ (.int .i64 z)).alloc (.cells #[q, .string s] 75)) g (bs ++ s.data.toList) ∧
    Keep (But g) w (((w.setCell ⟨g, 0, none⟩ (.pointer (some ⟨w.heap.size, 0, none⟩))).setCell ⟨g, 1, none⟩ (.int .i64 z)).alloc (.cells #[q, .string s] 75)) := by
  have hk : Keep (But g) w (((w.setCell ⟨g, 0, none⟩ (.pointer (some ⟨w.heap.size, 0, none⟩))).setCell ⟨g, 1, none⟩ (.int .i64 z)).alloc (.cells #[q, .string s] 75)) :=
    (((Keep.refl w).setBut 0 _).setBut 1 _).alloc _
  have hlt := hb.lt
  have h1 := (((hb.set_ 0 (.pointer (some ⟨w.heap.size, 0, none⟩))).set_ 1 (.int .i64 z)).alloc (.cells #[q, .string s] 75))
  refine ⟨⟨s :: l, .pointer (some ⟨w.heap.size, 0, none⟩), ?_, ⟨_, q, rfl, ?_, hp.keep hk fun i cs hi => ne_of_types hb hi (by decide)⟩, by rw [spell, hs]⟩, hk⟩
  · have e : ((bs ++ s.data.toList).length : Int) = z := by rw [hz]; simp
    rw [e]
    simpa using h1
  · have h2 := Blk.new ((w.setCell ⟨g, 0, none⟩ (.pointer (some ⟨w.heap.size, 0, none⟩))).setCell ⟨g, 1, none⟩ (.int .i64 z)) 75 #[q, .string s]
    simpa [World.setCell] using h2
set_option maxHeartbeats 400000 in
theorem add_ (w : World) (g : Nat) (bs : List UInt8) (s : ByteArray) (hw : WriterAt w g bs) (hn : bs.length + s.size ≤ 1000000) :
    Calls Try.prog 45 #[.pointer (some ⟨g, 0, none⟩), .string s] w fun e w' => e = .returned (.tuple #[]) ∧ WriterAt w' g (bs ++ s.data.toList) ∧ Keep (But g) w w' := by
  obtain ⟨l, q, hb, hp, hs⟩ := hw
  obtain ⟨a, rfl⟩ := hp.ptr
  have c0 := hb.cell 0
  have c1 := hb.cell 1
  have f0 := hb.frozen 0
  have f1 := hb.frozen 1
  have hlt := hb.lt
  simp at c0 c1
  have HB := Lib.hid hb
  have HP := Lib.hid hp
  have HS := Lib.hid hs
  clear hb hp hs
  go_enter Try.func45, Try.ntmps45
  go_wp2
  go_end0
  have hP := add_post (s := s) HB.out HP.out HS.out rfl
  exact ⟨rfl, hP.1, hP.2⟩
theorem writer_below {w w' : World} {g : Nat} {bs : List UInt8} (h : WriterAt w g bs) (hb : Below w.heap.size w w') : WriterAt w' g bs :=
  h.keep (K := fun _ _ => True) (Keep.of_below hb) (fun _ => trivial) (fun _ _ _ => trivial)
theorem wrap_u64_nat (n : Int) : (IntKind.u64.wrap n).toNat = u64 n := by rw [IntKind.wrap_u64]; rfl
theorem wrap_u64_pos (n : Int) : 0 ≤ IntKind.u64.wrap n := by rw [IntKind.wrap_u64]; omega
set_option maxHeartbeats 400000 in
theorem wInt (w : World) (g : Nat) (bs : List UInt8) (n : Int) (hw : WriterAt w g bs) (hn : bs.length ≤ 900000) :
    Calls Try.prog 22 #[.pointer (some ⟨g, 0, none⟩), .int .i64 n] w fun e w' => e = .returned (.tuple #[]) ∧ WriterAt w' g (bs ++ encInt n) ∧ Keep (But g) w w' := by
  go_enter Try.func22, Try.ntmps22
  go_wp2_with fail
  refine (split_ _ _ (wrap_u64_pos n) (by omega) (by omega) _).mono ?_
  rintro e w1 ⟨rfl, hb1⟩
  rw [wrap_u64_nat]
  have H1 := Lib.hid hb1
  clear hb1
  go_wp2_with fail
  refine (add_ w1 g bs _ (writer_below hw H1.out) (by rw [show (ByteArray.mk (leN 8 (u64 n)).toArray).size = 8 from (leN_length 8 _)]; omega)).mono ?_
  rintro e w2 ⟨rfl, hw2, hk2⟩
  go_wp2
  go_end0
  exact ⟨rfl, hw2, (Keep.of_below H1.out).trans hk2⟩
set_option maxHeartbeats 400000 in
theorem wText (w : World) (g : Nat) (bs : List UInt8) (s : ByteArray) (hw : WriterAt w g bs) (hn : bs.length ≤ 900000) (hs : s.size ≤ 9223372036854775807) :
    Calls Try.prog 47 #[.pointer (some ⟨g, 0, none⟩), .string s] w fun e w' => e = .returned (.tuple #[]) ∧ WriterAt w' g (bs ++ encText s.data.toList) ∧ Keep (But g) w w' := by
  rcases Nat.lt_or_ge 65535 s.size with h | h
  · have e : encText s.data.toList = leN 2 65535 ++ (s.extract 0 65535).data.toList := by
      unfold encText
      rw [show (s.data.toList.take 65535).length = 65535 by rw [List.length_take]; simp; omega]
      simp
    have E := Lib.hid e
    have hq : (s.extract 0 65535).size ≤ 65535 := by rw [ByteArray.size_extract]; omega
    have hm : min 65535 s.size = 65535 := by omega
    have HM := Lib.hid hm
    clear e hm
    go_enter Try.func47, Try.ntmps47
    go_wp2_with fail
    refine (split_ _ _ (by omega) (by omega) (by omega) _).mono ?_
    rintro e w1 ⟨rfl, hb1⟩
    have H1 := Lib.hid hb1
    clear hb1
    rw [HM.out]
    generalize s.extract 0 65535 = t at *
    have hl : (ByteArray.mk (leN (Int.toNat 2) ((65535 : Nat) : Int).toNat).toArray).size ≤ 2 := by
      show (leN 2 65535).length ≤ 2
      rw [leN_length]; omega
    generalize hB : (ByteArray.mk (leN (Int.toNat 2) ((65535 : Nat) : Int).toNat).toArray) = C at hl ⊢
    have HC := Lib.hid hB
    clear hB
    go_wp2_with fail
    refine (add_ w1 g bs _ (writer_below hw H1.out) (by rw [ByteArray.size_append]; omega)).mono ?_
    rintro e w2 ⟨rfl, hw2, hk2⟩
    go_wp2
    go_end0
    refine ⟨rfl, ?_, (Keep.of_below H1.out).trans hk2⟩
    rw [E.out, show leN 2 65535 = C.data.toList by rw [← HC.out]; rfl]
    simpa using hw2
  · have e : encText s.data.toList = leN 2 s.size ++ s.data.toList := by
      unfold encText; rw [List.take_of_length_le (by simpa using h)]; simp
    have E := Lib.hid e
    clear e
    go_enter Try.func47, Try.ntmps47
    go_wp2_with fail
    refine (split_ _ _ (by omega) (by omega) (by omega) _).mono ?_
    rintro e w1 ⟨rfl, hb1⟩
    have H1 := Lib.hid hb1
    clear hb1
    have hl : (ByteArray.mk (leN (Int.toNat 2) (Int.toNat s.size)).toArray).size ≤ 2 := by
      show (leN 2 _).length ≤ 2
      rw [leN_length]; omega
    generalize hB : (ByteArray.mk (leN (Int.toNat 2) (Int.toNat s.size)).toArray) = C at hl ⊢
    have HC := Lib.hid hB
    clear hB
    go_wp2_with fail
    refine (add_ w1 g bs _ (writer_below hw H1.out) (by rw [ByteArray.size_append]; omega)).mono ?_
    rintro e w2 ⟨rfl, hw2, hk2⟩
    go_wp2
    go_end0
    refine ⟨rfl, ?_, (Keep.of_below H1.out).trans hk2⟩
    rw [E.out, show leN 2 s.size = C.data.toList by rw [← HC.out]; rfl]
    simpa using hw2
end Go.Proofs.Ytlapicjbnheioaa

