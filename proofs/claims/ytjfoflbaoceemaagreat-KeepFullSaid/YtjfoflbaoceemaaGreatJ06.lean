/- . . . . . . -/
import Derived.Test.YtjfoflbaoceemaaGreatJ05
import Derived.Deep.LoopGhost
import Derived.Deep.RegionLaw
import Derived.Lib.LazyBuf
import Derived.WalkKit
import Derived.WalkSpells
import Derived.Maps.AppendAt
import Derived.Laws.BitsAllLaws
set_option maxRecDepth 4000
namespace Go.Proofs.YtjfoflbaoceemaaGreat
open Go.RowKit

theorem Keep.setBut {g : Nat} {w w1 : World} (h : Keep (But g) w w1) (i : Nat) (v : Value) : Keep (But g) w (w1.setCell ⟨g, i, none⟩ v) := h.setCell (fun _ _ hk => hk rfl) v
theorem add_post {w : World} {g : Nat} {bs : List UInt8} {s : ByteArray} {l : List ByteArray} {q : Value} (hb : Blk w g 151 #[q, .int .i64 (bs.length : Int)]) (hp : Parts w l q) (hs : spell l = bs) {z : Int} (hz : z = (bs.length : Int) + (s.size : Int)) :
    WriterAt (((w.setCell ⟨g, 0, none⟩ (.pointer (some ⟨w.heap.size, 0, none⟩))).setCell ⟨g, 1, none⟩ (.int .i64 z)).alloc (.cells #[q, .string s] 209)) g (bs ++ s.data.toList) ∧
    Keep (But g) w (((w.setCell ⟨g, 0, none⟩ (.pointer (some ⟨w.heap.size, 0, none⟩))).setCell ⟨g, 1, none⟩ (.int .i64 z)).alloc (.cells #[q, .string s] 209)) := by
  have hk : Keep (But g) w (((w.setCell ⟨g, 0, none⟩ (.pointer (some ⟨w.heap.size, 0, none⟩))).setCell ⟨g, 1, none⟩ (.int .i64 z)).alloc (.cells #[q, .string s] 209)) :=
    (((Keep.refl w).setBut 0 _).setBut 1 _).alloc _
  have hlt := hb.lt
  have h1 := (((hb.set_ 0 (.pointer (some ⟨w.heap.size, 0, none⟩))).set_ 1 (.int .i64 z)).alloc (.cells #[q, .string s] 209))
  refine ⟨⟨s :: l, .pointer (some ⟨w.heap.size, 0, none⟩), ?_, ⟨_, q, rfl, ?_, hp.keep hk fun i cs hi => ne_of_types hb hi (by decide)⟩, by rw [spell, hs]⟩, hk⟩
  · have e : ((bs ++ s.data.toList).length : Int) = z := by rw [hz]; simp
    rw [e]
    simpa using h1
  · have h2 := Blk.new ((w.setCell ⟨g, 0, none⟩ (.pointer (some ⟨w.heap.size, 0, none⟩))).setCell ⟨g, 1, none⟩ (.int .i64 z)) 209 #[q, .string s]
    simpa [World.setCell] using h2
set_option maxHeartbeats 400000 in
theorem add_ (w : World) (g : Nat) (bs : List UInt8) (s : ByteArray) (hw : WriterAt w g bs) (hn : bs.length + s.size ≤ 1000000) :
    Calls Tryz.prog 151 #[.pointer (some ⟨g, 0, none⟩), .string s] w fun e w' => e = .returned (.tuple #[]) ∧ WriterAt w' g (bs ++ s.data.toList) ∧ Keep (But g) w w' := by
  obtain ⟨l, q, hb, hp, hs⟩ := hw
  obtain ⟨a, rfl⟩ := hp.ptr
  have c0 := hb.cell 0
  have c1 := hb.cell 1
  have f0 := hb.frozen 0
  have f1 := hb.frozen 1
  have hlt := hb.lt
  simp at c0 c1
  have HB := Lib.hid hb
  have HP := Lib.hid hp
  have HS := Lib.hid hs
  clear hb hp hs
  go_enter Tryz.func151, Tryz.ntmps151
  go_wp2
  go_end0
  have hP := add_post (s := s) HB.out HP.out HS.out rfl
  exact ⟨rfl, hP.1, hP.2⟩
theorem writer_below {w w' : World} {g : Nat} {bs : List UInt8} (h : WriterAt w g bs) (hb : Below w.heap.size w w') : WriterAt w' g bs :=
  h.keep (K := fun _ _ => True) (Keep.of_below hb) (fun _ => trivial) (fun _ _ _ => trivial)
theorem wrap_u64_nat (n : Int) : (IntKind.u64.wrap n).toNat = u64 n := by rw [IntKind.wrap_u64]; rfl
theorem wrap_u64_pos (n : Int) : 0 ≤ IntKind.u64.wrap n := by rw [IntKind.wrap_u64]; omega
set_option maxHeartbeats 400000 in
theorem wInt (w : World) (g : Nat) (bs : List UInt8) (n : Int) (hw : WriterAt w g bs) (hn : bs.length ≤ 900000) :
    Calls Tryz.prog 94 #[.pointer (some ⟨g, 0, none⟩), .int .i64 n] w fun e w' => e = .returned (.tuple #[]) ∧ WriterAt w' g (bs ++ encInt n) ∧ Keep (But g) w w' := by
  go_enter Tryz.func94, Tryz.ntmps94
  go_wp2_with fail
  refine (split_ _ _ (wrap_u64_pos n) (by omega) (by omega) _).mono ?_
  rintro e w1 ⟨rfl, hb1⟩
  rw [wrap_u64_nat]
  have H1 := Lib.hid hb1
  clear hb1
  go_wp2_with fail
  refine (add_ w1 g bs _ (writer_below hw H1.out) (by rw [show (ByteArray.mk (leN 8 (u64 n)).toArray).size = 8 from (leN_length 8 _)]; omega)).mono ?_
  rintro e w2 ⟨rfl, hw2, hk2⟩
  go_wp2
  go_end0
  exact ⟨rfl, hw2, (Keep.of_below H1.out).trans hk2⟩
set_option maxHeartbeats 400000 in
theorem wText (w : World) (g : Nat) (bs : List UInt8) (s : ByteArray) (hw : WriterAt w g bs) (hn : bs.length ≤ 900000) (hs : s.size ≤ 9223372036854775807) :
    Calls Tryz.prog 153 #[.pointer (some ⟨g, 0, none⟩), .string s] w fun e w' => e = .returned (.tuple #[]) ∧ WriterAt w' g (bs ++ encText s.data.toList) ∧ Keep (But g) w w' := by
  rcases Nat.lt_or_ge 65535 s.size with h | h
  · have e : encText s.data.toList = leN 2 65535 ++ (s.extract 0 65535).data.toList := by
      unfold encText
      rw [show (s.data.toList.take 65535).length = 65535 by rw [List.length_take]; simp; omega]
      simp
    have E := Lib.hid e
    have hq : (s.extract 0 65535).size ≤ 65535 := by rw [ByteArray.size_extract]; omega
    have hm : min 65535 s.size = 65535 := by omega
    have HM := Lib.hid hm
    clear e hm
    go_enter Tryz.func153, Tryz.ntmps153
    go_wp2_with fail
    refine (split_ _ _ (by omega) (by omega) (by omega) _).mono ?_
    rintro e w1 ⟨rfl, hb1⟩
    have H1 := Lib.hid hb1
    clear hb1
    rw [HM.out]
    generalize s.extract 0 65535 = t at *
    have hl : (ByteArray.mk (leN (Int.toNat 2) ((65535 : Nat) : Int).toNat).toArray).size ≤ 2 := by
      show (leN 2 65535).length ≤ 2
      rw [leN_length]; omega
    generalize hB : (ByteArray.mk (leN (Int.toNat 2) ((65535 : Nat) : Int).toNat).toArray) = C at hl ⊢
    have HC := Lib.hid hB
    clear hB
    go_wp2_with fail
    refine (add_ w1 g bs _ (writer_below hw H1.out) (by rw [ByteArray.size_append]; omega)).mono ?_
    rintro e w2 ⟨rfl, hw2, hk2⟩
    go_wp2
    go_end0
    refine ⟨rfl, ?_, (Keep.of_below H1.out).trans hk2⟩
    rw [E.out, show leN 2 65535 = C.data.toList by rw [← HC.out]; rfl]
    simpa using hw2
  · have e : encText s.data.toList = leN 2 s.size ++ s.data.toList := by
      unfold encText; rw [List.take_of_length_le (by simpa using h)]; simp
    have E := Lib.hid e
    clear e
    go_enter Tryz.func153, Tryz.ntmps153
    go_wp2_with fail
    refine (split_ _ _ (by omega) (by omega) (by omega) _).mono ?_
    rintro e w1 ⟨rfl, hb1⟩
    have H1 := Lib.hid hb1
    clear hb1
    have hl : (ByteArray.mk (leN (Int.toNat 2) (Int.toNat s.size)).toArray).size ≤ 2 := by
      show (leN 2 _).length ≤ 2
      rw [leN_length]; omega
    generalize hB : (ByteArray.mk (leN (Int.toNat 2) (Int.toNat s.size)).toArray) = C at hl ⊢
    have HC := Lib.hid hB
    clear hB
    go_wp2_with fail
    refine (add_ w1 g bs _ (writer_below hw H1.out) (by rw [ByteArray.size_append]; omega)).mono ?_
    rintro e w2 ⟨rfl, hw2, hk2⟩
    go_wp2
    go_end0
    refine ⟨rfl, ?_, (Keep.of_below H1.out).trans hk2⟩
    rw [E.out, show leN 2 s.size = C.data.toList by rw [← HC.out]; rfl]
    simpa using hw2
end Go.Proofs.YtjfoflbaoceemaaGreat

namespace Go.Proofs.YtjfoflbaoceemaaGreat
open Go.RowKit

def BRel (w : World) (bs : List UInt8) (k : Nat) (e p : Value) (wr : World) : Prop :=
  ∃ l done, l.length = k ∧ Parts w l p ∧ spell l ++ done = bs ∧ e = .int .i64 ((spell l).length : Int) ∧
    Blk wr w.heap.size 5 (cellsB (List.replicate (spell l).length 0 ++ done)).toArray ∧ Below w.heap.size w wr
theorem size5r (w : World) : (Go.sizeOf 5).run Tryz.prog w = .ok 1 w := by kernel_rfl
theorem cut5 (B n e m : Nat) (hle : e + m ≤ n) : ∃ e', (e' = e ∨ m = 0) ∧ ∀ W, (Instr.slice 42 (.slice (some ⟨B, 0, none⟩) n n) (some (.int .i64 (e : Int))) none none).run Tryz.prog W = .ok (.slice (some ⟨B, e', none⟩) (n - e) (n - e)) W := by
  have he : Tryz.prog.elem 42 = 5 := by simp [Program.elem, Tryz.underlying42]
  have key : ∀ W, (Instr.slice 42 (.slice (some ⟨B, 0, none⟩) n n) (some (.int .i64 (e : Int))) none none).run Tryz.prog W = .ok (sliced (some ⟨B, 0, none⟩) e n n 1) W := fun W => by
    rw [run_slice_l W 42 _ _ _ (by rw [he]; exact Tryz.underlying42) .i64 _ (by omega) (by omega), he, size5r]
    rfl
  by_cases hne : n = e
  · refine ⟨0, .inr (by omega), fun W => ?_⟩
    rw [key]; simp [sliced, hne]
  · refine ⟨e, .inl rfl, fun W => ?_⟩
    rw [key]
    by_cases h0 : e = 0
    · subst h0; simp [sliced, hne, Addr.add]
    · simp [sliced, hne, Addr.add, h0]
theorem copy_rel {w wr : World} {t : ByteArray} {done : List UInt8} {e e' : Nat} (hB : Blk wr w.heap.size 5 (cellsB (List.replicate (e + t.size) 0 ++ done)).toArray) (he : e' = e ∨ t.size = 0) :
    Blk (wr.setCells w.heap.size e' (t.data.toList.map fun x => Value.int .u8 (x.toNat : Int))) w.heap.size 5 (cellsB (List.replicate e 0 ++ (t.data.toList ++ done))).toArray := by
  have ec : (t.data.toList.map fun x => Value.int .u8 (x.toNat : Int)) = cellsB t.data.toList := rfl
  rw [ec]
  rcases he with rfl | he
  · have h := blk_setCells (g := w.heap.size) (t := 5) (cellsB t.data.toList) (cellsB (List.replicate e' 0)) (cellsB (List.replicate t.size 0)) (cellsB done) wr (by simp [cellsB_length]) (by
      rw [← cellsB_append, ← cellsB_append, List.replicate_append_replicate]; exact hB)
    rw [cellsB_length, List.length_replicate, ← cellsB_append, ← cellsB_append, List.append_assoc] at h
    exact h
  · have e0 : t.data.toList = [] := List.eq_nil_of_length_eq_zero (by simpa using he)
    rw [he, Nat.add_zero] at hB
    rw [e0]
    simpa [cellsB, World.setCells] using hB
theorem copy_run {w wr : World} {t : ByteArray} {done : List UInt8} {e e' n : Nat} (hB : Blk wr w.heap.size 5 (cellsB (List.replicate (e + t.size) 0 ++ done)).toArray) (he : e' = e ∨ t.size = 0)
    (hle : e + t.size ≤ n) (hw : Below w.heap.size w wr) : ∃ v W2, (Builtin.copy_ #[42, 9] 3 #[.slice (some ⟨w.heap.size, e', none⟩) (n - e) (n - e), .string t]).run Tryz.prog wr.drew = .ok v W2 ∧
      Blk W2 w.heap.size 5 (cellsB (List.replicate e 0 ++ (t.data.toList ++ done))).toArray ∧ Below w.heap.size w W2 := by
  have hB' : Blk wr.drew w.heap.size 5 (cellsB (List.replicate (e + t.size) 0 ++ done)).toArray := hB
  refine ⟨_, _, run_copy_string wr.drew 42 9 3 5 w.heap.size e' (n - e) (n - e) t Tryz.underlying42 size5r (by omega) (fun j hj => ?_) (fun j _ => hB'.frozen _), copy_rel hB' he, below_setCells (Nat.le_refl _) _ _ _ hw.drew⟩
  have hlen : e' + j < (cellsB (List.replicate (e + t.size) 0 ++ done)).length := by
    rw [cellsB_length, List.length_append, List.length_replicate]; omega
  rw [hB'.cell, List.getElem?_toArray, List.getElem?_eq_getElem hlen]; rfl
set_option maxHeartbeats 400000 in
theorem wBytes (w : World) (g : Nat) (bs : List UInt8) (hw : WriterAt w g bs) (hn : bs.length ≤ 1000000) :
    Calls Tryz.prog 95 #[.pointer (some ⟨g, 0, none⟩)] w fun e w' => e = .returned (.slice (some ⟨w.heap.size, 0, none⟩) bs.length bs.length) ∧ Blk w' w.heap.size 5 (cellsB bs).toArray ∧ Below w.heap.size w w' := by
  obtain ⟨l, q, hb, hp, hs⟩ := hw
  obtain ⟨a, rfl⟩ := hp.ptr
  have c0 := hb.cell 0
  have c1 := hb.cell 1
  have hlt := hb.lt
  simp at c0 c1
  have hmk := fun W => made5 bs.length hn W
  have HP := Lib.hid hp
  have HS := Lib.hid hs
  clear hb hp hs
  go_enter Tryz.func95, Tryz.ntmps95
  go_wp2
  go_loopg [4, 5] l.length (fun k e p wr => BRel w bs k e p wr)
  case atStart =>
    exact ⟨l, [], rfl, HP.out, by rw [HS.out]; simp, by rw [HS.out], by rw [HS.out]; simpa using Blk.new w 5 _, (Below.refl _ _).alloc (Nat.le_refl _) _⟩
  case round =>
    obtain ⟨l, done, hl, hp, hs, rfl, hb, hw⟩ := hrel
    rcases l with _ | ⟨t, r⟩
    · obtain rfl : u5 = _ := hp
      have HS2 := Lib.hid hs
      have HB := Lib.hid hb
      have HW := Lib.hid hw
      clear hs hb hw hl
      go_wp2
      go_ret
      refine ⟨rfl, ?_, HW.out⟩
      have hb := HB.out
      have e : done = bs := by simpa [spell] using HS2.out
      rw [← e]
      simpa [spell] using hb
    · obtain ⟨h, q', rfl, hh, hr⟩ := hp
      obtain ⟨a', rfl⟩ := hr.ptr
      have hh' := hh.below hw hh.lt
      have d0 := hh'.cell 0
      have d1 := hh'.cell 1
      simp at d0 d1
      have hsl : (spell (t :: r)).length = (spell r).length + t.size := by simp [spell]
      have hle : (spell r).length + t.size ≤ bs.length := by rw [← hs]; simp [spell]
      rw [hsl] at hb
      generalize he : (spell r).length = e at *
      have HE := Lib.hid he
      have HSL := Lib.hid hsl
      have HS2 := Lib.hid hs
      have HB := Lib.hid hb
      have HW := Lib.hid hw
      have HR := Lib.hid hr
      have HL := Lib.hid hl
      obtain ⟨e', he', hcut⟩ := cut5 w.heap.size bs.length e t.size hle
      obtain ⟨cv, W2, hcp, hb2, hw2⟩ := copy_run hb he' hle hw
      have HB2 := Lib.hid hb2
      have HW2 := Lib.hid hw2
      have hx : W2.cell? ⟨h, 0, none⟩ = some (.pointer a') := by rw [(hh.below hw2 hh.lt).cell]; rfl
      clear he hs hb hw hr hh hh' hl hb2 hw2 he'
      rw [HSL.out]
      clear hsl
      go_wp2
      go_region
      go_wp2
      go_roundg r.length
      case measure => have := HL.out; simp at this; omega
      case rel => exact ⟨r, t.data.toList ++ done, rfl, HR.out, by rw [← HS2.out]; simp [spell], by rw [HE.out], by rw [HE.out]; exact HB2.out, HW2.out⟩
end Go.Proofs.YtjfoflbaoceemaaGreat

namespace Go.Proofs.YtjfoflbaoceemaaGreat
open Go.RowKit
theorem wpList_append_run {P : Program} {w : World} {ops : Array Oper} {rest : List Oper} {o : Oper} {a : Act} {Q : Exit → Act → World → Prop} (hgd : o.guard = none) (s x : Operand) (t t' : TypeId)
    (ho : o.op = .call { callee := .builtin .append, args := #[s, x], argTypes := #[t, t'] }) (v u : Value) (hs : a.eval s = v) (hx : a.eval x = u) {v' : Value} {w' : World}
    (hr : (Builtin.append_ #[t, t'] o.type #[v, u]).run P w = .ok v' w') (h : wpList P ops Q rest (a.put o.dst v') w') : wpList P ops Q (o :: rest) a w := by
  refine wpList_plain hgd fun K hK => ?_
  unfold Oper.wp execOp
  simp only [ho, resolve, invoke, builtin, Sem.run_bind, Sem.run_pure, Result.andThen_ok, List.map_toArray, List.map_cons, List.map_nil, hs, hx, hr]
  exact hK _ _ h
end Go.Proofs.YtjfoflbaoceemaaGreat
namespace Go.Proofs.YtjfoflbaoceemaaGreat
open Go.RowKit
theorem append_rb {W : World} {base : Nat} {v : Value} {n : Nat} {ys : List UInt8} (hown : W.ownsRow base 5 1 v n (cellsB ys)) {B : Nat} {A : Option Addr} {m : Nat} {xs : List UInt8} (hr : RB W B A m xs) (c : Nat)
    (hb : n + m ≤ 1000000) (hbase : base ≤ W.heap.size) : ∃ v' W', (Builtin.append_ #[42, 42] 42 #[v, .slice A m c]).run Tryz.prog W = .ok v' W' ∧ W'.ownsRow base 5 1 v' (n + m) (cellsB (ys ++ xs)) ∧ W.grownBy W' v.ownBlock ∧
      (v'.ownBlock = v.ownBlock ∨ v'.ownBlock = some W.heap.size) := by
  obtain ⟨i0, hi, hz0, hz1, hz2⟩ := info_parts info5
  obtain ⟨hl, hc⟩ := hr
  rcases A with _ | a
  · have hm : m = 0 := by
      rcases Nat.eq_zero_or_pos m with h0 | h0
      · exact h0
      · obtain ⟨_, _, h, _⟩ := hc h0
        cases h
    subst hm
    obtain rfl : xs = [] := List.eq_nil_of_length_eq_zero hl
    refine ⟨v, W, ?_, by simpa using hown, World.grownBy.refl W _, .inl rfl⟩
    rcases hown.2 with ⟨rfl, rfl⟩ | ⟨g, cap, cur, rfl, _, _, hnc, _⟩
    · simp [Builtin.append_, run_underlying Tryz.underlying42, sizeOf, typeInfo, hi, Builtin.lenOf, Builtin.firstCells]
    · simp [Builtin.append_, run_underlying Tryz.underlying42, sizeOf, typeInfo, hi, Builtin.lenOf, Builtin.firstCells, hnc, storeCells]
  · have hcells : ∀ j u, (cellsB xs)[j]? = some u → W.cell? (a.add j) = some u := by
      intro j u hu
      rw [cellsB_get] at hu
      cases hx : xs[j]? with
      | none => rw [hx] at hu; cases hu
      | some x =>
        rw [hx] at hu
        simp only [Option.map_some, Option.some.injEq] at hu
        subst hu
        have hj := (List.getElem?_eq_some_iff.1 hx).1
        obtain ⟨b, o, h, _, hcell⟩ := hc (by omega)
        injection h with h
        subst h
        rw [add_none]
        exact hcell j x hx
    obtain ⟨v', w', hrun, h2, h3, _, h5⟩ := run_append_own_at (P := Tryz.prog) W base 42 42 5 i0 _ 1 1 Tryz.underlying42 hi hz0 hz1 hz2 rfl (by omega) v n (cellsB ys) hown a m c (cellsB xs) (by rw [cellsB_length, hl]; omega) hcells (cellsB_one _) (by unfold maxLen; omega) (by omega) hbase
    exact ⟨v', w', hrun, by rw [cellsB_append]; exact h2, h3, h5⟩
theorem own_rb {W : World} {base : Nat} {v : Value} {n : Nat} {ys : List UInt8} (hown : W.ownsRow base 5 1 v n (cellsB ys)) : ∃ A c, v = .slice A n c ∧ RB W W.heap.size A n ys ∧ n ≤ c ∧ c ≤ maxLen := by
  have hl : ys.length = n := by have := hown.1; rw [cellsB_length] at this; omega
  rcases hown.2 with ⟨rfl, rfl⟩ | ⟨g, cap, cur, rfl, _, hh, hnc, hcm, hcs, htk⟩
  · exact ⟨none, 0, rfl, ⟨hl, fun h => absurd h (by omega)⟩, Nat.le_refl _, by unfold maxLen; omega⟩
  · refine ⟨_, cap, rfl, ⟨hl, fun _ => ⟨g, 0, rfl, lt_of_some hh, fun j x hx => ?_⟩⟩, hnc, hcm⟩
    rw [show W.cell? ⟨g, 0 + j, none⟩ = cur[0 + j]? from cell_of_row W g _ cur 5 (0, 0) hh, Nat.zero_add]
    have hj : j < n := by have := (List.getElem?_eq_some_iff.1 hx).1; omega
    have : (cellsB ys)[j]? = some (u8 x) := by rw [cellsB_get, hx]; rfl
    rw [← htk, List.getElem?_take_of_lt (by omega)] at this
    simpa using this
theorem empty_own (W : World) (base : Nat) (hb : base ≤ W.heap.size) : (W.alloc (.cells #[] 5)).ownsRow base 5 1 (.slice (some ⟨W.heap.size, 0, none⟩) 0 0) 0 (cellsB []) :=
  ⟨rfl, .inr ⟨W.heap.size, 0, #[], rfl, hb, Blk.new W 5 #[], Nat.le_refl _, by unfold maxLen; omega, rfl, rfl⟩⟩
def CloneP (w : World) (n : Nat) (xs : List UInt8) (e : Ending) (w' : World) : Prop :=
  ∃ A' c', e = .returned (.slice A' n c') ∧ RB w' w'.heap.size A' n xs ∧ n ≤ c' ∧ c' ≤ maxLen ∧ Below w.heap.size w w'
set_option maxHeartbeats 400000 in
theorem clone_ (w : World) (A : Option Addr) (n c : Nat) (xs : List UInt8) (h : RB w w.heap.size A n xs) (hn : n ≤ 1000000) (hA : A = none → c = 0) :
    Calls Tryz.prog 131 #[.slice A n c] w (CloneP w n xs) := by
  rcases A with _ | a
  · have hc := hA rfl
    have h0 : n = 0 := by
      rcases Nat.eq_zero_or_pos n with h0 | h0
      · exact h0
      · obtain ⟨_, _, h, _⟩ := h.2 h0
        cases h
    subst hc h0
    have H := Lib.hid h
    clear h hA
    have hnil := fun (W : World) => Lib.run_eql_slice_nil (P := Tryz.prog) W 42 5 none 0 0 0 0 Tryz.underlying42
    simp only [Option.isNone_none] at hnil
    go_enter Tryz.func131, Tryz.ntmps131
    go_wp2
    go_ret
    exact ⟨none, 0, rfl, H.out, Nat.le_refl _, by unfold maxLen; omega, Below.refl _ _⟩
  · have hnil := fun (W : World) => Lib.run_eql_slice_nil (P := Tryz.prog) W 42 5 (some a) n c 0 0 Tryz.underlying42
    simp only [Option.isNone_some] at hnil
    obtain ⟨v', W', hap, ho, hg, hat⟩ := append_rb (empty_own w w.heap.size (Nat.le_refl _)) (h.below ((Below.refl _ _).alloc (Nat.le_refl _) (.cells #[] 5))) c (by omega) (by simp)
    rw [List.nil_append, Nat.zero_add] at ho
    obtain ⟨A', c', rfl, hr, h1, h2⟩ := own_rb ho
    have hbel : Below w.heap.size w W' := ((Below.refl _ _).alloc (Nat.le_refl _) _).grown hg (by simp) (by intro k hk; simp [Value.ownBlock] at hk; omega)
    have HBE := Lib.hid hbel
    have HR := Lib.hid hr
    clear ho hg hat hbel hr h hA
    go_enter Tryz.func131, Tryz.ntmps131
    go_wp2_with (at_builtin; refine wpList_append_run rfl (.tmp 5) (.tmp 6) 42 42 rfl _ _ rfl rfl hap ?_)
    go_ret
    exact ⟨A', c', rfl, HR.out, h1, h2, HBE.out⟩
def RdNewP (w : World) (xs : List UInt8) (e : Ending) (w' : World) : Prop :=
  ∃ g, e = .returned (.pointer (some ⟨g, 0, none⟩)) ∧ w.heap.size ≤ g ∧ ReaderAt 227 w' g g ⟨xs, false⟩ ∧ Below w.heap.size w w'
set_option maxHeartbeats 400000 in
theorem newReader (w : World) (A : Option Addr) (n c : Nat) (xs : List UInt8) (h : RB w w.heap.size A n xs) (hn : n ≤ 1000000) (hA : A = none → c = 0) :
    Calls Tryz.prog 125 #[.slice A n c] w (RdNewP w xs) := by
  go_enter Tryz.func125, Tryz.ntmps125
  go_wp2_with fail
  refine (clone_ w A n c xs h hn hA).mono ?_
  rintro e w1 ⟨A', c', rfl, hr, h1, h2, hb⟩
  have HBE := Lib.hid hb
  have HR := Lib.hid hr
  clear hb hr h hA
  go_wp2
  go_ret
  refine ⟨w1.heap.size, rfl, HBE.out.size, ⟨A', n, c', Blk.new w1 227 _, h1, h2, HR.out.below ((Below.refl _ _).alloc (Nat.le_refl _) _), Nat.le_refl _⟩, HBE.out.alloc HBE.out.size _⟩
end Go.Proofs.YtjfoflbaoceemaaGreat
namespace Go.Proofs.YtjfoflbaoceemaaGreat
open Go.RowKit
theorem elem29 : Tryz.prog.elem 42 = 5 := by simp [Program.elem, Tryz.underlying42]
theorem headRun (A : Option Addr) (l c n : Nat) (h : n ≤ c) (W : World) : (Instr.slice 42 (.slice A l c) none (some (.int .i64 (n : Int))) none).run Tryz.prog W = .ok (.slice A n c) W := by
  rw [run_slice_h W 42 _ _ _ (by rw [elem29]; exact Tryz.underlying42) .i64 _ (by omega) (by omega), elem29, size5r]
  have : A.map (·.add (0 * 1)) = A := by cases A <;> simp [Addr.add]
  simp [Result.andThen, sliced]
  cases A <;> simp [Addr.add]
theorem tailRun (A : Option Addr) (l c n : Nat) (h : n ≤ l) (W : World) : (Instr.slice 42 (.slice A l c) (some (.int .i64 (n : Int))) none none).run Tryz.prog W = .ok (.slice (if c = n then A else A.map (·.add (n * 1))) (l - n) (c - n)) W := by
  rw [run_slice_l W 42 _ _ _ (by rw [elem29]; exact Tryz.underlying42) .i64 _ (by omega) (by omega), elem29, size5r]
  rfl
def TakeP (T : TypeId) (w : World) (g B : Nat) (r : Rd) (n : Nat) (e : Ending) (w' : World) : Prop :=
  ∃ A m c, e = .returned (.slice A m c) ∧ RB w' B A m (r.take n).1 ∧ ReaderAt T w' g B (r.take n).2 ∧ Keep (But g) w w'
theorem reader_set1 {T : TypeId} {w : World} {g B : Nat} {l : List UInt8} {b : Bool} (h : ReaderAt T w g B ⟨l, b⟩) : ReaderAt T (w.setCell ⟨g, 1, none⟩ (.bool true)) g B ⟨l, true⟩ ∧ Keep (But g) w (w.setCell ⟨g, 1, none⟩ (.bool true)) := by
  obtain ⟨A, m, c, hb, h1, h2, hr, hB⟩ := h
  have hk : Keep (But g) w (w.setCell ⟨g, 1, none⟩ (.bool true)) := (Keep.refl w).setBut 1 _
  have hlt := hb.lt
  refine ⟨⟨A, m, c, by simpa using hb.set_ 1 (.bool true), h1, h2, hr.below (hk.below (by omega) fun i _ hi => by simp only [But]; omega), hB⟩, hk⟩
set_option maxHeartbeats 400000 in
theorem take_ (w : World) (g B : Nat) (r : Rd) (n : Int) (h : ReaderAt 227 w g B r) (hn : 0 ≤ n) (hn2 : n ≤ 1000000) :
    Calls Tryz.prog 175 #[.pointer (some ⟨g, 0, none⟩), .int .i64 n] w (TakeP 227 w g B r n.toNat) := by
  obtain ⟨k, rfl⟩ := Int.eq_ofNat_of_zero_le hn
  rw [Int.toNat_natCast]
  obtain ⟨rest, bad⟩ := r
  have H := Lib.hid h
  obtain ⟨A, m, c, hb, h1, h2, hr, hB⟩ := h
  have c0 := hb.cell 0
  have c1 := hb.cell 1
  have f0 := hb.frozen 0
  have f1 := hb.frozen 1
  simp at c0 c1
  have hm := hr.1
  simp only at hm
  unfold maxLen at h2
  cases bad
  · by_cases hlt : m < k
    · have HT := Lib.hid (take_short rest k (by omega))
      clear hb hr hm
      go_enter Tryz.func175, Tryz.ntmps175
      go_wp2
      go_ret
      exact ⟨none, 0, 0, rfl, by rw [HT.out]; exact RB.nil_ none, by rw [HT.out]; exact (reader_set1 H.out).1, (reader_set1 H.out).2⟩
    · have HT : Hid ((⟨rest, false⟩ : Rd).take k = (rest.take k, ⟨rest.drop k, false⟩)) := by
        have : ¬ rest.length < k := by omega
        show _ = _
        simp [Rd.take, this]
      have hh := headRun A m c k (by omega)
      have ht := tailRun A m c k (by omega)
      have hr2 := hr.drop (k := k) (c := c) (by omega) h1
      generalize (if c = k then A else A.map (·.add (k * 1))) = A2 at ht hr2
      have HR := Lib.hid hr
      have HR2 := Lib.hid hr2
      have HB := Lib.hid hb
      have hgl := hb.lt
      clear hb hr hm hr2
      go_enter Tryz.func175, Tryz.ntmps175
      go_wp2
      go_ret
      have hk : Keep (But g) w (w.setCell ⟨g, 0, none⟩ (.slice A2 (m - k) (c - k))) := (Keep.refl w).setBut 0 _
      have hbel := hk.below (B := B) (by omega) fun i _ hi => by simp only [But]; omega
      refine ⟨A, k, c, rfl, ?_, ?_, hk⟩
      · rw [HT.out]; exact (HR.out.take (by omega)).below hbel
      · rw [HT.out]
        exact ⟨A2, m - k, c - k, by simpa using HB.out.set_ 0 _, by omega, by unfold maxLen; omega, HR2.out.below hbel, hB⟩
  · clear hb hr hm
    go_enter Tryz.func175, Tryz.ntmps175
    go_wp2
    go_ret
    exact ⟨none, 0, 0, rfl, RB.nil_ none, H.out, Keep.refl w⟩
end Go.Proofs.YtjfoflbaoceemaaGreat

namespace Go.Proofs.YtjfoflbaoceemaaGreat
open Go.RowKit
theorem or_shift (a c i : Nat) (ha : a < 2 ^ i) : a ||| (c * 2 ^ i) = a + c * 2 ^ i := by
  have h := Nat.shiftLeft_add_eq_or_of_lt ha c
  rw [Nat.shiftLeft_eq] at h
  rw [Nat.or_comm, ← h, Nat.add_comm]
theorem pow256 (k : Nat) : 256 ^ k = 2 ^ (8 * k) := by rw [Nat.pow_mul]
theorem byte_wrap (b : UInt8) : IntKind.u64.wrap (b.toNat : Int) = (b.toNat : Int) := by
  rw [IntKind.wrap_u64]
  have : b.toNat < 256 := b.toNat_lt
  omega
theorem join_step (xs : List UInt8) (k : Nat) (hk : k < 8) (hx : k < xs.length) :
    bits .or .u64 (joinN (xs.take k) : Int) (IntKind.u64.wrap (IntKind.u64.wrap (xs[k].toNat : Int) * 2 ^ (8 * k))) = (joinN (xs.take (k + 1)) : Int) := by
  have hb : xs[k].toNat < 256 := xs[k].toNat_lt
  have ha : joinN (xs.take k) < 256 ^ k := by
    have := joinN_lt (xs.take k)
    rwa [List.length_take, Nat.min_eq_left (by omega)] at this
  have hp : 256 ^ (k + 1) ≤ 256 ^ 8 := Nat.pow_le_pow_right (by omega) (by omega)
  have hs : 256 ^ (k + 1) = 256 ^ k * 256 := Nat.pow_succ ..
  have e8 : (256 : Nat) ^ 8 = 18446744073709551616 := by decide
  have hc : xs[k].toNat * 2 ^ (8 * k) < 18446744073709551616 := by
    rw [← pow256, ← e8]
    refine Nat.lt_of_lt_of_le ?_ hp
    rw [hs, Nat.mul_comm]
    exact (Nat.mul_lt_mul_left (Nat.pow_pos (by omega))).2 hb
  rw [byte_wrap]
  have ew : IntKind.u64.wrap ((xs[k].toNat : Int) * 2 ^ (8 * k)) = ((xs[k].toNat * 2 ^ (8 * k) : Nat) : Int) := by
    rw [IntKind.wrap_u64]
    have : ((xs[k].toNat : Int) * 2 ^ (8 * k)) = ((xs[k].toNat * 2 ^ (8 * k) : Nat) : Int) := by rw [Int.natCast_mul, Int.natCast_pow]; rfl
    rw [this]
    omega
  rw [ew, u64_or_nat _ _ (by have := Nat.lt_of_lt_of_le ha (Nat.pow_le_pow_right (by omega) (show k ≤ 8 by omega)); omega) hc, or_shift _ _ _ (by rw [← pow256]; exact ha),
    List.take_succ_eq_append_getElem hx, joinN_snoc, List.length_take, Nat.min_eq_left (by omega), pow256, Nat.mul_comm]
theorem retU {k : IntKind} {a b : Int} (h : a = b) : Ending.returned (.int k a) = .returned (.int k b) := by rw [h]
set_option maxHeartbeats 400000 in
theorem join_ (w : World) (B : Nat) (A : Option Addr) (m c : Nat) (xs : List UInt8) (h : RB w B A m xs) (hm : m ≤ 8) :
    Calls Tryz.prog 174 #[.slice A m c] w fun e w' => e = .returned (.int .u64 (joinN xs : Int)) ∧ w = w' := by
  have H := Lib.hid h
  clear h
  go_enter Tryz.func174, Tryz.ntmps174
  go_wp2
  go_loop [3, 8] (fun v i => ∃ k : Nat, k ≤ m ∧ i = .int .i64 k ∧ v = .int .u64 (joinN (xs.take k) : Int)) (fun _ i => m - (intOf i).toNat)
  case atStart => exact ⟨0, Nat.zero_le _, rfl, rfl⟩
  case round =>
    obtain ⟨k, hk, rfl, rfl⟩ := hrel
    by_cases hlt : k < m
    · obtain ⟨b, o, rfl, _, hc⟩ := H.out.2 (by omega)
      have hx : k < xs.length := by have := H.out.1; omega
      have hcell := hc k xs[k] (List.getElem?_eq_getElem hx)
      clear hc
      go_wp2
      go_round
      case rel => exact ⟨k + 1, by omega, by go_num, by rw [join_step xs k (by omega) hx]⟩
      case measure => simp [intOf]; omega
    · go_wp2
      go_ret
      have := H.out.1
      exact ⟨retU (by rw [List.take_of_length_le (by omega)]), rfl⟩
def IntP (T : TypeId) (w : World) (g B : Nat) (r : Rd) (e : Ending) (w' : World) : Prop := e = .returned (.int .i64 r.int.1) ∧ ReaderAt T w' g B r.int.2 ∧ Keep (But g) w w'
def TextP (T : TypeId) (w : World) (g B : Nat) (r : Rd) (e : Ending) (w' : World) : Prop := e = .returned (.string ⟨r.text.1.toArray⟩) ∧ ReaderAt T w' g B r.text.2 ∧ Keep (But g) w w'
def FlagP (T : TypeId) (w : World) (g B : Nat) (r : Rd) (e : Ending) (w' : World) : Prop := e = .returned (.bool r.flag.1) ∧ ReaderAt T w' g B r.flag.2 ∧ Keep (But g) w w'
theorem taken_le (r : Rd) (n : Nat) : (r.take n).1.length ≤ n := by
  unfold Rd.take
  split
  · simp
  · split
    · simp
    · simp; omega
theorem joinN_le (xs : List UInt8) (n : Nat) (h : xs.length ≤ n) : joinN xs < 256 ^ n := Nat.lt_of_lt_of_le (joinN_lt xs) (Nat.pow_le_pow_right (by omega) h)
theorem int_of {r r1 : Rd} {xs : List UInt8} (h : r.take 8 = (xs, r1)) : r.int = (i64of (joinN xs), r1) := by simp [Rd.int, h]
theorem text_of {r r1 : Rd} {xs : List UInt8} (h : r.take 2 = (xs, r1)) : r.text = r1.take (joinN xs) := by simp [Rd.text, h]
theorem flag_of {r r1 : Rd} {xs : List UInt8} (h : r.take 1 = (xs, r1)) : r.flag = (decide (joinN xs = 1), if 1 < joinN xs then ⟨r1.rest, true⟩ else r1) := by simp [Rd.flag, h]
theorem wrap64_of (v : Nat) : wrap64 (v : Int) = i64of v := by unfold wrap64 i64of; omega
set_option maxHeartbeats 400000 in
theorem rdInt (w : World) (g B : Nat) (r : Rd) (h : ReaderAt 227 w g B r) : Calls Tryz.prog 126 #[.pointer (some ⟨g, 0, none⟩)] w (IntP 227 w g B r) := by
  go_enter Tryz.func126, Tryz.ntmps126
  go_wp2_with fail
  refine (take_ w g B r _ h (by omega) (by omega)).mono ?_
  rintro e w1 ⟨A, m, c, rfl, hr, hR, hK⟩
  have hle : m ≤ 8 := by
    have h1 := hr.1
    have h2 := taken_le r (Int.toNat 8)
    simp at h1 h2
    omega
  generalize hT : r.take (Int.toNat 8) = p at *
  obtain ⟨xs, r1⟩ := p
  have HT := Lib.hid (int_of hT)
  have HR := Lib.hid hr
  have HR2 := Lib.hid hR
  have HK := Lib.hid hK
  clear hr hR hK h hT
  go_wp2_with fail
  refine (join_ _ _ _ _ _ _ HR.out hle).mono ?_
  rintro e w2 ⟨rfl, rfl⟩
  go_wp2
  go_ret
  exact ⟨retU (by rw [HT.out]; exact wrap64_of _), by rw [HT.out]; exact HR2.out, HK.out⟩
set_option maxHeartbeats 400000 in
theorem rdText (w : World) (g B : Nat) (r : Rd) (h : ReaderAt 227 w g B r) : Calls Tryz.prog 177 #[.pointer (some ⟨g, 0, none⟩)] w (TextP 227 w g B r) := by
  go_enter Tryz.func177, Tryz.ntmps177
  go_wp2_with fail
  refine (take_ w g B r _ h (by omega) (by omega)).mono ?_
  rintro e w1 ⟨A, m, c, rfl, hr, hR, hK⟩
  have h2 := taken_le r (Int.toNat 2)
  generalize hT : r.take (Int.toNat 2) = p at *
  obtain ⟨xs, r1⟩ := p
  have hle : m ≤ 2 := by
    have h1 := hr.1
    simp at h1 h2
    omega
  have hj := joinN_le xs 2 h2
  simp only [Nat.reducePow] at hj
  have HT := Lib.hid (text_of hT)
  have HR := Lib.hid hr
  have HR2 := Lib.hid hR
  have HK := Lib.hid hK
  clear hr hR hK h hT h2
  go_wp2_with fail
  refine (join_ _ _ _ _ _ _ HR.out (by omega)).mono ?_
  rintro e w2 ⟨rfl, rfl⟩
  go_wp2_with fail
  refine (take_ w1 g B r1 _ HR2.out (by omega) (by omega)).mono ?_
  rintro e w3 ⟨A', m', c', rfl, hr, hR, hK⟩
  rw [Int.toNat_natCast, ← HT.out] at hr hR
  have hcv := convert_row _ w3 A' B m' c' hr
  have HR3 := Lib.hid hR
  have HK3 := Lib.hid hK
  clear hr hR hK
  go_wp2
  go_ret
  exact ⟨rfl, HR3.out, HK.out.trans HK3.out⟩
end Go.Proofs.YtjfoflbaoceemaaGreat
