/- What a writer's Bytes answers: all that was written, in new memory. -/
import Derived.Test.YtlapicjbnheioaaBWrites
import Derived.Deep.LoopGhost
import Derived.Deep.RegionLaw
import Derived.Lib.LazyBuf
namespace Go.Proofs.Ytlapicjbnheioaa
open Go.RowKit

def BRel (w : World) (bs : List UInt8) (k : Nat) (e p : Value) (wr : World) : Prop :=
  ∃ l done, l.length = k ∧ Parts w l p ∧ spell l ++ done = bs ∧ e = .int .i64 ((spell l).length : Int) ∧
    Blk wr w.heap.size 5 (cellsB (List.replicate (spell l).length 0 ++ done)).toArray ∧ Below w.heap.size w wr
theorem size5r (w : World) : (Go.sizeOf 5).run Try.prog w = .ok 1 w := by kernel_rfl
theorem cut5 (B n e m : Nat) (hle : e + m ≤ n) : ∃ e', (e' = e ∨ m = 0) ∧ ∀ W, (Instr.slice 30 (.slice (some ⟨B, 0, none⟩) n n) (some (.int .i64 (e : Int))) none none).run Try.prog W = .ok (.slice (some ⟨B, e', none⟩) (n - e) (n - e)) W := by
  have he : Try.prog.elem 30 = 5 := by simp [Program.elem, Try.underlying30]
  have key : ∀ W, (Instr.slice 30 (.slice (some ⟨B, 0, none⟩) n n) (some (.int .i64 (e : Int))) none none).run Try.prog W = .ok (sliced (some ⟨B, 0, none⟩) e n n 1) W := fun W => by
    rw [run_slice_l W 30 _ _ _ (by rw [he]; exact Try.underlying30) .i64 _ (by omega) (by omega), he, size5r]
    rfl
  by_cases hne : n = e
  · refine ⟨0, .inr (by omega), fun W => ?_⟩
    rw [key]; simp [sliced, hne]
  · refine ⟨e, .inl rfl, fun W => ?_⟩
    rw [key]
    by_cases h0 : e = 0
    · subst h0; simp [sliced, hne, Addr.add]
    · simp [sliced, hne, Addr.add, h0]
theorem copy_rel {w wr : World} {t : ByteArray} {done : List UInt8} {e e' : Nat} (hB : Blk wr w.heap.size 5 (cellsB (List.replicate (e + t.size) 0 ++ done)).toArray) (he : e' = e ∨ t.size = 0) :
    Blk (wr.setCells w.heap.size e' (t.data.toList.map fun x => Value.int .u8 (x.toNat : Int))) w.heap.size 5 (cellsB (List.replicate e 0 ++ (t.data.toList ++ done))).toArray := by
  have ec : (t.data.toList.map fun x => Value.int .u8 (x.toNat : Int)) = cellsB t.data.toList := rfl
  rw [ec]
  rcases he with rfl | he
  · have h := blk_setCells (g := w.heap.size) (t := 5) (cellsB t.data.toList) (cellsB (List.replicate e' 0)) (cellsB (List.replicate t.size 0)) (cellsB done) wr (by simp [cellsB_length]) (by
      rw [← cellsB_append, ← cellsB_append, List.replicate_append_replicate]; exact hB)
    rw [cellsB_length, List.length_replicate, ← cellsB_append, ← cellsB_append, List.append_assoc] at h
    exact h
  · have e0 : t.data.toList = [] := List.eq_nil_of_length_eq_zero (by simpa using he)
    rw [he, Nat.add_zero] at hB
    rw [e0]
    simpa [cellsB, World.setCells] using hB
theorem copy_run {w wr : World} {t : ByteArray} {done : List UInt8} {e e' n : Nat} (hB : Blk wr w.heap.size 5 (cellsB (List.replicate (e + t.size) 0 ++ done)).toArray) (he : e' = e ∨ t.size = 0)
    (hle : e + t.size ≤ n) (hw : Below w.heap.size w wr) : ∃ v W2, (Builtin.copy_ #[30, 9] 3 #[.slice (some ⟨w.heap.size, e', none⟩) (n - e) (n - e), .string t]).run Try.prog wr.drew = .ok v W2 ∧
      Blk W2 w.heap.size 5 (cellsB (List.replicate e 0 ++ (t.data.toList ++ done))).toArray ∧ Below w.heap.size w W2 := by
  have hB' : Blk wr.drew w.heap.size 5 (cellsB (List.replicate (e + t.size) 0 ++ done)).toArray := hB
  refine ⟨_, _, run_copy_string wr.drew 30 9 3 5 w.heap.size e' (n - e) (n - e) t Try.underlying30 size5r (by omega) (fun j hj => ?_) (fun j _ => hB'.frozen _), copy_rel hB' he, below_setCells (Nat.le_refl _) _ _ _ hw.drew⟩
  have hlen : e' + j < (cellsB (List.replicate (e + t.size) 0 ++ done)).length := by
    rw [cellsB_length, List.length_append, List.length_replicate]; omega
  rw [hB'.cell, List.getElem?_toArray, List.getElem?_eq_getElem hlen]; rfl
set_option maxHeartbeats 400000 in
theorem wBytes (w : World) (g : Nat) (bs : List UInt8) (hw : WriterAt w g bs) (hn : bs.length ≤ 1000000) :
    Calls Try.prog 23 #[.pointer (some ⟨g, 0, none⟩)] w fun e w' => e = .returned (.slice (some ⟨w.heap.size, 0, none⟩) bs.length bs.length) ∧ Blk w' w.heap.size 5 (cellsB bs).toArray ∧ Below w.heap.size w w' := by
  obtain ⟨l, q, hb, hp, hs⟩ := hw
  obtain ⟨a, rfl⟩ := hp.ptr
  have c0 := hb.cell 0
  have c1 := hb.cell 1
  have hlt := hb.lt
  simp at c0 c1
  have hmk := fun W => made5 bs.length hn W
  have HP := Lib.hid hp
  have HS := Lib.hid hs
  clear hb hp hs
  go_enter Try.func23, Try.ntmps23
  go_wp2
  go_loopg [4, 5] l.length (fun k e p wr => BRel w bs k e p wr)
  case atStart =>
    exact ⟨l, [], rfl, HP.out, by rw [HS.out]; simp, by rw [HS.out], by rw [HS.out]; simpa using Blk.new w 5 _, (Below.refl _ _).alloc (Nat.le_refl _) _⟩
  case round =>
    obtain ⟨l, done, hl, hp, hs, rfl, hb, hw⟩ := hrel
    rcases l with _ | ⟨t, r⟩
    · obtain rfl : u5 = _ := hp
      have HS2 := Lib.hid hs
      have HB := Lib.hid hb
      have HW := Lib.hid hw
      clear hs hb hw hl
      go_wp2
      go_ret
      refine ⟨rfl, ?_, HW.out⟩
      have hb := HB.out
      have e : done = bs := by simpa [spell] using HS2.out
      rw [← e]
      simpa [spell] using hb
    · obtain ⟨h, q', rfl, hh, hr⟩ := hp
      obtain ⟨a', rfl⟩ := hr.ptr
      have hh' := hh.below hw hh.lt
      have d0 := hh'.cell 0
      have d1 := hh'.cell 1
      simp at d0 d1
      have hsl : (spell (t :: r)).length = (spell r).length + t.size := by simp [spell]
      have hle : (spell r).length + t.size ≤ bs.length := by rw [← hs]; simp [spell]
      rw [hsl] at hb
      generalize he : (spell r).length = e at *
      have HE := Lib.hid he
      have HSL := Lib.hid hsl
      have HS2 := Lib.hid hs
      have HB := Lib.hid hb
      have HW := Lib.hid hw
      have HR := Lib.hid hr
      have HL := Lib.hid hl
      obtain ⟨e', he', hcut⟩ := cut5 w.heap.size bs.length e t.size hle
      obtain ⟨cv, W2, hcp, hb2, hw2⟩ := copy_run hb he' hle hw
      have HB2 := Lib.hid hb2
      have HW2 := Lib.hid hw2
      have hx : W2.cell? ⟨h, 0, none⟩ = some (.pointer a') := by rw [(hh.below hw2 hh.lt).cell]; rfl
      clear he hs hb hw hr hh hh' hl hb2 hw2 he'
      rw [HSL.out]
      clear hsl
      go_wp2
      go_region
      go_wp2
      go_roundg r.length
      case measure => have := HL.out; simp at this; omega
      case rel => exact ⟨r, t.data.toList ++ done, rfl, HR.out, by rw [← HS2.out]; simp [spell], by rw [HE.out], by rw [HE.out]; exact HB2.out, HW2.out⟩
end Go.Proofs.Ytlapicjbnheioaa

