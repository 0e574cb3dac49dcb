/- What the statements' own helpers answer: num, text, and the example of the document, with an image ('alive'). -/
import Derived.Test.YteilbaabnhogbaaRootL
import Derived.Test.YteilbaabnhogbaaRootR
import Derived.Test.YteilbaabnhogbaaRootQ
import Derived.Lib.SlBytesConst
namespace Go.Proofs.Yteilbaabnhogbaa
open Go.RowKit
theorem num_ (n : Int) (w : World) : Calls Try.prog 8 #[.int .i64 n] w fun e w' => e = .returned (.int .i64 n) ∧ w = w' := by
  go_enter Try.func8, Try.ntmps8
  go_wp2
  go_ret
  exact ⟨rfl, rfl⟩
def cutT (n : Int) : Nat := (min (max n 0) 900).toNat
theorem cut_ (n : Int) (w : World) : Calls Try.prog 18 #[.int .i64 n, .int .i64 0, .int .i64 900] w fun e w' => e = .returned (.int .i64 (cutT n : Int)) ∧ w = w' := by
  have h1 : ∀ m : Int, m = min (max n 0) 900 → (cutT n : Int) = m := fun m h => by unfold cutT; omega
  have H1 := Lib.hid h1
  clear h1
  rcases Int.lt_or_le n 0 with h0 | h0
  · rw [H1.out 0 (by omega)]
    go_enter Try.func18, Try.ntmps18
    go_wp2
    go_ret
    exact ⟨rfl, rfl⟩
  · rcases Int.lt_or_le 900 n with h2 | h2
    · rw [H1.out 900 (by omega)]
      go_enter Try.func18, Try.ntmps18
      go_wp2
      go_ret
      exact ⟨rfl, rfl⟩
    · rw [H1.out n (by omega)]
      go_enter Try.func18, Try.ntmps18
      go_wp2
      go_ret
      exact ⟨rfl, rfl⟩
def textB (n : Int) (c : Nat) : List UInt8 := List.replicate (cutT n) (UInt8.ofNat c)
theorem textB_len (n : Int) (c : Nat) : (textB n c).length = cutT n := by simp [textB]
theorem cutT_le (n : Int) : cutT n ≤ 900 := by unfold cutT; omega
set_option maxHeartbeats 400000 in
theorem text_ (n : Int) (c : Nat) (hc : c < 256) (w : World) : Calls Try.prog 10 #[.int .i64 n, .int .u8 (c : Int)] w fun e w' => e = .returned (.slice (some ⟨w.heap.size, 0, none⟩) (cutT n) (cutT n)) ∧ Blk w' w.heap.size 5 (cellsB (textB n c)).toArray ∧ Below w.heap.size w w' := by
  have hm := cutT_le n
  have hcut := cut_ n w
  have HB : Hid (textB n c = List.replicate (cutT n) (UInt8.ofNat c)) := rfl
  generalize textB n c = tb at *
  generalize cutT n = m at *
  have hmk := fun W => made5 m (by omega) W
  have HCUT := Lib.hid hcut
  clear hcut
  go_enter Try.func10, Try.ntmps10
  go_wp2_with (go_at_call 18; refine HCUT.out.mono ?_; rintro e w1 ⟨rfl, rfl⟩)
  go_loopw [6] (fun i wr => ∃ k : Nat, k ≤ m ∧ i = .int .i64 k ∧ wr = w.alloc (.cells (cellsB (List.replicate k (UInt8.ofNat c) ++ List.replicate (m - k) 0)).toArray 5)) (fun i _ => m - (intOf i).toNat)
  case atStart => exact ⟨0, Nat.zero_le _, rfl, by simp⟩
  case round =>
    obtain ⟨k, hk, rfl, rfl⟩ := hrel
    by_cases hlt : k < m
    · have hat := fill_at k m (UInt8.ofNat c) hlt
      go_wp2
      go_roundw
      case rel => exact ⟨k + 1, by omega, by go_num, by rw [fill_set k m c hc hlt]⟩
      case measure => simp [intOf]; omega
    · obtain rfl : k = m := by omega
      go_wp2
      go_ret
      refine ⟨rfl, ?_, alloc_below _ _⟩
      rw [HB.out]
      have := Blk.new w 5 (cellsB (List.replicate k (UInt8.ofNat c) ++ List.replicate (k - k) 0)).toArray
      simpa using this
theorem abc_write : ∃ s1, (⟨0, 2⟩ : Pl).lay (St.new 8) 1 [97, 98, 99] = (s1, true) ∧ (⟨0, 2⟩ : Pl).read s1 = some (1, [97, 98, 99]) := by
  obtain ⟨hc, hs⟩ := calm_new (p := ⟨0, 2⟩) (n := 8) (by decide) (by decide) (by decide) (by decide) 0
  obtain ⟨s1, h1, _, _, h4⟩ := calm_next (b' := [97, 98, 99]) hc hs (by decide) (by decide)
  exact ⟨s1, h1, h4⟩
theorem new_read {n : Nat} {p : Pl} (hn : p.a + 2 + 2 * p.ar ≤ n) (hm : n ≤ 4096) (hl : 1 ≤ p.ar) (hh : p.ar ≤ 1000) : p.read (St.new n) = none := read_sits0 (calm_new hn hm hl hh 0).2
theorem rdP_none {w w' : World} {r : Option (Int × List UInt8)} {e : Ending} (h : RdP w r e w') (hr : r = none) : e = .returned (.tuple #[.int .i64 0, .slice none 0 0, .bool false]) ∧ Below w.heap.size w w' := by
  subst hr
  obtain ⟨h1, ⟨_, h2⟩ | ⟨_, _, _, _, h2, _⟩⟩ := h
  · exact ⟨h2, h1⟩
  · cases h2
theorem rdP_some {w w' : World} {r : Option (Int × List UInt8)} {e : Ending} {k : Int} {b : List UInt8} (h : RdP w r e w') (hr : r = some (k, b)) : ∃ A c, e = .returned (.tuple #[.int .i64 k, .slice A b.length c, .bool true]) ∧ Has w' (fun i => w.heap.size ≤ i) A b ∧ Below w.heap.size w w' := by
  subst hr
  obtain ⟨h1, ⟨h2, _⟩ | ⟨k', b', A, c, h2, h3, h4⟩⟩ := h
  · cases h2
  · have e := Option.some.inj h2
    have e1 := congrArg Prod.fst e
    have e2 := congrArg Prod.snd e
    simp only at e1 e2
    subst e1 e2
    exact ⟨A, c, h3, h4, h1⟩
set_option maxRecDepth 100000 in
set_option maxHeartbeats 1000000 in
theorem alive (w : World) : Calls Try.prog 5 #[] w fun e w' => e = .returned (.bool true) ∧ Below w.heap.size w w' := by
  have kc := fun (w : World) (C : Array Value) (n c : Nat) => Lib.run_convert_bytes_const (P := Try.prog) w 31 5 C n c Try.underlying31 Try.underlying5
  obtain ⟨s1, hs1, hr1⟩ := abc_write
  have HS1 := Shut.mk hs1
  have HR1 := Shut.mk hr1
  have HR0 := Shut.mk (new_read (n := 8) (p := ⟨0, 2⟩) (by decide) (by decide) (by decide) (by decide))
  clear hs1 hr1
  go_enter Try.func5, Try.ntmps5
  go_wp2_with fail
  refine (new_ w 8).mono ?_
  rintro e w1 ⟨rfl, hd, hb, hz⟩
  have HD := Lib.hid (diskR_new hd hb)
  have HB := Lib.hid hb
  clear hd hb hz
  rw [show cutN 8 = 8 from rfl] at HD
  go_wp2_with fail
  refine (rread_ HD.out 0 2 (by omega)).mono ?_
  rw [show cutR 2 = 2 from rfl]
  intro e w2 h2
  obtain ⟨rfl, hb2⟩ := rdP_none h2 HR0.out
  have HB2 := Lib.hid (HB.out.trans (hb2.mono HB.out.size))
  have HD2 := Lib.hid (HD.out.below hb2)
  clear h2 hb2
  go_wp2_with fail
  have hx : Has (w2.alloc (.cells #[.int .u8 97, .int .u8 98, .int .u8 99] 5 (3, 4))) (fun i => i < w.heap.size ∨ w2.heap.size ≤ i ∧ i < (w2.alloc (.cells #[.int .u8 97, .int .u8 98, .int .u8 99] 5 (3, 4))).heap.size) (some ⟨w2.heap.size, 0, none⟩) [97, 98, 99] := fun _ =>
    ⟨_, 0, rfl, .inr ⟨Nat.le_refl _, by simp⟩, by simp, fun j u hu => by
      rw [cell_of_row _ w2.heap.size _ #[.int .u8 97, .int .u8 98, .int .u8 99] 5 (3, 4) (heap_alloc_new w2 _), Nat.zero_add]
      rw [← hu, ← List.getElem?_toArray]; rfl⟩
  have hbe := alloc_below w2 (.cells #[.int .u8 97, .int .u8 98, .int .u8 99] 5 (3, 4))
  refine (write_of (HD2.out.grow hbe) (new_lim 8 _) 0 2 (by omega) hx (n := 3) (c := 3) rfl (by omega) (by decide) 1 (by omega) (by omega) (by rw [St.n_new]; decide)).mono ?_
  rw [show cutR 2 = 2 from rfl, HS1.out]
  rintro e w3 ⟨rfl, hd3, hk3⟩
  have HD3 := Lib.hid hd3
  have HB3 := Lib.hid ((HB2.out.trans (hbe.mono HB2.out.size)).trans (hk3.below (B := w.heap.size) (Nat.le_trans HB2.out.size hbe.size) fun i _ hi => .inl hi))
  clear hd3 hk3 hbe hx
  go_wp2_with fail
  refine (rread_ HD3.out 0 2 (by omega)).mono ?_
  rw [show cutR 2 = 2 from rfl]
  intro e w4 h4
  obtain ⟨A4, c4, rfl, hh4, hb4⟩ := rdP_some h4 HR1.out
  have HB4 := Lib.hid (HB3.out.trans (hb4.mono HB3.out.size))
  have hst := hh4.str c4
  rw [show ([97, 98, 99] : List UInt8).length = 3 from rfl] at hst ⊢
  clear h4 hb4 hh4
  go_wp2_with (first | (go_at_call 7; refine (rneed_ 1 _).mono ?_; rintro e w' ⟨rfl, rfl⟩; rw [show 2 + 2 * cutR 1 = 4 from rfl]) | (go_at_call 8; refine (num_ _ _).mono ?_; rintro e w' ⟨rfl, rfl⟩))
  go_ret
  exact ⟨rfl, HB4.out⟩
end Go.Proofs.Yteilbaabnhogbaa
