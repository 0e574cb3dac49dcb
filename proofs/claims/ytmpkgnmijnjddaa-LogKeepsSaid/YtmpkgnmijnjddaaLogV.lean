/- The example of the document, and a record: what 'alive' answers. -/
import Derived.Test.YtmpkgnmijnjddaaLogT
import Derived.Test.YtmpkgnmijnjddaaLogX
import Derived.Lib.SlBytesConst
namespace Go.Proofs.Ytmpkgnmijnjddaa
open Go.RowKit
theorem new_at {n i : Nat} (h : i < n) : (St.new n).at_ i = zeros 64 := by
  unfold St.at_
  rw [now_sure rfl]
  simp only [St.new]
  rw [List.getD_eq_getElem?_getD, List.getElem?_replicate, if_pos h]; rfl
theorem new_lim (n m : Nat) : (St.new n).lim m := ⟨Nat.zero_le _, Nat.zero_le _, by simp [St.new]⟩
theorem new_open {n a k : Nat} {e : Int} {L' : Lg} (h : a < n) (ho : Opens (St.new n) (lg0 e a k) L') : L' = lg0 e a k := open_stop (find_zero (new_at h)) ho
/-- what is found behind a log's own Append -/
theorem done_open {s t : St} {L L' : Lg} {b : List UInt8} {e : Int} {a n : Nat} (hok : t.ok) (hn : a + n ≤ t.n) (hL : L.e = e) (hfin : L.fin = a + n) (hl : Lies s L.e L.ls 0 a L.p) (hd : Done s L b t) (hf : L.next b.length ≤ L.fin) (ho : Opens t (lg0 e a n) L') : L' = { lg0 e a n with p := L.next b.length, ls := L.ls ++ [b] } := by
  subst hL
  have h1 := (hl.done hd).opens hok (L := lg0 L.e a n) (by rw [hfin] at hf; exact hf) hn ho
  refine open_stop ?_ (by simpa [lg0] using h1)
  by_cases hlt : L.next b.length < L.fin
  · exact find_zero (hd.tail hlt)
  · exact find_end (by show a + n ≤ L.next b.length; omega)
theorem abc_append {L1 : Lg} (h : Opens (St.new 8) (lg0 1 0 8) L1) : L1 = lg0 1 0 8 ∧ ∃ s1, (lg0 1 0 8).append (St.new 8) [97, 98, 99] = (s1, (lg0 1 0 8).add [97, 98, 99], 0) ∧ s1.n = 8 ∧ ∀ L', Opens s1 (lg0 1 0 8) L' → L'.ls.length = 1 := by
  refine ⟨new_open (by omega) h, ?_⟩
  have hok : (St.new 8).ok := St.ok.new (by omega)
  have hn : (St.new 8).n = 8 := St.n_new 8
  have hf : (lg0 1 0 8).fits (([97, 98, 99] : List UInt8).length : Nat) = true := by decide
  have ha := append_all (m := 0) (s := St.new 8) (L := lg0 1 0 8) (b := [97, 98, 99]) rfl hok rfl (by decide) (by rw [hn]; decide) (new_lim 8 0)
  revert ha
  generalize (lg0 1 0 8).append (St.new 8) [97, 98, 99] = r
  intro ha
  cases ha with
  | long h => rw [hf] at h; cases h
  | fail _ he => cases he
  | ok _ h1 h2 _ _ h5 _ =>
    refine ⟨_, rfl, by rw [h2, hn], fun L' ho => ?_⟩
    have := done_open (L := lg0 1 0 8) (e := 1) (a := 0) (n := 8) h1 (by rw [h2, hn]; omega) rfl rfl rfl h5 (by decide) ho
    rw [this]; rfl
set_option maxHeartbeats 1000000 in
theorem alive (w : World) : Calls Try.prog 6 #[] w fun e w' => e = .returned (.bool true) ∧ Below w.heap.size w w' := by
  have kc := fun (w : World) (C : Array Value) (n c : Nat) => Lib.run_convert_bytes_const (P := Try.prog) w 30 5 C n c Try.underlying30 Try.underlying5
  go_enter Try.func6, Try.ntmps6
  go_wp2_with fail
  refine (new_ w 8).mono ?_
  rintro e w1 ⟨rfl, hd, hb, hz⟩
  have HD := Lib.hid (diskR_new hd hb)
  have HB := Lib.hid (Keep.of_below (K := fun i _ => i < w.heap.size) hb)
  clear hd hb hz
  rw [show cutN 8 = 8 from rfl] at HD
  go_wp2_with fail
  refine (open_ HD.out 0 8 (by rw [St.n_new]; omega) (by rw [St.n_new]; omega) 1).mono ?_
  rintro e w2 ⟨g, R2, L1, rfl, hR2, hl2, ho2, hk2⟩
  obtain ⟨rfl, s1, hap, hn1, hfin⟩ := abc_append ho2
  have HAP := Lib.hid hap
  have HFI := Lib.hid hfin
  have HN1 := Lib.hid hn1
  have HL2 := Lib.hid hl2
  have HR2 := Lib.hid hR2
  have HK2 := Lib.hid (HB.out.trans hk2)
  clear hap hfin hn1 hl2 hR2 ho2 hk2
  go_wp2_with fail
  refine (records_ HL2.out).mono ?_
  rintro e w3 ⟨v, rfl, hv, hb3⟩
  obtain ⟨A3, c3, rfl⟩ := hv.slice
  have HL3 := Lib.hid (HL2.out.below hb3)
  have HK3 := Lib.hid (HK2.out.trans (Keep.of_below hb3))
  rw [show (lg0 1 0 8).ls.length = 0 from rfl]
  clear hv hb3
  go_wp2_with fail
  have hx : Has (w3.alloc (.cells #[.int .u8 97, .int .u8 98, .int .u8 99] 5 (3, 4))) (fun i => R2 i ∨ w3.heap.size ≤ i ∧ i < (w3.alloc (.cells #[.int .u8 97, .int .u8 98, .int .u8 99] 5 (3, 4))).heap.size) (some ⟨w3.heap.size, 0, none⟩) [97, 98, 99] := fun _ =>
    ⟨_, 0, rfl, .inr ⟨Nat.le_refl _, by simp⟩, by simp, fun j u hu => by
      rw [cell_of_row _ w3.heap.size _ #[.int .u8 97, .int .u8 98, .int .u8 99] 5 (3, 4) (heap_alloc_new w3 _), Nat.zero_add]
      rw [← hu, ← List.getElem?_toArray]; rfl⟩
  have hbe := alloc_below w3 (.cells #[.int .u8 97, .int .u8 98, .int .u8 99] 5 (3, 4))
  refine (append_ (HL3.out.grow hbe) (new_lim 8 _) hx (n := 3) (c := 3) rfl (by omega) (fun h => by cases h) (by omega)).mono ?_
  rw [HAP.out]
  rintro e w4 ⟨rfl, ⟨R4, hR4, hl4⟩, hk4⟩
  have HD4 := Lib.hid hl4.diskR
  have HR4 := Lib.hid (fun i (hi : i < w.heap.size) => hR4 i (.inl (HR2.out i hi)))
  have HK4 := Lib.hid ((HK3.out.trans (Keep.of_below hbe)).trans (hk4.mono fun i _ _ hi => .inl (HR2.out i hi)))
  clear hR4 hl4 hk4 hbe hx
  go_wp2_with fail
  refine (open_ HD4.out 0 8 (by rw [HN1.out]; omega) (by rw [HN1.out]; omega) 1).mono ?_
  rintro e w5 ⟨g5, R5, L5, rfl, hR5, hl5, ho5, hk5⟩
  have HL5 := Lib.hid hl5
  have HN5 := Lib.hid (HFI.out L5 ho5)
  have HK5 := Lib.hid (HK4.out.trans (hk5.mono fun i _ _ hi => HR4.out i hi))
  clear hR5 hl5 ho5 hk5
  go_wp2_with (go_at_call 15; refine (num_ _ _).mono ?_; rintro e w' ⟨rfl, rfl⟩)
  refine (records_ HL5.out).mono ?_
  rintro e w6 ⟨v, rfl, hv, hb6⟩
  obtain ⟨A6, c6, rfl⟩ := hv.slice
  have HK6 := Lib.hid (HK5.out.trans (Keep.of_below hb6))
  rw [HN5.out]
  clear hv hb6
  go_wp2_with fail
  go_ret
  exact ⟨rfl, below_of_keep HK6.out (Nat.le_refl _)⟩
end Go.Proofs.Ytmpkgnmijnjddaa
