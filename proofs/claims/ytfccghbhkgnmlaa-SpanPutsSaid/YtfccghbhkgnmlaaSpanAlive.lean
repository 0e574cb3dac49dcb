/- The example of the document, and a text: what 'alive' answers. -/
import Derived.Test.YtfccghbhkgnmlaaSpanPut
import Derived.Test.YtfccghbhkgnmlaaSpanGet
import Derived.Lib.SlBytesConst
namespace Go.Proofs.Ytfccghbhkgnmlaa
open Go.RowKit
/-- what a put that fits and is done leaves -/
theorem put_fits {s : St} (hok : s.ok) (he : s.ends = false) {a : Nat} {xs : List UInt8} (hn : a + need xs.length ≤ s.n) (h0 : 0 < xs.length) :
    ∃ s', s.put (a : Int) xs = (s', true) ∧ s'.ends = false ∧ s'.ok ∧ s'.n = s.n ∧ s'.l.length = s.l.length + need xs.length ∧ s'.count = s.count + need xs.length ∧ s'.left = s.left ∧
      (xs.length ≤ 262144 → s'.get (a : Int) (xs.length : Int) = xs) ∧ ∀ j, s'.now.getD j [] = if a ≤ j ∧ j < a + need xs.length then chunk xs (j - a) else s.now.getD j [] := by
  have hz : need xs.length ≠ 0 := fun h => by rw [need_zero] at h; omega
  obtain ⟨s', h1, h2, h3, h4, h5, h6, h7, h8⟩ := putGo_ok a xs (need xs.length) s 0 he hok (by omega)
  refine ⟨s', ?_, h2, h3, h4, h5, h6, h7, fun hx => get_put hx (by rw [h4]; exact hn) fun j hj => ?_, h8⟩
  · rw [St.put, if_neg hz, if_pos (St.fits_iff.2 ⟨by omega, by omega⟩), Int.toNat_natCast]; exact h1
  · rw [h8, if_pos (by omega)]; congr 1; omega
theorem abc_put : ∃ s', (St.new (cutN 2)).put 0 [97, 98, 99] = (s', true) ∧ s'.get 0 3 = [97, 98, 99] ∧ s'.l.length ≤ 10 ∧ s'.count ≤ 10 ∧ s'.left ≤ 10 := by
  obtain ⟨s', h1, _, _, _, h5, h6, h7, h8, _⟩ := put_fits (s := St.new (cutN 2)) (St.ok.new (by decide)) rfl (a := 0) (xs := [97, 98, 99]) (by rw [St.n_new]; decide) (by decide)
  refine ⟨s', h1, h8 (by decide), ?_, ?_, ?_⟩
  · rw [h5]; decide
  · rw [h6]; decide
  · rw [h7]; decide
set_option maxHeartbeats 400000 in
theorem alive (w : World) : Calls Try.prog 6 #[] w fun e w' => e = .returned (.bool true) ∧ Below w.heap.size w w' := by
  obtain ⟨s', hp, hg, hl, hc, hle⟩ := abc_put
  have HP := Lib.hid hp
  have HG := Lib.hid hg
  have kc := fun (w : World) (C : Array Value) (n c : Nat) => Lib.run_convert_bytes_const (P := Try.prog) w 22 5 C n c Try.underlying22 Try.underlying5
  clear hp hg hl hc hle
  go_enter Try.func6, Try.ntmps6
  go_wp2_with fail
  refine (new_ w 2).mono ?_
  rintro e w1 ⟨rfl, hd, hb, hz⟩
  have HD := Lib.hid hd
  have HB := Lib.hid hb
  have HZ := Lib.hid hz
  clear hd hb hz
  go_wp2_with fail
  have hx : Has (w1.alloc (.cells #[.int .u8 97, .int .u8 98, .int .u8 99] 5 (3, 4))) (fun i => ¬ (Hi w.heap.size i ∧ i < w1.heap.size)) (some ⟨w1.heap.size, 0, none⟩) [97, 98, 99] := fun _ =>
    ⟨_, 0, rfl, fun h => Nat.lt_irrefl _ h.2, by simp, fun j u hu => by
      rw [cell_of_row _ w1.heap.size _ #[.int .u8 97, .int .u8 98, .int .u8 99] 5 (3, 4) (heap_alloc_new w1 _), Nat.zero_add]
      rw [← hu, ← List.getElem?_toArray]; rfl⟩
  refine (put_ (HD.out.cut.below (alloc_below _ _)) 0 _ 3 [97, 98, 99] hx (by decide) (by simp [St.new]; decide) (by simp [St.new]; decide) (by simp [St.new]) (by decide)).mono ?_
  rintro e w2 ⟨rfl, hd2, hk2⟩
  rw [HP.out] at hd2 ⊢
  have HD2 := Lib.hid hd2
  have hws : w.heap.size ≤ w1.heap.size := HB.out.size
  have HB2 := Lib.hid (HB.out.trans (((alloc_below w1 (.cells #[.int .u8 97, .int .u8 98, .int .u8 99] 5 (3, 4))).mono hws).trans (hk2.below (by simp; omega) fun i _ hi h => by omega)))
  clear hd2 hk2 hx
  go_wp2_with fail
  refine (need_of (n := 65) (m := 65) rfl (by decide) _).mono ?_
  rintro e w3 ⟨rfl, rfl⟩
  rw [show ((need 65 : Nat) : Int) = 2 from rfl]
  go_wp2_with fail
  refine (get_ HD2.out 0 3 (by decide) (by decide)).mono ?_
  rintro e w3 ⟨A, c, rfl, hh, hb3⟩
  rw [HG.out] at hh ⊢
  have hs := hh.str c
  have HB3 := Lib.hid (HB2.out.trans (hb3.mono HB2.out.size))
  clear hh hb3
  rw [show List.length [(97 : UInt8), 98, 99] = 3 from rfl] at hs ⊢
  go_wp2
  go_ret
  exact ⟨rfl, HB3.out⟩
end Go.Proofs.Ytfccghbhkgnmlaa
