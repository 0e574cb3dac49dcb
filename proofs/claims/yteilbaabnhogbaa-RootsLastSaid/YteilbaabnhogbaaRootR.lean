/- What Read answers. -/
import Derived.Test.YteilbaabnhogbaaRootF
import Derived.Deep.LoopGhost
namespace Go.Proofs.Yteilbaabnhogbaa
open Go.RowKit
theorem pair_ex {α β : Type} (p : α × β) : ∃ a b, p = (a, b) := ⟨p.1, p.2, rfl⟩
/-- what is known behind j rounds -/
def Pl.some_ (p : Pl) (s : St) : Nat → Int × Int
  | 0 => (0, 0)
  | j + 1 => p.pick s j (p.some_ s j)
theorem some_two (p : Pl) (s : St) : p.some_ s 2 = p.best s := rfl
def RdRel (w : World) (g a ar : Nat) (s : St) (k : Nat) (v1 v2 i : Value) (wr : World) : Prop :=
  ∃ j, j + k = 2 ∧ i = .int .i64 (j : Int) ∧ v1 = .int .i64 ((⟨a, ar⟩ : Pl).some_ s j).1 ∧ v2 = .int .i64 ((⟨a, ar⟩ : Pl).some_ s j).2 ∧ Below w.heap.size w wr ∧ Blk wr g 44 #[.int .i64 (a : Int), .int .i64 (ar : Int)]
def RdP (w : World) (r : Option (Int × List UInt8)) (e : Ending) (w' : World) : Prop :=
  Below w.heap.size w w' ∧ ((r = none ∧ e = .returned (.tuple #[.int .i64 0, .slice none 0 0, .bool false])) ∨
    ∃ k b A c, r = some (k, b) ∧ e = .returned (.tuple #[.int .i64 k, .slice A b.length c, .bool true]) ∧ Has w' (fun i => w.heap.size ≤ i) A b)
set_option maxRecDepth 100000 in
set_option maxHeartbeats 1000000 in
theorem rread_ {w : World} {gd : Nat} {R : Nat → Prop} {s : St} (h : DiskR w gd R s) (a : Nat) (area : Int) (ha : a ≤ 1048576) :
    Calls Try.prog 13 #[ptr gd, .int .i64 (a : Int), .int .i64 area] w (RdP w ((⟨a, cutR area⟩ : Pl).read s)) := by
  have hcr := (cutR_range area).2
  have hnp := fun w => newPlaces_ a ha area w
  obtain ⟨ar, har⟩ : ∃ ar, cutR area = ar := ⟨_, rfl⟩
  rw [har] at hcr hnp ⊢
  have HH := Lib.hid h
  have HNP := Lib.hid hnp
  clear h hnp har
  go_enter Try.func13, Try.ntmps13
  go_wp2_with fail
  refine (HNP.out _).mono ?_
  rintro r w1 ⟨rfl, hb1⟩
  have HB1 := Lib.hid (hb1.alloc hb1.size (.cells #[.int .i64 (a : Int), .int .i64 (ar : Int)] 44))
  have HX1 := Lib.hid (Blk.new w1 44 #[.int .i64 (a : Int), .int .i64 (ar : Int)])
  clear hb1
  go_wp2_with fail
  go_loopg [10, 11, 19] 2 (fun k v1 v2 i wr => RdRel w w1.heap.size a ar s k v1 v2 i wr)
  case atStart => exact ⟨0, rfl, rfl, rfl, rfl, HB1.out, HX1.out⟩
  case round =>
    obtain ⟨j, hj, rfl, rfl, rfl, hb, hx⟩ := hrel
    have HB := Lib.hid hb
    have HX := Lib.hid hx
    have k0 : wr.cell? ⟨w1.heap.size, 0, none⟩ = some (.int .i64 (a : Int)) := by rw [hx.cell]; rfl
    have k1 : wr.cell? ⟨w1.heap.size, 1, none⟩ = some (.int .i64 (ar : Int)) := by rw [hx.cell]; rfl
    clear hb hx
    by_cases hlt : j < 2
    · obtain ⟨e0, n0, hr0⟩ : ∃ e0 n0, (⟨a, ar⟩ : Pl).some_ s j = (e0, n0) := pair_ex _
      have hnx : (⟨a, ar⟩ : Pl).some_ s (j + 1) = (⟨a, ar⟩ : Pl).pick s j (e0, n0) := by rw [← hr0]; rfl
      rw [hr0]
      have HNX := Shut.mk hnx
      clear hr0 hnx
      go_wp2_with fail
      refine (find_ (HH.out.below HB.out) a ar j ha hcr hlt).mono ?_
      rintro r w2 ⟨rfl, hb2⟩
      have HB2 := Lib.hid (HB.out.trans (hb2.mono HB.out.size))
      have HX2 := Lib.hid (HX.out.below hb2 HX.out.lt)
      obtain ⟨E, hE⟩ : ∃ E, toldE (s.at_ (a + j)) = E := ⟨_, rfl⟩
      obtain ⟨M, hM⟩ : ∃ M, toldN (s.at_ (a + j)) = M := ⟨_, rfl⟩
      have hpk : (⟨a, ar⟩ : Pl).some_ s (j + 1) = if (⟨a, ar⟩ : Pl).isRoot s j && decide (e0 < E) then (E, M) else (e0, n0) := by
        rw [HNX.out, ← hE, ← hM]; rfl
      obtain ⟨ok, hok⟩ : ∃ ok, (⟨a, ar⟩ : Pl).isRoot s j = ok := ⟨_, rfl⟩
      rw [hok] at hpk ⊢
      rw [hE, hM]
      have HPK := Shut.mk hpk
      clear hpk hok hE hM hb2 k0 k1 HNX
      cases ok
      · go_wp2_with fail
        go_roundg (2 - (j + 1))
        case measure => omega
        case rel => exact ⟨j + 1, by omega, by go_num, by rw [HPK.out]; rfl, by rw [HPK.out]; rfl, HB2.out, HX2.out⟩
      · rcases Int.lt_or_le e0 E with h0 | h0
        · go_wp2_with fail
          go_roundg (2 - (j + 1))
          case measure => omega
          case rel => exact ⟨j + 1, by omega, by go_num, by rw [HPK.out, decide_eq_true h0]; rfl, by rw [HPK.out, decide_eq_true h0]; rfl, HB2.out, HX2.out⟩
        · go_wp2_with fail
          go_roundg (2 - (j + 1))
          case measure => omega
          case rel => exact ⟨j + 1, by omega, by go_num, by rw [HPK.out, decide_eq_false (by omega : ¬ e0 < E)]; rfl, by rw [HPK.out, decide_eq_false (by omega : ¬ e0 < E)]; rfl, HB2.out, HX2.out⟩
    · obtain rfl : j = 2 := by omega
      have hbr := best_range ⟨a, ar⟩ s hcr
      rw [some_two]
      have hrd := Pl.read.eq_1 ⟨a, ar⟩ s
      obtain ⟨E, M, hb⟩ : ∃ E M, (⟨a, ar⟩ : Pl).best s = (E, M) := pair_ex _
      rw [hb] at hbr hrd ⊢
      obtain ⟨hE0, hE1, hM0, hM1⟩ := hbr
      simp only at hrd hE0 hE1 hM0 hM1 ⊢
      have HRD := Shut.mk hrd
      clear hrd hb
      by_cases hz : E = 0
      · subst hz
        have hg : (⟨a, ar⟩ : Pl).read s = none := by rw [HRD.out, if_pos rfl]
        have HG := Shut.mk hg
        clear hg HRD
        go_wp2_with fail
        go_ret3
        exact ⟨HB.out, .inl ⟨HG.out, rfl⟩⟩
      · obtain ⟨e, he⟩ : ∃ e : Nat, E = (e : Int) := ⟨E.toNat, by omega⟩
        subst he
        have hg : (⟨a, ar⟩ : Pl).read s = some ((e : Int), s.get ((⟨a, ar⟩ : Pl).image e) M) := by rw [HRD.out, if_neg hz, Int.toNat_natCast]
        have HG := Shut.mk hg
        clear hg HRD
        go_wp2_with fail
        refine (image_ a ar e ha hcr _).mono ?_
        rintro r w2 ⟨rfl, hb2⟩
        have HB2 := Lib.hid (HB.out.trans (hb2.mono HB.out.size))
        clear hb2 k0 k1
        go_wp2_with fail
        refine (d_get (HH.out.below HB2.out) _ M ⟨by omega, by omega⟩).mono ?_
        rintro r w3 ⟨A3, c3, rfl, hh3, hb3, _⟩
        have HB3 := Lib.hid (HB2.out.trans (hb3.mono HB2.out.size))
        have HH3 := Lib.hid (hh3.more (K' := fun i => w.heap.size ≤ i) fun i _ hi => Nat.le_trans HB2.out.size hi.1)
        clear hb3 hh3
        go_wp2_with fail
        go_ret3
        exact ⟨HB3.out, .inr ⟨_, _, _, _, HG.out, rfl, HH3.out⟩⟩
end Go.Proofs.Yteilbaabnhogbaa
