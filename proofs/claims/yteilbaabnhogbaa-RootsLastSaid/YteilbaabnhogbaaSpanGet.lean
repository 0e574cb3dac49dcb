/- What Get answers. -/
import Derived.Test.YteilbaabnhogbaaSpanM
import Derived.RegionTactic
import Derived.Deep.RegionWith
import Derived.Deep.DeepCutAuto
import Derived.IntWalk
namespace Go.Proofs.Yteilbaabnhogbaa
open Go.RowKit
/-- what has been copied by the j-th round -/
def part (D : List UInt8) (n j : Nat) : List UInt8 := (D.take (j * 64)).take n ++ zeros (n - j * 64)
def got (s : St) (a n : Nat) : List UInt8 := ((s.now.drop a).take (need n)).flatten
theorem got_length {s : St} (hok : s.ok) {a n : Nat} (h : a + need n ≤ s.n) : (got s a n).length = need n * 64 := by
  unfold got
  rw [flat_length (c := 64) fun x hx => hok.now x (List.mem_of_mem_drop (List.mem_of_mem_take hx)), List.length_take, List.length_drop, St.now_length, Nat.min_eq_left (by omega)]
theorem got_next {s : St} (hok : s.ok) {a n j : Nat} (h : a + need n ≤ s.n) (hj : j < need n) : (got s a n).take ((j + 1) * 64) = (got s a n).take (j * 64) ++ s.now.getD (a + j) [] := by
  have hx : ((s.now.drop a).take (need n))[j]? = some (s.now.getD (a + j) []) := by
    rw [List.getElem?_take, if_pos hj, List.getElem?_drop, List.getD_eq_getElem?_getD, List.getElem?_eq_getElem (by rw [St.now_length]; omega)]; rfl
  obtain ⟨e, hl, hc, _⟩ := flat_split (c := 64) (fun x hx => hok.now x (List.mem_of_mem_drop (List.mem_of_mem_take hx))) hx
  unfold got
  generalize ((s.now.drop a).take (need n)) = L at *
  have h1 : ((L.take j).flatten ++ s.now.getD (a + j) []).length = (j + 1) * 64 := by rw [List.length_append, hl, hc]; omega
  rw [e, List.take_append_of_le_length (Nat.le_of_eq h1.symm), List.take_of_length_le (Nat.le_of_eq h1), List.append_assoc, List.take_append_of_le_length (Nat.le_of_eq hl.symm), List.take_of_length_le (l := (L.take j).flatten) (Nat.le_of_eq hl)]
theorem part_zero (D : List UInt8) (n : Nat) : part D n 0 = zeros n := by simp [part]
theorem part_length {D : List UInt8} {n j : Nat} (h : j * 64 ≤ D.length) : (part D n j).length = n := by simp [part, zeros]; omega
/-- one sector more is copied -/
theorem get_copy {w2 : World} {B b a n j c : Nat} {s : St} (hok : s.ok) (h : a + need n ≤ s.n) (hj : j < need n) (hB : Blk w2 B 5 (cellsB (part (got s a n) n j)).toArray) (hb : Blk w2 b 5 (cellsB (s.now.getD (a + j) [])).toArray) :
    ∃ W3, (Builtin.copy_ #[31, 31] 3 #[.slice (some ⟨B, j * 64, none⟩) (n - j * 64) c, .slice (some ⟨b, 0, none⟩) 64 64]).run Try.prog w2 = .ok (.int .i64 (((s.now.getD (a + j) []).take (n - j * 64)).length : Int)) W3 ∧
      Blk W3 B 5 (cellsB (part (got s a n) n (j + 1))).toArray ∧ Keep (fun i _ => i ≠ B) w2 W3 := by
  have hl : (s.now.getD (a + j) []).length = 64 := secs_getD hok.now (by rw [St.now_length]; omega)
  have hgl := got_length hok h
  have hjn : j * 64 < n := by have := need_lt (n := n) (by unfold need at hj; omega); unfold need at hj; omega
  have hlt : (part (got s a n) n j).length = n := part_length (by omega)
  have e : cellsB (part (got s a n) n j) = cellsB ((got s a n).take (j * 64)) ++ cellsB (zeros ((s.now.getD (a + j) []).take (n - j * 64)).length) ++ cellsB (zeros (n - (j + 1) * 64)) := by
    rw [← cellsB_append, ← cellsB_append]
    congr 1
    unfold part zeros
    rw [List.take_take, Nat.min_eq_right (by omega), List.append_assoc, List.replicate_append_replicate]
    congr 2
    rw [List.length_take, hl]; omega
  have e2 : cellsB (part (got s a n) n (j + 1)) = cellsB ((got s a n).take (j * 64)) ++ cellsB ((s.now.getD (a + j) []).take (n - j * 64)) ++ cellsB (zeros (n - (j + 1) * 64)) := by
    rw [← cellsB_append, ← cellsB_append]
    congr 1
    unfold part
    rw [got_next hok h hj, List.take_append, List.take_of_length_le (by rw [List.length_take]; omega), List.length_take, Nat.min_eq_left (by omega)]
  have ht : w2.there B (j * 64) (n - j * 64) := fun q hq => by
    have := blk_there hB (j * 64 + q) (by rw [cellsB_length, hlt]; omega)
    rwa [Nat.zero_add] at this
  have hcopy := copy_some (W := w2) (b := B) (o := j * 64) (n := n - j * 64) (dc := c) (m := 64) (c := 64) (a := ⟨b, 0, none⟩) (xs := s.now.getD (a + j) []) (ys := (s.now.getD (a + j) []).take (n - j * 64)) hl (fun q u hu => by
    rw [Addr.add_mid, Nat.zero_add, hb.cell, List.getElem?_toArray]; exact hu) ht rfl
  refine ⟨_, hcopy, ?_, (Keep.refl w2).setCells (fun _ _ hk => hk rfl) _ _⟩
  have hp : (cellsB ((got s a n).take (j * 64))).length = j * 64 := by rw [cellsB_length, List.length_take]; omega
  have := blk_setCells (g := B) (t := 5) (cellsB ((s.now.getD (a + j) []).take (n - j * 64))) (cellsB ((got s a n).take (j * 64))) (cellsB (zeros ((s.now.getD (a + j) []).take (n - j * 64)).length)) (cellsB (zeros (n - (j + 1) * 64))) w2 (by rw [cellsB_length, cellsB_length, zeros_length]) (by rw [← e]; exact hB)
  rw [hp] at this
  rw [e2]; exact this
def GetP (w : World) (xs : List UInt8) (e : Ending) (w' : World) : Prop :=
  ∃ A c, e = .returned (.slice A xs.length c) ∧ Has w' (fun i => w.heap.size ≤ i) A xs ∧ Below w.heap.size w w'
/-- a block of bytes -/
def Ty5 (w : World) (i : Nat) : Prop := ∃ cs, Blk w i 5 cs
/-- the same, with what the slice's capacity is, and that it lies in a block of bytes -/
def GetC (w : World) (xs : List UInt8) (e : Ending) (w' : World) : Prop :=
  ∃ A c, e = .returned (.slice A xs.length c) ∧ Has w' (fun i => w.heap.size ≤ i ∧ Ty5 w' i) A xs ∧ Below w.heap.size w w' ∧ xs.length ≤ c ∧ c ≤ 262144 ∧ (A = none → c = 0)
def GetRel (w : World) (s : St) (a n N k : Nat) (i : Value) (wr : World) : Prop :=
  ∃ j, j + k = N ∧ i = .int .i64 (j : Int) ∧ Blk wr w.heap.size 5 (cellsB (part (got s a n) n j)).toArray ∧ Below w.heap.size w wr
theorem get_no {w : World} {g : Nat} {O : Nat → Prop} {s : St} (h : DiskAt w g O s) (at_ n : Int) (hn : s.fits at_ (need (cutG n)) = false) (hn1 : -9223372036854775808 ≤ n) (hn2 : n ≤ 9223372036854775807) :
    Calls Try.prog 22 #[ptr g, .int .i64 at_, .int .i64 n] w (GetC w (s.get at_ n)) := by
  have e : s.get at_ n = [] := by unfold St.get; rw [hn]; rfl
  rw [e]
  have H := Lib.hid h
  have HF := Lib.hid hn
  have hc : ((cutG n : Nat) : Int) = min (max n 0) 262144 := by unfold cutG; omega
  have HC := Lib.hid hc
  have hm : cutG n ≤ 262144 := by omega
  generalize cutG n = M at *
  clear h hn e hc
  go_enter Try.func22, Try.ntmps22
  go_upto_region 1 with fail
  go_cut [2] (fun v wx => v = .int .i64 (M : Int) ∧ wx = w)
  case first =>
    go_wp2_with fail
    all_goals
      go_meet
      have hc := HC.out
      refine ⟨?_, rfl⟩
      congr 1
      omega
  case rest =>
    obtain ⟨rfl, rfl⟩ := hcut
    have hd : need M ≤ 262144 := by unfold need; omega
    go_wp2_with (first | (go_at_call 34; refine (need_of (Int.toNat_natCast M) (by omega) _).mono ?_; rintro e w1 ⟨rfl, rfl⟩) | (go_at_call 35; refine (spanHas H.out at_ (need M) (by omega)).mono ?_; rintro e w1 ⟨rfl, rfl⟩; rw [HF.out]))
    go_ret
    exact ⟨none, 0, rfl, Has.nil _ _ _, Below.refl _ _, Nat.le_refl _, by omega, fun _ => rfl⟩
set_option maxRecDepth 100000 in
set_option maxHeartbeats 1000000 in
theorem get_yes {w : World} {g : Nat} {O : Nat → Prop} {s : St} (h : DiskAt w g O s) (a : Nat) (n : Int) (hf : s.fits a (need (cutG n)) = true) (hn1 : -9223372036854775808 ≤ n) (hn2 : n ≤ 9223372036854775807) :
    Calls Try.prog 22 #[ptr g, .int .i64 a, .int .i64 n] w (GetC w (s.get a n)) := by
  have e : s.get a n = (got s a (cutG n)).take (cutG n) := by unfold St.get; rw [hf]; rfl
  have hok : s.ok := by obtain ⟨_, _, h⟩ := h; exact h.ok
  have hsn : s.n ≤ 4096 := hok.many
  obtain ⟨f0, f1⟩ := St.fits_iff.1 hf
  rw [e]
  have H := Lib.hid h
  have HF := Lib.hid hf
  have hc : ((cutG n : Nat) : Int) = min (max n 0) 262144 := by unfold cutG; omega
  have HC := Lib.hid hc
  have hm : cutG n ≤ 262144 := by omega
  generalize cutG n = M at *
  have hgl := got_length hok (a := a) (n := M) (by omega)
  have HOK := Lib.hid hok
  have hmk := made5 M (by omega)
  have HE : Hid (part (got s a M) M (need M) = (got s a M).take M) := by
    show part (got s a M) M (need M) = (got s a M).take M
    have := need_ge M
    unfold part
    rw [List.take_of_length_le (l := got s a M) (by omega), show M - need M * 64 = 0 by omega]; simp [zeros]
  have HGL := Lib.hid hgl
  clear h hf e hc hgl hok
  go_enter Try.func22, Try.ntmps22
  go_upto_region 1 with fail
  go_cut [2] (fun v wx => v = .int .i64 (M : Int) ∧ wx = w)
  case first =>
    go_wp2_with fail
    all_goals
      go_meet
      have hc := HC.out
      refine ⟨?_, rfl⟩
      congr 1
      omega
  case rest =>
    obtain ⟨rfl, rfl⟩ := hcut
    have hd : need M ≤ 262144 := by unfold need; omega
    go_wp2_with (first | (go_at_call 34; refine (need_of (Int.toNat_natCast M) (by omega) _).mono ?_; rintro e w1 ⟨rfl, rfl⟩) | (go_at_call 35; refine (spanHas H.out a (need M) (by omega)).mono ?_; rintro e w1 ⟨rfl, rfl⟩; rw [HF.out]))
    have hnM := need_lt (n := M)
    generalize hN : need M = N at *
    have HN := Lib.hid hN
    clear hN
    go_loopg [23] N (fun k i wr => GetRel wc s a M N k i wr)
    case atStart => exact ⟨0, by omega, rfl, by rw [part_zero]; exact Blk.new _ _ _, alloc_below _ _⟩
    case round =>
      obtain ⟨j, hj, rfl, hb, hbel⟩ := hrel
      have HJ := Lib.hid hj
      have HB := Lib.hid hb
      have HBL := Lib.hid hbel
      clear hj hb hbel
      by_cases hlt : j < N
      · have hd : DiskAt wr g O s := H.out.below HBL.out
        have HD := Lib.hid hd
        have hjM : j * 64 < M := by
          have := HN.out
          unfold need at this
          omega
        have hle : a + need M ≤ s.n := by rw [HN.out]; omega
        have hjn : j < need M := by rw [HN.out]; exact hlt
        have HLE := Lib.hid hle
        have HJN := Lib.hid hjn
        have hai : a + j < s.n := by omega
        have hBl := HB.out.lt
        have haj : IntKind.i64.wrap ((a : Int) + (j : Int)) = ((a + j : Nat) : Int) := IntWalk.i64_in _ (by omega)
        have hj6 : IntKind.i64.wrap ((j : Int) * 64) = ((j * 64 : Nat) : Int) := IntWalk.i64_in _ (by omega)
        clear hd hle hjn
        go_wp2_with fail
        go_region_with ((go_at_call 29; refine (read_ (DiskAt.drew HD.out) (a + j) hai).mono ?_; rintro e w2 ⟨rfl, hb2, hbel2, hsz2⟩; obtain ⟨W3, hcp, hB3, hk3⟩ := get_copy (c := M - j * 64) (b := wr.heap.size) HOK.out HLE.out HJN.out ((HB.out.drew).below hbel2 hBl) hb2; have HB2 := Lib.hid hb2; have HBEL2 := Lib.hid hbel2; have HSZ2 := Lib.hid hsz2; have HB3 := Lib.hid hB3; have HK3 := Lib.hid hk3; clear hb2 hbel2 hsz2 hB3 hk3))
        all_goals
          clear hcp
          clear haj hj6
          go_wp2
          go_roundg (N - (j + 1))
          case measure => have := HJ.out; omega
          case rel => exact ⟨j + 1, by omega, by go_num, HB3.out, (HBL.out.trans ((Below.refl _ _).drew.trans HBEL2.out |>.mono (by have := HBL.out.size; simp only [World.drew]; omega))).trans (HK3.out.below (by have := HBEL2.out.size; have := HBL.out.size; simp only [World.drew] at *; omega) fun i _ hi => by omega)⟩
      · obtain rfl : j = N := by have := HJ.out; omega
        go_wp2
        go_ret
        have hb := HB.out
        have hn := HN.out
        subst hn
        rw [HE.out] at hb
        have hl : ((got s a M).take M).length = M := by
          rw [List.length_take, HGL.out]
          have := need_ge M
          omega
        refine ⟨some ⟨wc.heap.size, 0, none⟩, M, by rw [hl]; rfl, Has.of_blk hb ⟨Nat.le_refl _, _, hb⟩, HBL.out, by rw [hl]; exact Nat.le_refl _, by omega, fun h => by cases h⟩
theorem getC_ {w : World} {g : Nat} {O : Nat → Prop} {s : St} (h : DiskAt w g O s) (at_ n : Int) (hn1 : -9223372036854775808 ≤ n) (hn2 : n ≤ 9223372036854775807) :
    Calls Try.prog 22 #[ptr g, .int .i64 at_, .int .i64 n] w (GetC w (s.get at_ n)) := by
  cases hf : s.fits at_ (need (cutG n))
  · exact get_no h at_ n hf hn1 hn2
  · obtain ⟨f0, _⟩ := St.fits_iff.1 hf
    obtain ⟨a, rfl⟩ := Int.eq_ofNat_of_zero_le f0
    exact get_yes h a n hf hn1 hn2
theorem get_ {w : World} {g : Nat} {O : Nat → Prop} {s : St} (h : DiskAt w g O s) (at_ n : Int) (hn1 : -9223372036854775808 ≤ n) (hn2 : n ≤ 9223372036854775807) :
    Calls Try.prog 22 #[ptr g, .int .i64 at_, .int .i64 n] w (GetP w (s.get at_ n)) :=
  (getC_ h at_ n hn1 hn2).mono fun _ _ ⟨A, c, h1, h2, h3, _⟩ => ⟨A, c, h1, h2.more fun _ _ h => h.1, h3⟩
end Go.Proofs.Yteilbaabnhogbaa
