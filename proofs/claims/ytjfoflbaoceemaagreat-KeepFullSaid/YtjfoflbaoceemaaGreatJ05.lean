/- . . . . -/
import Derived.Test.YtjfoflbaoceemaaGreatJ04
import Derived.RegionTactic
import Derived.Deep.RegionWith
import Derived.Deep.DeepCutAuto
import Derived.IntWalk
import Derived.Test.YtjfoflbaoceemaaGreatJ02
import Derived.Test.YtjfoflbaoceemaaGreatJ01
import Derived.Test.YtjfoflbaoceemaaGreatProg
import Derived.WalkKit
import Derived.ProofKit
import Derived.LoopTactic
import Derived.Laws.Cover1
import Derived.Lib.Hide
import Derived.Laws.MakeOwn
import Derived.Laws.NewBlocks
import Derived.WalkLawsBesides
import Derived.Laws.IdiomStrings
set_option maxRecDepth 4000
namespace Go.Proofs.YtjfoflbaoceemaaGreat
open Go.RowKit
def PutP (w : World) (g : Nat) (O : Nat → Prop) (p : Dk × Bool) (e : Ending) (w' : World) : Prop :=
  e = .returned (.bool p.2) ∧ DiskAt w' g (fun i => O i ∨ w.heap.size ≤ i) p.1 ∧ Keep (Out O) w w'
def PutRel (w : World) (g : Nat) (O : Nat → Prop) (at_ : Nat) (xs : List UInt8) (p : Dk × Bool) (N k : Nat) (i : Value) (wr : World) : Prop :=
  ∃ (j : Nat) (s : Dk), j + k = N ∧ i = .int .i64 (j : Int) ∧ DiskAt wr g (fun i => O i ∨ w.heap.size ≤ i) s ∧ Keep (fun i _ => i < w.heap.size ∧ ¬ O i) w wr ∧ putGo at_ xs s j k = p ∧
    s.l.length + k ≤ 1000000 ∧ s.count + k ≤ 1000000 ∧ s.left ≤ 9223372036854775807 ∧ at_ + N ≤ s.n
theorem src_blk {w : World} {O : Nat → Prop} {b : Nat} {xs : List UInt8} (h : Blk w b 109 (cellsB xs).toArray) (hO : ¬ O b) : Src w O b 0 xs :=
  ⟨h.lt, .inl hO, fun j u hu => by rw [h.cell, Nat.zero_add, List.getElem?_toArray]; exact hu⟩
theorem put_next {w wr W2 w3 : World} {g N a gk j : Nat} {O : Nat → Prop} {xs : List UInt8} {t : Dk} {p : Dk × Bool} (hj : j + (gk + 1) = N) (hn : a + N ≤ t.n) (hl : t.l.length + (gk + 1) ≤ 1000000) (hc : t.count + (gk + 1) ≤ 1000000) (hle : t.left ≤ 9223372036854775807)
    (hb : Below wr.heap.size wr W2) (hs : W2.heap.size = wr.heap.size + 1) (hws : w.heap.size ≤ wr.heap.size) (hk : Keep (fun i _ => i < w.heap.size ∧ ¬ O i) w wr)
    (hd : DiskAt w3 g (fun i => ((O i ∨ w.heap.size ≤ i) ∧ i < wr.heap.size) ∨ W2.heap.size ≤ i) (t.wr (a + j) (chunk xs j))) (hk3 : Keep (Out fun i => (O i ∨ w.heap.size ≤ i) ∧ i < wr.heap.size) W2 w3)
    (hp : (if false = true then (t, false) else putGo a xs (t.wr (a + j) (chunk xs j)) (j + 1) gk) = p) : PutRel w g O a xs p N gk (.int .i64 (((j + 1 : Nat) : Int))) w3 := by
  refine ⟨j + 1, t.wr (a + j) (chunk xs j), by omega, rfl, hd.more fun i hi => ?_, ?_, by simpa using hp, ?_, ?_, ?_, by rw [Dk.n_wr]; omega⟩
  · rcases hi with hi | hi
    · exact hi.1
    · exact .inr (by omega)
  · refine (hk.trans (Keep.of_below hb)).trans (hk3.mono fun i _ _ hi h => ?_)
    rcases h.1 with h | h
    · exact hi.2 h
    · omega
  · simp only [Dk.wr, List.length_append, List.length_singleton]; omega
  · simp only [Dk.wr]; omega
  · simp only [Dk.wr]; split <;> omega
set_option maxRecDepth 100000 in
set_option maxHeartbeats 1000000 in
theorem put_ {w : World} {g : Nat} {O : Nat → Prop} {s : Dk} (h : DiskAt w g O s) (at_ : Int) (A : Option Addr) (c : Nat) (xs : List UInt8) (hx : Has w (fun i => ¬ O i) A xs) (hc : xs.length ≤ c) (hl : s.l.length + need xs.length ≤ 1000000) (hco : s.count + need xs.length ≤ 1000000) (hle : s.left ≤ 9223372036854775807) (hxl : xs.length ≤ 1000000) :
    Calls Tryz.prog 188 #[ptr g, .int .i64 at_, .slice A xs.length c] w (PutP w g O (s.put at_ xs)) := by
  have hneed : need xs.length ≤ 1000000 := by unfold need; omega
  by_cases hn0 : need xs.length = 0
  · have e : s.put at_ xs = (s, true) := by rw [Dk.put, if_pos hn0]
    rw [e]
    have HD := Lib.hid h
    clear h e hx
    go_enter Tryz.func188, Tryz.ntmps188
    go_wp2_with fail
    refine (need_of (Int.toNat_natCast xs.length) (by omega) w).mono ?_
    rintro e w1 ⟨rfl, rfl⟩
    rw [hn0]
    go_wp2
    go_ret
    exact ⟨rfl, HD.out.more fun _ hi => .inl hi, Keep.refl w⟩
  · cases hfit : s.fits at_ (need xs.length)
    · have e : s.put at_ xs = (s, false) := by rw [Dk.put, if_neg hn0, hfit]; rfl
      rw [e]
      have HF := Lib.hid hfit
      have HD := Lib.hid h
      have hn1 : ((need xs.length : Int) == 0) = false := by rw [beq_eq_false_iff_ne]; omega
      clear h e hx hfit
      go_enter Tryz.func188, Tryz.ntmps188
      go_wp2_with (first | (go_at_call 172; refine (need_of (Int.toNat_natCast xs.length) (by omega) w).mono ?_; rintro e w1 ⟨rfl, rfl⟩) | (go_at_call 173; refine (spanHas HD.out at_ _ (by omega)).mono ?_; rintro e w1 ⟨rfl, rfl⟩; rw [HF.out]))
      go_ret
      exact ⟨rfl, HD.out.more fun _ hi => .inl hi, Keep.refl w⟩
    · have e : s.put at_ xs = putGo at_.toNat xs s 0 (need xs.length) := by rw [Dk.put, if_neg hn0, hfit]; rfl
      rw [e]
      obtain ⟨f0, f1⟩ := Dk.fits_iff.1 hfit
      obtain ⟨a, rfl⟩ := Int.eq_ofNat_of_zero_le f0
      rw [Int.toNat_natCast]
      have hsn : s.n ≤ 4096 := by obtain ⟨_, _, h⟩ := h; exact h.ok.many
      have HF := Lib.hid hfit
      have HD := Lib.hid h
      have HX := Lib.hid hx
      have HL := Lib.hid hl
      have HCO := Lib.hid hco
      have HLE := Lib.hid hle
      generalize hp : putGo a xs s 0 (need xs.length) = p
      have HPu := Lib.hid hp
      have hn1 : ((need xs.length : Int) == 0) = false := by rw [beq_eq_false_iff_ne]; omega
      have hng : need xs.length * 64 < xs.length + 64 := by unfold need; omega
      clear h e hx hfit hl hco hle hp
      go_enter Tryz.func188, Tryz.ntmps188
      go_wp2_with (first | (go_at_call 172; refine (need_of (Int.toNat_natCast xs.length) (by omega) w).mono ?_; rintro e w1 ⟨rfl, rfl⟩) | (go_at_call 173; refine (spanHas HD.out a _ (by omega)).mono ?_; rintro e w1 ⟨rfl, rfl⟩; rw [HF.out]))
      generalize need xs.length = N at *
      go_loopg [21] N (fun k i wr => PutRel w g O a xs p N k i wr)
      case atStart => exact ⟨0, s, by omega, rfl, HD.out.more fun _ hi => .inl hi, Keep.refl w, HPu.out, HL.out, HCO.out, HLE.out, by omega⟩
      case round =>
        obtain ⟨j, t, hj, rfl, hd, hk, hpj, hll, hcc, hlf, htn⟩ := hrel
        have HJ := Lib.hid hj
        have HK := Lib.hid hk
        have HPJ := Lib.hid hpj
        have HDJ := Lib.hid hd
        have HLL := Lib.hid hll
        have HCC := Lib.hid hcc
        have HLF := Lib.hid hlf
        have HTN := Lib.hid htn
        clear hj hk hpj hd hll hcc hlf htn
        by_cases hlt : j < N
        · have hj64 : j * 64 < xs.length := by omega
          have hxw : Has wr (fun i => i < w.heap.size ∧ ¬ O i) A xs := (HX.out.more (K' := fun i => i < w.heap.size ∧ ¬ O i) fun i hi hO => ⟨hi, hO⟩).keep HK.out
          obtain ⟨b, o, W2, rfl, hcp, hb2, hbel, hsz⟩ := sector_copy (c := c) hxw hj64
          have HB2 := Lib.hid hb2
          have HBL := Lib.hid hbel
          have HSZ := Lib.hid hsz
          have HXW := Lib.hid hxw
          clear hb2 hbel hsz hxw
          go_wp2_with fail
          change Code.wp _ _ _ _ (wr.alloc (.cells (cellsB (zeros 64)).toArray 109))
          generalize (cellsB (zeros 64)).toArray = Z at *
          go_region
          clear hcp
          have hpg := HPJ.out
          obtain ⟨gk', rfl⟩ : ∃ q, gk = q + 1 := ⟨gk - 1, by have := HJ.out; omega⟩
          rw [putGo] at hpg
          have hdw : DiskAt W2 g (fun i => (O i ∨ w.heap.size ≤ i) ∧ i < wr.heap.size) t := HDJ.out.cut.below HBL.out
          have hws : w.heap.size ≤ wr.heap.size := HK.out.size
          cases hbr : t.broken
          · rw [hbr] at hpg
            have HPG := Lib.hid hpg
            have HBR := Lib.hid hbr
            have HDW := Lib.hid hdw
            clear hpg hbr hdw
            go_wp2_with fail
            refine (write_ HDW.out HBR.out (by have := HLL.out; omega) (by have := HCC.out; omega) HLF.out (a + j) (by have := HTN.out; omega) _ 0 64 (chunk xs j) (chunk_length _ _) ?_).mono ?_
            · exact src_blk HB2.out (by omega)
            · rintro e w3 ⟨rfl, hd3, hk3⟩
              have HD3 := Lib.hid hd3
              have HK3 := Lib.hid hk3
              clear hd3 hk3
              go_wp2
              go_roundg gk'
              case measure => omega
              case rel => exact put_next HJ.out HTN.out HLL.out HCC.out HLF.out HBL.out HSZ.out hws HK.out HD3.out HK3.out HPG.out
          · rw [hbr, if_pos rfl] at hpg
            have HPG := Lib.hid hpg
            have HBR := Lib.hid hbr
            have HDW := Lib.hid hdw
            clear hpg hbr hdw
            go_wp2_with fail
            refine (write_no HDW.out (((a + j : Nat) : Int)) _ 64 (.inr HBR.out)).mono ?_
            rintro e w3 ⟨rfl, rfl⟩
            go_wp2
            go_ret
            have hp := HPG.out
            subst hp
            exact ⟨rfl, HDW.out.more fun i hi => hi.1, (HK.out.mono fun i _ hi hO => ⟨lt_of_some hi, hO⟩).trans (Keep.of_below HBL.out)⟩
        · obtain rfl : gk = 0 := by have := HJ.out; omega
          go_wp2
          go_ret
          have hp := HPJ.out
          rw [putGo] at hp
          subst hp
          exact ⟨rfl, HDJ.out, HK.out.mono fun i _ hi hO => ⟨lt_of_some hi, hO⟩⟩
end Go.Proofs.YtjfoflbaoceemaaGreat
namespace Go.Proofs.YtjfoflbaoceemaaGreat
open Go.RowKit
def part (D : List UInt8) (n j : Nat) : List UInt8 := (D.take (j * 64)).take n ++ zeros (n - j * 64)
def got (s : Dk) (a n : Nat) : List UInt8 := ((s.now.drop a).take (need n)).flatten
theorem got_length {s : Dk} (hok : s.ok) {a n : Nat} (h : a + need n ≤ s.n) : (got s a n).length = need n * 64 := by
  unfold got
  rw [flat_length (c := 64) fun x hx => hok.now x (List.mem_of_mem_drop (List.mem_of_mem_take hx)), List.length_take, List.length_drop, Dk.now_length, Nat.min_eq_left (by omega)]
theorem got_next {s : Dk} (hok : s.ok) {a n j : Nat} (h : a + need n ≤ s.n) (hj : j < need n) : (got s a n).take ((j + 1) * 64) = (got s a n).take (j * 64) ++ s.now.getD (a + j) [] := by
  have hx : ((s.now.drop a).take (need n))[j]? = some (s.now.getD (a + j) []) := by
    rw [List.getElem?_take, if_pos hj, List.getElem?_drop, List.getD_eq_getElem?_getD, List.getElem?_eq_getElem (by rw [Dk.now_length]; omega)]; rfl
  obtain ⟨e, hl, hc, _⟩ := flat_split (c := 64) (fun x hx => hok.now x (List.mem_of_mem_drop (List.mem_of_mem_take hx))) hx
  unfold got
  generalize ((s.now.drop a).take (need n)) = L at *
  have h1 : ((L.take j).flatten ++ s.now.getD (a + j) []).length = (j + 1) * 64 := by rw [List.length_append, hl, hc]; omega
  rw [e, List.take_append_of_le_length (Nat.le_of_eq h1.symm), List.take_of_length_le (Nat.le_of_eq h1), List.append_assoc, List.take_append_of_le_length (Nat.le_of_eq hl.symm), List.take_of_length_le (l := (L.take j).flatten) (Nat.le_of_eq hl)]
theorem part_zeroG (D : List UInt8) (n : Nat) : part D n 0 = zeros n := by simp [part]
theorem part_length {D : List UInt8} {n j : Nat} (h : j * 64 ≤ D.length) : (part D n j).length = n := by simp [part, zeros]; omega
theorem get_copy {w2 : World} {B b a n j c : Nat} {s : Dk} (hok : s.ok) (h : a + need n ≤ s.n) (hj : j < need n) (hB : Blk w2 B 5 (cellsB (part (got s a n) n j)).toArray) (hb : Blk w2 b 5 (cellsB (s.now.getD (a + j) [])).toArray) :
    ∃ W3, (Builtin.copy_ #[42, 42] 3 #[.slice (some ⟨B, j * 64, none⟩) (n - j * 64) c, .slice (some ⟨b, 0, none⟩) 64 64]).run Tryz.prog w2 = .ok (.int .i64 (((s.now.getD (a + j) []).take (n - j * 64)).length : Int)) W3 ∧
      Blk W3 B 5 (cellsB (part (got s a n) n (j + 1))).toArray ∧ Keep (fun i _ => i ≠ B) w2 W3 := by
  have hl : (s.now.getD (a + j) []).length = 64 := secs_getD hok.now (by rw [Dk.now_length]; omega)
  have hgl := got_length hok h
  have hjn : j * 64 < n := by have := need_lt (n := n) (by unfold need at hj; omega); unfold need at hj; omega
  have hlt : (part (got s a n) n j).length = n := part_length (by omega)
  have e : cellsB (part (got s a n) n j) = cellsB ((got s a n).take (j * 64)) ++ cellsB (zeros ((s.now.getD (a + j) []).take (n - j * 64)).length) ++ cellsB (zeros (n - (j + 1) * 64)) := by
    rw [← cellsB_append, ← cellsB_append]
    congr 1
    unfold part zeros
    rw [List.take_take, Nat.min_eq_right (by omega), List.append_assoc, List.replicate_append_replicate]
    congr 2
    rw [List.length_take, hl]; omega
  have e2 : cellsB (part (got s a n) n (j + 1)) = cellsB ((got s a n).take (j * 64)) ++ cellsB ((s.now.getD (a + j) []).take (n - j * 64)) ++ cellsB (zeros (n - (j + 1) * 64)) := by
    rw [← cellsB_append, ← cellsB_append]
    congr 1
    unfold part
    rw [got_next hok h hj, List.take_append, List.take_of_length_le (by rw [List.length_take]; omega), List.length_take, Nat.min_eq_left (by omega)]
  have ht : w2.there B (j * 64) (n - j * 64) := fun q hq => by
    have := blk_there hB (j * 64 + q) (by rw [cellsB_length, hlt]; omega)
    rwa [Nat.zero_add] at this
  have hcopy := copy_some (W := w2) (b := B) (o := j * 64) (n := n - j * 64) (dc := c) (m := 64) (c := 64) (a := ⟨b, 0, none⟩) (xs := s.now.getD (a + j) []) (ys := (s.now.getD (a + j) []).take (n - j * 64)) hl (fun q u hu => by
    rw [Addr.add_mid, Nat.zero_add, hb.cell, List.getElem?_toArray]; exact hu) ht rfl
  refine ⟨_, hcopy, ?_, (Keep.refl w2).setCells (fun _ _ hk => hk rfl) _ _⟩
  have hp : (cellsB ((got s a n).take (j * 64))).length = j * 64 := by rw [cellsB_length, List.length_take]; omega
  have := blk_setCells (g := B) (t := 5) (cellsB ((s.now.getD (a + j) []).take (n - j * 64))) (cellsB ((got s a n).take (j * 64))) (cellsB (zeros ((s.now.getD (a + j) []).take (n - j * 64)).length)) (cellsB (zeros (n - (j + 1) * 64))) w2 (by rw [cellsB_length, cellsB_length, zeros_length]) (by rw [← e]; exact hB)
  rw [hp] at this
  rw [e2]; exact this
def Ty5 (w : World) (i : Nat) : Prop := ∃ cs, Blk w i 5 cs
def GetC (w : World) (xs : List UInt8) (e : Ending) (w' : World) : Prop :=
  ∃ A c, e = .returned (.slice A xs.length c) ∧ Has w' (fun i => w.heap.size ≤ i ∧ Ty5 w' i) A xs ∧ Below w.heap.size w w' ∧ xs.length ≤ c ∧ c ≤ 262144 ∧ (A = none → c = 0)
def GetRel (w : World) (s : Dk) (a n N k : Nat) (i : Value) (wr : World) : Prop :=
  ∃ j, j + k = N ∧ i = .int .i64 (j : Int) ∧ Blk wr w.heap.size 5 (cellsB (part (got s a n) n j)).toArray ∧ Below w.heap.size w wr
theorem get_no {w : World} {g : Nat} {O : Nat → Prop} {s : Dk} (h : DiskAt w g O s) (at_ n : Int) (hn : s.fits at_ (need (cutG n)) = false) (hn1 : -9223372036854775808 ≤ n) (hn2 : n ≤ 9223372036854775807) :
    Calls Tryz.prog 123 #[ptr g, .int .i64 at_, .int .i64 n] w (GetC w (s.get at_ n)) := by
  have e : s.get at_ n = [] := by unfold Dk.get; rw [hn]; rfl
  rw [e]
  have H := Lib.hid h
  have HF := Lib.hid hn
  have hc : ((cutG n : Nat) : Int) = min (max n 0) 262144 := by unfold cutG; omega
  have HC := Lib.hid hc
  have hm : cutG n ≤ 262144 := by omega
  generalize cutG n = M at *
  clear h hn e hc
  go_enter Tryz.func123, Tryz.ntmps123
  go_upto_region 1 with fail
  go_cut [2] (fun v wx => v = .int .i64 (M : Int) ∧ wx = w)
  case first =>
    go_wp2_with fail
    all_goals
      go_meet
      have hc := HC.out
      refine ⟨?_, rfl⟩
      congr 1
      omega
  case rest =>
    obtain ⟨rfl, rfl⟩ := hcut
    have hd : need M ≤ 262144 := by unfold need; omega
    go_wp2_with (first | (go_at_call 172; refine (need_of (Int.toNat_natCast M) (by omega) _).mono ?_; rintro e w1 ⟨rfl, rfl⟩) | (go_at_call 173; refine (spanHas H.out at_ (need M) (by omega)).mono ?_; rintro e w1 ⟨rfl, rfl⟩; rw [HF.out]))
    go_ret
    exact ⟨none, 0, rfl, Has.nil _ _ _, Below.refl _ _, Nat.le_refl _, by omega, fun _ => rfl⟩
set_option maxRecDepth 100000 in
set_option maxHeartbeats 1000000 in
theorem get_yes {w : World} {g : Nat} {O : Nat → Prop} {s : Dk} (h : DiskAt w g O s) (a : Nat) (n : Int) (hf : s.fits a (need (cutG n)) = true) (hn1 : -9223372036854775808 ≤ n) (hn2 : n ≤ 9223372036854775807) :
    Calls Tryz.prog 123 #[ptr g, .int .i64 a, .int .i64 n] w (GetC w (s.get a n)) := by
  have e : s.get a n = (got s a (cutG n)).take (cutG n) := by unfold Dk.get; rw [hf]; rfl
  have hok : s.ok := by obtain ⟨_, _, h⟩ := h; exact h.ok
  have hsn : s.n ≤ 4096 := hok.many
  obtain ⟨f0, f1⟩ := Dk.fits_iff.1 hf
  rw [e]
  have H := Lib.hid h
  have HF := Lib.hid hf
  have hc : ((cutG n : Nat) : Int) = min (max n 0) 262144 := by unfold cutG; omega
  have HC := Lib.hid hc
  have hm : cutG n ≤ 262144 := by omega
  generalize cutG n = M at *
  have hgl := got_length hok (a := a) (n := M) (by omega)
  have HOK := Lib.hid hok
  have hmk := made5 M (by omega)
  have HE : Hid (part (got s a M) M (need M) = (got s a M).take M) := by
    show part (got s a M) M (need M) = (got s a M).take M
    have := need_ge M
    unfold part
    rw [List.take_of_length_le (l := got s a M) (by omega), show M - need M * 64 = 0 by omega]; simp [zeros]
  have HGL := Lib.hid hgl
  clear h hf e hc hgl hok
  go_enter Tryz.func123, Tryz.ntmps123
  go_upto_region 1 with fail
  go_cut [2] (fun v wx => v = .int .i64 (M : Int) ∧ wx = w)
  case first =>
    go_wp2_with fail
    all_goals
      go_meet
      have hc := HC.out
      refine ⟨?_, rfl⟩
      congr 1
      omega
  case rest =>
    obtain ⟨rfl, rfl⟩ := hcut
    have hd : need M ≤ 262144 := by unfold need; omega
    go_wp2_with (first | (go_at_call 172; refine (need_of (Int.toNat_natCast M) (by omega) _).mono ?_; rintro e w1 ⟨rfl, rfl⟩) | (go_at_call 173; refine (spanHas H.out a (need M) (by omega)).mono ?_; rintro e w1 ⟨rfl, rfl⟩; rw [HF.out]))
    have hnM := need_lt (n := M)
    generalize hN : need M = N at *
    have HN := Lib.hid hN
    clear hN
    go_loopg [23] N (fun k i wr => GetRel wc s a M N k i wr)
    case atStart => exact ⟨0, by omega, rfl, by rw [part_zeroG]; exact Blk.new _ _ _, alloc_below _ _⟩
    case round =>
      obtain ⟨j, hj, rfl, hb, hbel⟩ := hrel
      have HJ := Lib.hid hj
      have HB := Lib.hid hb
      have HBL := Lib.hid hbel
      clear hj hb hbel
      by_cases hlt : j < N
      · have hd : DiskAt wr g O s := H.out.below HBL.out
        have HD := Lib.hid hd
        have hjM : j * 64 < M := by
          have := HN.out
          unfold need at this
          omega
        have hle : a + need M ≤ s.n := by rw [HN.out]; omega
        have hjn : j < need M := by rw [HN.out]; exact hlt
        have HLE := Lib.hid hle
        have HJN := Lib.hid hjn
        have hai : a + j < s.n := by omega
        have hBl := HB.out.lt
        have haj : IntKind.i64.wrap ((a : Int) + (j : Int)) = ((a + j : Nat) : Int) := IntWalk.i64_in _ (by omega)
        have hj6 : IntKind.i64.wrap ((j : Int) * 64) = ((j * 64 : Nat) : Int) := IntWalk.i64_in _ (by omega)
        clear hd hle hjn
        go_wp2_with fail
        go_region_with ((go_at_call 29; refine (read_ (DiskAt.drew HD.out) (a + j) hai).mono ?_; rintro e w2 ⟨rfl, hb2, hbel2, hsz2⟩; obtain ⟨W3, hcp, hB3, hk3⟩ := get_copy (c := M - j * 64) (b := wr.heap.size) HOK.out HLE.out HJN.out ((HB.out.drew).below hbel2 hBl) hb2; have HB2 := Lib.hid hb2; have HBEL2 := Lib.hid hbel2; have HSZ2 := Lib.hid hsz2; have HB3 := Lib.hid hB3; have HK3 := Lib.hid hk3; clear hb2 hbel2 hsz2 hB3 hk3))
        all_goals
          clear hcp
          clear haj hj6
          go_wp2
          go_roundg (N - (j + 1))
          case measure => have := HJ.out; omega
          case rel => exact ⟨j + 1, by omega, by go_num, HB3.out, (HBL.out.trans ((Below.refl _ _).drew.trans HBEL2.out |>.mono (by have := HBL.out.size; simp only [World.drew]; omega))).trans (HK3.out.below (by have := HBEL2.out.size; have := HBL.out.size; simp only [World.drew] at *; omega) fun i _ hi => by omega)⟩
      · obtain rfl : j = N := by have := HJ.out; omega
        go_wp2
        go_ret
        have hb := HB.out
        have hn := HN.out
        subst hn
        rw [HE.out] at hb
        have hl : ((got s a M).take M).length = M := by
          rw [List.length_take, HGL.out]
          have := need_ge M
          omega
        refine ⟨some ⟨wc.heap.size, 0, none⟩, M, by rw [hl]; rfl, Has.of_blk hb ⟨Nat.le_refl _, _, hb⟩, HBL.out, by rw [hl]; exact Nat.le_refl _, by omega, fun h => by cases h⟩
theorem getC_ {w : World} {g : Nat} {O : Nat → Prop} {s : Dk} (h : DiskAt w g O s) (at_ n : Int) (hn1 : -9223372036854775808 ≤ n) (hn2 : n ≤ 9223372036854775807) :
    Calls Tryz.prog 123 #[ptr g, .int .i64 at_, .int .i64 n] w (GetC w (s.get at_ n)) := by
  cases hf : s.fits at_ (need (cutG n))
  · exact get_no h at_ n hf hn1 hn2
  · obtain ⟨f0, _⟩ := Dk.fits_iff.1 hf
    obtain ⟨a, rfl⟩ := Int.eq_ofNat_of_zero_le f0
    exact get_yes h a n hf hn1 hn2
end Go.Proofs.YtjfoflbaoceemaaGreat
namespace Go.Proofs.YtjfoflbaoceemaaGreat
open Go.RowKit

def RB (w : World) (B : Nat) (A : Option Addr) (n : Nat) (xs : List UInt8) : Prop :=
  xs.length = n ∧ (0 < n → ∃ b o, A = some ⟨b, o, none⟩ ∧ b < B ∧ ∀ j x, xs[j]? = some x → w.cell? ⟨b, o + j, none⟩ = some (u8 x))
section
variable {w w' : World} {B n : Nat} {A : Option Addr} {xs : List UInt8}
theorem RB.nil_ (A : Option Addr) : RB w B A 0 [] := ⟨rfl, fun h => absurd h (by omega)⟩
theorem RB.same (h : RB w B A n xs) (k : ∀ b o, b < B → w'.cell? ⟨b, o, none⟩ = w.cell? ⟨b, o, none⟩) : RB w' B A n xs :=
  ⟨h.1, fun hn => by
    obtain ⟨b, o, e, hb, hc⟩ := h.2 hn
    exact ⟨b, o, e, hb, fun j x hx => (k b _ hb).trans (hc j x hx)⟩⟩
theorem RB.below (h : RB w B A n xs) (k : Below B w w') : RB w' B A n xs := h.same fun b o hb => k.cell (p := ⟨b, o, none⟩) hb
theorem RB.more {B' : Nat} (h : RB w B A n xs) (hB : B ≤ B') : RB w B' A n xs :=
  ⟨h.1, fun hn => by
    obtain ⟨b, o, e, hb, hc⟩ := h.2 hn
    exact ⟨b, o, e, by omega, hc⟩⟩
theorem RB.take (h : RB w B A n xs) {k : Nat} (hk : k ≤ n) : RB w B A k (xs.take k) :=
  ⟨by rw [List.length_take, h.1]; omega, fun hn => by
    obtain ⟨b, o, e, hb, hc⟩ := h.2 (by omega)
    refine ⟨b, o, e, hb, fun j x hx => hc j x ?_⟩
    rw [List.getElem?_take] at hx
    split at hx
    · exact hx
    · cases hx⟩
theorem RB.drop (h : RB w B A n xs) {k c : Nat} (hk : k ≤ n) (hc : n ≤ c) : RB w B (if c = k then A else A.map (·.add (k * 1))) (n - k) (xs.drop k) :=
  ⟨by rw [List.length_drop, h.1], fun hn => by
    obtain ⟨b, o, e, hb, hcell⟩ := h.2 (by omega)
    rw [if_neg (by omega), e]
    refine ⟨b, o + k, ?_, hb, fun j x hx => ?_⟩
    · simp only [Option.map_some, Nat.mul_one, Addr.add]
      by_cases h0 : k = 0
      · simp [h0]
      · simp [h0]
    · rw [Nat.add_assoc]
      exact hcell _ x (by rw [← hx, List.getElem?_drop])⟩
end

def ReaderAt (T : TypeId) (w : World) (g B : Nat) (r : Rd) : Prop :=
  ∃ A n c, Blk w g T #[.slice A n c, .bool r.bad] ∧ n ≤ c ∧ c ≤ maxLen ∧ RB w B A n r.rest ∧ B ≤ g
theorem ReaderAt.keep {T : TypeId} {w w' : World} {g B : Nat} {r : Rd} {K : Nat → Obj → Prop} (h : ReaderAt T w g B r) (k : Keep K w w') (hk : ∀ i o, i < B ∨ i = g → K i o) : ReaderAt T w' g B r := by
  obtain ⟨A, n, c, hb, hn, hc, hr, hB⟩ := h
  have hlt := hb.lt
  exact ⟨A, n, c, hb.keep k (hk _ _ (.inr rfl)), hn, hc, hr.below (k.below (by omega) fun i o hi => hk i o (.inl hi)), hB⟩

def Parts (w : World) : List ByteArray → Value → Prop
  | [], q => q = .pointer none
  | t :: r, q => ∃ h q', q = .pointer (some ⟨h, 0, none⟩) ∧ Blk w h 209 #[q', .string t] ∧ Parts w r q'
def spell : List ByteArray → List UInt8
  | [] => []
  | t :: r => spell r ++ t.data.toList
theorem Parts.keep {w w' : World} {K : Nat → Obj → Prop} (k : Keep K w w') (hk : ∀ i cs, w.heap[i]? = some (.cells cs 209 (0, 0)) → K i (.cells cs 209 (0, 0))) :
    ∀ {l : List ByteArray} {q : Value}, Parts w l q → Parts w' l q
  | [], _, h => h
  | _ :: _, _, ⟨h, q', e, hb, hr⟩ => ⟨h, q', e, hb.keep k (hk _ _ hb), Parts.keep k hk hr⟩
theorem Parts.ptr {w : World} : ∀ {l : List ByteArray} {q : Value}, Parts w l q → ∃ a, q = .pointer a
  | [], _, h => ⟨none, h⟩
  | _ :: _, _, ⟨h, _, e, _, _⟩ => ⟨some ⟨h, 0, none⟩, e⟩

def WriterAt (w : World) (g : Nat) (bs : List UInt8) : Prop :=
  ∃ l q, Blk w g 151 #[q, .int .i64 (bs.length : Int)] ∧ Parts w l q ∧ spell l = bs
theorem WriterAt.keep {w w' : World} {g : Nat} {bs : List UInt8} {K : Nat → Obj → Prop} (h : WriterAt w g bs) (k : Keep K w w')
    (hg : ∀ cs, K g (.cells cs 151 (0, 0))) (hk : ∀ i cs, w.heap[i]? = some (.cells cs 209 (0, 0)) → K i (.cells cs 209 (0, 0))) : WriterAt w' g bs := by
  obtain ⟨l, q, hb, hp, hs⟩ := h
  exact ⟨l, q, hb.keep k (hg _), hp.keep k hk, hs⟩
abbrev But (g : Nat) : Nat → Obj → Prop := fun i _ => i ≠ g
end Go.Proofs.YtjfoflbaoceemaaGreat
namespace Go.Proofs.YtjfoflbaoceemaaGreat
open Go.RowKit
theorem split_at (k m V : Nat) (h : k < m) : (cellsB (leN k V ++ List.replicate (m - k) 0))[k]? = some (u8 0) := by
  rw [cellsB_get, List.getElem?_append_right (by rw [leN_length]; exact Nat.le_refl _), leN_length, Nat.sub_self, List.getElem?_replicate, if_pos (by omega)]
  rfl
theorem split_set (k m : Nat) (v : Int) (h : k < m) (h0 : 0 ≤ v) : (cellsB (leN k v.toNat ++ List.replicate (m - k) 0)).set k (.int .u8 (v / 2 ^ (8 * k) % 256)) =
    cellsB (leN (k + 1) v.toNat ++ List.replicate (m - (k + 1)) 0) := by
  obtain ⟨V, rfl⟩ := Int.eq_ofNat_of_zero_le h0
  rw [Int.toNat_natCast]
  have e1 : List.replicate (m - k) (0 : UInt8) = 0 :: List.replicate (m - (k + 1)) 0 := by
    rw [← List.replicate_succ]; congr 1; omega
  have e2 : (Value.int IntKind.u8 ((V : Int) / 2 ^ (8 * k) % 256)) = u8 (UInt8.ofNat (V / 256 ^ k % 256)) := by
    unfold u8
    rw [toNat_ofMod]
    have : ((2 : Int) ^ (8 * k)) = ((256 ^ k : Nat) : Int) := by
      rw [Int.pow_mul, Int.natCast_pow]; rfl
    rw [this]
    congr 1
  rw [leN_snoc, e1, cellsB_append, cellsB_append, cellsB_append, e2]
  simp [cellsB, leN_length, List.append_assoc]
theorem convert_row (xs : List UInt8) (w : World) (A : Option Addr) (B n c : Nat) (h : RB w B A n xs) :
    (convert 42 9 (.slice A n c)).run Tryz.prog w = .ok (.string ⟨xs.toArray⟩) w := by
  obtain ⟨hl, hr⟩ := h
  subst hl
  by_cases h0 : 0 < xs.length
  · obtain ⟨b, o, rfl, _, hc⟩ := hr h0
    exact run_convert_bytes_back w 42 9 5 ⟨b, o, none⟩ c xs Tryz.underlying42 Tryz.underlying5 Tryz.underlying9 (fun j hj => by
      have e : (⟨b, o, none⟩ : Addr).add j = ⟨b, o + j, none⟩ := by
        unfold Addr.add; split
        · simp
        · rfl
      rw [e]; exact hc j _ (List.getElem?_eq_getElem hj))
  · obtain rfl : xs = [] := List.eq_nil_of_length_eq_zero (by omega)
    rcases A with _ | a
    · rw [run_convert_bytes_string w 42 9 5 none _ c Tryz.underlying42 Tryz.underlying5 Tryz.underlying9]; rfl
    · exact run_convert_bytes_back w 42 9 5 a c [] Tryz.underlying42 Tryz.underlying5 Tryz.underlying9 (fun j hj => by cases hj)
set_option maxHeartbeats 400000 in
theorem split_ (v n : Int) (hv0 : 0 ≤ v) (h0 : 0 ≤ n) (h8 : n ≤ 8) (w : World) :
    Calls Tryz.prog 152 #[.int .u64 v, .int .i64 n] w fun e w' => e = .returned (.string ⟨(leN n.toNat v.toNat).toArray⟩) ∧ Below w.heap.size w w' := by
  obtain ⟨m, rfl⟩ := Int.eq_ofNat_of_zero_le h0
  have hmk := fun W => made5 m (by omega) W
  go_enter Tryz.func152, Tryz.ntmps152
  go_wp2
  go_loopw [11] (fun i wr => ∃ k : Nat, k ≤ m ∧ i = .int .i64 k ∧ wr = w.alloc (.cells (cellsB (leN k v.toNat ++ List.replicate (m - k) 0)).toArray 5)) (fun i _ => m - (intOf i).toNat)
  case atStart => exact ⟨0, Nat.zero_le _, rfl, by simp [leN]⟩
  case round =>
    obtain ⟨k, hk, rfl, rfl⟩ := hrel
    by_cases hlt : k < m
    · have hc := split_at k m v.toNat hlt
      go_wp2
      go_roundw
      case rel => exact ⟨k + 1, by omega, by go_num, by rw [split_set k m v hlt hv0]⟩
      case measure => simp [intOf]; omega
    · obtain rfl : k = m := by omega
      rw [show leN k v.toNat ++ List.replicate (k - k) 0 = leN k v.toNat by simp]
      have hcv := convert_row (leN k v.toNat) (w.alloc (.cells (cellsB (leN k v.toNat)).toArray 5)) (some ⟨w.heap.size, 0, none⟩) (w.heap.size + 1) k k
        ⟨leN_length _ _, fun _ => ⟨_, _, rfl, by omega, fun j x hx => by
          have := (Blk.new w 5 (cellsB (leN k v.toNat)).toArray).cell (0 + j)
          rw [this]
          simp [cellsB, hx]⟩⟩
      go_wp2
      go_ret
      exact ⟨by simp, (Below.refl _ _).alloc (Nat.le_refl _) _⟩
end Go.Proofs.YtjfoflbaoceemaaGreat

