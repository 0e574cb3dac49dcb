/- . . . . . . -/
import Derived.Test.YtjfoflbaoceemaaGreatJ24
import Derived.Test.YtjfoflbaoceemaaGreatJ22
import Derived.Lib.AppendZeros
import Derived.Deep.RegionWith
import Derived.Test.YtjfoflbaoceemaaGreatJ15
import Derived.Test.YtjfoflbaoceemaaGreatJ01
import Derived.RegionTactic
import Derived.Deep.QuietTactic
import Derived.BigQuiet
set_option maxRecDepth 4000
namespace Go.Proofs.YtjfoflbaoceemaaGreat
open Go.RowKit
set_option maxHeartbeats 400000 in
theorem grow_m (n : Nat) (hn : n ≤ 1000000) (w : World) : Calls Tryz.prog 250 #[.slice none 0 0, .int .i64 (n : Int)] w
    fun e w' => ∃ v, e = .returned v ∧ OwnM w' w.heap.size v [] ∧ Below w.heap.size w w' := by
  rcases Nat.eq_zero_or_pos n with h0 | h0
  · subst h0
    go_enter Tryz.func250, Tryz.ntmps250
    go_wp2
    go_ret
    exact ⟨_, rfl, own_nil _ _, Below.refl _ _⟩
  · obtain ⟨i0, hi, hz0, hz1, hz2⟩ := info_parts infoM
    have hr := Lib.run_append_nil_zeros (P := Tryz.prog) w 75 3 75 44 i0 _ .i64 .i64 Tryz.underlying75 Tryz.underlying3 hi hz0 n h0 (by rw [hz1]; omega) (by omega) (by rw [hz2]; omega)
    have hge := grownCap_ge w n 0 44
    have hcm := grownCap_le_maxLen w n 0 44 (by unfold maxLen; omega)
    have hown : OwnM (w.drew.alloc (.cells (Builtin.zeroCells (Value.agg #[.int .i64 0, .int .i64 0, .int .i64 0, .bool false, .string ⟨#[]⟩, .string ⟨#[]⟩]).cells n ++ Builtin.zeroCells (Value.agg #[.int .i64 0, .int .i64 0, .int .i64 0, .bool false, .string ⟨#[]⟩, .string ⟨#[]⟩]).cells (grownCap w n 0 44 - n)) 44)) w.heap.size (.slice (some ⟨w.heap.size, 0, none⟩) 0 (grownCap w n 0 44)) [] := by
      refine ⟨rfl, .inr ⟨w.heap.size, _, _, rfl, Nat.le_refl _, heap_alloc_new w.drew _, Nat.zero_le _, hcm, ?_, rfl⟩⟩
      simp only [Array.size_append, size_zeroCells]
      rw [← Nat.add_mul]
      have : (Value.agg #[.int .i64 0, .int .i64 0, .int .i64 0, .bool false, .string ⟨#[]⟩, .string ⟨#[]⟩]).cells.size = 6 := rfl
      rw [this]
      show _ = _ * 6
      congr 1
      omega
    have hbel : Below w.heap.size w (w.drew.alloc (.cells (Builtin.zeroCells (Value.agg #[.int .i64 0, .int .i64 0, .int .i64 0, .bool false, .string ⟨#[]⟩, .string ⟨#[]⟩]).cells n ++ Builtin.zeroCells (Value.agg #[.int .i64 0, .int .i64 0, .int .i64 0, .bool false, .string ⟨#[]⟩, .string ⟨#[]⟩]).cells (grownCap w n 0 44 - n)) 44)) := (Below.refl _ _).drew.alloc (Nat.le_refl _) _
    generalize (w.drew.alloc (.cells (Builtin.zeroCells (Value.agg #[.int .i64 0, .int .i64 0, .int .i64 0, .bool false, .string ⟨#[]⟩, .string ⟨#[]⟩]).cells n ++ Builtin.zeroCells (Value.agg #[.int .i64 0, .int .i64 0, .int .i64 0, .bool false, .string ⟨#[]⟩, .string ⟨#[]⟩]).cells (grownCap w n 0 44 - n)) 44)) = W' at *
    generalize grownCap w n 0 44 = cap at *
    have HO := Lib.hid hown
    have HB := Lib.hid hbel
    clear hown hbel
    go_enter Tryz.func250, Tryz.ntmps250
    go_wp2_with (at_builtin; refine wpList_append_run rfl (.tmp 20) (.tmp 21) 75 3 rfl _ _ rfl rfl hr ?_)
    go_ret
    exact ⟨_, rfl, HO.out, HB.out⟩
set_option maxHeartbeats 1000000 in
theorem concat_m {w : World} {b o k c : Nat} {ps : List (Value × List Mg)} (hv : ValE w b o ps) (hp : ∀ p ∈ ps, PartE eM w p) (hk : ps.length = k) (hk2 : k ≤ 1000) (hs : (flatE ps).length ≤ 1000000) :
    Calls Tryz.prog 242 #[.slice (some ⟨b, o, none⟩) k c] w fun e w' => ∃ v, e = .returned v ∧ OwnM w' w.heap.size v (flatE ps) ∧ Below w.heap.size w w' := by
  have HV := Lib.hid hv
  have HP := Lib.hid hp
  have HK := Lib.hid hk
  have HS := Lib.hid hs
  clear hv hp hk hs
  go_enter Tryz.func242, Tryz.ntmps242
  go_wp2
  go_loopg [3, 11] k (fun m sz i wr => SumE ps m sz i ∧ w = wr)
  case atStart => exact ⟨⟨0, by rw [HK.out]; omega, rfl, rfl⟩, rfl⟩
  case round =>
    obtain ⟨⟨j, hj, rfl, rfl⟩, rfl⟩ := hrel
    have HJ := Lib.hid hj
    clear hj
    by_cases hlt : j < k
    · have hx : j < ps.length := by rw [HK.out]; exact hlt
      have hc := HV.out.2 j hx
      obtain ⟨A1, c1, K1, e1, _⟩ := HP.out _ (List.getElem_mem hx)
      have hsum : (flatE (ps.take (j + 1))).length = (flatE (ps.take j)).length + (ps[j].2).length := by rw [flatE_succ hx, List.length_append]
      have hle := flatE_le ps (j + 1)
      rw [e1] at hc
      have hsm : (flatE (ps.take j)).length + (ps[j].2).length ≤ 1000000 := by have := HS.out; omega
      have HSUM := Lib.hid hsum
      clear hsum hle e1
      generalize (ps[j].2).length = m1 at *
      generalize (flatE (ps.take j)).length = m0 at *
      go_wp2
      go_roundg (k - (j + 1))
      case measure => have := HJ.out; have := HK.out; omega
      case rel => exact ⟨⟨j + 1, by have := HK.out; omega, by have := HSUM.out; go_num, by go_num⟩, rfl⟩
    · have he : j = k := by have := HJ.out; have := HK.out; omega
      subst he
      have hall : ps.take j = ps := List.take_of_length_le (by rw [HK.out]; exact Nat.le_refl _)
      rw [hall]
      have hS := HS.out
      generalize hm : (flatE ps).length = m at *
      have HM := Lib.hid hm
      clear hm
      go_wp2_with (go_at_call 250; refine (grow_m m hS w).mono ?_; rintro e w1 ⟨v1, rfl, ho1, hb1⟩)
      have HO1 := Lib.hid ho1
      have HB1 := Lib.hid hb1
      clear ho1 hb1
      go_loopg [6, 27] j (fun m v i wr => CatE eM 44 w ps m v i wr)
      case atStart => exact ⟨0, by have := HK.out; omega, rfl, by simpa [flatE] using HO1.out, HB1.out⟩
      case round =>
        obtain ⟨i, hi, rfl, ho, hb⟩ := hrel
        have HI := Lib.hid hi
        have HO := Lib.hid ho
        have HB := Lib.hid hb
        clear hi ho hb
        by_cases hlt : i < j
        · have hx : i < ps.length := by rw [HK.out]; exact hlt
          have hc := (HV.out.below HB.out).2 i hx
          obtain ⟨A1, c1, K1, e1, hr1⟩ := (HP.out _ (List.getElem_mem hx)).below HB.out
          rw [e1] at hc
          have hsum : (flatE (ps.take (i + 1))).length = (flatE (ps.take i)).length + (ps[i].2).length := by rw [flatE_succ hx, List.length_append]
          have hle := flatE_le ps (i + 1)
          have hsm : (flatE (ps.take i)).length + (ps[i].2).length ≤ 1000000 := by have := HM.out; omega
          obtain ⟨v2, W2, hap, ho2, hg2, _⟩ := append_own tyM HO.out hr1 rfl c1 hsm HB.out.size
          rw [← flatE_succ hx] at ho2
          have HO2 := Lib.hid ho2
          have hb2 : Below w.heap.size w W2 := HB.out.grown hg2 HB.out.size (fun q hq => (own_blk HO.out hq).1)
          have HB2 := Lib.hid hb2
          clear ho2 hg2 hb2 hsum hle e1 hr1 hsm
          generalize (ps[i].2).length = m1 at *
          go_wp2_with (at_builtin; refine wpList_append_run rfl (.tmp 31) (.tmp 32) 75 75 rfl _ _ rfl rfl hap ?_)
          go_roundg (j - (i + 1))
          case measure => have := HI.out; have := HK.out; omega
          case rel => exact ⟨i + 1, by have := HK.out; omega, by go_num, HO2.out, HB2.out⟩
        · have he : i = j := by have := HI.out; have := HK.out; omega
          subst he
          have ho := HO.out
          rw [hall] at ho
          have HO3 := Lib.hid ho
          clear ho
          go_wp2
          go_ret
          exact ⟨_, rfl, HO3.out, HB.out⟩
theorem concat3_m {w : World} {K : Nat → Prop} {A1 A2 : Option Addr} {xs1 xs2 : List Mg} {q m c1 c2 : Nat} (h1 : Lst w K eM A1 xs1) (l1 : xs1.length = q) (h2 : Lst w K eM A2 xs2) (l2 : xs2.length = m) (r : Mg) (hs : q + m ≤ 999999) {b a : Nat} (hb : b = w.heap.size + 1) (ha : a = w.heap.size) :
    Calls Tryz.prog 242 #[.slice (some ⟨b, 0, none⟩) 3 3] (((w.alloc (.cells r.cells 44)).alloc (.cells #[.slice A1 q c1, .slice (some ⟨a, 0, none⟩) 1 1, .slice A2 m c2] 75)).drew)
      fun e w' => ∃ v, e = .returned v ∧ OwnM w' w.heap.size v (xs1 ++ [r] ++ xs2) ∧ Below w.heap.size w w' := by
  subst hb ha l1 l2
  have k1 := alloc_below w (.cells r.cells 44)
  have k2 := k1.alloc k1.size (.cells #[.slice A1 xs1.length c1, .slice (some ⟨w.heap.size, 0, none⟩) 1 1, .slice A2 xs2.length c2] 75)
  have hB := Blk.new (w.alloc (.cells r.cells 44)) 75 #[.slice A1 xs1.length c1, .slice (some ⟨w.heap.size, 0, none⟩) 1 1, .slice A2 xs2.length c2]
  have hr := (one_lst eM w 44 r (cs := r.cells) rfl).below (alloc_below (w.alloc (.cells r.cells 44)) (.cells #[.slice A1 xs1.length c1, .slice (some ⟨w.heap.size, 0, none⟩) 1 1, .slice A2 xs2.length c2] 75))
  have hz : (w.alloc (.cells r.cells 44)).heap.size = w.heap.size + 1 := by simp
  rw [hz] at hB
  have hV := blk_cellsE hB.drew (ps := [(.slice A1 xs1.length c1, xs1), (.slice (some ⟨w.heap.size, 0, none⟩) 1 1, [r]), (.slice A2 xs2.length c2, xs2)]) rfl
  refine (concat_m hV ?_ rfl (by simp) (by simp [flatE]; omega)).mono ?_
  · intro p hp
    rcases List.mem_cons.1 hp with rfl | hp
    · exact ⟨A1, c1, K, rfl, (h1.below k2).below (Below.refl _ _).drew⟩
    · rcases List.mem_cons.1 hp with rfl | hp
      · exact ⟨_, 1, _, rfl, hr.below (Below.refl _ _).drew⟩
      · rcases List.mem_cons.1 hp with rfl | hp
        · exact ⟨A2, c2, K, rfl, (h2.below k2).below (Below.refl _ _).drew⟩
        · cases hp
  · rintro e w' ⟨v, rfl, ho, hbb⟩
    have e1 : flatE [(Value.slice A1 xs1.length c1, xs1), (.slice (some ⟨w.heap.size, 0, none⟩) 1 1, [r]), (.slice A2 xs2.length c2, xs2)] = xs1 ++ [r] ++ xs2 := by simp [flatE]
    rw [e1] at ho
    have hk := k2.drew
    exact ⟨v, rfl, own_base ho hk.size, hk.trans (hbb.mono hk.size)⟩
theorem concat2_m {w : World} {K : Nat → Prop} {A1 A2 : Option Addr} {xs1 xs2 : List Mg} {q m c1 c2 : Nat} (h1 : Lst w K eM A1 xs1) (l1 : xs1.length = q) (h2 : Lst w K eM A2 xs2) (l2 : xs2.length = m) (hs : q + m ≤ 999999) {b : Nat} (hb : b = w.heap.size) :
    Calls Tryz.prog 242 #[.slice (some ⟨b, 0, none⟩) 2 2] ((w.alloc (.cells #[.slice A1 q c1, .slice A2 m c2] 75)).drew)
      fun e w' => ∃ v, e = .returned v ∧ OwnM w' w.heap.size v (xs1 ++ xs2) ∧ Below w.heap.size w w' := by
  subst hb l1 l2
  have k2 := alloc_below w (.cells #[.slice A1 xs1.length c1, .slice A2 xs2.length c2] 75)
  have hB := Blk.new w 75 #[.slice A1 xs1.length c1, .slice A2 xs2.length c2]
  have hV := blk_cellsE hB.drew (ps := [(.slice A1 xs1.length c1, xs1), (.slice A2 xs2.length c2, xs2)]) rfl
  refine (concat_m hV ?_ rfl (by simp) (by simp [flatE]; omega)).mono ?_
  · intro p hp
    rcases List.mem_cons.1 hp with rfl | hp
    · exact ⟨A1, c1, K, rfl, (h1.below k2).below (Below.refl _ _).drew⟩
    · rcases List.mem_cons.1 hp with rfl | hp
      · exact ⟨A2, c2, K, rfl, (h2.below k2).below (Below.refl _ _).drew⟩
      · cases hp
  · rintro e w' ⟨v, rfl, ho, hbb⟩
    have e1 : flatE [(Value.slice A1 xs1.length c1, xs1), (.slice A2 xs2.length c2, xs2)] = xs1 ++ xs2 := by simp [flatE]
    rw [e1] at ho
    have hk := k2.drew
    exact ⟨v, rfl, own_base ho hk.size, hk.trans (hbb.mono hk.size)⟩
end Go.Proofs.YtjfoflbaoceemaaGreat
namespace Go.Proofs.YtjfoflbaoceemaaGreat
open Go.RowKit
set_option maxHeartbeats 1000000 in
theorem add_m {w : World} {K : Nat → Prop} {A : Option Addr} {n c : Nat} {l : List Mg} (h : Lst w K eM A l) (hl : l.length = n) (hn : n ≤ 100000) (hc : n ≤ c) (m : Mg) :
    Calls Tryz.prog 226 #[.slice A n c, m.val] w fun e w' => ∃ v, e = .returned v ∧ OwnM w' w.heap.size v (addM l m) ∧ Below w.heap.size w w' := by
  have hb0 := alloc_below w (.cells m.cells 44)
  have hX0 := Blk.new w 44 m.cells
  have hi := index_m (c := c) (h.below hb0) hl (by omega) enters_add (pred_add m w.heap.size _ hX0 l)
  have hle := spot_le l m
  have hz : idxI (behM m) l = -1 ∧ spotM l m = n ∨ idxI (behM m) l = (spotM l m : Int) := by
    unfold idxI spotM
    split
    · exact .inr rfl
    · exact .inl ⟨rfl, by have : l.findIdx (behM m) ≤ l.length := List.findIdx_le_length
                          omega⟩
  unfold addM
  generalize spotM l m = q at *
  rw [hl] at hle
  obtain ⟨A2, hd2, hr2, _⟩ := tail_m h hl hc hle rfl
  obtain ⟨m2, hm2⟩ : ∃ m, n - q = m := ⟨_, rfl⟩
  rw [hm2] at hd2
  have hd1 := fun W => head_m A n c q (by omega) W
  have h3 := fun W (hb : Below w.heap.size w W) => concat3_m (w := W) (q := q) (m := m2) (c1 := c) (c2 := c - q) ((h.below hb).take q) (by rw [List.length_take, hl]; omega) (hr2.below hb) (by rw [List.length_drop, hl]; exact hm2) m (by omega) (b := W.heap.size + 1) (a := W.heap.size) rfl rfl
  have hs0 : (w.alloc (.cells m.cells 44)).heap.size = w.heap.size + 1 := by simp
  have H3 := Lib.hid h3
  have HX0 := Lib.hid hX0
  have HI := Lib.hid hi
  have HB0 := Lib.hid hb0
  have HS0 := Lib.hid hs0
  clear h3 hX0 hi hb0 hs0 hr2 h hm2
  obtain ⟨m0, m1, m2', m3, m4, m5⟩ := m
  simp only [Mg.val, Mg.cells] at HX0 HI H3 HB0 HS0 ⊢
  rcases hz with ⟨e1, rfl⟩ | e1
  · rw [e1] at HI
    clear hl hle e1
    go_enter Tryz.func226, Tryz.ntmps226
    go_wp2_with fail
    refine HI.out.mono ?_
    rintro e w1 ⟨rfl, hb1⟩
    have hB1 := HB0.out.trans (hb1.mono HB0.out.size)
    have hx1 := HX0.out.below hb1 HX0.out.lt
    obtain ⟨d0, d1, d2, d3, d4, d5⟩ := blk_six (m := ⟨m0, m1, m2', m3, m4, m5⟩) hx1
    have h3 := H3.out w1 hB1
    have HH3 := Lib.hid h3
    have HB1 := Lib.hid hB1
    clear h3 hx1 hB1 hb1 HX0 HI H3 HB0 HS0
    go_wp2_with fail
    go_region_with (go_at_call 242; refine HH3.out.mono ?_; rintro e w2 ⟨v1, rfl, hn1, hb2⟩; have HN1 := Lib.hid hn1; have HB2 := Lib.hid hb2; clear hn1 hb2)
    all_goals
      go_wp2
      go_ret
      exact ⟨v1, rfl, own_base HN1.out HB1.out.size, HB1.out.trans (HB2.out.mono HB1.out.size)⟩
  · rw [e1] at HI
    clear hl e1
    go_enter Tryz.func226, Tryz.ntmps226
    go_wp2_with fail
    refine HI.out.mono ?_
    rintro e w1 ⟨rfl, hb1⟩
    have hB1 := HB0.out.trans (hb1.mono HB0.out.size)
    have hx1 := HX0.out.below hb1 HX0.out.lt
    obtain ⟨d0, d1, d2, d3, d4, d5⟩ := blk_six (m := ⟨m0, m1, m2', m3, m4, m5⟩) hx1
    have h3 := H3.out w1 hB1
    have HH3 := Lib.hid h3
    have HB1 := Lib.hid hB1
    clear h3 hx1 hB1 hb1 HX0 HI H3 HB0 HS0
    go_wp2_with fail
    go_region_with (go_at_call 242; refine HH3.out.mono ?_; rintro e w2 ⟨v1, rfl, hn1, hb2⟩; have HN1 := Lib.hid hn1; have HB2 := Lib.hid hb2; clear hn1 hb2)
    all_goals
      go_wp2
      go_ret
      exact ⟨v1, rfl, own_base HN1.out HB1.out.size, HB1.out.trans (HB2.out.mono HB1.out.size)⟩
end Go.Proofs.YtjfoflbaoceemaaGreat
namespace Go.Proofs.YtjfoflbaoceemaaGreat
open Go.RowKit
set_option maxHeartbeats 1000000 in
theorem cut_m {w : World} {K : Nat → Prop} {A : Option Addr} {n c : Nat} {l : List Mg} (h : Lst w K eM A l) (hl : l.length = n) (hn : n ≤ 100000) (hc : n ≤ c) (hA : A = none → c = 0) (id : Int) :
    Calls Tryz.prog 227 #[.slice A n c, .int .i64 id] w fun e w' => ∃ v, e = .returned (.tuple #[v, .bool (hasM l id)]) ∧ OwnM w' w.heap.size v (cutM l id) ∧ Below w.heap.size w w' := by
  have hf := find_m (c := c) h hl (by omega) id
  rcases idx_cases (isM id) l with ⟨e1, e2⟩ | ⟨hlt, e1, e2, _⟩
  · have e3 := cut_none e2
    unfold hasM
    rw [e2, e3]
    rw [e1] at hf
    have hcl := fun W (hb : Below w.heap.size w W) => clone_m (h.below hb) hl hn hA
    have HCL := Lib.hid hcl
    have HF := Lib.hid hf
    clear h hl hA hf hcl e1 e2 e3
    go_enter Tryz.func227, Tryz.ntmps227
    go_wp2_with fail
    refine HF.out.mono ?_
    rintro e w1 ⟨rfl, hb1⟩
    have HB1 := Lib.hid hb1
    clear hb1 HF
    go_wp2_with fail
    refine (HCL.out _ HB1.out).mono ?_
    rintro e w2 ⟨v1, rfl, ho, hb2⟩
    have HO := Lib.hid (own_base ho HB1.out.size)
    have HB2 := Lib.hid (HB1.out.trans (hb2.mono HB1.out.size))
    clear ho hb2
    go_wp2_with fail
    go_ret2
    exact ⟨v1, rfl, HO.out, HB2.out⟩
  · unfold hasM
    rw [e2, cut_at_m]
    rw [e1] at hf
    rw [hl] at hlt
    clear e1 e2
    generalize l.findIdx (isM id) = q at *
    have hd1 := fun W => head_m A n c q (by omega) W
    obtain ⟨A2, hd2, hr2, _⟩ := tail_m h hl hc (show q + 1 ≤ n by omega) rfl
    obtain ⟨m2, hm2⟩ : ∃ m, n - (q + 1) = m := ⟨_, rfl⟩
    rw [hm2] at hd2
    have hd2' : ∀ W, (Instr.slice 75 (.slice A n c) (some (.int .i64 ((q : Int) + 1))) none none).run Tryz.prog W = .ok (.slice A2 m2 (c - (q + 1))) W := hd2
    have h2 := fun W (hb : Below w.heap.size w W) => concat2_m (w := W) (q := q) (m := m2) (c1 := c) (c2 := c - (q + 1)) ((h.below hb).take q) (by rw [List.length_take, hl]; omega) (hr2.below hb) (by rw [List.length_drop, hl]; exact hm2) (by omega) (b := W.heap.size) rfl
    have H2 := Lib.hid h2
    have HF := Lib.hid hf
    have hw : IntKind.i64.wrap ((q : Int) + 1) = (q : Int) + 1 := by rw [IntKind.wrap_i64]; omega
    clear h2 hm2 hd2 hr2 hlt h hl hA hf
    go_enter Tryz.func227, Tryz.ntmps227
    go_wp2_with fail
    refine HF.out.mono ?_
    rintro e w1 ⟨rfl, hb1⟩
    have HB1 := Lib.hid hb1
    have h2 := H2.out w1 hb1
    have HH2 := Lib.hid h2
    clear hb1 HF h2 H2
    go_wp2_with fail
    go_region_with (go_at_call 242; refine HH2.out.mono ?_; rintro e w2 ⟨v1, rfl, hn1, hb2⟩; have HN1 := Lib.hid hn1; have HB2 := Lib.hid hb2; clear hn1 hb2)
    all_goals
      go_wp2
      go_ret2
      exact ⟨v1, rfl, own_base HN1.out HB1.out.size, HB1.out.trans (HB2.out.mono HB1.out.size)⟩
set_option maxHeartbeats 1000000 in
theorem claim_m {w : World} {K : Nat → Prop} {A : Option Addr} {n c : Nat} {l : List Mg} (h : Lst w K eM A l) (hl : l.length = n) (hn : n ≤ 100000) (hA : A = none → c = 0) (id : Int) (on : Bool) :
    Calls Tryz.prog 229 #[.slice A n c, .int .i64 id, .bool on] w fun e w' => ∃ v, e = .returned (.tuple #[v, .bool (canM l id on)]) ∧ OwnM w' w.heap.size v (claimM l id on) ∧ Below w.heap.size w w' := by
  have hcl := clone_m (c := c) h hl hn hA
  rcases idx_cases (isM id) l with ⟨e1, e2⟩ | ⟨hlt0, e1, e2, e5⟩
  · obtain ⟨e3, e4⟩ := can_none (on := on) e2
    rw [e3, e4]
    have HCL := Lib.hid hcl
    have hl1 : l.length ≤ 100000 := by omega
    have HL := Lib.hid hl1
    have E1 := Lib.hid e1
    clear h hl hA hcl e1 e2 e3 e4 hl1
    go_enter Tryz.func229, Tryz.ntmps229
    go_wp2_with fail
    refine HCL.out.mono ?_
    rintro e w1 ⟨v1, rfl, ho, hb1⟩
    have HO := Lib.hid ho
    have HB1 := Lib.hid hb1
    obtain ⟨A1, c1, rfl, hl1, _⟩ := own_lst ho
    have hf := find_m (c := c1) hl1 rfl (by have := HL.out; omega) id
    rw [E1.out] at hf
    have HF := Lib.hid hf
    clear ho hb1 hl1 hf HCL
    generalize l.length = n1 at *
    go_wp2_with fail
    refine HF.out.mono ?_
    rintro e w2 ⟨rfl, hb2⟩
    have HO2 := Lib.hid (own_belowE HO.out hb2)
    have HB2 := Lib.hid (HB1.out.trans (hb2.mono HB1.out.size))
    clear hb2 HF
    go_wp2_with fail
    go_ret2
    exact ⟨_, rfl, HO2.out, HB2.out⟩
  · obtain ⟨q, hq⟩ : ∃ q, l.findIdx (isM id) = q := ⟨_, rfl⟩
    have hlt : q < l.length := hq ▸ hlt0
    rw [hq] at e1
    obtain ⟨e3, e4⟩ := can_some (on := on) hq hlt
    rw [e3, e4]
    obtain ⟨x, hx⟩ : ∃ x, l[q] = x := ⟨_, rfl⟩
    rw [hx]
    obtain ⟨x0, x1, x2, cl, x4, x5⟩ := x
    have HX := Lib.hid hx
    have HCL := Lib.hid hcl
    have hl1 : l.length ≤ 100000 := by omega
    have HL := Lib.hid hl1
    have E1 := Lib.hid e1
    clear h hl hA hcl e1 e2 e3 e4 hq hl1 hx
    have hset : ∀ b, l.set q ⟨x0, x1, x2, b, x4, x5⟩ = l.set q { l[q] with claimed := b } := fun b => by rw [HX.out]
    have hsame : l.set q ⟨x0, x1, x2, cl, x4, x5⟩ = l := by rw [← HX.out]; exact List.set_getElem_self hlt
    have HSET := Lib.hid hset
    have HSAME := Lib.hid hsame
    clear hset hsame
    show Calls _ _ _ _ (fun e w' => ∃ v, e = .returned (.tuple #[v, .bool (!(cl == on))]) ∧ OwnM w' w.heap.size v (l.set q ⟨x0, x1, x2, on, x4, x5⟩) ∧ Below w.heap.size w w')
    go_enter Tryz.func229, Tryz.ntmps229
    go_wp2_with fail
    refine HCL.out.mono ?_
    rintro e w1 ⟨v1, rfl, ho, hb1⟩
    have HO := Lib.hid ho
    have HB1 := Lib.hid hb1
    obtain ⟨A1, c1, rfl, hl1, _⟩ := own_lst ho
    have hf := find_m (c := c1) hl1 rfl (by have := HL.out; omega) id
    rw [E1.out] at hf
    have HF := Lib.hid hf
    clear ho hb1 hl1 hf HCL E1
    go_wp2_with fail
    refine HF.out.mono ?_
    rintro e w2 ⟨rfl, hb2⟩
    have HO2 := Lib.hid (own_belowE HO.out hb2)
    have HB2 := Lib.hid (HB1.out.trans (hb2.mono HB1.out.size))
    clear hb2 HF HO HB1
    obtain ⟨g, cur, rfl, hg, hblk, hcs⟩ := own_slot HO2.out (by have := hlt; omega)
    have c3 := hcs _ _ (cellsE_at eM hlt (i := 3) rfl)
    have hs := fun (b : Bool) => own_set1 HO2.out hlt { l[q] with claimed := b } (i := 3) (u := .bool b) (by show 3 < 6; omega) rfl
    have f3 := hblk.frozen (q * 6 + 3)
    have hk := fun (u : Value) => (Keep.refl (K := fun i _ => i ≠ g) w2).setCell (p := ⟨g, q * 6 + 3, none⟩) (fun _ _ e => e rfl) u
    have hq6 : eM.k = 6 := rfl
    rw [hq6] at c3 hs
    have hcl : l[q].claimed = cl := by rw [HX.out]
    rw [hcl] at c3
    have HS := Lib.hid hs
    have HK := Lib.hid hk
    have HG := Lib.hid hg
    clear hs hk hcs hblk hg hq6 hcl
    have fin : ∀ W, W = w2.setCell ⟨g, q * 6 + 3, none⟩ (.bool on) → OwnM W w.heap.size (.slice (some ⟨g, 0, none⟩) l.length c1) (l.set q ⟨x0, x1, x2, on, x4, x5⟩) ∧ Below w.heap.size w W := fun W e => by
      subst e
      refine ⟨by rw [HSET.out]; exact HS.out on, HB2.out.trans ((HK.out _).below HB2.out.size fun i _ hi e => ?_)⟩
      have := HG.out
      omega
    have FIN := Lib.hid fin
    have SAM := Lib.hid (show cl = on → OwnM w2 w.heap.size (.slice (some ⟨g, 0, none⟩) l.length c1) (l.set q ⟨x0, x1, x2, on, x4, x5⟩) from fun e => by subst e; rw [HSAME.out]; exact HO2.out)
    clear fin HS HK HSET HSAME HO2 HX e5 hlt0
    generalize hnn : l.length = n1 at *
    rename_i hc1
    have hc1' : n1 ≤ c1 := hc1.1
    clear hnn hc1
    have hqn : q < n1 := hlt
    clear hlt
    cases cl <;> cases on
    · go_wp2_with fail
      go_ret2
      exact ⟨_, rfl, SAM.out (by simp), HB2.out⟩
    · go_wp2_with fail
      go_ret2
      exact ⟨_, rfl, (FIN.out _ rfl).1, (FIN.out _ rfl).2⟩
    · go_wp2_with fail
      go_ret2
      exact ⟨_, rfl, (FIN.out _ rfl).1, (FIN.out _ rfl).2⟩
    · go_wp2_with fail
      go_ret2
      exact ⟨_, rfl, SAM.out (by simp), HB2.out⟩
end Go.Proofs.YtjfoflbaoceemaaGreat
namespace Go.Proofs.YtjfoflbaoceemaaGreat
open Go.RowKit
theorem below_six {B : Nat} {w w1 : World} (h : Below B w w1) {g : Nat} (hg : B ≤ g) (a b c d e f : Value) : Below B w ((((((w1.setCell ⟨g, 0, none⟩ a).setCell ⟨g, 1, none⟩ b).setCell ⟨g, 2, none⟩ c).setCell ⟨g, 3, none⟩ d).setCell ⟨g, 4, none⟩ e).setCell ⟨g, 5, none⟩ f) :=
  (((((h.setCell hg a).setCell hg b).setCell hg c).setCell hg d).setCell hg e).setCell hg f
theorem keep_six (w : World) (g : Nat) (a b c d e f : Value) : Keep (fun i _ => i ≠ g) w ((((((w.setCell ⟨g, 0, none⟩ a).setCell ⟨g, 1, none⟩ b).setCell ⟨g, 2, none⟩ c).setCell ⟨g, 3, none⟩ d).setCell ⟨g, 4, none⟩ e).setCell ⟨g, 5, none⟩ f) := by
  have hp : ∀ o : Obj, w.heap[g]? = some o → ¬ (g ≠ g) := fun _ _ h => h rfl
  exact ((((((Keep.refl w).setCell (p := ⟨g, 0, none⟩) hp a).setCell (p := ⟨g, 1, none⟩) hp b).setCell (p := ⟨g, 2, none⟩) hp c).setCell (p := ⟨g, 3, none⟩) hp d).setCell (p := ⟨g, 4, none⟩) hp e).setCell (p := ⟨g, 5, none⟩) hp f
theorem blk_store6 {w : World} {g : Nat} {T : TypeId} {a b c d e f a' b' c' d' e' f' : Value} (h : Blk w g T #[a, b, c, d, e, f]) :
    Blk ((((((w.setCell ⟨g, 0, none⟩ a').setCell ⟨g, 1, none⟩ b').setCell ⟨g, 2, none⟩ c').setCell ⟨g, 3, none⟩ d').setCell ⟨g, 4, none⟩ e').setCell ⟨g, 5, none⟩ f') g T #[a', b', c', d', e', f'] := by
  have := (((((h.set_ 0 a').set_ 1 b').set_ 2 c').set_ 3 d').set_ 4 e').set_ 5 f'
  simpa using this
end Go.Proofs.YtjfoflbaoceemaaGreat
namespace Go.Proofs.YtjfoflbaoceemaaGreat
open Go.RowKit
structure TwoB (w : World) (T : TypeId) (cs zs : Array Value) (W : World) : Prop where
  below : Below w.heap.size w W
  obj : Blk W w.heap.size T cs
  res : Blk W (w.heap.size + 1) T zs
theorem TwoB.new (w : World) (T : TypeId) (cs zs : Array Value) : TwoB w T cs zs ((w.alloc (.cells cs T)).alloc (.cells zs T)) := by
  have h1 := alloc_below w (.cells cs T)
  have := Blk.new (w.alloc (.cells cs T)) T zs
  rw [show (w.alloc (.cells cs T)).heap.size = w.heap.size + 1 by simp] at this
  exact ⟨h1.alloc h1.size _, (Blk.new w _ cs).alloc _, this⟩
section
variable {w W W' : World} {T : TypeId} {cs zs : Array Value}
theorem TwoB.step (h : TwoB w T cs zs W) (k : Below W.heap.size W W') : TwoB w T cs zs W' := ⟨h.below.trans (k.mono h.below.size), h.obj.below k h.obj.lt, h.res.below k h.res.lt⟩
theorem TwoB.store (h : TwoB w T cs zs W) (i : Nat) (v : Value) : TwoB w T (cs.setIfInBounds i v) zs (W.setCell ⟨w.heap.size, i, none⟩ v) :=
  ⟨h.below.setCell (Nat.le_refl _) v, h.obj.set_ i v, h.res.far (by simp) v⟩
theorem TwoB.own {α : Type} {E : Enc α} {V : TypeId} {base : Nat} {v : Value} {l : List α} (ho : Own W base E V v l) (hb : w.heap.size < base) (i : Nat) (u : Value) : Own (W.setCell ⟨w.heap.size, i, none⟩ u) base E V v l :=
  own_far ho (own_out ho hb) u
theorem TwoB.size (h : TwoB w T cs zs W) : w.heap.size + 2 ≤ W.heap.size := h.res.lt
end
theorem TwoB.last {w W : World} {T : TypeId} {cs : Array Value} {z0 z1 z2 z3 z4 z5 : Value} (h : TwoB w T cs #[z0, z1, z2, z3, z4, z5] W) (a b c d e f : Value) :
    Below w.heap.size w ((((((W.setCell ⟨w.heap.size + 1, 0, none⟩ a).setCell ⟨w.heap.size + 1, 1, none⟩ b).setCell ⟨w.heap.size + 1, 2, none⟩ c).setCell ⟨w.heap.size + 1, 3, none⟩ d).setCell ⟨w.heap.size + 1, 4, none⟩ e).setCell ⟨w.heap.size + 1, 5, none⟩ f) ∧
    Blk ((((((W.setCell ⟨w.heap.size + 1, 0, none⟩ a).setCell ⟨w.heap.size + 1, 1, none⟩ b).setCell ⟨w.heap.size + 1, 2, none⟩ c).setCell ⟨w.heap.size + 1, 3, none⟩ d).setCell ⟨w.heap.size + 1, 4, none⟩ e).setCell ⟨w.heap.size + 1, 5, none⟩ f) (w.heap.size + 1) T #[a, b, c, d, e, f] :=
  ⟨below_six h.below (by omega) a b c d e f, blk_store6 h.res⟩
theorem own_six {w W : World} {α : Type} {E : Enc α} {V : TypeId} {v : Value} {l : List α} (ho : Own W (w.heap.size + 2) E V v l) (a b c d e f : Value) :
    Own ((((((W.setCell ⟨w.heap.size + 1, 0, none⟩ a).setCell ⟨w.heap.size + 1, 1, none⟩ b).setCell ⟨w.heap.size + 1, 2, none⟩ c).setCell ⟨w.heap.size + 1, 3, none⟩ d).setCell ⟨w.heap.size + 1, 4, none⟩ e).setCell ⟨w.heap.size + 1, 5, none⟩ f) w.heap.size E V v l := by
  have hb := own_out ho (b := w.heap.size + 1) (by omega)
  exact own_base (own_keep ho fun g hg => by
    have hne : g ≠ w.heap.size + 1 := fun e => hb (by rw [hg, e])
    obtain ⟨ob, hob⟩ : ∃ ob, W.heap[g]? = some ob := ⟨_, (own_blk ho hg).2.2.choose_spec⟩
    rw [hob]
    exact (keep_six W (w.heap.size + 1) a b c d e f).block g ob hob hne) (by omega)
theorem own_apart {α β : Type} {E1 : Enc α} {E2 : Enc β} {T1 T2 : TypeId} {W1 W2 : World} {b1 b2 : Nat} {v1 v2 : Value} {l1 : List α} {l2 : List β} (h1 : Own W1 b1 E1 T1 v1 l1) (h2 : Own W2 b2 E2 T2 v2 l2) (hb : W1.heap.size ≤ b2) :
    ∀ g, v1.ownBlock = some g → v2.ownBlock ≠ some g := fun g hg e => by
  have a := (own_blk h1 hg).2.1
  have b := (own_blk h2 e).1
  omega
end Go.Proofs.YtjfoflbaoceemaaGreat
namespace Go.Proofs.YtjfoflbaoceemaaGreat
open Go.RowKit
set_option maxHeartbeats 1000000 in
theorem copied_ {w : World} {o : Ob} {r m d : Value} (h : ObAt w o r m d) (hn : o.short 100000) :
    Calls Tryz.prog 244 #[o.val r m d] w fun e w' => ∃ r' m' d', e = .returned (o.val r' m' d') ∧ ObOwn w' w.heap.size o r' m' d' ∧ Below w.heap.size w w' := by
  obtain ⟨s, k, l, rs, ms, ds⟩ := o
  obtain ⟨⟨A1, c1, rfl, l1, k1, x1, n1⟩, ⟨A2, c2, rfl, l2, k2, x2, n2⟩, ⟨A3, c3, rfl, l3, k3, x3, n3⟩⟩ := h
  obtain ⟨s1, s2, s3⟩ := hn
  simp only at l1 l2 l3 k1 k2 k3 s1 s2 s3
  simp only [Ob.val, Ob.cells]
  have hT0 := TwoB.new w 77 #[.string s, .int .i64 k, .int .i64 l, .slice A1 rs.length c1, .slice A2 ms.length c2, .slice A3 ds.length c3] #[.string ⟨#[]⟩, .int .i64 0, .int .i64 0, .slice none 0 0, .slice none 0 0, .slice none 0 0]
  have hcl := clone_r (c := c1) (l1.below hT0.below) rfl s1 n1
  have HT0 := Lib.hid hT0
  have HCL := Lib.hid hcl
  have L2 := Lib.hid l2
  have L3 := Lib.hid l3
  clear hT0 hcl l1 l2 l3
  generalize hm1 : rs.length = m1 at *
  generalize hm2 : ms.length = m2 at *
  generalize hm3 : ds.length = m3 at *
  have HM1 := Lib.hid hm1
  have HM2 := Lib.hid hm2
  have HM3 := Lib.hid hm3
  clear hm1 hm2 hm3
  go_enter Tryz.func244, Tryz.ntmps244
  go_wp2_with fail
  refine HCL.out.mono ?_
  rintro e w1 ⟨v1, rfl, ho1, hb1⟩
  have hT1 := HT0.out.step hb1
  obtain ⟨B1, b1, rfl⟩ := own_shape ho1 HM1.out
  have q3 := hT1.obj.cell 3
  have f3 := hT1.obj.frozen 3
  have q4 := hT1.obj.cell 4
  have ho1' := own_base (base' := w.heap.size + 2) ho1 HT0.out.size
  have hT1' := hT1.store 3 (.slice B1 m1 b1)
  have ho1'' := TwoB.own (w := w) ho1' (by omega) 3 (.slice B1 m1 b1)
  have hcl2 := clone_m (c := c2) (L2.out.below hT1'.below) HM2.out s2 n2
  have HO1 := Lib.hid ho1''
  have HT1 := Lib.hid hT1'
  have HCL2 := Lib.hid hcl2
  clear ho1 hb1 hT1 ho1' hT1' ho1'' hcl2 HCL HT0
  go_wp2_with fail
  refine HCL2.out.mono ?_
  rintro e w2 ⟨v2, rfl, ho2, hb2⟩
  have hT2 := HT1.out.step hb2
  obtain ⟨B2, b2, rfl⟩ := own_shape ho2 HM2.out
  have p4 := hT2.obj.cell 4
  have g4 := hT2.obj.frozen 4
  have p5 := hT2.obj.cell 5
  have hA12 := own_apart HO1.out ho2 (Nat.le_refl _)
  have ho2' := own_base (base' := w.heap.size + 2) ho2 HT1.out.size
  have hT2' := hT2.store 4 (.slice B2 m2 b2)
  have ho2'' := TwoB.own (w := w) ho2' (by omega) 4 (.slice B2 m2 b2)
  have ho1'' := TwoB.own (w := w) (own_belowE HO1.out hb2) (by omega) 4 (.slice B2 m2 b2)
  have hcl3 := clone_m (c := c3) (L3.out.below hT2'.below) HM3.out s3 n3
  have A12 := Lib.hid hA12
  have HO2 := Lib.hid ho2''
  have HP1 := Lib.hid ho1''
  have HT2 := Lib.hid hT2'
  have HCL3 := Lib.hid hcl3
  clear ho2 hb2 hT2 ho2' hT2' ho2'' ho1'' hcl3 HCL2 HT1 HO1 hA12 q3 f3 q4
  go_wp2_with fail
  refine HCL3.out.mono ?_
  rintro e w3 ⟨v3, rfl, ho3, hb3⟩
  have hT3 := HT2.out.step hb3
  obtain ⟨B3, b3, rfl⟩ := own_shape ho3 HM3.out
  have p5' := hT3.obj.cell 5
  have g5 := hT3.obj.frozen 5
  have hA13 := own_apart HP1.out ho3 (Nat.le_refl _)
  have hA23 := own_apart HO2.out ho3 (Nat.le_refl _)
  have ho3' := own_base (base' := w.heap.size + 2) ho3 HT2.out.size
  have hT3' := hT3.store 5 (.slice B3 m3 b3)
  have ho3'' := TwoB.own (w := w) ho3' (by omega) 5 (.slice B3 m3 b3)
  have ho2'' := TwoB.own (w := w) (own_belowE HO2.out hb3) (by omega) 5 (.slice B3 m3 b3)
  have ho1'' := TwoB.own (w := w) (own_belowE HP1.out hb3) (by omega) 5 (.slice B3 m3 b3)
  have o0 := hT3'.obj.cell 0
  have o1 := hT3'.obj.cell 1
  have o2 := hT3'.obj.cell 2
  have o3 := hT3'.obj.cell 3
  have o4 := hT3'.obj.cell 4
  have o5 := hT3'.obj.cell 5
  have r0 := hT3'.res.cell 0
  have r1 := hT3'.res.cell 1
  have r2 := hT3'.res.cell 2
  have r3 := hT3'.res.cell 3
  have r4 := hT3'.res.cell 4
  have r5 := hT3'.res.cell 5
  have e0 := hT3'.res.frozen 0
  have e1 := hT3'.res.frozen 1
  have e2 := hT3'.res.frozen 2
  have e3 := hT3'.res.frozen 3
  have e4 := hT3'.res.frozen 4
  have e5 := hT3'.res.frozen 5
  obtain ⟨hend, hres⟩ := hT3'.last (.string s) (.int .i64 k) (.int .i64 l) (.slice B1 m1 b1) (.slice B2 m2 b2) (.slice B3 m3 b3)
  have hobj : ObOwn _ w.heap.size ⟨s, k, l, rs, ms, ds⟩ (.slice B1 m1 b1) (.slice B2 m2 b2) (.slice B3 m3 b3) :=
    ⟨own_six ho1'' (.string s) (.int .i64 k) (.int .i64 l) (.slice B1 m1 b1) (.slice B2 m2 b2) (.slice B3 m3 b3), own_six ho2'' _ _ _ _ _ _, own_six ho3'' _ _ _ _ _ _, fun g hg => ⟨A12.out g hg, hA13 g hg⟩, hA23⟩
  have HOBJ := Lib.hid hobj
  have HEND := Lib.hid hend
  have t0 := hres.cell 0
  have t1 := hres.cell 1
  have t2 := hres.cell 2
  have t3 := hres.cell 3
  have t4 := hres.cell 4
  have t5 := hres.cell 5
  clear ho3 hb3 hT3 ho3' hT3' ho3'' ho2'' ho1'' HCL3 HT2 HO2 HP1 hA13 hA23 A12 hobj hend hres p4 g4 p5
  simp only [Array.setIfInBounds, List.getElem?_toArray, List.getElem?_cons_zero, List.getElem?_cons_succ] at o0 o1 o2 o3 o4 o5 r0 r1 r2 r3 r4 r5 t0 t1 t2 t3 t4 t5
  go_wp2_with fail
  refine bodyPost_ret (v := .agg #[.string s, .int .i64 k, .int .i64 l, .slice B1 m1 b1, .slice B2 m2 b2, .slice B3 m3 b3]) (by simp [results, Tryz.results244, go_sem, t0, t1, t2, t3, t4, t5]) rfl ?_
  exact ⟨_, _, _, rfl, HOBJ.out, HEND.out⟩
end Go.Proofs.YtjfoflbaoceemaaGreat
