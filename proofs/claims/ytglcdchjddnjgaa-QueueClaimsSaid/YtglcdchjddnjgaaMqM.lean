/- Rows of messages that lie somewhere: text ..Enc's words at them; the library's Clone, Grow of nothing and Concat at them. -/
import Derived.Test.YtglcdchjddnjgaaCat
import Derived.Test.YtglcdchjddnjgaaMg
import Derived.LoopTactic
import Derived.Lib.AppendZeros
import Derived.Deep.LoopGhost
import Derived.Deep.Slices
import Derived.ChangeArms
import Derived.Laws.Cover1
set_option maxRecDepth 4000
namespace Go.Proofs.Ytglcdchjddnjgaa
open Go.RowKit
def eM : Enc Mg := ⟨fun m => [.int .i64 m.id, .int .i64 m.pri, .int .i64 m.retry, .bool m.claimed, .string m.corr, .string m.body], 6, by omega, fun _ => rfl, fun _ v hv => by simp at hv; rcases hv with rfl | rfl | rfl | rfl | rfl | rfl <;> rfl⟩
theorem Lst.atM {w : World} {K : Nat → Prop} {A : Option Addr} {l : List Mg} (h : Lst w K eM A l) {j : Nat} (hj : j < l.length) :
    ∃ b o, A = some ⟨b, o, none⟩ ∧ b < w.heap.size ∧ w.cell? ⟨b, o + j * 6, none⟩ = some (.int .i64 l[j].id) ∧ w.cell? ⟨b, o + j * 6 + 1, none⟩ = some (.int .i64 l[j].pri) ∧ w.cell? ⟨b, o + j * 6 + 2, none⟩ = some (.int .i64 l[j].retry) ∧
      w.cell? ⟨b, o + j * 6 + 3, none⟩ = some (.bool l[j].claimed) ∧ w.cell? ⟨b, o + j * 6 + 4, none⟩ = some (.string l[j].corr) ∧ w.cell? ⟨b, o + j * 6 + 5, none⟩ = some (.string l[j].body) := by
  obtain ⟨b, o, e, hl, hc⟩ := h.at_ hj
  exact ⟨b, o, e, hl, hc 0 _ rfl, hc 1 _ rfl, hc 2 _ rfl, hc 3 _ rfl, hc 4 _ rfl, hc 5 _ rfl⟩
theorem tyM : RowTy eM 28 24 := ⟨Try.underlying24, .agg #[.int .i64 0, .int .i64 0, .int .i64 0, .bool false, .string ⟨#[]⟩, .string ⟨#[]⟩], 64, by kernel_rfl, rfl, by omega⟩
theorem infoM : (Try.prog.info? 28).map (fun i => (i.zero, i.size, i.bytes)) = some (some (.agg #[.int .i64 0, .int .i64 0, .int .i64 0, .bool false, .string ⟨#[]⟩, .string ⟨#[]⟩]), 6, 64) := by kernel_rfl
abbrev OwnM (w : World) (base : Nat) (v : Value) (l : List Mg) : Prop := Own w base eM 28 v l
set_option maxHeartbeats 400000 in
theorem clone_m {w : World} {K : Nat → Prop} {A : Option Addr} {n c : Nat} {l : List Mg} (h : Lst w K eM A l) (hl : l.length = n) (hn : n ≤ 100000) (hA : A = none → c = 0) :
    Calls Try.prog 19 #[.slice A n c] w fun e w' => ∃ v, e = .returned v ∧ OwnM w' w.heap.size v l ∧ Below w.heap.size w w' := by
  rcases A with _ | a
  · have hc := hA rfl
    have hx : l = [] := h.none_
    subst hx
    simp only [List.length_nil] at hl
    subst hc hl
    clear h hA
    have hnil := fun (W : World) => Lib.run_eql_slice_nil (P := Try.prog) W 24 28 none 0 0 0 0 Try.underlying24
    simp only [Option.isNone_none] at hnil
    go_enter Try.func19, Try.ntmps19
    go_wp2
    go_ret
    exact ⟨_, rfl, own_nil _ _, Below.refl _ _⟩
  · have hnil := fun (W : World) => Lib.run_eql_slice_nil (P := Try.prog) W 24 28 (some a) n c 0 0 Try.underlying24
    simp only [Option.isNone_some] at hnil
    obtain ⟨v', W', hap, ho, hg, hat⟩ := append_own tyM (own_empty w w.heap.size (Nat.le_refl _)) (h.below (alloc_below w (.cells #[] 28))) hl c (by show 0 + n ≤ _; omega) (by simp)
    rw [List.nil_append] at ho
    have hbel : Below w.heap.size w W' := ((Below.refl _ _).alloc (Nat.le_refl _) _).grown hg (by simp) (by intro k hk; simp [Value.ownBlock] at hk; omega)
    have HBE := Lib.hid hbel
    have HO := Lib.hid ho
    clear ho hg hat hbel h hA hl
    go_enter Try.func19, Try.ntmps19
    go_wp2_with (at_builtin; refine wpList_append_run rfl (.tmp 5) (.tmp 6) 24 24 rfl _ _ rfl rfl hap ?_)
    go_ret
    exact ⟨_, rfl, HO.out, HBE.out⟩
set_option maxHeartbeats 400000 in
theorem grow_m (n : Nat) (hn : n ≤ 1000000) (w : World) : Calls Try.prog 23 #[.slice none 0 0, .int .i64 (n : Int)] w
    fun e w' => ∃ v, e = .returned v ∧ OwnM w' w.heap.size v [] ∧ Below w.heap.size w w' := by
  rcases Nat.eq_zero_or_pos n with h0 | h0
  · subst h0
    go_enter Try.func23, Try.ntmps23
    go_wp2
    go_ret
    exact ⟨_, rfl, own_nil _ _, Below.refl _ _⟩
  · obtain ⟨i0, hi, hz0, hz1, hz2⟩ := info_parts infoM
    have hr := Lib.run_append_nil_zeros (P := Try.prog) w 24 3 24 28 i0 _ .i64 .i64 Try.underlying24 Try.underlying3 hi hz0 n h0 (by rw [hz1]; omega) (by omega) (by rw [hz2]; omega)
    have hge := grownCap_ge w n 0 28
    have hcm := grownCap_le_maxLen w n 0 28 (by unfold maxLen; omega)
    have hown : OwnM (w.drew.alloc (.cells (Builtin.zeroCells (Value.agg #[.int .i64 0, .int .i64 0, .int .i64 0, .bool false, .string ⟨#[]⟩, .string ⟨#[]⟩]).cells n ++ Builtin.zeroCells (Value.agg #[.int .i64 0, .int .i64 0, .int .i64 0, .bool false, .string ⟨#[]⟩, .string ⟨#[]⟩]).cells (grownCap w n 0 28 - n)) 28)) w.heap.size (.slice (some ⟨w.heap.size, 0, none⟩) 0 (grownCap w n 0 28)) [] := by
      refine ⟨rfl, .inr ⟨w.heap.size, _, _, rfl, Nat.le_refl _, heap_alloc_new w.drew _, Nat.zero_le _, hcm, ?_, rfl⟩⟩
      simp only [Array.size_append, size_zeroCells]
      rw [← Nat.add_mul]
      have : (Value.agg #[.int .i64 0, .int .i64 0, .int .i64 0, .bool false, .string ⟨#[]⟩, .string ⟨#[]⟩]).cells.size = 6 := rfl
      rw [this]
      show _ = _ * 6
      congr 1
      omega
    have hbel : Below w.heap.size w (w.drew.alloc (.cells (Builtin.zeroCells (Value.agg #[.int .i64 0, .int .i64 0, .int .i64 0, .bool false, .string ⟨#[]⟩, .string ⟨#[]⟩]).cells n ++ Builtin.zeroCells (Value.agg #[.int .i64 0, .int .i64 0, .int .i64 0, .bool false, .string ⟨#[]⟩, .string ⟨#[]⟩]).cells (grownCap w n 0 28 - n)) 28)) := (Below.refl _ _).drew.alloc (Nat.le_refl _) _
    generalize (w.drew.alloc (.cells (Builtin.zeroCells (Value.agg #[.int .i64 0, .int .i64 0, .int .i64 0, .bool false, .string ⟨#[]⟩, .string ⟨#[]⟩]).cells n ++ Builtin.zeroCells (Value.agg #[.int .i64 0, .int .i64 0, .int .i64 0, .bool false, .string ⟨#[]⟩, .string ⟨#[]⟩]).cells (grownCap w n 0 28 - n)) 28)) = W' at *
    generalize grownCap w n 0 28 = cap at *
    have HO := Lib.hid hown
    have HB := Lib.hid hbel
    clear hown hbel
    go_enter Try.func23, Try.ntmps23
    go_wp2_with (at_builtin; refine wpList_append_run rfl (.tmp 20) (.tmp 21) 24 3 rfl _ _ rfl rfl hr ?_)
    go_ret
    exact ⟨_, rfl, HO.out, HB.out⟩
set_option maxHeartbeats 1000000 in
theorem concat_m {w : World} {b o k c : Nat} {ps : List (Value × List Mg)} (hv : ValE w b o ps) (hp : ∀ p ∈ ps, PartE eM w p) (hk : ps.length = k) (hk2 : k ≤ 1000) (hs : (flatE ps).length ≤ 1000000) :
    Calls Try.prog 17 #[.slice (some ⟨b, o, none⟩) k c] w fun e w' => ∃ v, e = .returned v ∧ OwnM w' w.heap.size v (flatE ps) ∧ Below w.heap.size w w' := by
  have HV := Lib.hid hv
  have HP := Lib.hid hp
  have HK := Lib.hid hk
  have HS := Lib.hid hs
  clear hv hp hk hs
  go_enter Try.func17, Try.ntmps17
  go_wp2
  go_loopg [3, 11] k (fun m sz i wr => SumE ps m sz i ∧ w = wr)
  case atStart => exact ⟨⟨0, by rw [HK.out]; omega, rfl, rfl⟩, rfl⟩
  case round =>
    obtain ⟨⟨j, hj, rfl, rfl⟩, rfl⟩ := hrel
    have HJ := Lib.hid hj
    clear hj
    by_cases hlt : j < k
    · have hx : j < ps.length := by rw [HK.out]; exact hlt
      have hc := HV.out.2 j hx
      obtain ⟨A1, c1, K1, e1, _⟩ := HP.out _ (List.getElem_mem hx)
      have hsum : (flatE (ps.take (j + 1))).length = (flatE (ps.take j)).length + (ps[j].2).length := by rw [flatE_succ hx, List.length_append]
      have hle := flatE_le ps (j + 1)
      rw [e1] at hc
      have hsm : (flatE (ps.take j)).length + (ps[j].2).length ≤ 1000000 := by have := HS.out; omega
      have HSUM := Lib.hid hsum
      clear hsum hle e1
      generalize (ps[j].2).length = m1 at *
      generalize (flatE (ps.take j)).length = m0 at *
      go_wp2
      go_roundg (k - (j + 1))
      case measure => have := HJ.out; have := HK.out; omega
      case rel => exact ⟨⟨j + 1, by have := HK.out; omega, by have := HSUM.out; go_num, by go_num⟩, rfl⟩
    · have he : j = k := by have := HJ.out; have := HK.out; omega
      subst he
      have hall : ps.take j = ps := List.take_of_length_le (by rw [HK.out]; exact Nat.le_refl _)
      rw [hall]
      have hS := HS.out
      generalize hm : (flatE ps).length = m at *
      have HM := Lib.hid hm
      clear hm
      go_wp2_with (go_at_call 23; refine (grow_m m hS w).mono ?_; rintro e w1 ⟨v1, rfl, ho1, hb1⟩)
      have HO1 := Lib.hid ho1
      have HB1 := Lib.hid hb1
      clear ho1 hb1
      go_loopg [6, 27] j (fun m v i wr => CatE eM 28 w ps m v i wr)
      case atStart => exact ⟨0, by have := HK.out; omega, rfl, by simpa [flatE] using HO1.out, HB1.out⟩
      case round =>
        obtain ⟨i, hi, rfl, ho, hb⟩ := hrel
        have HI := Lib.hid hi
        have HO := Lib.hid ho
        have HB := Lib.hid hb
        clear hi ho hb
        by_cases hlt : i < j
        · have hx : i < ps.length := by rw [HK.out]; exact hlt
          have hc := (HV.out.below HB.out).2 i hx
          obtain ⟨A1, c1, K1, e1, hr1⟩ := (HP.out _ (List.getElem_mem hx)).below HB.out
          rw [e1] at hc
          have hsum : (flatE (ps.take (i + 1))).length = (flatE (ps.take i)).length + (ps[i].2).length := by rw [flatE_succ hx, List.length_append]
          have hle := flatE_le ps (i + 1)
          have hsm : (flatE (ps.take i)).length + (ps[i].2).length ≤ 1000000 := by have := HM.out; omega
          obtain ⟨v2, W2, hap, ho2, hg2, _⟩ := append_own tyM HO.out hr1 rfl c1 hsm HB.out.size
          rw [← flatE_succ hx] at ho2
          have HO2 := Lib.hid ho2
          have hb2 : Below w.heap.size w W2 := HB.out.grown hg2 HB.out.size (fun q hq => (own_blk HO.out hq).1)
          have HB2 := Lib.hid hb2
          clear ho2 hg2 hb2 hsum hle e1 hr1 hsm
          generalize (ps[i].2).length = m1 at *
          go_wp2_with (at_builtin; refine wpList_append_run rfl (.tmp 31) (.tmp 32) 24 24 rfl _ _ rfl rfl hap ?_)
          go_roundg (j - (i + 1))
          case measure => have := HI.out; have := HK.out; omega
          case rel => exact ⟨i + 1, by have := HK.out; omega, by go_num, HO2.out, HB2.out⟩
        · have he : i = j := by have := HI.out; have := HK.out; omega
          subst he
          have ho := HO.out
          rw [hall] at ho
          have HO3 := Lib.hid ho
          clear ho
          go_wp2
          go_ret
          exact ⟨_, rfl, HO3.out, HB.out⟩
theorem elemM : Try.prog.elem 24 = 28 := by simp [Program.elem, Try.underlying24]
theorem sizeM (w : World) : (Go.sizeOf 28).run Try.prog w = .ok 6 w := by kernel_rfl
theorem head_m (A : Option Addr) (l c q : Nat) (h : q ≤ c) (W : World) : (Instr.slice 24 (.slice A l c) none (some (.int .i64 (q : Int))) none).run Try.prog W = .ok (.slice A q c) W := by
  rw [run_slice_h W 24 _ _ _ (by rw [elemM]; exact Try.underlying24) .i64 _ (by omega) (by omega), elemM, sizeM]
  simp [Result.andThen, sliced]
  cases A <;> simp [Addr.add]
/-- messages from place q on -/
theorem tail_m {w : World} {K : Nat → Prop} {A : Option Addr} {xs : List Mg} {n c : Nat} (h : Lst w K eM A xs) (hl : xs.length = n) (hc : n ≤ c) {q m : Nat} (hq : q ≤ n) (hm : n - q = m) :
    ∃ A', (∀ W, (Instr.slice 24 (.slice A n c) (some (.int .i64 (q : Int))) none none).run Try.prog W = .ok (.slice A' m (c - q)) W) ∧ Lst w K eM A' (xs.drop q) ∧ (A' = none → A = none) := by
  subst hl hm
  refine ⟨_, fun W => ?_, h.drop (k := q) hc, fun e => by split at e <;> simpa using e⟩
  rw [run_slice_l W 24 _ _ _ (by rw [elemM]; exact Try.underlying24) .i64 _ (by omega) (by omega), elemM, sizeM]
  rfl
/-- some messages, one more, and others, side by side -/
theorem concat3_m {w : World} {K : Nat → Prop} {A1 A2 : Option Addr} {xs1 xs2 : List Mg} {q m c1 c2 : Nat} (h1 : Lst w K eM A1 xs1) (l1 : xs1.length = q) (h2 : Lst w K eM A2 xs2) (l2 : xs2.length = m) (r : Mg) (hs : q + m ≤ 999999) {b a : Nat} (hb : b = w.heap.size + 1) (ha : a = w.heap.size) :
    Calls Try.prog 17 #[.slice (some ⟨b, 0, none⟩) 3 3] (((w.alloc (.cells r.cells 28)).alloc (.cells #[.slice A1 q c1, .slice (some ⟨a, 0, none⟩) 1 1, .slice A2 m c2] 24)).drew)
      fun e w' => ∃ v, e = .returned v ∧ OwnM w' w.heap.size v (xs1 ++ [r] ++ xs2) ∧ Below w.heap.size w w' := by
  subst hb ha l1 l2
  have k1 := alloc_below w (.cells r.cells 28)
  have k2 := k1.alloc k1.size (.cells #[.slice A1 xs1.length c1, .slice (some ⟨w.heap.size, 0, none⟩) 1 1, .slice A2 xs2.length c2] 24)
  have hB := Blk.new (w.alloc (.cells r.cells 28)) 24 #[.slice A1 xs1.length c1, .slice (some ⟨w.heap.size, 0, none⟩) 1 1, .slice A2 xs2.length c2]
  have hr := (one_lst eM w 28 r (cs := r.cells) rfl).below (alloc_below (w.alloc (.cells r.cells 28)) (.cells #[.slice A1 xs1.length c1, .slice (some ⟨w.heap.size, 0, none⟩) 1 1, .slice A2 xs2.length c2] 24))
  have hz : (w.alloc (.cells r.cells 28)).heap.size = w.heap.size + 1 := by simp
  rw [hz] at hB
  have hV := blk_cellsE hB.drew (ps := [(.slice A1 xs1.length c1, xs1), (.slice (some ⟨w.heap.size, 0, none⟩) 1 1, [r]), (.slice A2 xs2.length c2, xs2)]) rfl
  refine (concat_m hV ?_ rfl (by simp) (by simp [flatE]; omega)).mono ?_
  · intro p hp
    rcases List.mem_cons.1 hp with rfl | hp
    · exact ⟨A1, c1, K, rfl, (h1.below k2).below (Below.refl _ _).drew⟩
    · rcases List.mem_cons.1 hp with rfl | hp
      · exact ⟨_, 1, _, rfl, hr.below (Below.refl _ _).drew⟩
      · rcases List.mem_cons.1 hp with rfl | hp
        · exact ⟨A2, c2, K, rfl, (h2.below k2).below (Below.refl _ _).drew⟩
        · cases hp
  · rintro e w' ⟨v, rfl, ho, hbb⟩
    have e1 : flatE [(Value.slice A1 xs1.length c1, xs1), (.slice (some ⟨w.heap.size, 0, none⟩) 1 1, [r]), (.slice A2 xs2.length c2, xs2)] = xs1 ++ [r] ++ xs2 := by simp [flatE]
    rw [e1] at ho
    have hk := k2.drew
    exact ⟨v, rfl, own_base ho hk.size, hk.trans (hbb.mono hk.size)⟩
/-- some messages and others, side by side -/
theorem concat2_m {w : World} {K : Nat → Prop} {A1 A2 : Option Addr} {xs1 xs2 : List Mg} {q m c1 c2 : Nat} (h1 : Lst w K eM A1 xs1) (l1 : xs1.length = q) (h2 : Lst w K eM A2 xs2) (l2 : xs2.length = m) (hs : q + m ≤ 999999) {b : Nat} (hb : b = w.heap.size) :
    Calls Try.prog 17 #[.slice (some ⟨b, 0, none⟩) 2 2] ((w.alloc (.cells #[.slice A1 q c1, .slice A2 m c2] 24)).drew)
      fun e w' => ∃ v, e = .returned v ∧ OwnM w' w.heap.size v (xs1 ++ xs2) ∧ Below w.heap.size w w' := by
  subst hb l1 l2
  have k2 := alloc_below w (.cells #[.slice A1 xs1.length c1, .slice A2 xs2.length c2] 24)
  have hB := Blk.new w 24 #[.slice A1 xs1.length c1, .slice A2 xs2.length c2]
  have hV := blk_cellsE hB.drew (ps := [(.slice A1 xs1.length c1, xs1), (.slice A2 xs2.length c2, xs2)]) rfl
  refine (concat_m hV ?_ rfl (by simp) (by simp [flatE]; omega)).mono ?_
  · intro p hp
    rcases List.mem_cons.1 hp with rfl | hp
    · exact ⟨A1, c1, K, rfl, (h1.below k2).below (Below.refl _ _).drew⟩
    · rcases List.mem_cons.1 hp with rfl | hp
      · exact ⟨A2, c2, K, rfl, (h2.below k2).below (Below.refl _ _).drew⟩
      · cases hp
  · rintro e w' ⟨v, rfl, ho, hbb⟩
    have e1 : flatE [(Value.slice A1 xs1.length c1, xs1), (.slice A2 xs2.length c2, xs2)] = xs1 ++ xs2 := by simp [flatE]
    rw [e1] at ho
    have hk := k2.drew
    exact ⟨v, rfl, own_base ho hk.size, hk.trans (hbb.mono hk.size)⟩
end Go.Proofs.Ytglcdchjddnjgaa
