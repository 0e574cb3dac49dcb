/- . . . . . . . . -/
import Derived.Test.YtjfoflbaoceemaaGreatJ16
import Derived.Test.YtjfoflbaoceemaaGreatJ06
import Derived.LoopTactic
import Derived.Lib.AppendZeros
import Derived.Deep.LoopGhost
import Derived.Deep.Slices
import Derived.ChangeArms
import Derived.Laws.Cover1
import Derived.Test.YtjfoflbaoceemaaGreatJ23
import Derived.Deep.RegionWith
import Derived.Test.YtjfoflbaoceemaaGreatJ22
import Derived.Test.YtjfoflbaoceemaaGreatJ14
import Derived.Test.YtjfoflbaoceemaaGreatJ17
import Derived.Shelf.Abstract
set_option maxRecDepth 4000
namespace Go.Proofs.YtjfoflbaoceemaaGreat
open Go.RowKit
def NewR (w : World) (n : Nat) (xs : List Rw) (v : Value) (w' : World) : Prop :=
  ∃ A' c', v = .slice A' n c' ∧ Rws w' (fun i => w.heap.size ≤ i) A' xs ∧ n ≤ c' ∧ c' ≤ maxLen ∧ (A' = none → c' = 0) ∧ Below w.heap.size w w'
set_option maxHeartbeats 400000 in
theorem clone_rows {w : World} {K : Nat → Prop} {A : Option Addr} {n c : Nat} {xs : List Rw} (h : Rws w K A xs) (hl : xs.length = n) (hn : n ≤ 1000000) (hA : A = none → c = 0) :
    Calls Tryz.prog 144 #[.slice A n c] w fun e w' => ∃ v, e = .returned v ∧ NewR w n xs v w' := by
  rcases A with _ | a
  · have hc := hA rfl
    have h0 : n = 0 := by
      rcases Nat.eq_zero_or_pos n with h0 | h0
      · exact h0
      · obtain ⟨_, _, h, _⟩ := h (by omega)
        cases h
    subst hc h0
    have hx : xs = [] := List.eq_nil_of_length_eq_zero hl
    have HX := Lib.hid hx
    clear h hA hx hl
    have hnil := fun (W : World) => Lib.run_eql_slice_nil (P := Tryz.prog) W 74 143 none 0 0 0 0 Tryz.underlying74
    simp only [Option.isNone_none] at hnil
    go_enter Tryz.func144, Tryz.ntmps144
    go_wp2
    go_ret
    exact ⟨_, rfl, none, 0, rfl, by rw [HX.out]; exact Rws.nil _ _ _, Nat.le_refl _, by unfold maxLen; omega, fun _ => rfl, Below.refl _ _⟩
  · have hnil := fun (W : World) => Lib.run_eql_slice_nil (P := Tryz.prog) W 74 143 (some a) n c 0 0 Tryz.underlying74
    simp only [Option.isNone_some] at hnil
    obtain ⟨v', W', hap, ho, hg, hat⟩ := append_rws (empty_rws w w.heap.size (Nat.le_refl _)) (h.below (alloc_below w (.cells #[] 143))) hl c (by omega) (by simp)
    rw [List.nil_append, Nat.zero_add] at ho
    obtain ⟨A', c', rfl, hh, _, h1, h2, h3⟩ := own_rws ho
    have hbel : Below w.heap.size w W' := ((Below.refl _ _).alloc (Nat.le_refl _) _).grown hg (by simp) (by intro k hk; simp [Value.ownBlock] at hk; omega)
    have HBE := Lib.hid hbel
    have HR := Lib.hid hh
    have H3 := Lib.hid h3
    clear ho hg hat hbel h hA hh hl h3
    go_enter Tryz.func144, Tryz.ntmps144
    go_wp2_with (at_builtin; refine wpList_append_run rfl (.tmp 5) (.tmp 6) 74 74 rfl _ _ rfl rfl hap ?_)
    go_ret
    exact ⟨_, rfl, A', c', rfl, HR.out, h1, h2, H3.out, HBE.out⟩
def PartAt (w : World) (p : Value × List Rw) : Prop := ∃ A c K, p.1 = .slice A p.2.length c ∧ Rws w K A p.2
theorem PartAt.below {w w' : World} {p : Value × List Rw} (h : PartAt w p) (k : Below w.heap.size w w') : PartAt w' p := by
  obtain ⟨A, c, K, e, hr⟩ := h
  exact ⟨A, c, K, e, hr.below k⟩
def flatR : List (Value × List Rw) → List Rw
  | [] => []
  | p :: r => p.2 ++ flatR r
theorem flatR_append (l m : List (Value × List Rw)) : flatR (l ++ m) = flatR l ++ flatR m := by
  induction l with
  | nil => rfl
  | cons x r ih => simp [flatR, ih]
theorem flatR_succ {l : List (Value × List Rw)} {j : Nat} (h : j < l.length) : flatR (l.take (j + 1)) = flatR (l.take j) ++ l[j].2 := by
  rw [List.take_succ_eq_append_getElem h, flatR_append]
  simp [flatR]
theorem flatR_le (l : List (Value × List Rw)) (j : Nat) : (flatR (l.take j)).length ≤ (flatR l).length := by
  conv => rhs; rw [← List.take_append_drop j l, flatR_append, List.length_append]
  omega
set_option maxHeartbeats 400000 in
theorem grow_nil (n : Nat) (hn : n ≤ 1000000) (w : World) : Calls Tryz.prog 249 #[.slice none 0 0, .int .i64 (n : Int)] w
    fun e w' => ∃ v, e = .returned v ∧ w'.ownsRow w.heap.size 143 2 v 0 (cellsR []) ∧ Below w.heap.size w w' := by
  rcases Nat.eq_zero_or_pos n with h0 | h0
  · subst h0
    go_enter Tryz.func249, Tryz.ntmps249
    go_wp2
    go_ret
    exact ⟨_, rfl, World.ownsRow_nil _ _ _ _, Below.refl _ _⟩
  · obtain ⟨i0, hi, hz0, hz1, hz2⟩ := info_parts infoRow
    have hr := Lib.run_append_nil_zeros (P := Tryz.prog) w 74 3 74 143 i0 _ .i64 .i64 Tryz.underlying74 Tryz.underlying3 hi hz0 n h0 (by rw [hz1]; omega) (by omega) (by rw [hz2]; omega)
    have hge := grownCap_ge w n 0 143
    have hcm := grownCap_le_maxLen w n 0 143 (by unfold maxLen; omega)
    have hown : (w.drew.alloc (.cells (Builtin.zeroCells (Value.agg #[.string ⟨#[]⟩, .string ⟨#[]⟩]).cells n ++ Builtin.zeroCells (Value.agg #[.string ⟨#[]⟩, .string ⟨#[]⟩]).cells (grownCap w n 0 143 - n)) 143)).ownsRow w.heap.size 143 2 (.slice (some ⟨w.heap.size, 0, none⟩) 0 (grownCap w n 0 143)) 0 (cellsR []) := by
      refine ⟨rfl, .inr ⟨w.heap.size, _, _, rfl, Nat.le_refl _, heap_alloc_new w.drew _, Nat.zero_le _, hcm, ?_, rfl⟩⟩
      simp only [Array.size_append, size_zeroCells]
      rw [← Nat.add_mul]
      have : (Value.agg #[.string ⟨#[]⟩, .string ⟨#[]⟩]).cells.size = 2 := rfl
      rw [this]
      congr 1
      omega
    have hbel : Below w.heap.size w (w.drew.alloc (.cells (Builtin.zeroCells (Value.agg #[.string ⟨#[]⟩, .string ⟨#[]⟩]).cells n ++ Builtin.zeroCells (Value.agg #[.string ⟨#[]⟩, .string ⟨#[]⟩]).cells (grownCap w n 0 143 - n)) 143)) := (Below.refl _ _).drew.alloc (Nat.le_refl _) _
    generalize (w.drew.alloc (.cells (Builtin.zeroCells (Value.agg #[.string ⟨#[]⟩, .string ⟨#[]⟩]).cells n ++ Builtin.zeroCells (Value.agg #[.string ⟨#[]⟩, .string ⟨#[]⟩]).cells (grownCap w n 0 143 - n)) 143)) = W' at *
    generalize grownCap w n 0 143 = cap at *
    have HO := Lib.hid hown
    have HB := Lib.hid hbel
    clear hown hbel
    go_enter Tryz.func249, Tryz.ntmps249
    go_wp2_with (at_builtin; refine wpList_append_run rfl (.tmp 20) (.tmp 21) 74 3 rfl _ _ rfl rfl hr ?_)
    go_ret
    exact ⟨_, rfl, HO.out, HB.out⟩
def Sums (ps : List (Value × List Rw)) (k : Nat) (sz i : Value) : Prop := ∃ j, j + k = ps.length ∧ sz = .int .i64 ((flatR (ps.take j)).length : Int) ∧ i = .int .i64 (j : Int)
def Cats (w : World) (ps : List (Value × List Rw)) (k : Nat) (v i : Value) (wr : World) : Prop :=
  ∃ j, j + k = ps.length ∧ i = .int .i64 (j : Int) ∧ wr.ownsRow w.heap.size 143 2 v (flatR (ps.take j)).length (cellsR (flatR (ps.take j))) ∧ Below w.heap.size w wr
def Vals (w : World) (b o : Nat) (ps : List (Value × List Rw)) : Prop := b < w.heap.size ∧ ∀ j (h : j < ps.length), w.cell? ⟨b, o + j, none⟩ = some ps[j].1
theorem Vals.below {w w' : World} {b o : Nat} {ps : List (Value × List Rw)} (h : Vals w b o ps) (k : Below w.heap.size w w') : Vals w' b o ps :=
  ⟨Nat.lt_of_lt_of_le h.1 k.size, fun j hj => (cell_of_heap (k.block b h.1) _).trans (h.2 j hj)⟩
set_option maxHeartbeats 1000000 in
theorem concat_ {w : World} {b o k c : Nat} {ps : List (Value × List Rw)} (hv : Vals w b o ps) (hp : ∀ p ∈ ps, PartAt w p) (hk : ps.length = k) (hk2 : k ≤ 1000) (hs : (flatR ps).length ≤ 1000000) :
    Calls Tryz.prog 236 #[.slice (some ⟨b, o, none⟩) k c] w fun e w' => ∃ v, e = .returned v ∧ NewR w (flatR ps).length (flatR ps) v w' := by
  have HV := Lib.hid hv
  have HP := Lib.hid hp
  have HK := Lib.hid hk
  have HS := Lib.hid hs
  clear hv hp hk hs
  go_enter Tryz.func236, Tryz.ntmps236
  go_wp2
  go_loopg [3, 11] k (fun m sz i wr => Sums ps m sz i ∧ w = wr)
  case atStart => exact ⟨⟨0, by rw [HK.out]; omega, rfl, rfl⟩, rfl⟩
  case round =>
    obtain ⟨⟨j, hj, rfl, rfl⟩, rfl⟩ := hrel
    have HJ := Lib.hid hj
    clear hj
    by_cases hlt : j < k
    · have hx : j < ps.length := by rw [HK.out]; exact hlt
      have hc := HV.out.2 j hx
      obtain ⟨A1, c1, K1, e1, _⟩ := HP.out _ (List.getElem_mem hx)
      have hsum : (flatR (ps.take (j + 1))).length = (flatR (ps.take j)).length + (ps[j].2).length := by rw [flatR_succ hx, List.length_append]
      have hle := flatR_le ps (j + 1)
      rw [e1] at hc
      have hsm : (flatR (ps.take j)).length + (ps[j].2).length ≤ 1000000 := by have := HS.out; omega
      have HSUM := Lib.hid hsum
      clear hsum hle e1
      generalize (ps[j].2).length = m1 at *
      generalize (flatR (ps.take j)).length = m0 at *
      go_wp2
      go_roundg (k - (j + 1))
      case measure => have := HJ.out; have := HK.out; omega
      case rel => exact ⟨⟨j + 1, by have := HK.out; omega, by have := HSUM.out; go_num, by go_num⟩, rfl⟩
    · have he : j = k := by have := HJ.out; have := HK.out; omega
      subst he
      have hall : ps.take j = ps := List.take_of_length_le (by rw [HK.out]; exact Nat.le_refl _)
      rw [hall]
      have hS := HS.out
      have HF : Hid (∃ x, x = flatR ps) := ⟨_, rfl⟩
      generalize hm : (flatR ps).length = m at *
      have HM := Lib.hid hm
      clear hm
      go_wp2_with (go_at_call 249; refine (grow_nil m hS w).mono ?_; rintro e w1 ⟨v1, rfl, ho1, hb1⟩)
      have HO1 := Lib.hid ho1
      have HB1 := Lib.hid hb1
      clear ho1 hb1
      go_loopg [6, 27] j (fun m v i wr => Cats w ps m v i wr)
      case atStart => exact ⟨0, by have := HK.out; omega, rfl, by simpa [flatR] using HO1.out, HB1.out⟩
      case round =>
        obtain ⟨i, hi, rfl, ho, hb⟩ := hrel
        have HI := Lib.hid hi
        have HO := Lib.hid ho
        have HB := Lib.hid hb
        clear hi ho hb
        by_cases hlt : i < j
        · have hx : i < ps.length := by rw [HK.out]; exact hlt
          have hc := (HV.out.below HB.out).2 i hx
          obtain ⟨A1, c1, K1, e1, hr1⟩ := (HP.out _ (List.getElem_mem hx)).below HB.out
          rw [e1] at hc
          have hsum : (flatR (ps.take (i + 1))).length = (flatR (ps.take i)).length + (ps[i].2).length := by rw [flatR_succ hx, List.length_append]
          have hle := flatR_le ps (i + 1)
          have hsm : (flatR (ps.take i)).length + (ps[i].2).length ≤ 1000000 := by have := HM.out; omega
          obtain ⟨v2, W2, hap, ho2, hg2, _⟩ := append_rws HO.out hr1 rfl c1 hsm HB.out.size
          rw [← flatR_succ hx, ← hsum] at ho2
          have HO2 := Lib.hid ho2
          have hb2 : Below w.heap.size w W2 := HB.out.grown hg2 HB.out.size (by
            intro q hq
            rcases HO.out.2 with ⟨h, _⟩ | ⟨q', cap, cur, h, hq', _⟩
            · rw [h] at hq; cases hq
            · rw [h] at hq; simp [Value.ownBlock] at hq; omega)
          have HB2 := Lib.hid hb2
          clear ho2 hg2 hb2 hsum hle e1 hr1 hsm
          generalize (ps[i].2).length = m1 at *
          go_wp2_with (at_builtin; refine wpList_append_run rfl (.tmp 31) (.tmp 32) 74 74 rfl _ _ rfl rfl hap ?_)
          go_roundg (j - (i + 1))
          case measure => have := HI.out; have := HK.out; omega
          case rel => exact ⟨i + 1, by have := HK.out; omega, by go_num, HO2.out, HB2.out⟩
        · have he : i = j := by have := HI.out; have := HK.out; omega
          subst he
          obtain ⟨A', c', rfl, hr, _, h2, h3, h4⟩ := own_rws HO.out
          have HR := Lib.hid hr
          have H4 := Lib.hid h4
          clear hr h4
          go_wp2
          go_ret
          exact ⟨_, rfl, A', c', rfl, by rw [← hall]; exact HR.out, by rw [← hall]; exact h2, h3, H4.out, HB.out⟩
end Go.Proofs.YtjfoflbaoceemaaGreat
namespace Go.Proofs.YtjfoflbaoceemaaGreat
open Go.RowKit
theorem elemRow : Tryz.prog.elem 74 = 143 := by simp [Program.elem, Tryz.underlying74]
theorem sizeRow (w : World) : (Go.sizeOf 143).run Tryz.prog w = .ok 2 w := by kernel_rfl
theorem head_rows (A : Option Addr) (l c q : Nat) (h : q ≤ c) (W : World) : (Instr.slice 74 (.slice A l c) none (some (.int .i64 (q : Int))) none).run Tryz.prog W = .ok (.slice A q c) W := by
  rw [run_slice_h W 74 _ _ _ (by rw [elemRow]; exact Tryz.underlying74) .i64 _ (by omega) (by omega), elemRow, sizeRow]
  have : A.map (·.add (0 * 2)) = A := by cases A <;> simp [Addr.add]
  simp [Result.andThen, sliced]
  cases A <;> simp [Addr.add]
theorem tail_rows {w : World} {K : Nat → Prop} {A : Option Addr} {xs : List Rw} {n c : Nat} (h : Rws w K A xs) (hl : xs.length = n) (hc : n ≤ c) {q m : Nat} (hq : q ≤ n) (hm : n - q = m) :
    ∃ A', (∀ W, (Instr.slice 74 (.slice A n c) (some (.int .i64 (q : Int))) none none).run Tryz.prog W = .ok (.slice A' m (c - q)) W) ∧ Rws w K A' (xs.drop q) ∧ (A' = none → A = none) := by
  subst hl hm
  refine ⟨_, fun W => ?_, h.drop (k := q) hc, fun e => by split at e <;> simpa using e⟩
  rw [run_slice_l W 74 _ _ _ (by rw [elemRow]; exact Tryz.underlying74) .i64 _ (by omega) (by omega), elemRow, sizeRow]
  rfl
theorem NewR.of_below {w w1 w' : World} {n : Nat} {xs : List Rw} {v : Value} (h : NewR w1 n xs v w') (hb : Below w.heap.size w w1) : NewR w n xs v w' := by
  obtain ⟨A, c, e, hr, h1, h2, h3, hk⟩ := h
  exact ⟨A, c, e, hr.more fun i _ hi => Nat.le_trans hb.size hi, h1, h2, h3, hb.trans (hk.mono hb.size)⟩
theorem blk_cells {w : World} {g : Nat} {t : TypeId} {cs : Array Value} (h : Blk w g t cs) {ps : List (Value × List Rw)} (hp : cs.toList = ps.map (·.1)) : Vals w g 0 ps :=
  ⟨h.lt, fun j hj => by
    rw [h.cell, Nat.zero_add, ← Array.getElem?_toList, hp, List.getElem?_map, List.getElem?_eq_getElem hj]; rfl⟩
theorem concat3 {w : World} {K : Nat → Prop} {A1 A2 : Option Addr} {xs1 xs2 : List Rw} {q m c1 c2 : Nat} (h1 : Rws w K A1 xs1) (l1 : xs1.length = q) (h2 : Rws w K A2 xs2) (l2 : xs2.length = m) (r : Rw) (hs : q + m ≤ 999999) {b a : Nat} (hb : b = w.heap.size + 1) (ha : a = w.heap.size) :
    Calls Tryz.prog 236 #[.slice (some ⟨b, 0, none⟩) 3 3] (((w.alloc (.cells #[.string r.1, .string r.2] 143)).alloc (.cells #[.slice A1 q c1, .slice (some ⟨a, 0, none⟩) 1 1, .slice A2 m c2] 74)).drew)
      fun e w' => ∃ v, e = .returned v ∧ NewR w (q + m + 1) (xs1 ++ [r] ++ xs2) v w' := by
  subst hb ha l1 l2
  have k1 := alloc_below w (.cells #[.string r.1, .string r.2] 143)
  have k2 := k1.alloc k1.size (.cells #[.slice A1 xs1.length c1, .slice (some ⟨w.heap.size, 0, none⟩) 1 1, .slice A2 xs2.length c2] 74)
  have hB := Blk.new (w.alloc (.cells #[.string r.1, .string r.2] 143)) 74 #[.slice A1 xs1.length c1, .slice (some ⟨w.heap.size, 0, none⟩) 1 1, .slice A2 xs2.length c2]
  have hr := (rws_one w r).below (alloc_below (w.alloc (.cells #[.string r.1, .string r.2] 143)) (.cells #[.slice A1 xs1.length c1, .slice (some ⟨w.heap.size, 0, none⟩) 1 1, .slice A2 xs2.length c2] 74))
  have hz : (w.alloc (.cells #[.string r.1, .string r.2] 143)).heap.size = w.heap.size + 1 := by simp
  rw [hz] at hB
  have hV := blk_cells hB.drew (ps := [(.slice A1 xs1.length c1, xs1), (.slice (some ⟨w.heap.size, 0, none⟩) 1 1, [r]), (.slice A2 xs2.length c2, xs2)]) rfl
  refine (concat_ hV ?_ rfl (by simp) (by simp [flatR]; omega)).mono ?_
  · intro p hp
    rcases List.mem_cons.1 hp with rfl | hp
    · exact ⟨A1, c1, K, rfl, (h1.below k2).drew⟩
    · rcases List.mem_cons.1 hp with rfl | hp
      · exact ⟨_, 1, _, rfl, hr.drew⟩
      · rcases List.mem_cons.1 hp with rfl | hp
        · exact ⟨A2, c2, K, rfl, (h2.below k2).drew⟩
        · cases hp
  · rintro e w' ⟨v, rfl, hn⟩
    have e1 : flatR [(Value.slice A1 xs1.length c1, xs1), (.slice (some ⟨w.heap.size, 0, none⟩) 1 1, [r]), (.slice A2 xs2.length c2, xs2)] = xs1 ++ [r] ++ xs2 := by simp [flatR]
    rw [e1] at hn
    have e2 : (xs1 ++ [r] ++ xs2).length = xs1.length + xs2.length + 1 := by simp; omega
    rw [e2] at hn
    exact ⟨v, rfl, hn.of_below k2.drew⟩
theorem concat2 {w : World} {K : Nat → Prop} {A1 A2 : Option Addr} {xs1 xs2 : List Rw} {q m c1 c2 : Nat} (h1 : Rws w K A1 xs1) (l1 : xs1.length = q) (h2 : Rws w K A2 xs2) (l2 : xs2.length = m) (hs : q + m ≤ 999999) {b : Nat} (hb : b = w.heap.size) :
    Calls Tryz.prog 236 #[.slice (some ⟨b, 0, none⟩) 2 2] ((w.alloc (.cells #[.slice A1 q c1, .slice A2 m c2] 74)).drew)
      fun e w' => ∃ v, e = .returned v ∧ NewR w (q + m) (xs1 ++ xs2) v w' := by
  subst hb l1 l2
  have k2 := alloc_below w (.cells #[.slice A1 xs1.length c1, .slice A2 xs2.length c2] 74)
  have hB := Blk.new w 74 #[.slice A1 xs1.length c1, .slice A2 xs2.length c2]
  have hV := blk_cells hB.drew (ps := [(.slice A1 xs1.length c1, xs1), (.slice A2 xs2.length c2, xs2)]) rfl
  refine (concat_ hV ?_ rfl (by simp) (by simp [flatR]; omega)).mono ?_
  · intro p hp
    rcases List.mem_cons.1 hp with rfl | hp
    · exact ⟨A1, c1, K, rfl, (h1.below k2).drew⟩
    · rcases List.mem_cons.1 hp with rfl | hp
      · exact ⟨A2, c2, K, rfl, (h2.below k2).drew⟩
      · cases hp
  · rintro e w' ⟨v, rfl, hn⟩
    have e1 : flatR [(Value.slice A1 xs1.length c1, xs1), (.slice A2 xs2.length c2, xs2)] = xs1 ++ xs2 := by simp [flatR]
    rw [e1, List.length_append] at hn
    exact ⟨v, rfl, hn.of_below k2.drew⟩
set_option maxHeartbeats 1000000 in
theorem put_row {w : World} {K : Nat → Prop} {A : Option Addr} {n c : Nat} {xs : List Rw} (h : Rws w K A xs) (hl : xs.length = n) (hn : n ≤ 100000) (hc : n ≤ c) (r : Rw) :
    Calls Tryz.prog 223 #[.slice A n c, .agg #[.string r.1, .string r.2]] w fun e w' => ∃ v, e = .returned v ∧ NewR w (putR xs r).length (putR xs r) v w' := by
  obtain ⟨k, v⟩ := r
  have hb0 := alloc_below w (.cells #[.string k, .string v] 143)
  have HB0 := Lib.hid hb0
  have HX0 := Lib.hid (Blk.new w 143 #[.string k, .string v])
  have H := Lib.hid (h.below hb0)
  have HL := Lib.hid hl
  have hf1 := findR_le xs k
  have hf2 := behR_le xs k
  have hpb := put_beh xs (k, v)
  simp only at hpb
  unfold behR at hf2 hpb
  rw [hl] at hf1 hf2
  have hfind := fun W (hW : Rws W K A xs) => find_row (c := c) hW hl (by omega) k
  obtain ⟨fd, hfd⟩ : ∃ fd, foundR xs k = fd := ⟨_, rfl⟩
  rw [hfd] at hf2 hpb hfind
  have HPB := Lib.hid hpb
  have HFI := Lib.hid hfind
  clear h hl hb0 hpb hfd hfind
  generalize findR xs k = q at *
  have hd1 := fun W => head_rows A n c q (by omega) W
  cases fd
  · obtain ⟨A2, hd2, hr2, _⟩ := tail_rows H.out HL.out hc hf1 rfl
    have HR2 := Lib.hid hr2
    clear hr2
    obtain ⟨m2, hm2⟩ : ∃ m, n - q = m := ⟨_, rfl⟩
    rw [hm2] at hd2
    have h3 := concat3 (q := q) (m := m2) (c1 := c) (c2 := c - q) (H.out.take q) (by rw [List.length_take, HL.out]; omega) HR2.out (by rw [List.length_drop, HL.out]; exact hm2) (k, v) (by omega) (b := w.heap.size + 1 + 1) (a := w.heap.size + 1) (by simp) (by simp)
    have hlen : (putR xs (k, v)).length = q + m2 + 1 := by rw [HPB.out]; simp [List.length_take, List.length_drop, HL.out]; omega
    have H3 := Lib.hid h3
    have HN := Lib.hid hlen
    clear h3 hlen hf2 hm2
    go_enter Tryz.func223, Tryz.ntmps223
    go_wp2_with (go_at_call 235; refine (HFI.out _ H.out).mono ?_; rintro e w' ⟨rfl, rfl⟩)
    go_region_with (go_at_call 236; refine H3.out.mono ?_; rintro e w' ⟨v1, rfl, hn1⟩; have HN1 := Lib.hid hn1; clear hn1)
    go_wp2
    go_ret
    exact ⟨v1, rfl, by rw [HN.out, HPB.out]; exact HN1.out.of_below HB0.out⟩
  · simp only [if_true] at hf2
    obtain ⟨A2, hd2, hr2, _⟩ := tail_rows H.out HL.out hc hf2 rfl
    have HR2 := Lib.hid hr2
    clear hr2
    obtain ⟨m2, hm2⟩ : ∃ m, n - (q + 1) = m := ⟨_, rfl⟩
    rw [hm2] at hd2
    have hd2' : ∀ W, (Instr.slice 74 (.slice A n c) (some (.int .i64 ((q : Int) + 1))) none none).run Tryz.prog W = .ok (.slice A2 m2 (c - (q + 1))) W := hd2
    have h3 := concat3 (q := q) (m := m2) (c1 := c) (c2 := c - (q + 1)) (H.out.take q) (by rw [List.length_take, HL.out]; omega) HR2.out (by rw [List.length_drop, HL.out]; exact hm2) (k, v) (by omega) (b := w.heap.size + 1 + 1) (a := w.heap.size + 1) (by simp) (by simp)
    have hlen : (putR xs (k, v)).length = q + m2 + 1 := by rw [HPB.out]; simp [List.length_take, List.length_drop, HL.out]; omega
    have H3 := Lib.hid h3
    have HN := Lib.hid hlen
    clear h3 hlen hm2 hd2
    go_enter Tryz.func223, Tryz.ntmps223
    go_wp2_with (go_at_call 235; refine (HFI.out _ H.out).mono ?_; rintro e w' ⟨rfl, rfl⟩)
    go_region_with (go_at_call 236; refine H3.out.mono ?_; rintro e w' ⟨v1, rfl, hn1⟩; have HN1 := Lib.hid hn1; clear hn1)
    go_wp2
    go_ret
    exact ⟨v1, rfl, by rw [HN.out, HPB.out]; exact HN1.out.of_below HB0.out⟩
end Go.Proofs.YtjfoflbaoceemaaGreat
namespace Go.Proofs.YtjfoflbaoceemaaGreat
open Go.RowKit
set_option maxHeartbeats 1000000 in
theorem cutrow_ {w : World} {K : Nat → Prop} {A : Option Addr} {n c : Nat} {xs : List Rw} (h : Rws w K A xs) (hl : xs.length = n) (hn : n ≤ 100000) (hc : n ≤ c) (hA : A = none → c = 0) (k : ByteArray) :
    Calls Tryz.prog 237 #[.slice A n c, .string k] w fun e w' => ∃ v, e = .returned (.tuple #[v, .bool (foundR xs k)]) ∧ NewR w (cutRw xs k).length (cutRw xs k) v w' := by
  have H := Lib.hid h
  have HL := Lib.hid hl
  have hf1 := findR_le xs k
  rw [hl] at hf1
  have hfind := fun W (hW : Rws W K A xs) => find_row (c := c) hW hl (by omega) k
  obtain ⟨fd, hfd⟩ : ∃ fd, foundR xs k = fd := ⟨_, rfl⟩
  have HFD := Lib.hid hfd
  rw [hfd] at hfind ⊢
  have HFI := Lib.hid hfind
  cases fd
  · have hcl := clone_rows h hl (by omega) hA
    have he : cutRw xs k = xs := by rw [cutRw, hfd]; rfl
    have HCL := Lib.hid hcl
    have HE := Lib.hid he
    clear h hl hfd hfind hcl he hA
    generalize findR xs k = q at *
    go_enter Tryz.func237, Tryz.ntmps237
    go_wp2_with (first | (go_at_call 235; refine (HFI.out _ H.out).mono ?_; rintro e w' ⟨rfl, rfl⟩) | (go_at_call 144; refine HCL.out.mono ?_; rintro e w' ⟨v1, rfl, hn1⟩; have HN1 := Lib.hid hn1; clear hn1))
    go_ret2
    refine ⟨v1, rfl, ?_⟩
    rw [HE.out, HL.out]; exact HN1.out
  · have hlt := foundR_lt hfd
    rw [hl] at hlt
    have he := cut_at hfd
    have HE := Lib.hid he
    clear h hl hfd hfind he hA
    generalize findR xs k = q at *
    have hd1 := fun W => head_rows A n c q (by omega) W
    obtain ⟨A2, hd2, hr2, _⟩ := tail_rows H.out HL.out hc (show q + 1 ≤ n by omega) rfl
    obtain ⟨m2, hm2⟩ : ∃ m, n - (q + 1) = m := ⟨_, rfl⟩
    rw [hm2] at hd2
    have hd2' : ∀ W, (Instr.slice 74 (.slice A n c) (some (.int .i64 ((q : Int) + 1))) none none).run Tryz.prog W = .ok (.slice A2 m2 (c - (q + 1))) W := hd2
    have h2 := concat2 (q := q) (m := m2) (c1 := c) (c2 := c - (q + 1)) (H.out.take q) (by rw [List.length_take, HL.out]; omega) hr2 (by rw [List.length_drop, HL.out]; exact hm2) (by omega) (b := w.heap.size) rfl
    have hlen : (cutRw xs k).length = q + m2 := by rw [HE.out, List.length_append, List.length_take, List.length_drop, HL.out]; omega
    have H2 := Lib.hid h2
    have HN := Lib.hid hlen
    have hw : IntKind.i64.wrap ((q : Int) + 1) = (q : Int) + 1 := by rw [IntKind.wrap_i64]; omega
    clear h2 hlen hm2 hd2 hr2 hlt hf1
    go_enter Tryz.func237, Tryz.ntmps237
    go_wp2_with (go_at_call 235; refine (HFI.out _ H.out).mono ?_; rintro e w' ⟨rfl, rfl⟩)
    go_region_with (go_at_call 236; refine H2.out.mono ?_; rintro e w' ⟨v1, rfl, hn1⟩; have HN1 := Lib.hid hn1; clear hn1)
    go_wp2
    go_ret2
    exact ⟨v1, rfl, by rw [HN.out, HE.out]; exact HN1.out⟩
end Go.Proofs.YtjfoflbaoceemaaGreat
namespace Go.Proofs.YtjfoflbaoceemaaGreat
open Go.RowKit
theorem NewR.k {w w' : World} {n : Nat} {l : List Rw} {v : Value} (h : NewR w n l v w') (hn : n = l.length) : ∃ t : Sv, v = .slice t.a t.n t.c ∧ SlK w' (fun i => w.heap.size ≤ i) eR t l ∧ Below w.heap.size w w' := by
  obtain ⟨A, c, e, hr, h1, h2, h3, hk⟩ := h
  exact ⟨⟨A, n, c⟩, e, ⟨hn, hr.lst, h1, h2, h3⟩, hk⟩
theorem putrow_ {w : World} {K : Nat → Prop} {s : Sv} {l : List Rw} (h : SlK w K eR s l) (hn : l.length ≤ 100000) (k v : ByteArray) :
    Calls Tryz.prog 201 #[.slice s.a s.n s.c, .agg #[.string k, .string v]] w fun e w' => ∃ t : Sv, e = .returned (.slice t.a t.n t.c) ∧ SlK w' (fun i => w.heap.size ≤ i) eR t (putR l (k, v)) ∧ Below w.heap.size w w' := by
  have hp := fun W (hb : Below w.heap.size w W) => put_row (c := s.c) ((h.below hb).lst.rws) h.len.symm (by rw [h.len]; exact hn) h.cap (k, v)
  have hb0 := alloc_below w (.cells #[.string k, .string v] 143)
  obtain ⟨A, n, c⟩ := s
  simp only at hp
  have HP := Lib.hid hp
  have HB0 := Lib.hid hb0
  clear hp hb0 h hn
  go_enter Tryz.func201, Tryz.ntmps201
  go_wp2_with (go_at_call 223; refine (HP.out _ (by first | exact HB0.out | exact Below.refl _ _)).mono ?_; rintro e w' ⟨u, rfl, hnr⟩; obtain ⟨t, rfl, hk, hb⟩ := hnr.k rfl)
  go_ret
  exact ⟨t, rfl, hk.more fun i _ hi => by have := HB0.out.size; omega, HB0.out.trans (hb.mono HB0.out.size)⟩
theorem cutrow2_ {w : World} {K : Nat → Prop} {s : Sv} {l : List Rw} (h : SlK w K eR s l) (hn : l.length ≤ 100000) (k : ByteArray) :
    Calls Tryz.prog 224 #[.slice s.a s.n s.c, .string k] w fun e w' => ∃ t : Sv, e = .returned (.tuple #[.slice t.a t.n t.c, .bool (foundR l k)]) ∧ SlK w' (fun i => w.heap.size ≤ i) eR t (cutRw l k) ∧ Below w.heap.size w w' := by
  have hp := cutrow_ (c := s.c) h.lst.rws h.len.symm (by rw [h.len]; exact hn) h.cap h.nil k
  obtain ⟨A, n, c⟩ := s
  simp only at hp
  generalize foundR l k = f at *
  have HP := Lib.hid hp
  clear hp h hn
  go_enter Tryz.func224, Tryz.ntmps224
  go_wp2_with (go_at_call 237; refine HP.out.mono ?_; rintro e w' ⟨u, rfl, hnr⟩; obtain ⟨t, rfl, hk, hb⟩ := hnr.k rfl)
  go_ret2
  exact ⟨t, rfl, hk, hb⟩
end Go.Proofs.YtjfoflbaoceemaaGreat
namespace Go.Proofs.YtjfoflbaoceemaaGreat
theorem can_none {l : List Mg} {id : Int} {on : Bool} (h : l.any (isM id) = false) : canM l id on = false ∧ claimM l id on = l := by
  have e : l.findIdx (isM id) = l.length := List.findIdx_eq_length.2 fun x hx => by simpa using List.any_eq_false.1 h x hx
  unfold canM claimM
  rw [e]
  refine ⟨by rw [List.getElem?_eq_none (Nat.le_refl _)], ?_⟩
  apply List.ext_getElem?
  intro i
  rw [List.getElem?_modify]
  by_cases hi : l.length = i
  · subst hi; simp
  · simp [hi]
theorem can_some {l : List Mg} {id : Int} {on : Bool} {q : Nat} (hq : l.findIdx (isM id) = q) (h : q < l.length) : canM l id on = !(l[q].claimed == on) ∧ claimM l id on = l.set q { l[q] with claimed := on } := by
  unfold canM claimM
  rw [hq]
  rw [List.getElem?_eq_getElem h]
  refine ⟨rfl, ?_⟩
  apply List.ext_getElem?
  intro i
  rw [List.getElem?_modify, List.getElem?_set]
  by_cases hi : q = i
  · subst hi; simp [h]
  · simp [hi]
end Go.Proofs.YtjfoflbaoceemaaGreat
namespace Go.Proofs.YtjfoflbaoceemaaGreat
open Go.RowKit
theorem pred_find (id : Int) (B : Nat) (w : World) (hB : B < w.heap.size) (hc : w.cell? ⟨B, 0, none⟩ = some (.int .i64 id)) (l : List Mg) : PredM 243 #[.pointer (some ⟨B, 0, none⟩)] (isM id) l w := fun W x _ hb => by
  have hc' : W.cell? ⟨B, 0, none⟩ = some (.int .i64 id) := (hb.cell (p := ⟨B, 0, none⟩) hB).trans hc
  have hBW : B < W.heap.size := Nat.lt_of_lt_of_le hB hb.size
  have hne : B ≠ W.heap.size := by omega
  obtain ⟨x0, x1, x2, x3, x4, x5⟩ := x
  have hnew := hb.alloc hb.size (.cells #[.int .i64 x0, .int .i64 x1, .int .i64 x2, .bool x3, .string x4, .string x5] 44)
  have HN := Lib.hid hnew
  clear hc hb hnew
  show Calls Tryz.prog 243 #[.agg #[.int .i64 x0, .int .i64 x1, .int .i64 x2, .bool x3, .string x4, .string x5], .pointer (some ⟨B, 0, none⟩)] W _
  go_enter Tryz.func243, Tryz.ntmps243
  go_wp2
  all_goals (go_ret; exact ⟨rfl, HN.out⟩)
theorem enters_find : ∀ args w, (callFunc 243 args).run Tryz.prog w = .ok (.enter 243 args) w := enters_of Tryz.func243 (by kernel_rfl) rfl
theorem find_m {w : World} {K : Nat → Prop} {A : Option Addr} {n c : Nat} {l : List Mg} (h : Lst w K eM A l) (hl : l.length = n) (hn : n ≤ 1000000) (id : Int) :
    Calls Tryz.prog 228 #[.slice A n c, .int .i64 id] w fun e w' => e = .returned (.int .i64 (idxI (isM id) l)) ∧ Below w.heap.size w w' := by
  have hi := index_m (c := c) (h.below (alloc_below w (.cells #[.int .i64 id] 3))) hl hn enters_find (pred_find id w.heap.size _ (by simp) (by simp) l)
  generalize idxI (isM id) l = z at *
  have HI := Lib.hid hi
  clear hi h hl
  go_enter Tryz.func228, Tryz.ntmps228
  go_wp2_with (go_at_call 233; refine HI.out.mono ?_; rintro e w' ⟨rfl, hb'⟩)
  go_ret
  exact ⟨rfl, (alloc_below w _).trans (hb'.mono (by simp))⟩
end Go.Proofs.YtjfoflbaoceemaaGreat
namespace Go.Proofs.YtjfoflbaoceemaaGreat
open Go.RowKit
set_option maxHeartbeats 1000000 in
theorem pred_add (m : Mg) (B : Nat) (w : World) (hB : Blk w B 44 m.cells) (l : List Mg) : PredM 241 #[.pointer (some ⟨B, 0, none⟩)] (behM m) l w := fun W x _ hb => by
  have hB' := hB.below hb hB.lt
  have hne : B ≠ W.heap.size := by have := hB'.lt; omega
  have hlt := hB'.lt
  obtain ⟨m0, m1, m2, m3, m4, m5⟩ := m
  obtain ⟨x0, x1, x2, x3, x4, x5⟩ := x
  have d0 := hB'.cell 0
  have d1 := hB'.cell 1
  have d2 := hB'.cell 2
  have d3 := hB'.cell 3
  have d4 := hB'.cell 4
  have d5 := hB'.cell 5
  simp only [Mg.cells, List.getElem?_toArray, List.getElem?_cons_zero, List.getElem?_cons_succ] at d0 d1 d2 d3 d4 d5
  have hnew := hb.alloc hb.size (.cells #[.int .i64 x0, .int .i64 x1, .int .i64 x2, .bool x3, .string x4, .string x5] 44)
  have hnew2 := (hnew.alloc hnew.size (.cells #[.int .i64 m0, .int .i64 m1, .int .i64 m2, .bool m3, .string m4, .string m5] 44))
  have hnew3 := hnew2.alloc hnew2.size (.cells #[.int .i64 x0, .int .i64 x1, .int .i64 x2, .bool x3, .string x4, .string x5] 44)
  have hcall := fun W => msgs_ ⟨m0, m1, m2, m3, m4, m5⟩ ⟨x0, x1, x2, x3, x4, x5⟩ W
  unfold behM
  generalize cmpG ⟨m0, m1, m2, m3, m4, m5⟩ ⟨x0, x1, x2, x3, x4, x5⟩ = z at *
  simp only [Mg.val, Mg.cells] at hcall ⊢
  have HN := Lib.hid hnew3
  have HC := Lib.hid hcall
  clear hB hb hnew hnew2 hnew3 hB' hcall
  show Calls Tryz.prog 241 #[.agg #[.int .i64 x0, .int .i64 x1, .int .i64 x2, .bool x3, .string x4, .string x5], .pointer (some ⟨B, 0, none⟩)] W _
  go_enter Tryz.func241, Tryz.ntmps241
  go_wp2_with (go_at_call 217; refine (HC.out _).mono ?_; rintro e w' ⟨rfl, rfl⟩)
  go_ret
  exact ⟨rfl, HN.out⟩
theorem enters_add : ∀ args w, (callFunc 241 args).run Tryz.prog w = .ok (.enter 241 args) w := enters_of Tryz.func241 (by kernel_rfl) rfl
end Go.Proofs.YtjfoflbaoceemaaGreat
namespace Go.Proofs.YtjfoflbaoceemaaGreat
open Go.RowKit
section
variable {α : Type} {E : Enc α} {T : TypeId}
def PartE (E : Enc α) (w : World) (p : Value × List α) : Prop := ∃ A c K, p.1 = .slice A p.2.length c ∧ Lst w K E A p.2
theorem PartE.below {w w' : World} {p : Value × List α} (h : PartE E w p) (k : Below w.heap.size w w') : PartE E w' p := by
  obtain ⟨A, c, K, e, hr⟩ := h
  exact ⟨A, c, K, e, hr.below k⟩
def flatE : List (Value × List α) → List α
  | [] => []
  | p :: r => p.2 ++ flatE r
theorem flatE_append (l m : List (Value × List α)) : flatE (l ++ m) = flatE l ++ flatE m := by
  induction l with
  | nil => rfl
  | cons x r ih => simp [flatE, ih]
theorem flatE_succ {l : List (Value × List α)} {j : Nat} (h : j < l.length) : flatE (l.take (j + 1)) = flatE (l.take j) ++ l[j].2 := by
  rw [List.take_succ_eq_append_getElem h, flatE_append]
  simp [flatE]
theorem flatE_le (l : List (Value × List α)) (j : Nat) : (flatE (l.take j)).length ≤ (flatE l).length := by
  conv => rhs; rw [← List.take_append_drop j l, flatE_append, List.length_append]
  omega
def SumE (ps : List (Value × List α)) (k : Nat) (sz i : Value) : Prop := ∃ j, j + k = ps.length ∧ sz = .int .i64 ((flatE (ps.take j)).length : Int) ∧ i = .int .i64 (j : Int)
def CatE (E : Enc α) (T : TypeId) (w : World) (ps : List (Value × List α)) (k : Nat) (v i : Value) (wr : World) : Prop :=
  ∃ j, j + k = ps.length ∧ i = .int .i64 (j : Int) ∧ Own wr w.heap.size E T v (flatE (ps.take j)) ∧ Below w.heap.size w wr
def ValE (w : World) (b o : Nat) (ps : List (Value × List α)) : Prop := b < w.heap.size ∧ ∀ j (h : j < ps.length), w.cell? ⟨b, o + j, none⟩ = some ps[j].1
theorem ValE.below {w w' : World} {b o : Nat} {ps : List (Value × List α)} (h : ValE w b o ps) (k : Below w.heap.size w w') : ValE w' b o ps :=
  ⟨Nat.lt_of_lt_of_le h.1 k.size, fun j hj => (cell_of_heap (k.block b h.1) _).trans (h.2 j hj)⟩
theorem blk_cellsE {w : World} {g : Nat} {t : TypeId} {cs : Array Value} (h : Blk w g t cs) {ps : List (Value × List α)} (hp : cs.toList = ps.map (·.1)) : ValE w g 0 ps :=
  ⟨h.lt, fun j hj => by
    rw [h.cell, Nat.zero_add, ← Array.getElem?_toList, hp, List.getElem?_map, List.getElem?_eq_getElem hj]; rfl⟩
theorem one_lst (E : Enc α) (w : World) (T : TypeId) (x : α) {cs : Array Value} (h : cs.toList = E.enc x) : Lst (w.alloc (.cells cs T)) (fun i => w.heap.size ≤ i) E (some ⟨w.heap.size, 0, none⟩) [x] := fun _ =>
  ⟨_, 0, rfl, Nat.le_refl _, by simp, fun j u hu => by
    rw [(Blk.new w T _).cell, Nat.zero_add, ← Array.getElem?_toList, h]
    simpa [cellsE] using hu⟩
end
end Go.Proofs.YtjfoflbaoceemaaGreat
