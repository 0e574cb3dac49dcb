/- What a disk's Crash does: of the writes that are not sure those that keep tells stay. -/
import Derived.Test.YteilbaabnhogbaaUndo
import Derived.Test.YteilbaabnhogbaaHi
import Derived.Deep.WholeRow
namespace Go.Proofs.Yteilbaabnhogbaa
open Go.RowKit
def CS (g gt n bn at_ : Nat) (X : List Value) (w' : World) : Prop :=
  w'.cell? ⟨g, 0, none⟩ = some (.slice (some ⟨gt, 0, none⟩) n n) ∧ w'.cell? ⟨bn, 0, none⟩ = some (.int .i64 (at_ : Int)) ∧ w'.rangeAt bn 1 X
theorem zero56 : ∃ Z : Array Value, Z.size = 65 ∧ ∀ W : World, (zeroValue 52).run Try.prog W = .ok (.agg Z) W := by
  obtain ⟨i0, hi, hz0, hz1, hz2⟩ := info_parts info56
  exact ⟨#[.int .i64 0] ++ Array.replicate 64 (.int .u8 0), by simp, fun W => by simp [zeroValue, typeInfo, hi, hz0]⟩
theorem cellU_length {x : Wr} (hx : x.2.length = 64) : (cellU x).length = 65 := by simp [cellU, cellsB_length, hx]
theorem cellU_one (x : Wr) : (cellU x).toArray.all (·.oneCell') = true := all_oneCell_toArray (fun v hv => by
  rcases List.mem_cons.1 hv with rfl | hv
  · rfl
  · exact cellsB_one _ v hv)
theorem crash_round {wr : World} {g : Nat} {O : Nat → Prop} {gt : Nat} {v : Value} {t : List Sec} {u : List Wr} {s : St} (h : DiskM wr g O gt v t u s) (ht : secs t) (htn : t.length = s.n) (hu : wrs s.n u) {k : Nat} {x : Wr} (hx : u[k]? = some x) {Z : Array Value} (hZ : Z.size = 65) :
    ∃ gu cap, v = .slice (some ⟨gu, 0, none⟩) u.length cap ∧ cap ≤ maxLen ∧ (Instr.loadAt 52 (.pointer (some ⟨gu, k * 65, none⟩))).run Try.prog wr = .ok (.agg (cellU x).toArray) wr ∧
      (Instr.storeAt 52 (.pointer (some ⟨wr.heap.size, 0, none⟩)) (.agg (cellU x).toArray)).run Try.prog (wr.alloc (.cells Z 52)) = .ok () (wr.alloc (.cells (cellU x).toArray 52)) ∧
      DiskM (wr.alloc (.cells (cellU x).toArray 52)) g O gt v t u s ∧ Keep (Out O) wr (wr.alloc (.cells (cellU x).toArray 52)) ∧
      CS g gt s.n wr.heap.size x.1 (cellsB x.2) (wr.alloc (.cells (cellU x).toArray 52)).drew ∧ (Try.prog.info? 50).map (·.size) = some (cellsB x.2).length ∧
      (Instr.storeAt 50 (.pointer (some ⟨gt, x.1 * 64, none⟩)) (.agg (cellsB x.2).toArray)).run Try.prog (wr.alloc (.cells (cellU x).toArray 52)).drew = .ok () ((wr.alloc (.cells (cellU x).toArray 52)).drew.setCells gt (x.1 * 64) (cellsB x.2)) ∧
      DiskM ((wr.alloc (.cells (cellU x).toArray 52)).drew.setCells gt (x.1 * 64) (cellsB x.2)) g O gt v (t.set x.1 x.2) u s ∧ Keep (Out O) wr ((wr.alloc (.cells (cellU x).toArray 52)).drew.setCells gt (x.1 * 64) (cellsB x.2)) := by
  have hk : k < u.length := (List.getElem?_eq_some_iff.1 hx).1
  obtain ⟨gu, cap, rest, hv, hb, h1, h2, h3⟩ := own_open h.uns (by omega)
  have hx1 := (hu x (List.mem_of_getElem? hx)).1
  have hx2 := (hu x (List.mem_of_getElem? hx)).2
  have hxt : x.1 < t.length := by omega
  have hux : (unsL u)[k]? = some (cellU x) := by simp [unsL, hx]
  have hrg := part_range hb (unsL_each hu) hux
  have hA : Keep (Out O) wr (wr.alloc (.cells (cellU x).toArray 52)) := (Keep.refl wr).alloc _
  have hD1 : DiskM (wr.alloc (.cells (cellU x).toArray 52)) g O gt v t u s := h.keep (K := fun _ _ => True) ((Keep.refl wr).alloc _) fun _ _ _ => trivial
  have hDd : DiskM (wr.alloc (.cells (cellU x).toArray 52)).drew g O gt v t u s := h.keep (K := fun _ _ => True) (((Keep.refl wr).alloc _).drew) fun _ _ _ => trivial
  have hnew := Blk.new wr 52 (cellU x).toArray
  have hr2 := hDd.room ht hxt
  have c1 : (cellsB x.2).toArray.size = 64 := by simp [cellsB_length, hx2]
  have hgu : v.ownBlock = some gu := by rw [hv]; rfl
  have hth := hDd.there
  rw [← List.append_nil (thereL t).flatten] at hth
  have hth2 := part_set hth (thereL_each ht) (i := x.1) (by simp [thereL]; exact hxt) (y := cellsB x.2) (by rw [cellsB_length, hx2])
  have e2 : (thereL t).set x.1 (cellsB x.2) = thereL (t.set x.1 x.2) := by simp [thereL]
  rw [List.append_nil, e2] at hth2
  refine ⟨gu, cap, hv, h2, run_loadAt_mid wr gu (k * 65) 52 (cellU x) _ hrg Try.underlying52 rfl (by rw [size56, cellU_length hx2]), ?_, hD1, hA, ⟨by have := hDd.head.cell 0; simpa using this, ?_, ?_⟩, by rw [size54, cellsB_length, hx2], ?_, ⟨?_, hth2, ?_, h.og, h.ot, h.ou, h.ok⟩, (hA.drew).setCells (fun _ _ hK => hK h.ot) _ _⟩
  · exact run_storeAt_new wr 52 Z (cellU x).toArray (by rw [size56, List.size_toArray, cellU_length hx2]) (by rw [hZ, List.size_toArray, cellU_length hx2]) (cellU_one x)
  · exact hnew.cell 0
  · intro j y hy
    have := hnew.cell (1 + j)
    rw [List.getElem?_toArray, cellU, Nat.add_comm 1 j, List.getElem?_cons_succ, hy] at this
    rw [Nat.add_comm 1 j]
    exact this
  · have := run_storeAt_mid (P := Try.prog) (wr.alloc (.cells (cellU x).toArray 52)).drew gt (x.1 * 64) 50 (cellsB x.2).toArray (by rw [c1]; exact hr2) (by rw [size54, c1]) (one_list _)
    simpa using this
  · exact hDd.head.fars h.head_ne_there _ _
  · refine ownsRow_keep (K := fun i _ => i ≠ gt) hDd.uns ((Keep.refl _).setCells (fun _ _ hK => hK rfl) _ _) fun i _ hi => own_ne hDd.uns hDd.there (by decide) i hi
def CrashRel (w : World) (g : Nat) (O : Nat → Prop) (gt : Nat) (v : Value) (s : St) (ks : List Bool) (k : Nat) (i : Value) (wr : World) : Prop :=
  k ≤ s.l.length ∧ i = .int .i64 ((s.l.length - k : Nat) : Int) ∧ DiskM wr g O gt v (settle (stays ks) 0 s.sure (s.l.take (s.l.length - k))) s.l s ∧ Keep (Out O) w wr
theorem crash_end {wr : World} {g : Nat} {O : Nat → Prop} {gt : Nat} {v : Value} {s : St} {k : Nat → Bool} {u : List Wr} (h : DiskM wr g O gt v (settle k 0 s.sure (s.l.take s.l.length)) u s) :
    DiskM (((wr.setCell ⟨g, 1, none⟩ (.slice none 0 0)).setCell ⟨g, 3, none⟩ (.bool false)).setCell ⟨g, 4, none⟩ (.int .i64 0)) g O gt (.slice none 0 0) (s.crash k).now (olds (s.crash k).sure (s.crash k).l) (s.crash k) ∧
    Keep (Out O) wr (((wr.setCell ⟨g, 1, none⟩ (.slice none 0 0)).setCell ⟨g, 3, none⟩ (.bool false)).setCell ⟨g, 4, none⟩ (.int .i64 0)) := by
  rw [List.take_length] at h
  have k1 : Keep (fun i _ => i ≠ g) wr (((wr.setCell ⟨g, 1, none⟩ (.slice none 0 0)).setCell ⟨g, 3, none⟩ (.bool false)).setCell ⟨g, 4, none⟩ (.int .i64 0)) :=
    (((Keep.refl wr).setCell (p := ⟨g, 1, none⟩) (fun _ _ hk => hk rfl) _).setCell (p := ⟨g, 3, none⟩) (fun _ _ hk => hk rfl) _).setCell (p := ⟨g, 4, none⟩) (fun _ _ hk => hk rfl) _
  refine ⟨h.set k1 ?_ (World.ownsRow_nil _ _ _ _) (fun _ hk => by cases hk) (h.ok.crash k), k1.mono fun i _ _ hi e => hi (e ▸ h.og)⟩
  rw [St.n_crash]
  exact ((h.head.set_ 1 (.slice none 0 0)).set_ 3 (.bool false)).set_ 4 (.int .i64 0)
set_option maxRecDepth 100000 in
set_option maxHeartbeats 1000000 in
theorem crash_ {w : World} {g : Nat} {O : Nat → Prop} {s : St} (h : DiskAt w g O s) (hl : s.l.length ≤ 1000000) (A : Option Addr) (n c : Nat) (ks : List Bool) (hks : Bools w (fun i => ¬ O i) A n ks) (hn : n ≤ 9223372036854775807) :
    Calls Try.prog 12 #[ptr g, .slice A n c] w fun e w' => e = .returned (.tuple #[]) ∧ DiskAt w' g O (s.crash (stays ks)) ∧ Keep (Out O) w w' := by
  obtain ⟨gt, v, h⟩ := h
  obtain ⟨A1, c1, rfl⟩ := h.slice
  rw [olds_length] at h
  have HM := Lib.hid h
  have HKS := Lib.hid hks
  obtain ⟨Z, hZ, hzero⟩ := zero56
  have HZ := Lib.hid hZ
  have hok := h.ok
  have HOK := Lib.hid hok
  have hn4 : s.n ≤ 4096 := h.ok.many
  clear h hks hZ hok
  go_enter Try.func12, Try.ntmps12
  go_wp2_with fail
  refine (undo_ HM.out hl).mono ?_
  rintro e w1 ⟨rfl, hd1, hk1⟩
  have d1 := hd1.head.cell 1
  simp at d1
  have HD1 := Lib.hid hd1
  have HK1 := Lib.hid hk1
  clear hd1 hk1 HM
  go_wp2
  go_loopg [15] s.l.length (fun k i wr => CrashRel w g O gt (.slice A1 s.l.length c1) s ks k i wr)
  case atStart =>
    refine ⟨Nat.le_refl _, ?_, ?_, HK1.out⟩
    · simp
    · rw [Nat.sub_self, List.take_zero]; exact HD1.out
  case round =>
    obtain ⟨hk, rfl, hd, hK⟩ := hrel
    have HK := Lib.hid hK
    have HD := Lib.hid hd
    have hd1 := hd.head.cell 1
    have hd3 := hd.head.cell 3
    have hd4 := hd.head.cell 4
    have hf1 := hd.head.frozen 1
    have hf3 := hd.head.frozen 3
    have hf4 := hd.head.frozen 4
    simp at hd1 hd3 hd4
    clear hK
    rcases gk with _ | gk
    · clear hd
      have e0 : s.l.length - 0 = s.l.length := by omega
      rw [e0]
      have HE := Lib.hid (crash_end HD.out)
      clear e0
      go_wp2
      go_end0
      exact ⟨rfl, ⟨gt, _, HE.out.1⟩, HK.out.trans HE.out.2⟩
    · obtain ⟨j, hj⟩ : ∃ j, j = s.l.length - (gk + 1) := ⟨_, rfl⟩
      rw [← hj] at hd ⊢
      have hjl : j < s.l.length := by omega
      have hgk : gk ≤ s.l.length := by omega
      have hjg : s.l.length - gk = j + 1 := by omega
      have HJG := Lib.hid hjg
      have HJ := Lib.hid hj
      obtain ⟨x, hx⟩ := at_of_lt s.l j hjl
      have hxn : x.1 < s.n := (HOK.out.l x (List.mem_of_getElem? hx)).1
      have hts := settle_snoc (stays ks) (s.l.take j) 0 s.sure x
      rw [← take_snoc' s.l j x hx, Nat.zero_add, List.length_take, Nat.min_eq_left (by omega)] at hts
      obtain ⟨gu, cap, hv, hcap, hld, hst, hD1, hK1, hcs, hx54, hst2, hD2, hK2⟩ := crash_round hd (secs_settle _ HOK.out.sure (wrs_take HOK.out.l _)) (by rw [settle_length]; rfl) HOK.out.l hx HZ.out
      injection hv with hv1 _ hv3
      subst hv1 hv3
      unfold maxLen at hcap
      have hks := (HKS.out.keep (HK.out.trans hK1))
      generalize hW1 : wr.alloc (.cells (cellU x).toArray 52) = W1 at *
      generalize hUe : (cellU x).toArray = U at *
      generalize hXe : cellsB x.2 = X at *
      have HS := Lib.hid hcs
      have HX54 := Lib.hid hx54
      have HST := Lib.hid hst2
      have HD1' := Lib.hid hD1
      have HK1' := Lib.hid hK1
      have HD2' := Lib.hid hD2
      have HK2' := Lib.hid hK2
      have HTS := Lib.hid hts
      have HLD := Lib.hid hld
      have HST0 := Lib.hid hst
      have HBK := Lib.hid hks
      clear hd hcs hx54 hst2 hD1 hK1 hD2 hK2 hts hld hst hW1 hUe hXe hjg hj hx hks HD hk hd1 hd3 hd4 hf1 hf3 hf4
      by_cases hjn : j < n
      · obtain ⟨kb, ko, rfl, _, hkb, hkc⟩ := HBK.out.2 (by omega)
        obtain ⟨y, hy⟩ := at_of_lt ks j (by have := HBK.out.1; omega)
        have hcell := hkc j y hy
        have hst0 : stays ks j = y := by
          unfold stays
          rw [List.getD_eq_getElem?_getD, hy]; rfl
        have HF := Lib.hid hst0
        clear hst0 hy hkc hkb
        cases y
        · go_wp2_with (first | (refine wpList_value (o := ⟨some 19, _, _, _, _, _⟩) rfl (exec_value rfl HLD.out) ?_) | (refine wpList_skip (o := ⟨none, .store 52 _ _, _, _, _, _⟩) rfl (exec_store rfl HST0.out) ?_))
          go_roundg gk
          case measure => omega
          case rel => exact ⟨by omega, by rw [HJG.out]; go_num, by rw [HJG.out, HTS.out, HF.out]; exact HD1'.out, HK.out.trans HK1'.out⟩
        · go_wp2_with (first | (refine wpList_value (o := ⟨some 19, _, _, _, _, _⟩) rfl (exec_value rfl HLD.out) ?_) | (refine wpList_skip (o := ⟨none, .store 52 _ _, _, _, _, _⟩) rfl (exec_store rfl HST0.out) ?_))
          refine wp_region_noPanic ?_
          refine wp_region_K (k := 9) (S := CS g gt s.n wr.heap.size x.1 X) (by kernel_rfl) ?_
          refine wpAnyK_takeW (i := 0) (oi := { dst := some 30, op := Op.move (Operand.tmp 0), type := 25, pos := "sectors.go:84", after := #[], guard := none }) (v := ptr g) rfl (by kernel_rfl) (by kernel_rfl) (by kernel_rfl) (fun _ _ _ h => h) (by decide) HS.out (by rfl) ?_ ?_
          · intro W; go_simp
          try simp only [Act.put, List.setIfInBounds_toArray, List.set_cons_zero, List.set_cons_succ]
          refine wpAnyK_takeW (i := 1) (oi := { dst := some 31, op := Op.nilCheck (Operand.tmp 30), type := 0, pos := "sectors.go:84", after := #[{ on := 0, ground := Ground.data }], guard := none }) (v := ptr g) rfl (by kernel_rfl) (by kernel_rfl) (by kernel_rfl) (fun _ _ _ h => h) (by decide) HS.out (by rfl) ?_ ?_
          · intro W; go_simp
          try simp only [Act.put, List.setIfInBounds_toArray, List.set_cons_zero, List.set_cons_succ]
          refine wpAnyK_takeW (i := 2) (oi := { dst := some 32, op := Op.fieldAddr 42 (Operand.tmp 31) 0, type := 0, pos := "sectors.go:84", after := #[{ on := 1, ground := Ground.data }], guard := none }) (v := .pointer (some ⟨g, 0, none⟩)) rfl (by kernel_rfl) (by kernel_rfl) (by kernel_rfl) (fun _ _ _ h => h) (by decide) HS.out (by rfl) ?_ ?_
          · intro W; go_simp
          try simp only [Act.put, List.setIfInBounds_toArray, List.set_cons_zero, List.set_cons_succ]
          refine wpAnyK_take (i := 3) (oi := { dst := some 33, op := Op.load 39 (Operand.tmp 32), type := 39, pos := "sectors.go:84", after := #[{ on := 2, ground := Ground.data }], guard := none }) (v := .slice (some ⟨gt, 0, none⟩) s.n s.n) rfl (by kernel_rfl) (by kernel_rfl) (by kernel_rfl) (by kernel_rfl) (by kernel_rfl) (fun _ _ _ h => h) (by decide) HS.out (by rfl) ?_ ?_
          · intro W hSw; obtain ⟨q0, q1, q2⟩ := hSw; go_simp
          try simp only [Act.put, List.setIfInBounds_toArray, List.set_cons_zero, List.set_cons_succ]
          refine wpAnyK_takeW (i := 4) (oi := { dst := some 34, op := Op.fieldAddr 52 (Operand.tmp 5) 0, type := 0, pos := "sectors.go:84", after := #[], guard := none }) (v := .pointer (some ⟨wr.heap.size, 0, none⟩)) rfl (by kernel_rfl) (by kernel_rfl) (by kernel_rfl) (fun _ _ _ h => h) (by decide) HS.out (by rfl) ?_ ?_
          · intro W; go_simp
          try simp only [Act.put, List.setIfInBounds_toArray, List.set_cons_zero, List.set_cons_succ]
          refine wpAnyK_take (i := 5) (oi := { dst := some 35, op := Op.load 3 (Operand.tmp 34), type := 3, pos := "sectors.go:84", after := #[{ on := 4, ground := Ground.data }], guard := none }) (v := .int .i64 (x.1 : Int)) rfl (by kernel_rfl) (by kernel_rfl) (by kernel_rfl) (by kernel_rfl) (by kernel_rfl) (fun _ _ _ h => h) (by decide) HS.out (by rfl) ?_ ?_
          · intro W hSw; obtain ⟨q0, q1, q2⟩ := hSw; go_simp
          try simp only [Act.put, List.setIfInBounds_toArray, List.set_cons_zero, List.set_cons_succ]
          refine wpAnyK_takeW (i := 6) (oi := { dst := some 36, op := Op.fieldAddr 52 (Operand.tmp 5) 1, type := 0, pos := "sectors.go:84", after := #[], guard := none }) (v := .pointer (some ⟨wr.heap.size, 1, none⟩)) rfl (by kernel_rfl) (by kernel_rfl) (by kernel_rfl) (fun _ _ _ h => h) (by decide) HS.out (by rfl) ?_ ?_
          · intro W; go_simp
          try simp only [Act.put, List.setIfInBounds_toArray, List.set_cons_zero, List.set_cons_succ]
          refine wpAnyK_take (i := 7) (oi := { dst := some 37, op := Op.load 50 (Operand.tmp 36), type := 50, pos := "sectors.go:84", after := #[{ on := 6, ground := Ground.data }], guard := none }) (v := .agg X.toArray) rfl (by kernel_rfl) (by kernel_rfl) (by kernel_rfl) (by kernel_rfl) (by kernel_rfl) (fun _ _ _ h => h) (by decide) HS.out (by rfl) ?_ ?_
          · intro W hSw; exact exec_value rfl (run_loadAt_mid W wr.heap.size 1 50 X _ hSw.2.2 Try.underlying50 rfl HX54.out)
          try simp only [Act.put, List.setIfInBounds_toArray, List.set_cons_zero, List.set_cons_succ]
          refine wpAnyK_one (i := 8) (o := { dst := some 38, op := Op.indexAddr 39 (Operand.tmp 33) (Operand.tmp 35), type := 0, pos := "sectors.go:84", after := #[{ on := 3, ground := Ground.data }, { on := 5, ground := Ground.data }, { on := 0, ground := Ground.phase }, { on := 1, ground := Ground.phase }, { on := 2, ground := Ground.phase }, { on := 3, ground := Ground.phase }, { on := 4, ground := Ground.phase }, { on := 5, ground := Ground.phase }, { on := 6, ground := Ground.phase }, { on := 7, ground := Ground.phase }], guard := none }) (v := .pointer (some ⟨gt, x.1 * 64, none⟩)) (w' := W1.drew) (by kernel_rfl) rfl (by rfl) (by go_simp) (HS.out) ?_
          try simp only [Act.put, List.setIfInBounds_toArray, List.set_cons_zero, List.set_cons_succ]
          refine wpAnyK_store (i := 9) (o := { dst := none, op := Op.store 50 (Operand.tmp 38) (Operand.tmp 37), type := 0, pos := "sectors.go:84", after := #[{ on := 8, ground := Ground.data }, { on := 7, ground := Ground.data }, { on := 0, ground := Ground.phase }, { on := 1, ground := Ground.phase }, { on := 2, ground := Ground.phase }, { on := 3, ground := Ground.phase }, { on := 4, ground := Ground.phase }, { on := 5, ground := Ground.phase }, { on := 6, ground := Ground.phase }, { on := 7, ground := Ground.phase }], guard := none }) (w' := W1.drew.setCells gt (x.1 * 64) X) (by kernel_rfl) rfl (by rfl) (exec_store rfl HST.out) (by kernel_rfl) ?_
          try simp only [Act.put]
          refine wpAnyK_done (by kernel_rfl) ?_ _
          refine NoPanic.normal ?_
          go_wp2
          go_roundg gk
          case measure => omega
          case rel => exact ⟨by omega, by rw [HJG.out]; go_num, by rw [HJG.out, HTS.out, HF.out]; exact HD2'.out, HK.out.trans HK2'.out⟩
      · have hst0 : stays ks j = false := by
          unfold stays
          rw [List.getD_eq_getElem?_getD, List.getElem?_eq_none (by have := HBK.out.1; omega)]; rfl
        have HF := Lib.hid hst0
        clear hst0
        go_wp2_with (first | (refine wpList_value (o := ⟨some 19, _, _, _, _, _⟩) rfl (exec_value rfl HLD.out) ?_) | (refine wpList_skip (o := ⟨none, .store 52 _ _, _, _, _, _⟩) rfl (exec_store rfl HST0.out) ?_))
        go_roundg gk
        case measure => omega
        case rel => exact ⟨by omega, by rw [HJG.out]; go_num, by rw [HJG.out, HTS.out, HF.out]; exact HD1'.out, HK.out.trans HK1'.out⟩
end Go.Proofs.Yteilbaabnhogbaa
