/- The law's Few: a state of at most 200 of everything. Package state: Claims. -/
import Derived.Test.YtdjmjckmbclhiaaJ05
import Derived.Test.YtdjmjckmbclhiaaJ26
import Derived.Test.YtdjmjckmbclhiaaJ08
import Derived.Test.YtdjmjckmbclhiaaJ07
import Derived.Deep.LoopGhost
set_option maxRecDepth 4000
namespace Go.Proofs.Ytdjmjckmbclhiaa
open Go.RowKit
def wtO (o : Ob) : Nat := 1 + o.rows.length + o.msgs.length + o.dead.length
/-- how much there is of the first j objects -/
def sumO (l : List Ob) (j : Nat) : Nat := ((l.take j).map wtO).sum
theorem sumO_succ {l : List Ob} {j : Nat} (h : j < l.length) : sumO l (j + 1) = sumO l j + wtO l[j] := by
  unfold sumO
  rw [List.take_succ_eq_append_getElem h, List.map_append, List.sum_append]
  simp
theorem sumO_le {l : List Ob} : ∀ (j i : Nat) (h : i < l.length), i < j → wtO l[i] ≤ sumO l j
  | 0, i, h, hj => by omega
  | j + 1, i, h, hj => by
    rcases Nat.lt_or_ge j l.length with h1 | h1
    · rw [sumO_succ h1]
      rcases Nat.lt_or_ge i j with h2 | h2
      · have := sumO_le j i h h2; omega
      · obtain rfl : i = j := by omega
        omega
    · have e : sumO l (j + 1) = sumO l j := by unfold sumO; rw [List.take_of_length_le (by omega), List.take_of_length_le h1]
      rw [e]
      exact sumO_le j i h (by omega)
theorem sumO_len {l : List Ob} : ∀ (j : Nat), j ≤ l.length → j ≤ sumO l j
  | 0, _ => Nat.zero_le _
  | j + 1, h => by
    have h1 := sumO_len j (Nat.le_of_succ_le h)
    rw [sumO_succ h]
    unfold wtO
    omega
/-- few enough -/
structure FewS (l : List Ob) : Prop where
  len : l.length ≤ 200
  short : ∀ o ∈ l, o.short 200
theorem few_of {l : List Ob} (h : sumO l l.length ≤ 200) : FewS l := by
  refine ⟨Nat.le_trans (sumO_len _ (Nat.le_refl _)) h, fun o ho => ?_⟩
  obtain ⟨i, hi, rfl⟩ := List.getElem_of_mem ho
  have := sumO_le l.length i hi hi
  unfold wtO at this
  exact ⟨by omega, by omega, by omega⟩
def FewP (l : List Ob) (e : Ending) : Prop := ∃ b, e = .returned (.bool b) ∧ (b = true → FewS l)
def FewR (w : World) (l : List Ob) (c0 : Array Value) (k : Nat) (v i : Value) (wr : World) : Prop :=
  ∃ j, j + k = l.length ∧ i = .int .i64 (j : Int) ∧ v = .int .i64 ((sumO l j : Nat) : Int) ∧ sumO l j ≤ 500000000000000 ∧ Below w.heap.size w wr ∧ Blk wr w.heap.size 24 c0
set_option maxHeartbeats 4000000 in
theorem few_ {w : World} {K : Nat → Prop} {s : Sv} {xs : List Oc} (h : ObsAt w K s xs) (hr : ∀ o ∈ obsOf xs, o.short 140737488351232) (next : Int) :
    Calls Try.prog 7 #[.agg #[.int .i64 next, .slice s.a s.n s.c]] w fun e w' => FewP (obsOf xs) e ∧ Below w.heap.size w w' := by
  obtain ⟨A, n, c⟩ := s
  have hln : n = xs.length := h.row.len
  have hol : (obsOf xs).length = n := by rw [hln]; simp [obsOf]
  have hfew : sumO (obsOf xs) n ≤ 200 → FewS (obsOf xs) := fun k => few_of (by rw [hol]; exact k)
  have HB0 := ShutM5.mk (alloc_below w (.cells #[.int .i64 next, .slice A n c] 24))
  have HX0 := ShutM5.mk (Blk.new w 24 #[.int .i64 next, .slice A n c])
  have HH := ShutM5.mk h
  have HLN := ShutM5.mk hln
  have HOL := ShutM5.mk hol
  have HF := ShutM5.mk hfew
  have HR := ShutM5.mk hr
  clear h hln hol hfew hr
  go_enter Try.func7, Try.ntmps7
  go_wp2_with fail
  go_loopg [3, 4] n (fun k v i wr => FewR w (obsOf xs) #[.int .i64 next, .slice A n c] k v i wr)
  case atStart => exact ⟨0, by have := HOL.out; omega, rfl, by simp [sumO], by simp [sumO], HB0.out, HX0.out⟩
  case round =>
    obtain ⟨j, hj, rfl, rfl, hs4, hb, hblk⟩ := hrel
    have HJ := ShutM5.mk hj
    have HB := ShutM5.mk hb
    have HX := ShutM5.mk hblk
    have d1 := hblk.cell 1
    simp only [List.getElem?_toArray, List.getElem?_cons_zero, List.getElem?_cons_succ] at d1
    clear hj hb hblk
    by_cases hlt : j < n
    · have hjn : (j : Int) < (n : Int) := by omega
      by_cases hle : sumO (obsOf xs) j ≤ 200
      · have hle2 : ((sumO (obsOf xs) j : Nat) : Int) ≤ 200 := by omega
        have hjx : j < xs.length := by rw [← HLN.out]; exact hlt
        have hjo : j < (obsOf xs).length := by rw [HOL.out]; exact hlt
        obtain ⟨b, o, rfl, hb, c0, c1, c2, c3, c4, c5⟩ := (HH.out.row.lst.below HB.out).atO hjx
        have hst := sumO_succ hjo
        have hat := HH.out.all _ (List.getElem_mem hjx)
        rw [show (obsOf xs)[j] = xs[j].o from List.getElem_map _] at hst
        unfold wtO at hst
        rw [← hat.rows.len, ← hat.msgs.len, ← hat.dead.len] at hst
        obtain ⟨m1, m2, m3⟩ := HR.out xs[j].o (List.mem_map_of_mem (List.getElem_mem hjx))
        rw [← hat.rows.len] at m1
        rw [← hat.msgs.len] at m2
        rw [← hat.dead.len] at m3
        have hs5 : sumO (obsOf xs) (j + 1) ≤ 500000000000000 := by omega
        have HS5 := ShutM5.mk hs5
        have HST := ShutM5.mk hst
        have hj2 := sumO_len (l := obsOf xs) j (Nat.le_of_lt hjo)
        generalize xs[j].r = sr at *
        generalize xs[j].m = sm at *
        generalize xs[j].d = sd at *
        obtain ⟨ra, rn, rc⟩ := sr
        obtain ⟨ma, mn, mc⟩ := sm
        obtain ⟨da, dn, dc⟩ := sd
        simp only at c3 c4 c5 m1 m2 m3
        generalize sumO (obsOf xs) j = u0 at *
        clear hat hst hb c0 c1 c2 hs5
        have w1 : IntKind.i64.wrap ((u0 : Int) + 1) = (u0 : Int) + 1 := by rw [IntKind.wrap_i64]; omega
        have w2 : IntKind.i64.wrap ((u0 : Int) + 1 + (rn : Int)) = (u0 : Int) + 1 + (rn : Int) := by rw [IntKind.wrap_i64]; omega
        have w3 : IntKind.i64.wrap ((u0 : Int) + 1 + (rn : Int) + (mn : Int)) = (u0 : Int) + 1 + (rn : Int) + (mn : Int) := by rw [IntKind.wrap_i64]; omega
        have w4 : IntKind.i64.wrap ((u0 : Int) + 1 + (rn : Int) + (mn : Int) + (dn : Int)) = (u0 : Int) + 1 + (rn : Int) + (mn : Int) + (dn : Int) := by rw [IntKind.wrap_i64]; omega
        have w5 : IntKind.i64.wrap ((j : Int) + 1) = (j : Int) + 1 := by rw [IntKind.wrap_i64]; omega
        go_wp2_with fail
        go_region
        go_wp2_with fail
        go_roundg (n - (j + 1))
        case measure => have := HJ.out; have := HOL.out; omega
        case rel => exact ⟨j + 1, by have := HJ.out; have := HOL.out; omega, congrArg (Value.int .i64) (by omega), congrArg (Value.int .i64) (by have := HST.out; omega), HS5.out, HB.out.drew, HX.out.drew⟩
      · have hle2 : ¬ ((sumO (obsOf xs) j : Nat) : Int) ≤ 200 := by omega
        clear hs4
        generalize sumO (obsOf xs) j = u0 at *
        go_wp2_with fail
        go_ret
        exact ⟨⟨false, rfl, fun h => (by cases h)⟩, HB.out⟩
    · have hjn : ¬ (j : Int) < (n : Int) := by omega
      have hje : j = n := by have := HJ.out; have := HOL.out; omega
      subst hje
      have HF2 := HF
      clear hs4
      generalize sumO (obsOf xs) j = u0 at *
      by_cases hle : u0 ≤ 200
      · have hle2 : (u0 : Int) ≤ 200 := by omega
        have HG := ShutM5.mk (HF2.out hle)
        clear HF2 HF hle
        go_wp2_with fail
        go_ret
        exact ⟨⟨true, rfl, fun _ => HG.out⟩, HB.out⟩
      · have hle2 : ¬ (u0 : Int) ≤ 200 := by omega
        clear HF2 HF hle
        go_wp2_with fail
        go_ret
        exact ⟨⟨false, rfl, fun h => (by cases h)⟩, HB.out⟩
end Go.Proofs.Ytdjmjckmbclhiaa
namespace Go.Proofs.Ytdjmjckmbclhiaa
open Go.RowKit
structure ShutCl (p : Prop) : Prop where out : p
/-- a change more behind a row of one's own; an object of one's own stays as it is -/
theorem append_keep {W : World} {base g : Nat} {v : Value} {ys : List Ef} {cs : Array Value} (ho : OwnE W base v ys) (hb : base ≤ W.heap.size) (hl : ys.length ≤ 100000) (hg : Blk W g 36 cs) (e : Ef) :
    ∃ A n c W', (Builtin.append_ #[30, 30] 30 #[v, .slice (some ⟨W.heap.size, 0, none⟩) 1 1]).run Try.prog (W.alloc (.cells e.cells 45)) = .ok (.slice A n c) W' ∧ OwnE W' base (.slice A n c) (ys ++ [e]) ∧ Below base W W' ∧ Blk W' g 36 cs := by
  have ha := alloc_below W (.cells e.cells 45)
  have hone := one_lst eEf W 45 e (cs := e.cells) rfl
  have ho2 : OwnE (W.alloc (.cells e.cells 45)) base v ys := own_belowE ho ha
  have hg2 := hg.alloc (.cells e.cells 45)
  have hbl : Below base W (W.alloc (.cells e.cells 45)) := ha.mono hb
  generalize W.alloc (.cells e.cells 45) = W2 at *
  obtain ⟨v', W', hap, ho', hgr, _⟩ := append_own tyEf ho2 hone rfl 1 (by show ys.length + 1 ≤ _; omega) (Nat.le_trans hb hbl.size)
  obtain ⟨A, c, rfl, _⟩ := own_lst ho'
  refine ⟨A, _, c, W', hap, ho', hbl.grown hgr (Nat.le_trans hb hbl.size) fun g hg => (own_blk ho2 hg).1, ?_⟩
  refine (hgr.block g hg2.lt fun h => ?_).trans hg2
  obtain ⟨_, _, cur, hcur⟩ := own_blk ho2 h.symm
  exact ne_of_types hg2 hcur (by decide) rfl
theorem claims_succ {l : List Ob} {j : Nat} (h : j < l.length) : claimsS (l.take (j + 1)) = claimsS (l.take j) ++ claimsO l[j] := by
  unfold claimsS
  rw [List.take_succ_eq_append_getElem h, List.flatMap_append]
  simp
theorem claimsO_len (o : Ob) : (claimsO o).length ≤ o.msgs.length := by
  unfold claimsO
  rw [List.length_map]
  exact List.length_filter_le _ _
theorem claims_len {l : List Ob} {n : Nat} (h : ∀ o ∈ l, o.short n) : ∀ (j : Nat), j ≤ l.length → (claimsS (l.take j)).length ≤ j * n
  | 0, _ => by simp [claimsS]
  | j + 1, hj => by
    have h1 := claims_len h j (Nat.le_of_succ_le hj)
    have h2 := claimsO_len l[j]
    have h3 := (h _ (List.getElem_mem hj)).2.1
    rw [claims_succ hj, List.length_append, Nat.add_mul]
    omega
def freesTo (n : ByteArray) (ms : List Mg) (q : Nat) : List Ef := ((ms.take q).filter (·.claimed)).map (freeE n)
theorem frees_succ {n : ByteArray} {ms : List Mg} {q : Nat} (h : q < ms.length) : freesTo n ms (q + 1) = if ms[q].claimed = true then freesTo n ms q ++ [freeE n ms[q]] else freesTo n ms q := by
  unfold freesTo
  rw [List.take_succ_eq_append_getElem h, List.filter_append]
  cases hc : ms[q].claimed
  · rw [if_neg (by simp)]; simp [hc]
  · rw [if_pos rfl]; simp [hc]
theorem frees_len (n : ByteArray) (ms : List Mg) (q : Nat) : (freesTo n ms q).length ≤ ms.length := by
  unfold freesTo
  rw [List.length_map]
  refine Nat.le_trans (List.length_filter_le _ _) ?_
  rw [List.length_take]
  omega
def ClaR (w : World) (l : List Ob) (k : Nat) (v i : Value) (wr : World) : Prop :=
  ∃ j, j + k = l.length ∧ i = .int .i64 (j : Int) ∧ OwnE wr w.heap.size v (claimsS (l.take j)) ∧ Below w.heap.size w wr
def ClaI (w : World) (pre : List Ef) (n : ByteArray) (ms : List Mg) (g : Nat) (cs : Array Value) (k : Nat) (v i : Value) (wr : World) : Prop :=
  ∃ q, q + k = ms.length ∧ i = .int .i64 (q : Int) ∧ OwnE wr w.heap.size v (pre ++ freesTo n ms q) ∧ Below w.heap.size w wr ∧ Blk wr g 36 cs
set_option maxHeartbeats 8000000 in
theorem claims_ {w : World} {K : Nat → Prop} {s : Sv} {xs : List Oc} (h : ObsAt w K s xs) (hx : xs.length ≤ 20) (hs : ∀ x ∈ xs, x.o.short 450) (next : Int) :
    Calls Try.prog 10 #[.agg #[.int .i64 next, .slice s.a s.n s.c]] w fun e w' => ∃ v, e = .returned v ∧ OwnE w' w.heap.size v (claimsS (obsOf xs)) ∧ Below w.heap.size w w' := by
  obtain ⟨A, n, c⟩ := s
  have hln : n = xs.length := h.row.len
  have hol : (obsOf xs).length = n := by rw [hln]; simp [obsOf]
  have HB0 := ShutCl.mk (alloc_below w (.cells #[.int .i64 next, .slice A n c] 24))
  have HH := ShutCl.mk h
  have hshort : ∀ o ∈ obsOf xs, o.short 450 := fun o ho => by
    obtain ⟨x, hx, rfl⟩ := List.mem_map.1 ho
    exact hs x hx
  have HSH := ShutCl.mk hshort
  have HLN := ShutCl.mk hln
  have HOL := ShutCl.mk hol
  have hn20 : n ≤ 20 := by omega
  clear h hs hshort hln hol hx
  go_enter Try.func10, Try.ntmps10
  go_wp2_with fail
  go_loopg [3, 11] n (fun k v i wr => ClaR w (obsOf xs) k v i wr)
  case atStart => exact ⟨0, by have := HOL.out; omega, rfl, by simpa [claimsS] using own_nil _ _, HB0.out⟩
  case round =>
    obtain ⟨j, hj, rfl, ho, hb⟩ := hrel
    have HJ := ShutCl.mk hj
    have HO := ShutCl.mk ho
    have HB := ShutCl.mk hb
    clear hj ho hb
    by_cases hlt : j < n
    · have hjx : j < xs.length := by rw [← HLN.out]; exact hlt
      have hjo : j < (obsOf xs).length := by rw [HOL.out]; exact hlt
      have hjn : (j : Int) < (n : Int) := by omega
      have hw1 : IntKind.i64.wrap ((j : Int) + 1) = (j : Int) + 1 := by rw [IntKind.wrap_i64]; omega
      obtain ⟨b, o, rfl, hbs, c0, c1, c2, c3, c4, c5⟩ := (HH.out.row.lst.below HB.out).atO hjx
      have hmm := (HH.out.all _ (List.getElem_mem hjx)).below HB.out
      have hst := claims_succ hjo
      rw [show (obsOf xs)[j] = xs[j].o from List.getElem_map _] at hst
      have hpre := claims_len HSH.out j (Nat.le_of_lt hjo)
      have hms := (HSH.out _ (List.mem_map_of_mem (List.getElem_mem hjx))).2.1
      have hml := hmm.msgs.len
      have hmi := fun W (k : Below w.heap.size w W) => ((HH.out.all _ (List.getElem_mem hjx)).below k).msgs.lst
      have hco : claimsO xs[j].o = freesTo xs[j].o.name xs[j].o.msgs xs[j].o.msgs.length := by unfold claimsO freesTo; rw [List.take_length]
      rw [hco] at hst
      have hpre2 : (claimsS ((obsOf xs).take j)).length ≤ 20000 := by
        have : j * 450 ≤ 20 * 450 := Nat.mul_le_mul (by omega) (Nat.le_refl _)
        omega
      generalize claimsS ((obsOf xs).take j) = pre at *
      generalize hsuc : claimsS ((obsOf xs).take (j + 1)) = suc at *
      have HSUC := ShutCl.mk hsuc
      clear hsuc
      have HST := ShutCl.mk hst
      have HMI := ShutCl.mk hmi
      have HMS := ShutCl.mk hms
      have HPR := ShutCl.mk hpre2
      clear hst hmi hmm hpre hpre2 hco hms
      generalize xs[j].o.msgs = ms at *
      generalize xs[j].o.name = nm at *
      generalize xs[j].o.kind = kd at *
      generalize xs[j].o.limit = lm at *
      generalize xs[j].r = sr at *
      generalize xs[j].m = sm at *
      generalize xs[j].d = sd at *
      obtain ⟨ra, rn, rc⟩ := sr
      obtain ⟨ma, mn, mc⟩ := sm
      obtain ⟨da, dn, dc⟩ := sd
      simp only at c3 c4 c5 hml
      have HML := ShutCl.mk hml
      clear hml
      have HX := ShutCl.mk (Blk.new wr 36 #[.string nm, .int .i64 kd, .int .i64 lm, .slice ra rn rc, .slice ma mn mc, .slice da dn dc])
      have hal := alloc_below wr (.cells #[.string nm, .int .i64 kd, .int .i64 lm, .slice ra rn rc, .slice ma mn mc, .slice da dn dc] 36)
      have HO2 := ShutCl.mk (own_belowE HO.out hal)
      have HB2 := ShutCl.mk (HB.out.trans (hal.mono HB.out.size))
      clear hal
      go_wp2_with fail
      go_loopg [3, 18] mn (fun k v i wq => ClaI w pre nm ms wr.heap.size #[.string nm, .int .i64 kd, .int .i64 lm, .slice ra rn rc, .slice ma mn mc, .slice da dn dc] k v i wq)
      case atStart => exact ⟨0, by have := HML.out; omega, rfl, by simpa [freesTo] using HO2.out, HB2.out, HX.out⟩
      case round =>
        obtain ⟨q, hq, rfl, ho, hb, hblk⟩ := hrel
        have HQ := ShutCl.mk hq
        have HOq := ShutCl.mk ho
        have HBq := ShutCl.mk hb
        have HXq := ShutCl.mk hblk
        clear hq ho hb hblk
        by_cases hlq : q < mn
        · have hqm : q < ms.length := by rw [← HML.out]; exact hlq
          have hqn : (q : Int) < (mn : Int) := by omega
          have hw2 : IntKind.i64.wrap ((q : Int) + 1) = (q : Int) + 1 := by rw [IntKind.wrap_i64]; have := HMS.out; omega
          obtain ⟨mb, mo, rfl, hmb, m0, m1, m2, m3, m4, m5⟩ := (HMI.out _ HBq.out).atM hqm
          have hst := frees_succ (n := nm) hqm
          have hfl := frees_len nm ms q
          have hfl2 : (pre ++ freesTo nm ms q).length ≤ 50000 := by rw [List.length_append]; have := HPR.out; have := HMS.out; omega
          generalize ms[q] = m at *
          obtain ⟨i, p, y, cl, cr, bd⟩ := m
          simp only at m0 m1 m2 m3 m4 m5 hst
          generalize hF : freesTo nm ms q = F at *
          clear hF hfl
          have d0 := HXq.out.cell 0
          have hgl := HXq.out.lt
          simp only [List.getElem?_toArray, List.getElem?_cons_zero] at d0
          cases cl
          · rw [if_neg (by simp)] at hst
            have HSQ := ShutCl.mk hst
            clear hst hfl2
            go_wp2_with fail
            go_roundg (ms.length - (q + 1))
            case measure => have := HQ.out; omega
            case rel => exact ⟨q + 1, by omega, congrArg (Value.int .i64) (by omega), by rw [HSQ.out]; exact own_belowE HOq.out (alloc_below _ _), HBq.out.alloc HBq.out.size _, HXq.out.alloc _⟩
          · rw [if_pos rfl] at hst
            have hal := alloc_below wr (.cells #[.int .i64 i, .int .i64 p, .int .i64 y, .bool true, .string cr, .string bd] 38)
            have hox := own_belowE HOq.out hal
            have hbx := HBq.out.trans (hal.mono HBq.out.size)
            have hz : (wr.alloc (.cells #[.int .i64 i, .int .i64 p, .int .i64 y, .bool true, .string cr, .string bd] 38)).heap.size = wr.heap.size + 1 := by simp
            have hxx := HXq.out.alloc (.cells #[.int .i64 i, .int .i64 p, .int .i64 y, .bool true, .string cr, .string bd] 38)
            obtain ⟨A6, n6, c6, w6, hap, ho6, hb6, hx6⟩ := append_keep hox hbx.size (by omega) hxx (freeE nm ⟨i, p, y, true, cr, bd⟩)
            have HO6 := ShutCl.mk (show OwnE w6 w.heap.size (.slice A6 n6 c6) (pre ++ freesTo nm ms (q + 1)) by rw [hst, ← List.append_assoc]; exact ho6)
            have HB6 := ShutCl.mk (hbx.trans hb6)
            have HX6 := ShutCl.mk hx6
            simp only [freeE, Ef.cells, Mg.zero] at hap
            rw [hz] at hap
            clear hz
            clear hal hox hbx hxx ho6 hb6 hx6 hst hfl2
            go_wp2_with (at_builtin; refine wpList_append_run rfl (.tmp 24) (.tmp 30) 30 30 rfl _ _ rfl rfl hap ?_)
            go_roundg (ms.length - (q + 1))
            case measure => have := HQ.out; omega
            case rel => exact ⟨q + 1, by omega, congrArg (Value.int .i64) (by omega), HO6.out, HB6.out, HX6.out⟩
        · have hqe : q = ms.length := by have := HQ.out; have := HML.out; omega
          have hqn : ¬ (q : Int) < (mn : Int) := by omega
          have HOe := HOq.out
          rw [hqe, ← HST.out] at HOe
          have HOf := ShutCl.mk HOe
          clear HOe hqe
          go_wp2_with fail
          go_roundg (n - (j + 1))
          case measure => have := HJ.out; have := HOL.out; omega
          case rel => exact ⟨j + 1, by have := HJ.out; have := HOL.out; omega, congrArg (Value.int .i64) (by omega), by rw [HSUC.out]; exact HOf.out, HBq.out⟩
    · have he : (obsOf xs).take j = obsOf xs := List.take_of_length_le (by have := HJ.out; have := HOL.out; omega)
      have hjn : ¬ (j : Int) < (n : Int) := by omega
      have HO2 := HO.out
      rw [he] at HO2
      have HO3 := ShutCl.mk HO2
      clear HO HO2 he
      go_wp2_with fail
      go_ret
      exact ⟨_, rfl, HO3.out, HB.out⟩
end Go.Proofs.Ytdjmjckmbclhiaa
