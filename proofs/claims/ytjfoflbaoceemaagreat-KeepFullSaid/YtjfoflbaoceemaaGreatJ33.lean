/- . . . . . . -/
import Derived.Test.YtjfoflbaoceemaaGreatJ16
import Derived.Test.YtjfoflbaoceemaaGreatJ32
import Derived.Test.YtjfoflbaoceemaaGreatJ29
import Derived.Test.YtjfoflbaoceemaaGreatJ24
import Derived.Deep.LoopGhost
import Derived.Test.YtjfoflbaoceemaaGreatJ09
import Derived.Test.YtjfoflbaoceemaaGreatJ12
import Derived.Test.YtjfoflbaoceemaaGreatJ21
import Derived.Test.YtjfoflbaoceemaaGreatJ19
set_option maxRecDepth 4000
namespace Go.Proofs.YtjfoflbaoceemaaGreat
open Go.RowKit
structure ShutCl (p : Prop) : Prop where out : p
theorem append_keep {W : World} {base g : Nat} {v : Value} {ys : List Ef} {cs : Array Value} (ho : OwnE W base v ys) (hb : base ≤ W.heap.size) (hl : ys.length ≤ 100000) (hg : Blk W g 77 cs) (e : Ef) :
    ∃ A n c W', (Builtin.append_ #[37, 37] 37 #[v, .slice (some ⟨W.heap.size, 0, none⟩) 1 1]).run Tryz.prog (W.alloc (.cells e.cells 46)) = .ok (.slice A n c) W' ∧ OwnE W' base (.slice A n c) (ys ++ [e]) ∧ Below base W W' ∧ Blk W' g 77 cs := by
  have ha := alloc_below W (.cells e.cells 46)
  have hone := one_lst eEf W 46 e (cs := e.cells) rfl
  have ho2 : OwnE (W.alloc (.cells e.cells 46)) base v ys := own_belowE ho ha
  have hg2 := hg.alloc (.cells e.cells 46)
  have hbl : Below base W (W.alloc (.cells e.cells 46)) := ha.mono hb
  generalize W.alloc (.cells e.cells 46) = W2 at *
  obtain ⟨v', W', hap, ho', hgr, _⟩ := append_own tyEf ho2 hone rfl 1 (by show ys.length + 1 ≤ _; omega) (Nat.le_trans hb hbl.size)
  obtain ⟨A, c, rfl, _⟩ := own_lst ho'
  refine ⟨A, _, c, W', hap, ho', hbl.grown hgr (Nat.le_trans hb hbl.size) fun g hg => (own_blk ho2 hg).1, ?_⟩
  refine (hgr.block g hg2.lt fun h => ?_).trans hg2
  obtain ⟨_, _, cur, hcur⟩ := own_blk ho2 h.symm
  exact ne_of_types hg2 hcur (by decide) rfl
theorem claims_succ {l : List Ob} {j : Nat} (h : j < l.length) : claimsS (l.take (j + 1)) = claimsS (l.take j) ++ claimsO l[j] := by
  unfold claimsS
  rw [List.take_succ_eq_append_getElem h, List.flatMap_append]
  simp
theorem claimsO_len (o : Ob) : (claimsO o).length ≤ o.msgs.length := by
  unfold claimsO
  rw [List.length_map]
  exact List.length_filter_le _ _
theorem claims_len {l : List Ob} {n : Nat} (h : ∀ o ∈ l, o.short n) : ∀ (j : Nat), j ≤ l.length → (claimsS (l.take j)).length ≤ j * n
  | 0, _ => by simp [claimsS]
  | j + 1, hj => by
    have h1 := claims_len h j (Nat.le_of_succ_le hj)
    have h2 := claimsO_len l[j]
    have h3 := (h _ (List.getElem_mem hj)).2.1
    rw [claims_succ hj, List.length_append, Nat.add_mul]
    omega
def freesTo (n : ByteArray) (ms : List Mg) (q : Nat) : List Ef := ((ms.take q).filter (·.claimed)).map (freeE n)
theorem frees_succ {n : ByteArray} {ms : List Mg} {q : Nat} (h : q < ms.length) : freesTo n ms (q + 1) = if ms[q].claimed = true then freesTo n ms q ++ [freeE n ms[q]] else freesTo n ms q := by
  unfold freesTo
  rw [List.take_succ_eq_append_getElem h, List.filter_append]
  cases hc : ms[q].claimed
  · rw [if_neg (by simp)]; simp [hc]
  · rw [if_pos rfl]; simp [hc]
theorem frees_len (n : ByteArray) (ms : List Mg) (q : Nat) : (freesTo n ms q).length ≤ ms.length := by
  unfold freesTo
  rw [List.length_map]
  refine Nat.le_trans (List.length_filter_le _ _) ?_
  rw [List.length_take]
  omega
def ClaR (w : World) (l : List Ob) (k : Nat) (v i : Value) (wr : World) : Prop :=
  ∃ j, j + k = l.length ∧ i = .int .i64 (j : Int) ∧ OwnE wr w.heap.size v (claimsS (l.take j)) ∧ Below w.heap.size w wr
def ClaI (w : World) (pre : List Ef) (n : ByteArray) (ms : List Mg) (g : Nat) (cs : Array Value) (k : Nat) (v i : Value) (wr : World) : Prop :=
  ∃ q, q + k = ms.length ∧ i = .int .i64 (q : Int) ∧ OwnE wr w.heap.size v (pre ++ freesTo n ms q) ∧ Below w.heap.size w wr ∧ Blk wr g 77 cs
set_option maxHeartbeats 8000000 in
theorem claims_ {w : World} {K : Nat → Prop} {s : Sv} {xs : List Oc} (h : ObsAt w K s xs) (hx : xs.length ≤ 20) (hs : ∀ x ∈ xs, x.o.short 450) (next : Int) :
    Calls Tryz.prog 42 #[.agg #[.int .i64 next, .slice s.a s.n s.c]] w fun e w' => ∃ v, e = .returned v ∧ OwnE w' w.heap.size v (claimsS (obsOf xs)) ∧ Below w.heap.size w w' := by
  obtain ⟨A, n, c⟩ := s
  have hln : n = xs.length := h.row.len
  have hol : (obsOf xs).length = n := by rw [hln]; simp [obsOf]
  have HB0 := ShutCl.mk (alloc_below w (.cells #[.int .i64 next, .slice A n c] 54))
  have HH := ShutCl.mk h
  have hshort : ∀ o ∈ obsOf xs, o.short 450 := fun o ho => by
    obtain ⟨x, hx, rfl⟩ := List.mem_map.1 ho
    exact hs x hx
  have HSH := ShutCl.mk hshort
  have HLN := ShutCl.mk hln
  have HOL := ShutCl.mk hol
  have hn20 : n ≤ 20 := by omega
  clear h hs hshort hln hol hx
  go_enter Tryz.func42, Tryz.ntmps42
  go_wp2_with fail
  go_loopg [3, 11] n (fun k v i wr => ClaR w (obsOf xs) k v i wr)
  case atStart => exact ⟨0, by have := HOL.out; omega, rfl, by simpa [claimsS] using own_nil _ _, HB0.out⟩
  case round =>
    obtain ⟨j, hj, rfl, ho, hb⟩ := hrel
    have HJ := ShutCl.mk hj
    have HO := ShutCl.mk ho
    have HB := ShutCl.mk hb
    clear hj ho hb
    by_cases hlt : j < n
    · have hjx : j < xs.length := by rw [← HLN.out]; exact hlt
      have hjo : j < (obsOf xs).length := by rw [HOL.out]; exact hlt
      have hjn : (j : Int) < (n : Int) := by omega
      have hw1 : IntKind.i64.wrap ((j : Int) + 1) = (j : Int) + 1 := by rw [IntKind.wrap_i64]; omega
      obtain ⟨b, o, rfl, hbs, c0, c1, c2, c3, c4, c5⟩ := (HH.out.row.lst.below HB.out).atO hjx
      have hmm := (HH.out.all _ (List.getElem_mem hjx)).below HB.out
      have hst := claims_succ hjo
      rw [show (obsOf xs)[j] = xs[j].o from List.getElem_map _] at hst
      have hpre := claims_len HSH.out j (Nat.le_of_lt hjo)
      have hms := (HSH.out _ (List.mem_map_of_mem (List.getElem_mem hjx))).2.1
      have hml := hmm.msgs.len
      have hmi := fun W (k : Below w.heap.size w W) => ((HH.out.all _ (List.getElem_mem hjx)).below k).msgs.lst
      have hco : claimsO xs[j].o = freesTo xs[j].o.name xs[j].o.msgs xs[j].o.msgs.length := by unfold claimsO freesTo; rw [List.take_length]
      rw [hco] at hst
      have hpre2 : (claimsS ((obsOf xs).take j)).length ≤ 20000 := by
        have : j * 450 ≤ 20 * 450 := Nat.mul_le_mul (by omega) (Nat.le_refl _)
        omega
      generalize claimsS ((obsOf xs).take j) = pre at *
      generalize hsuc : claimsS ((obsOf xs).take (j + 1)) = suc at *
      have HSUC := ShutCl.mk hsuc
      clear hsuc
      have HST := ShutCl.mk hst
      have HMI := ShutCl.mk hmi
      have HMS := ShutCl.mk hms
      have HPR := ShutCl.mk hpre2
      clear hst hmi hmm hpre hpre2 hco hms
      generalize xs[j].o.msgs = ms at *
      generalize xs[j].o.name = nm at *
      generalize xs[j].o.kind = kd at *
      generalize xs[j].o.limit = lm at *
      generalize xs[j].r = sr at *
      generalize xs[j].m = sm at *
      generalize xs[j].d = sd at *
      obtain ⟨ra, rn, rc⟩ := sr
      obtain ⟨ma, mn, mc⟩ := sm
      obtain ⟨da, dn, dc⟩ := sd
      simp only at c3 c4 c5 hml
      have HML := ShutCl.mk hml
      clear hml
      have HX := ShutCl.mk (Blk.new wr 77 #[.string nm, .int .i64 kd, .int .i64 lm, .slice ra rn rc, .slice ma mn mc, .slice da dn dc])
      have hal := alloc_below wr (.cells #[.string nm, .int .i64 kd, .int .i64 lm, .slice ra rn rc, .slice ma mn mc, .slice da dn dc] 77)
      have HO2 := ShutCl.mk (own_belowE HO.out hal)
      have HB2 := ShutCl.mk (HB.out.trans (hal.mono HB.out.size))
      clear hal
      go_wp2_with fail
      go_loopg [3, 18] mn (fun k v i wq => ClaI w pre nm ms wr.heap.size #[.string nm, .int .i64 kd, .int .i64 lm, .slice ra rn rc, .slice ma mn mc, .slice da dn dc] k v i wq)
      case atStart => exact ⟨0, by have := HML.out; omega, rfl, by simpa [freesTo] using HO2.out, HB2.out, HX.out⟩
      case round =>
        obtain ⟨q, hq, rfl, ho, hb, hblk⟩ := hrel
        have HQ := ShutCl.mk hq
        have HOq := ShutCl.mk ho
        have HBq := ShutCl.mk hb
        have HXq := ShutCl.mk hblk
        clear hq ho hb hblk
        by_cases hlq : q < mn
        · have hqm : q < ms.length := by rw [← HML.out]; exact hlq
          have hqn : (q : Int) < (mn : Int) := by omega
          have hw2 : IntKind.i64.wrap ((q : Int) + 1) = (q : Int) + 1 := by rw [IntKind.wrap_i64]; have := HMS.out; omega
          obtain ⟨mb, mo, rfl, hmb, m0, m1, m2, m3, m4, m5⟩ := (HMI.out _ HBq.out).atM hqm
          have hst := frees_succ (n := nm) hqm
          have hfl := frees_len nm ms q
          have hfl2 : (pre ++ freesTo nm ms q).length ≤ 50000 := by rw [List.length_append]; have := HPR.out; have := HMS.out; omega
          generalize ms[q] = m at *
          obtain ⟨i, p, y, cl, cr, bd⟩ := m
          simp only at m0 m1 m2 m3 m4 m5 hst
          generalize hF : freesTo nm ms q = F at *
          clear hF hfl
          have d0 := HXq.out.cell 0
          have hgl := HXq.out.lt
          simp only [List.getElem?_toArray, List.getElem?_cons_zero] at d0
          cases cl
          · rw [if_neg (by simp)] at hst
            have HSQ := ShutCl.mk hst
            clear hst hfl2
            go_wp2_with fail
            go_roundg (ms.length - (q + 1))
            case measure => have := HQ.out; omega
            case rel => exact ⟨q + 1, by omega, congrArg (Value.int .i64) (by omega), by rw [HSQ.out]; exact own_belowE HOq.out (alloc_below _ _), HBq.out.alloc HBq.out.size _, HXq.out.alloc _⟩
          · rw [if_pos rfl] at hst
            have hal := alloc_below wr (.cells #[.int .i64 i, .int .i64 p, .int .i64 y, .bool true, .string cr, .string bd] 44)
            have hox := own_belowE HOq.out hal
            have hbx := HBq.out.trans (hal.mono HBq.out.size)
            have hz : (wr.alloc (.cells #[.int .i64 i, .int .i64 p, .int .i64 y, .bool true, .string cr, .string bd] 44)).heap.size = wr.heap.size + 1 := by simp
            have hxx := HXq.out.alloc (.cells #[.int .i64 i, .int .i64 p, .int .i64 y, .bool true, .string cr, .string bd] 44)
            obtain ⟨A6, n6, c6, w6, hap, ho6, hb6, hx6⟩ := append_keep hox hbx.size (by omega) hxx (freeE nm ⟨i, p, y, true, cr, bd⟩)
            have HO6 := ShutCl.mk (show OwnE w6 w.heap.size (.slice A6 n6 c6) (pre ++ freesTo nm ms (q + 1)) by rw [hst, ← List.append_assoc]; exact ho6)
            have HB6 := ShutCl.mk (hbx.trans hb6)
            have HX6 := ShutCl.mk hx6
            simp only [freeE, Ef.cells, Mg.zero] at hap
            rw [hz] at hap
            clear hz
            clear hal hox hbx hxx ho6 hb6 hx6 hst hfl2
            go_wp2_with (at_builtin; refine wpList_append_run rfl (.tmp 24) (.tmp 30) 37 37 rfl _ _ rfl rfl hap ?_)
            go_roundg (ms.length - (q + 1))
            case measure => have := HQ.out; omega
            case rel => exact ⟨q + 1, by omega, congrArg (Value.int .i64) (by omega), HO6.out, HB6.out, HX6.out⟩
        · have hqe : q = ms.length := by have := HQ.out; have := HML.out; omega
          have hqn : ¬ (q : Int) < (mn : Int) := by omega
          have HOe := HOq.out
          rw [hqe, ← HST.out] at HOe
          have HOf := ShutCl.mk HOe
          clear HOe hqe
          go_wp2_with fail
          go_roundg (n - (j + 1))
          case measure => have := HJ.out; have := HOL.out; omega
          case rel => exact ⟨j + 1, by have := HJ.out; have := HOL.out; omega, congrArg (Value.int .i64) (by omega), by rw [HSUC.out]; exact HOf.out, HBq.out⟩
    · have he : (obsOf xs).take j = obsOf xs := List.take_of_length_le (by have := HJ.out; have := HOL.out; omega)
      have hjn : ¬ (j : Int) < (n : Int) := by omega
      have HO2 := HO.out
      rw [he] at HO2
      have HO3 := ShutCl.mk HO2
      clear HO HO2 he
      go_wp2_with fail
      go_ret
      exact ⟨_, rfl, HO3.out, HB.out⟩
end Go.Proofs.YtjfoflbaoceemaaGreat
namespace Go.Proofs.YtjfoflbaoceemaaGreat
section
variable {s s1 s2 s3 s4 s5 : Dk} {b1 b2 b3 b4 b5 : Bool} {L L' : Lg} {b : List UInt8}
structure Body (s : Dk) (L : Lg) (b : List UInt8) (t : Dk) : Prop where
  ok : t.ok
  n : t.n = s.n
  ends : t.ends = s.ends
  sure : t.sure = s.sure
  l : ∀ x ∈ t.l, L.p < x.1
def Full (s : Dk) (L : Lg) (b : List UInt8) (t : Dk) : Prop :=
  (∀ j, j < need b.length → t.at_ (L.p + 1 + j) = chunk b j) ∧ (L.next b.length < L.fin → t.at_ (L.next b.length) = zeros 64) ∧ ∀ i, i ≤ L.p → t.at_ i = s.at_ i
theorem body_put (hok : s.ok) (hs : s.l = []) (hf : L.next b.length ≤ L.fin) (hn : L.fin ≤ s.n) (h1 : s.put ((L.p : Int) + 1) b = (s1, b1)) : Body s L b s1 ∧
    (b1 = true → (∀ j, j < need b.length → s1.at_ (L.p + 1 + j) = chunk b j) ∧ ∀ i, i ≤ L.p → s1.at_ i = s.at_ i) ∧ (s.ends = false → b1 = true) := by
  unfold Lg.next at hf
  have hk := put_keep hok ((L.p : Int) + 1) b
  rw [h1] at hk
  obtain ⟨a1, a2, a3, a4, a5⟩ := put_all (a := L.p + 1) hok (by omega) h1
  refine ⟨⟨hk.1, hk.2.1, a2, a1, fun x hx => ?_⟩, fun hb => ⟨fun j hj => ?_, fun i hi => ?_⟩, a5⟩
  · rcases a3 x hx with hx | hx
    · rw [hs] at hx; cases hx
    · omega
  · rw [a4 hb, if_pos (by omega)]
    congr 1; omega
  · rw [a4 hb, if_neg (by omega)]
theorem body_tail (hb : Body s L b s1) (hf : L.next b.length ≤ L.fin) (hn : L.fin ≤ s.n) (hv : (∀ j, j < need b.length → s1.at_ (L.p + 1 + j) = chunk b j) ∧ ∀ i, i ≤ L.p → s1.at_ i = s.at_ i) (h2 : L.tail b.length s1 = (s2, b2)) :
    Body s L b s2 ∧ (b2 = true → Full s L b s2) ∧ (s.ends = false → b2 = true) := by
  have hnx : L.p < L.next b.length := by unfold Lg.next; omega
  unfold Lg.tail at h2
  split at h2
  · rename_i he
    cases h2
    exact ⟨hb, fun _ => ⟨hv.1, fun h => by omega, hv.2⟩, fun _ => rfl⟩
  · rename_i he
    cases b2
    · obtain rfl := tryW_false h2
      refine ⟨hb, (fun h => by cases h), fun h => ?_⟩
      rw [tryW_go (by rw [hb.ends]; exact h)] at h2
      exact absurd (congrArg Prod.snd h2) (by simp)
    · obtain rfl := tryW_true h2
      have hlt : L.next b.length < s1.n := by rw [hb.n]; omega
      refine ⟨⟨hb.ok.wr hlt (zeros_length 64), hb.n, hb.ends, hb.sure, fun x hx => ?_⟩, fun _ => ⟨fun j hj => ?_, fun _ => ?_, fun i hi => ?_⟩, fun _ => rfl⟩
      · rcases List.mem_append.1 hx with hx | hx
        · exact hb.l x hx
        · rw [List.mem_singleton.1 hx]; exact hnx
      · rw [wr_at hlt, if_neg (by unfold Lg.next; omega)]; exact hv.1 j hj
      · rw [wr_at hlt, if_pos rfl]
      · rw [wr_at hlt, if_neg (by omega)]; exact hv.2 i hi
structure LDone (s : Dk) (L : Lg) (b : List UInt8) (t : Dk) : Prop where
  head : t.at_ L.p = L.head b.length
  body : ∀ j, j < need b.length → t.at_ (L.p + 1 + j) = chunk b j
  tail : L.next b.length < L.fin → t.at_ (L.next b.length) = zeros 64
  low : ∀ i, i < L.p → t.at_ i = s.at_ i
def Cut (s : Dk) (L : Lg) (b : List UInt8) (t : Dk) : Prop := (∀ i, i ≤ L.p → t.at_ i = s.at_ i) ∨ LDone s L b t
theorem lay_all (hok : s.ok) (hs : s.l = []) (hf : L.next b.length ≤ L.fin) (hn : L.fin ≤ s.n) (h : L.lay s b = (s5, b5)) :
    s5.ok ∧ s5.n = s.n ∧ s5.ends = s.ends ∧ (b5 = true → s5.l = [] ∧ LDone s L b s5) ∧ (b5 = false → ∀ k, Cut s L b (s5.crash k)) ∧ (s.ends = false → b5 = true) := by
  have hpn : L.p < s.n := by unfold Lg.next at hf; omega
  have low : ∀ t, Body s L b t → ∀ k, Cut s L b (t.crash k) := fun t ht k => .inl fun i hi => by
    rw [crash_at k (fun x hx => by have := ht.l x hx; omega), ht.sure, ← now_sure hs]; rfl
  obtain ⟨s1, b1, h1⟩ : ∃ s1 b1, s.put ((L.p : Int) + 1) b = (s1, b1) := ⟨_, _, rfl⟩
  obtain ⟨B1, V1, E1⟩ := body_put hok hs hf hn h1
  cases b1
  · rw [lay_1 h1] at h
    cases h
    exact ⟨B1.ok, B1.n, B1.ends, (fun h => by cases h), fun _ => low _ B1, E1⟩
  · obtain ⟨s2, b2, h2⟩ : ∃ s2 b2, L.tail b.length s1 = (s2, b2) := ⟨_, _, rfl⟩
    obtain ⟨B2, V2, E2⟩ := body_tail B1 hf hn (V1 rfl) h2
    cases b2
    · rw [lay_2 h1 h2] at h
      cases h
      exact ⟨B2.ok, B2.n, B2.ends, (fun h => by cases h), fun _ => low _ B2, E2⟩
    · obtain ⟨s3, b3, h3⟩ : ∃ s3 b3, s2.tryS = (s3, b3) := ⟨_, _, rfl⟩
      have F2 := V2 rfl
      cases b3
      · rw [lay_3 h1 h2 h3] at h
        cases h
        obtain rfl := tryS_false h3
        refine ⟨B2.ok, B2.n, B2.ends, (fun h => by cases h), fun _ => low _ B2, fun he => ?_⟩
        rw [tryS_go (by rw [B2.ends]; exact he)] at h3
        exact absurd (congrArg Prod.snd h3) (by simp)
      · obtain rfl := tryS_true h3
        obtain ⟨s4, b4, h4⟩ : ∃ s4 b4, s2.sync.tryW L.p (L.head b.length) = (s4, b4) := ⟨_, _, rfl⟩
        have hn3 : s2.sync.n = s.n := by rw [Dk.n_sync]; exact B2.n
        have hp3 : L.p < s2.sync.n := by rw [hn3]; exact hpn
        cases b4
        · rw [lay_4 h1 h2 h3 h4] at h
          cases h
          obtain rfl := tryW_false h4
          refine ⟨B2.ok.sync, hn3, B2.ends, (fun h => by cases h), fun _ k => .inl fun i hi => ?_, fun he => ?_⟩
          · rw [crash_at k (fun x hx => by cases hx), sync_sure]
            exact F2.2.2 i hi
          · rw [tryW_go (show s2.sync.ends = false by exact B2.ends.trans he)] at h4
            exact absurd (congrArg Prod.snd h4) (by simp)
        · obtain rfl := tryW_true h4
          obtain ⟨s6, b6, h6⟩ : ∃ s6 b6, (s2.sync.wr L.p (L.head b.length)).tryS = (s6, b6) := ⟨_, _, rfl⟩
          rw [lay_5 h1 h2 h3 h4 h6] at h
          have hok4 := B2.ok.sync.wr hp3 (headB_length L.e ((L.ls.length : Nat) + 1 : Int) (b.length : Int))
          have hd : LDone s L b (s2.sync.wr L.p (L.head b.length)) := by
            refine ⟨by rw [wr_at hp3, if_pos rfl], fun j hj => by rw [wr_at hp3, if_neg (by omega)]; exact F2.1 j hj, fun ht => by rw [wr_at hp3, if_neg (by unfold Lg.next; omega)]; exact F2.2.1 ht, fun i hi => by rw [wr_at hp3, if_neg (by omega)]; exact F2.2.2 i (by omega)⟩
          cases b6
          · cases h
            obtain rfl := tryS_false h6
            refine ⟨hok4, hn3, B2.ends, (fun h => by cases h), fun _ k => ?_, fun he => ?_⟩
            · have e : ((s2.sync.wr L.p (L.head b.length)).crash k).now = if k 0 then s2.now.set L.p (L.head b.length) else s2.now := by
                rw [Dk.crash_now]; rfl
              cases hk : k 0
              · rw [hk] at e
                left
                intro i hi
                unfold Dk.at_
                rw [e]
                exact F2.2.2 i hi
              · rw [hk] at e
                right
                have e2 : ((s2.sync.wr L.p (L.head b.length)).crash k).now = (s2.sync.wr L.p (L.head b.length)).now := by
                  rw [e, Dk.wr_now]; rfl
                have e3 : ∀ i, ((s2.sync.wr L.p (L.head b.length)).crash k).at_ i = (s2.sync.wr L.p (L.head b.length)).at_ i := fun i => by unfold Dk.at_; rw [e2]
                exact ⟨by rw [e3]; exact hd.head, fun j hj => by rw [e3]; exact hd.body j hj, fun ht => by rw [e3]; exact hd.tail ht, fun i hi => by rw [e3]; exact hd.low i hi⟩
            · rw [tryS_go (show (s2.sync.wr L.p (L.head b.length)).ends = false by exact B2.ends.trans he)] at h6
              exact absurd (congrArg Prod.snd h6) (by simp)
          · cases h
            obtain rfl := tryS_true h6
            exact ⟨hok4.sync, by rw [Dk.n_sync]; exact hn3, B2.ends, fun _ => ⟨rfl, ⟨hd.head, hd.body, hd.tail, hd.low⟩⟩, (fun h => by cases h), fun _ => rfl⟩
end
end Go.Proofs.YtjfoflbaoceemaaGreat
namespace Go.Proofs.YtjfoflbaoceemaaGreat
section
variable {s t s1 : Dk} {L L' : Lg} {b : List UInt8} {rs : List (List UInt8)} {e : Int} {m : Nat}
theorem open_stop (h : L.find s = none) (ho : Opens s L L') : L' = L := ho.det (.stop h)
theorem find_zero (h : s.at_ L.p = zeros 64) : L.find s = none := find_none fun _ _ e => headB_zero (e.symm.trans h)
def Lies (s : Dk) (e : Int) : List (List UInt8) → Nat → Nat → Nat → Prop
  | [], _, p, q => p = q
  | b :: r, k, p, q => s.at_ p = lheadB e ((k : Nat) + 1 : Int) b.length ∧ (∀ j, j < need b.length → s.at_ (p + 1 + j) = chunk b j) ∧ Lies s e r (k + 1) (p + (1 + need b.length)) q
theorem Lies.le : ∀ {rs : List (List UInt8)} {k p q : Nat}, Lies s e rs k p q → p ≤ q
  | [], _, _, _, h => Nat.le_of_eq h
  | b :: r, _, _, _, h => by have := Lies.le h.2.2; omega
theorem Lies.congr : ∀ {rs : List (List UInt8)} {k p q : Nat}, Lies s e rs k p q → (∀ i, i < q → t.at_ i = s.at_ i) → Lies t e rs k p q
  | [], _, _, _, h, _ => h
  | b :: r, _, p, q, h, ht => by
    have hq := Lies.le h.2.2
    exact ⟨(ht _ (by omega)).trans h.1, fun j hj => (ht _ (by omega)).trans (h.2.1 j hj), h.2.2.congr ht⟩
theorem Lies.snoc : ∀ {rs : List (List UInt8)} {k p q : Nat}, Lies s e rs k p q → s.at_ q = lheadB e (((k + rs.length : Nat) : Int) + 1) b.length → (∀ j, j < need b.length → s.at_ (q + 1 + j) = chunk b j) → Lies s e (rs ++ [b]) k p (q + (1 + need b.length))
  | [], k, p, q, h, h1, h2 => by
    obtain rfl : p = q := h
    exact ⟨h1, h2, rfl⟩
  | c :: r, k, p, q, h, h1, h2 => ⟨h.1, h.2.1, Lies.snoc h.2.2 (by rw [h1]; congr 2; simp; omega) h2⟩
theorem Lies.opens (hok : s.ok) : ∀ {rs : List (List UInt8)} {L L' : Lg} {q : Nat}, Lies s L.e rs L.ls.length L.p q → q ≤ L.fin → L.fin ≤ s.n → Opens s L L' → Opens s { L with p := q, ls := L.ls ++ rs } L'
  | [], L, L', q, h, _, _, ho => by
    obtain rfl : L.p = q := h
    simpa using ho
  | b :: r, L, L', q, h, hq, hn, ho => by
    have hle := Lies.le h.2.2
    have hf : L.find s = some b := find_some hn hok.many (by unfold Lg.left; omega) h.1 h.2.1
    have h2 : Lies s (L.add b).e r (L.add b).ls.length (L.add b).p q := by simpa [Lg.add] using h.2.2
    cases ho with
    | stop h' => rw [hf] at h'; cases h'
    | step h' k =>
      have e := Option.some.inj (hf.symm.trans h')
      subst e
      have := Lies.opens hok (L := L.add b) h2 hq hn k
      simpa [Lg.add] using this
theorem Lies.done (h : Lies s L.e L.ls 0 m L.p) (hd : LDone s L b t) : Lies t L.e (L.ls ++ [b]) 0 m (L.next b.length) := by
  refine (h.congr hd.low).snoc ?_ hd.body
  rw [hd.head]
  unfold Lg.head
  rw [Nat.zero_add]
theorem lay_lim (h : s.lim m) (hok : s.ok) {s5 : Dk} {b5 : Bool} (hl : L.lay s b = (s5, b5)) : s5.lim (m + (need b.length + 2)) := by
  obtain ⟨s1, b1, h1⟩ : ∃ s1 b1, s.put ((L.p : Int) + 1) b = (s1, b1) := ⟨_, _, rfl⟩
  obtain ⟨l1, _, _⟩ := put_lim h hok h1
  cases b1
  · rw [lay_1 h1] at hl
    cases hl
    exact lim_mono l1 (by omega)
  · obtain ⟨s2, b2, h2⟩ : ∃ s2 b2, L.tail b.length s1 = (s2, b2) := ⟨_, _, rfl⟩
    have l2 : s2.lim (m + need b.length + 1) := by
      unfold Lg.tail at h2
      split at h2
      · cases h2; exact lim_mono l1 (by omega)
      · exact (tryW_lim l1 h2).1
    cases b2
    · rw [lay_2 h1 h2] at hl
      cases hl
      exact lim_mono l2 (by omega)
    · obtain ⟨s3, b3, h3⟩ : ∃ s3 b3, s2.tryS = (s3, b3) := ⟨_, _, rfl⟩
      have l3 := (tryS_lim l2 h3).1
      cases b3
      · rw [lay_3 h1 h2 h3] at hl
        cases hl
        exact lim_mono l3 (by omega)
      · obtain ⟨s4, b4, h4⟩ : ∃ s4 b4, s3.tryW L.p (L.head b.length) = (s4, b4) := ⟨_, _, rfl⟩
        have l4 := (tryW_lim l3 h4).1
        cases b4
        · rw [lay_4 h1 h2 h3 h4] at hl
          cases hl
          exact lim_mono l4 (by omega)
        · obtain ⟨s6, b6, h6⟩ : ∃ s6 b6, s4.tryS = (s6, b6) := ⟨_, _, rfl⟩
          rw [lay_5 h1 h2 h3 h4 h6] at hl
          cases hl
          exact lim_mono (tryS_lim l4 h6).1 (by omega)
theorem app_long' (h : L.dead = false) (hf : L.fits b.length = false) : L.append s b = (s, L, 6) := by simp [Lg.append, h, hf]
theorem app_lay' (h : L.dead = false) (hf : L.fits b.length = true) (hl : L.lay s b = (s1, true)) : L.append s b = (s1, L.add b, 0) := by simp [Lg.append, h, hf, hl]
theorem app_fail' (h : L.dead = false) (hf : L.fits b.length = true) (hl : L.lay s b = (s1, false)) : L.append s b = (s1, { L with dead := true }, 12) := by simp [Lg.append, h, hf, hl]
inductive App (s : Dk) (L : Lg) (b : List UInt8) : Dk × Lg × Nat → Prop
  | long : L.fits b.length = false → App s L b (s, L, 6)
  | ok {s1 : Dk} : L.fits b.length = true → s1.ok → s1.n = s.n → s1.ends = s.ends → s1.l = [] → LDone s L b s1 → s1.lim (m + (need b.length + 2)) → App s L b (s1, L.add b, 0)
  | fail {s1 : Dk} : L.fits b.length = true → s.ends = true → (∀ k, Cut s L b (s1.crash k)) → s1.ok → s1.n = s.n → s1.lim (m + (need b.length + 2)) → App s L b (s1, { L with dead := true }, 12)
theorem fits_next (hp : L.p ≤ L.fin) (h : L.fits b.length = true) : L.next b.length ≤ L.fin := by
  have h1 := (fits_iff.1 h).2
  rw [Int.toNat_natCast] at h1
  unfold Lg.left at h1
  unfold Lg.next; omega
theorem append_all (hd : L.dead = false) (hok : s.ok) (hs : s.l = []) (hp : L.p ≤ L.fin) (hn : L.fin ≤ s.n) (hl : s.lim m) : App (m := m) s L b (L.append s b) := by
  cases hf : L.fits b.length
  · rw [app_long' hd hf]; exact .long hf
  · obtain ⟨s1, b1, h1⟩ : ∃ s1 b1, L.lay s b = (s1, b1) := ⟨_, _, rfl⟩
    obtain ⟨a1, a2, a3, a4, a5, a6⟩ := lay_all hok hs (fits_next hp hf) hn h1
    have hlm := lay_lim hl hok h1
    cases b1
    · rw [app_fail' hd hf h1]
      refine .fail hf ?_ (a5 rfl) a1 a2 hlm
      cases he : s.ends
      · have := a6 he; cases this
      · rfl
    · rw [app_lay' hd hf h1]
      exact .ok hf a1 a2 a3 (a4 rfl).1 (a4 rfl).2 hlm
end
end Go.Proofs.YtjfoflbaoceemaaGreat
namespace Go.Proofs.YtjfoflbaoceemaaGreat
section
variable {p : Pl} {s t : Dk} {e k m : Nat} {b b' : List UInt8} {b1 : Bool}
def Sits (p : Pl) (s : Dk) (k : Nat) (b : List UInt8) : Prop := (k = 0 ∧ ∀ t, t < 2 → s.at_ (p.a + t) = zeros 64) ∨ (1 ≤ k ∧ Img p s k b ∧ Eld p s k)
theorem root_two (p : Pl) (k : Nat) : p.root (k + 2) = p.root k := by unfold Pl.root; omega
theorem root_ne (p : Pl) {e k : Nat} (h : e % 2 ≠ k % 2) : p.root e ≠ p.root k := by unfold Pl.root; omega
theorem root_image (p : Pl) (e k : Nat) : p.root e < p.image k := by
  have := (rimage_le p k).1
  unfold Pl.root; omega
theorem areas (p : Pl) {e k n j : Nat} (h : e % 2 ≠ k % 2) (hn : n ≤ p.ar) (hj : j < p.ar) : p.image k + j < p.image e ∨ p.image e + n ≤ p.image k + j := by
  unfold Pl.image
  rcases (by omega : (e % 2 = 0 ∧ k % 2 = 1) ∨ (e % 2 = 1 ∧ k % 2 = 0)) with ⟨h1, h2⟩ | ⟨h1, h2⟩ <;> rw [h1, h2] <;> omega
theorem root_epoch {e n e' n' : Int} (h1 : i64r e) (h2 : i64r e') (h : rootB e n = rootB e' n') : e = e' := by
  have := congrArg toldE h
  rwa [toldE_root h1, toldE_root h2] at this
theorem wrote_img (h : Wrote p s e b t) : Img p t e b := ⟨h.root, h.body⟩
theorem sits_next (h : Sits p s k b) (hk : k ≤ 1000000) (hw : Wrote p s (k + 1) b' t) : Img p t (k + 1) b' ∧ Eld p t (k + 1) := by
  refine ⟨wrote_img hw, fun e n he _ hr => ?_⟩
  rw [root_two] at hr
  rw [hw.rest _ (root_ne p (by omega)) (.inl (root_image p k (k + 1)))] at hr
  rcases h with ⟨rfl, h⟩ | ⟨hk1, h, _⟩
  · have := h 0 (by omega)
    rw [show p.a + 0 = p.root 0 from rfl, hr] at this
    exact absurd this rootB_zero
  · rw [h.root] at hr
    have := root_epoch ⟨by omega, by omega⟩ he hr
    omega
theorem sits_cut (h : Sits p s k b) (hb : b.length ≤ p.ar * 64) (hb' : b'.length ≤ p.ar * 64) (hc : ∀ i, i < p.image (k + 1) ∨ p.image (k + 1) + need b'.length ≤ i → t.at_ i = s.at_ i) : Sits p t k b := by
  have hi := (rimage_le p (k + 1)).1
  rcases h with ⟨rfl, h⟩ | ⟨hk1, h, he⟩
  · exact .inl ⟨rfl, fun t ht => by rw [hc _ (.inl (by omega))]; exact h t ht⟩
  · refine .inr ⟨hk1, ⟨?_, fun j hj => ?_⟩, fun e n h1 h2 hr => ?_⟩
    · rw [hc _ (.inl (root_image p k (k + 1)))]; exact h.root
    · have := need_area hb
      have := need_area hb'
      rw [hc _ (areas p (by omega) (by omega) (by omega))]; exact h.body j hj
    · rw [hc _ (.inl (root_image p (k + 1) (k + 1)))] at hr
      exact he e n h1 h2 hr
theorem sits_img (h : Sits p s k b) (hk : 1 ≤ k) : Img p s k b ∧ Eld p s k := by
  rcases h with ⟨rfl, _⟩ | ⟨_, h⟩
  · omega
  · exact h
theorem read_sits (h : Sits p s k b) (hk : 1 ≤ k) (hk2 : k ≤ 1000000) (hb : b.length ≤ p.ar * 64) (hp : p.on s) : p.read s = some ((k : Int), b) :=
  read_img hk (by omega) (sits_img h hk).1 (sits_img h hk).2 hb hp
theorem read_sits0 (h : Sits p s 0 b) : p.read s = none := by
  rcases h with ⟨_, h⟩ | ⟨h, _⟩
  · exact read_none fun t ht e n _ _ hr => rootB_zero (hr.symm.trans (h t ht))
  · omega
structure Calm (p : Pl) (m : Nat) (s : Dk) : Prop where
  ok : s.ok
  l : s.l = []
  ends : s.ends = false
  on : p.on s
  lim : s.lim m
end
end Go.Proofs.YtjfoflbaoceemaaGreat
namespace Go.Proofs.YtjfoflbaoceemaaGreat
open Go.RowKit
def dmsg (next : Int) (dead : Bool) (m : Mg) : Bool := m.right && (decide (m.id < next) && !(dead && m.claimed))
structure ShutM5 (p : Prop) : Prop where out : p
end Go.Proofs.YtjfoflbaoceemaaGreat
namespace Go.Proofs.YtjfoflbaoceemaaGreat
open Go.RowKit
def totalD (l : List Ob) (id : Int) : Nat := (idsTo l l.length).count id
end Go.Proofs.YtjfoflbaoceemaaGreat
