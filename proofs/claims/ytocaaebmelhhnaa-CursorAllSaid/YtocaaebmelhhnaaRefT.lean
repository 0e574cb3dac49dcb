/- The document's own rows: where a key is found, rows with one put, and one cut; how high a tree may be. -/
import Derived.Test.YtocaaebmelhhnaaNodeP
import Derived.Test.YtocaaebmelhhnaaCmpR
import Derived.Test.YtocaaebmelhhnaaTreeA
import Derived.Deep.RegionLaw
set_option maxRecDepth 4000
namespace Go.Proofs.Ytocaaebmelhhnaa
open Go.RowKit
theorem step_append_run {P : Program} {ops : Array Oper} {o : Oper} {a : Act} {w : World} {K : Act → World → Prop} {Q : Exit → Act → World → Prop} {E : Prop} (hg : o.guard = none) (s x : Operand) (t t' : TypeId)
    (hop : o.op = .call { callee := .builtin .append, args := #[s, x], argTypes := #[t, t'] }) (v u : Value) (hs : a.eval s = v) (hx : a.eval x = u) {v' : Value} {w' : World}
    (hr : (Builtin.append_ #[t, t'] o.type #[v, u]).run P w = .ok v' w') (hK : K (a.put o.dst v') w') : if Region.wanted o (yielded ops a.tmps) = true then Oper.wp P o a w K Q else E := by
  have hw : Region.wanted o (yielded ops a.tmps) = true := by simp [Region.wanted, hg]
  rw [if_pos hw]
  unfold Oper.wp execOp
  simp only [hop, resolve, invoke, builtin, Sem.run_bind, Sem.run_pure, Result.andThen_ok, List.map_toArray, List.map_cons, List.map_nil, hs, hx, hr]
  exact hK
/-- append of rows behind rows of the call's own, as one step of a region that draws -/
theorem step_append_rws {ops : Array Oper} {o : Oper} {a : Act} {w : World} {Kc : Act → World → Prop} {Q : Exit → Act → World → Prop} {E : Prop} (hg : o.guard = none) (s x : Operand)
    (hop : o.op = .call { callee := .builtin .append, args := #[s, x], argTypes := #[22, 22] }) (hty : o.type = 22) {base : Nat} {v : Value} {n : Nat} {ys : List Rw} (hs : a.eval s = v) (hown : w.ownsRow base 29 2 v n (cellsR ys)) {K : Nat → Prop} {A : Option Addr} {m : Nat} {xs : List Rw} {c : Nat} (hx : a.eval x = .slice A m c) (hr : Rws w K A xs) (hm : xs.length = m)
    (hb : n + m ≤ 1000000) (hbase : base ≤ w.heap.size) (hK : ∀ v' w', w'.ownsRow base 29 2 v' (n + m) (cellsR (ys ++ xs)) → w.grownBy w' v.ownBlock → Kc (a.put o.dst v') w') : if Region.wanted o (yielded ops a.tmps) = true then Oper.wp Try.prog o a w Kc Q else E := by
  obtain ⟨v', W', hap, ho, hg2, _⟩ := append_rws hown hr hm c hb hbase
  exact step_append_run hg s x 22 22 hop v _ hs hx (by rw [hty]; exact hap) (hK _ _ ho hg2)
theorem own_below {w w' : World} {base n : Nat} {v : Value} {xs : List Rw} (h : w.ownsRow base 29 2 v n (cellsR xs)) (k : Below w.heap.size w w') : w'.ownsRow base 29 2 v n (cellsR xs) := by
  refine ⟨h.1, ?_⟩
  rcases h.2 with ⟨e1, e2⟩ | ⟨g, cap, cur, e, hb, hh, h1, h2, h3, h4⟩
  · exact .inl ⟨e1, e2⟩
  · exact .inr ⟨g, cap, cur, e, hb, (k.block g (lt_of_some hh)).trans hh, h1, h2, h3, h4⟩
theorem grown_base {W W' : World} {base n : Nat} {v : Value} {ys : List Rw} (ho : W.ownsRow base 29 2 v n (cellsR ys)) (hg : W.grownBy W' v.ownBlock) (hb : base ≤ W.heap.size) : Below base W W' :=
  (Below.refl _ _).grown hg hb (by
    intro q hq
    rcases ho.2 with ⟨h, _⟩ | ⟨q', cap, cur, h, hq', _⟩
    · rw [h] at hq; cases hq
    · rw [h] at hq; simp [Value.ownBlock] at hq; omega)
def FindsR (w : World) (xs : List Rw) (key : ByteArray) (k : Nat) (i : Value) (wr : World) : Prop := ∃ j n, j + k = xs.length ∧ i = .int .i64 (j : Int) ∧ findR xs key = j + findR (xs.drop j) key ∧ foundR xs key = foundR (xs.drop j) key ∧ wr = w.drewN n
set_option maxHeartbeats 400000 in
theorem ref_find {w : World} {K : Nat → Prop} {A : Option Addr} {n c : Nat} {xs : List Rw} (h : Rws w K A xs) (hl : xs.length = n) (hn : n ≤ 1000000) (hz : ∀ r ∈ xs, r.1.size ≤ maxLen) (key : ByteArray) :
    Calls Try.prog 15 #[.slice A n c, .string key] w fun e w' => e = .returned (.tuple #[.int .i64 (findR xs key : Int), .bool (foundR xs key)]) ∧ Below w.heap.size w w' := by
  have H := Lib.hid h
  have HL := Lib.hid hl
  have HZ := Lib.hid hz
  clear h hl hz
  go_enter Try.func15, Try.ntmps15
  go_wp2_with fail
  go_loopg [6] n (fun m i wr => FindsR w xs key m i wr)
  case atStart => exact ⟨0, 0, by rw [HL.out]; omega, rfl, by simp, by simp, rfl⟩
  case round =>
    obtain ⟨j, nd, hj, rfl, h1, h2, rfl⟩ := hrel
    have HJ := Lib.hid hj
    have H1 := Lib.hid h1
    have H2 := Lib.hid h2
    have hbe : Below w.heap.size w (w.drewN nd) := below_drewN (Below.refl _ _) nd
    have HBE := Lib.hid hbe
    clear hj h1 h2 hbe
    by_cases hlt : j < n
    · have hx : j < xs.length := by rw [HL.out]; exact hlt
      obtain ⟨b, o, rfl, hc, _⟩ := H.out.at_ hx
      have hk := refKeys (xs[j].1) key (w.drewN nd) (HZ.out _ (List.getElem_mem hx))
      have HK := Lib.hid hk
      clear hk
      by_cases hp : 0 ≤ cmpS xs[j].1 key
      · obtain ⟨e1, e2⟩ := find_at hx hp
        have hr1 : (findR xs key : Int) = j := by have := H1.out; omega
        have hr2 : foundR xs key = decide (cmpS xs[j].1 key = 0) := by rw [H2.out, e2]
        have HR1 := Lib.hid hr1
        have HR2 := Lib.hid hr2
        clear e1 e2 hr1 hr2
        generalize xs[j].1 = kj at *
        go_wp2_with fail
        refine HK.out.mono ?_
        rintro e w' ⟨rfl, nd2, rfl⟩
        go_wp2_with fail
        go_ret2
        exact ⟨by rw [HR1.out, HR2.out]; rfl, below_drewN (Below.refl _ _) _⟩
      · obtain ⟨e1, e2⟩ := find_on hx hp
        have hr1 : findR xs key = j + 1 + findR (xs.drop (j + 1)) key := by rw [H1.out, e1]; omega
        have hr2 : foundR xs key = foundR (xs.drop (j + 1)) key := by rw [H2.out, e2]
        have HR1 := Lib.hid hr1
        have HR2 := Lib.hid hr2
        clear e1 e2 hr1 hr2
        generalize xs[j].1 = kj at *
        go_wp2_with fail
        refine HK.out.mono ?_
        rintro e w' ⟨rfl, nd2, rfl⟩
        go_wp2_with fail
        go_roundg (n - (j + 1))
        case measure => have := HJ.out; have := HL.out; omega
        case rel => exact ⟨j + 1, nd + nd2, by have := HL.out; omega, by go_num, HR1.out, HR2.out, rfl⟩
    · have he : j = xs.length := by have := HJ.out; have := HL.out; omega
      have h1 : findR xs key = xs.length := by rw [H1.out, he, List.drop_length]; rfl
      have h2 : foundR xs key = false := by rw [H2.out, he, List.drop_length]; rfl
      have h3 : (findR xs key : Int) = (n : Int) := by rw [h1, HL.out]
      have H3 := Lib.hid h3
      have H4 := Lib.hid h2
      clear h1 h2 he h3
      go_wp2_with fail
      go_ret2
      exact ⟨by rw [H3.out, H4.out]; rfl, HBE.out⟩
def TallRel (n : Nat) (w : World) (k : Nat) (x h : Value) (wr : World) : Prop := ∃ g : Nat, x = .int .i64 (k : Int) ∧ h = .int .i64 (g : Int) ∧ g + thirds k = thirds n + 2 ∧ k ≤ n ∧ w = wr
set_option maxHeartbeats 400000 in
theorem tall_ (n : Nat) (hn : n ≤ 100000) (w : World) : Calls Try.prog 14 #[.int .i64 (n : Int)] w fun e w' => e = .returned (.int .i64 ((thirds n + 2 : Nat) : Int)) ∧ w = w' := by
  obtain ⟨z, hz⟩ : ∃ z, thirds n + 2 = z := ⟨_, rfl⟩
  have hzl : z ≤ 1000000 := by have := thirds_le n; omega
  rw [hz]
  have HZ := Lib.hid hz
  clear hz
  go_enter Try.func14, Try.ntmps14
  go_wp2_with fail
  go_loopg [0, 3] n (fun k x h wr => TallRel n w k x h wr)
  case atStart => exact ⟨2, rfl, rfl, by omega, Nat.le_refl _, rfl⟩
  case round =>
    obtain ⟨g, rfl, rfl, hg, hle, rfl⟩ := hrel
    have HG := Lib.hid hg
    have hgl : g ≤ 1000000 := by have := HZ.out; omega
    clear hg
    by_cases h0 : gk = 0
    · subst h0
      have he : g = z := by have := HG.out; have := HZ.out; rw [thirds_zero] at *; omega
      have HE := Lib.hid he
      clear he
      go_wp2_with fail
      go_ret
      exact ⟨by rw [← HE.out]; rfl, rfl⟩
    · have hpos : 0 < gk := by omega
      have hdv : ((gk : Int)).tdiv 3 = ((gk / 3 : Nat) : Int) := by
        rw [Int.tdiv_eq_ediv_of_nonneg (by omega)]; omega
      have hst : g + 1 + thirds (gk / 3) = thirds n + 2 := by have := HG.out; rw [thirds_pos h0] at this; omega
      have HST := Lib.hid hst
      clear hst
      go_wp2_with fail
      go_roundg (gk / 3)
      case measure => omega
      case rel =>
        refine ⟨g + 1, ?_, ?_, HST.out, by omega, rfl⟩
        · first | rfl | (congr 1; omega)
        · go_num
set_option maxHeartbeats 2000000 in
theorem ref_put {w : World} {K : Nat → Prop} {A : Option Addr} {n c : Nat} {xs : List Rw} (h : Rws w K A xs) (hl : xs.length = n) (hn : n ≤ 100000) (hc : n ≤ c) (hz : ∀ r ∈ xs, r.1.size ≤ maxLen) (r : Rw) :
    Calls Try.prog 9 #[.slice A n c, .agg #[.string r.1, .string r.2]] w fun e w' => ∃ v, e = .returned v ∧ NewR w (putR xs r).length (putR xs r) v w' := by
  obtain ⟨k, v⟩ := r
  have hb0 := alloc_below w (.cells #[.string k, .string v] 29)
  have HB0 := Lib.hid hb0
  have hB := Blk.new w 29 #[.string k, .string v]
  have q0 := hB.cell 0
  have q1 := hB.cell 1
  simp only [List.getElem?_toArray, List.getElem?_cons_succ, List.getElem?_cons_zero] at q0 q1
  have hbw : w.heap.size < (w.alloc (.cells #[.string k, .string v] 29)).heap.size := hB.lt
  have H := Lib.hid (h.below hb0)
  have HL := Lib.hid hl
  have hf1 := findR_le xs k
  have hf2 := behR_le xs k
  have hpb := put_beh xs (k, v)
  simp only at hpb
  unfold behR at hf2 hpb
  rw [hl] at hf1 hf2
  have hfind := fun W (hW : Rws W K A xs) => ref_find (c := c) hW hl (by omega) hz k
  obtain ⟨fd, hfd⟩ : ∃ fd, foundR xs k = fd := ⟨_, rfl⟩
  rw [hfd] at hf2 hpb hfind
  have HPB := Lib.hid hpb
  have HFI := Lib.hid hfind
  clear h hl hb0 hpb hfd hfind hB hz
  generalize findR xs k = q at *
  have hd1 := fun W => head_rows A n c q (by omega) W
  have hlq : (xs.take q).length = q := by rw [List.length_take, HL.out]; omega
  have HLQ := Lib.hid hlq
  clear hlq
  cases fd
  · obtain ⟨m2, hm2⟩ : ∃ m, n - q = m := ⟨_, rfl⟩
    obtain ⟨A2, hd2, hr2, _⟩ := tail_rows H.out HL.out hc (show q ≤ n by omega) hm2
    have HR2 := Lib.hid hr2
    have HPB2 : Hid (putR xs (k, v) = xs.take q ++ [(k, v)] ++ xs.drop q) := HPB.out
    have hlm : (xs.drop q).length = m2 := by rw [List.length_drop, HL.out]; exact hm2
    have HLM := Lib.hid hlm
    have hqm : q + 1 + m2 ≤ 200000 := by omega
    clear hr2 hlm hm2
    go_enter Try.func9, Try.ntmps9
    go_wp2_with fail
    generalize w.alloc (.cells #[.string k, .string v] 29) = wA at *
    refine (HFI.out _ H.out).mono ?_
    rintro e w1 ⟨rfl, hb1⟩
    have HB1 := Lib.hid hb1
    have q01 := (cell_of_heap (hb1.block _ hbw) 0).trans q0
    have q11 := (cell_of_heap (hb1.block _ hbw) 1).trans q1
    have hbw1 : w.heap.size < w1.heap.size := Nat.lt_of_lt_of_le hbw hb1.size
    have HQ := Lib.hid ((H.out.below hb1).take q)
    have HTL := Lib.hid (HR2.out.below hb1)
    clear hb1
    go_wp2_with fail
    go_region_law (first
      | (refine step_append_rws rfl (.tmp 18) (.tmp 20) rfl rfl rfl HO5.out rfl HS5.out rfl (by show q + 1 ≤ 1000000; omega) HB5.out.size ?_; intro v6 W6 ho6 hg6; have HO6 := Lib.hid ho6; have HB6 : Hid (Below w1.heap.size w1 W6) := HB5.out.trans (grown_base HO5.out hg6 HB5.out.size); clear ho6 hg6)
      | (refine step_append_rws rfl (.tmp 18) (.tmp 20) rfl rfl rfl (own_below HO5.out (alloc_below W5 (.cells #[.string k, .string v] 29))) rfl (rws_one W5 (k, v)) rfl (by show q + 1 ≤ 1000000; omega) (Nat.le_trans HB5.out.size (alloc_below W5 (.cells #[.string k, .string v] 29)).size) ?_; intro v6 W6 ho6 hg6; have HO6 := Lib.hid ho6; have HB6 : Hid (Below w1.heap.size w1 W6) := (HB5.out.alloc HB5.out.size _).trans (grown_base (own_below HO5.out (alloc_below W5 (.cells #[.string k, .string v] 29))) hg6 (Nat.le_trans HB5.out.size (alloc_below W5 (.cells #[.string k, .string v] 29)).size)); clear ho6 hg6)
      | (refine step_append_rws (v := .slice none 0 0) (n := 0) (ys := []) rfl (.const (.slice none 0 0)) (.tmp 17) rfl rfl rfl (World.ownsRow_nil (w1.alloc (.cells #[.string k, .string v] 29)).drew w1.heap.size _ 2) rfl (HQ.out.below (alloc_below w1 (.cells #[.string k, .string v] 29)).drew) HLQ.out (by omega) (alloc_below w1 (.cells #[.string k, .string v] 29)).size ?_; intro v5 W5 ho5 hg5; rw [List.nil_append, Nat.zero_add] at ho5; have HO5 := Lib.hid ho5; have HB5 : Hid (Below w1.heap.size w1 W5) := (alloc_below w1 (.cells #[.string k, .string v] 29)).drew.trans ((Below.refl _ _).grown hg5 (alloc_below w1 (.cells #[.string k, .string v] 29)).size (fun q hq => by simp [Value.ownBlock] at hq)); have HS5 := Lib.hid ((rws_one w1 (k, v)).below ((Below.refl (w1.alloc (.cells #[.string k, .string v] 29)).heap.size (w1.alloc (.cells #[.string k, .string v] 29))).drew.trans ((Below.refl _ _).grown hg5 (Nat.le_refl _) (fun q hq => by simp [Value.ownBlock] at hq)))); clear ho5 hg5)
      | (refine step_append_rws (v := .slice none 0 0) (n := 0) (ys := []) rfl (.const (.slice none 0 0)) (.tmp 17) rfl rfl rfl (World.ownsRow_nil w1.drew w1.heap.size _ 2) rfl (HQ.out.below (Below.refl _ _).drew) HLQ.out (by omega) (Nat.le_refl _) ?_; intro v5 W5 ho5 hg5; rw [List.nil_append, Nat.zero_add] at ho5; have HO5 := Lib.hid ho5; have HB5 : Hid (Below w1.heap.size w1 W5) := (Below.refl w1.heap.size w1).drew.trans ((Below.refl _ _).grown hg5 (Nat.le_refl _) (fun q hq => by simp [Value.ownBlock] at hq)); have q05 := (cell_of_heap (HB5.out.block _ hbw1) 0).trans q01; have q15 := (cell_of_heap (HB5.out.block _ hbw1) 1).trans q11; clear ho5 hg5))
    all_goals
      obtain ⟨v7, W7, hap7, ho7, hg7, _⟩ := append_rws HO6.out (HTL.out.below HB6.out) HLM.out (c - q) (by omega) HB6.out.size
      have hb7 := HB6.out.trans (grown_base HO6.out hg7 HB6.out.size)
      have hb17 := HB0.out.trans ((HB1.out.trans (hb7.mono HB1.out.size)).mono HB0.out.size)
      obtain ⟨A7, c7, rfl, hr7, hl7, h71, h72, h73⟩ := own_rws ho7
      have HR7 := Lib.hid hr7
      have HL7 := Lib.hid hl7
      have H73 := Lib.hid h73
      have HB7 := Lib.hid hb17
      clear ho7 hg7 hb7 hb17 hr7 hl7 h73
      go_wp2_with (at_builtin; refine wpList_append_run rfl (.tmp 25) (.tmp 28) 22 22 rfl _ _ rfl rfl hap7 ?_)
      go_ret
      refine ⟨_, rfl, ?_⟩
      rw [HPB2.out, HL7.out]
      exact ⟨A7, c7, rfl, HR7.out.more (fun i _ hi => Nat.le_trans (Nat.le_trans HB0.out.size HB1.out.size) hi), h71, h72, H73.out, HB7.out⟩
  · simp only [if_true] at hf2
    obtain ⟨m2, hm2⟩ : ∃ m, n - (q + 1) = m := ⟨_, rfl⟩
    obtain ⟨A2, hd2, hr2, _⟩ := tail_rows H.out HL.out hc (show (q + 1) ≤ n by omega) hm2
    have HR2 := Lib.hid hr2
    have HPB2 : Hid (putR xs (k, v) = xs.take q ++ [(k, v)] ++ xs.drop (q + 1)) := HPB.out
    have hlm : (xs.drop (q + 1)).length = m2 := by rw [List.length_drop, HL.out]; exact hm2
    have HLM := Lib.hid hlm
    have hqm : q + 1 + m2 ≤ 200000 := by omega
    have hd2' : ∀ W, (Instr.slice 22 (.slice A n c) (some (.int .i64 ((q : Int) + 1))) none none).run Try.prog W = .ok (.slice A2 m2 (c - (q + 1))) W := hd2
    clear hd2
    clear hr2 hlm hm2
    go_enter Try.func9, Try.ntmps9
    go_wp2_with fail
    generalize w.alloc (.cells #[.string k, .string v] 29) = wA at *
    refine (HFI.out _ H.out).mono ?_
    rintro e w1 ⟨rfl, hb1⟩
    have HB1 := Lib.hid hb1
    have q01 := (cell_of_heap (hb1.block _ hbw) 0).trans q0
    have q11 := (cell_of_heap (hb1.block _ hbw) 1).trans q1
    have hbw1 : w.heap.size < w1.heap.size := Nat.lt_of_lt_of_le hbw hb1.size
    have HQ := Lib.hid ((H.out.below hb1).take q)
    have HTL := Lib.hid (HR2.out.below hb1)
    clear hb1
    go_wp2_with fail
    go_region_law (first
      | (refine step_append_rws rfl (.tmp 18) (.tmp 20) rfl rfl rfl HO5.out rfl HS5.out rfl (by show q + 1 ≤ 1000000; omega) HB5.out.size ?_; intro v6 W6 ho6 hg6; have HO6 := Lib.hid ho6; have HB6 : Hid (Below w1.heap.size w1 W6) := HB5.out.trans (grown_base HO5.out hg6 HB5.out.size); clear ho6 hg6)
      | (refine step_append_rws rfl (.tmp 18) (.tmp 20) rfl rfl rfl (own_below HO5.out (alloc_below W5 (.cells #[.string k, .string v] 29))) rfl (rws_one W5 (k, v)) rfl (by show q + 1 ≤ 1000000; omega) (Nat.le_trans HB5.out.size (alloc_below W5 (.cells #[.string k, .string v] 29)).size) ?_; intro v6 W6 ho6 hg6; have HO6 := Lib.hid ho6; have HB6 : Hid (Below w1.heap.size w1 W6) := (HB5.out.alloc HB5.out.size _).trans (grown_base (own_below HO5.out (alloc_below W5 (.cells #[.string k, .string v] 29))) hg6 (Nat.le_trans HB5.out.size (alloc_below W5 (.cells #[.string k, .string v] 29)).size)); clear ho6 hg6)
      | (refine step_append_rws (v := .slice none 0 0) (n := 0) (ys := []) rfl (.const (.slice none 0 0)) (.tmp 17) rfl rfl rfl (World.ownsRow_nil (w1.alloc (.cells #[.string k, .string v] 29)).drew w1.heap.size _ 2) rfl (HQ.out.below (alloc_below w1 (.cells #[.string k, .string v] 29)).drew) HLQ.out (by omega) (alloc_below w1 (.cells #[.string k, .string v] 29)).size ?_; intro v5 W5 ho5 hg5; rw [List.nil_append, Nat.zero_add] at ho5; have HO5 := Lib.hid ho5; have HB5 : Hid (Below w1.heap.size w1 W5) := (alloc_below w1 (.cells #[.string k, .string v] 29)).drew.trans ((Below.refl _ _).grown hg5 (alloc_below w1 (.cells #[.string k, .string v] 29)).size (fun q hq => by simp [Value.ownBlock] at hq)); have HS5 := Lib.hid ((rws_one w1 (k, v)).below ((Below.refl (w1.alloc (.cells #[.string k, .string v] 29)).heap.size (w1.alloc (.cells #[.string k, .string v] 29))).drew.trans ((Below.refl _ _).grown hg5 (Nat.le_refl _) (fun q hq => by simp [Value.ownBlock] at hq)))); clear ho5 hg5)
      | (refine step_append_rws (v := .slice none 0 0) (n := 0) (ys := []) rfl (.const (.slice none 0 0)) (.tmp 17) rfl rfl rfl (World.ownsRow_nil w1.drew w1.heap.size _ 2) rfl (HQ.out.below (Below.refl _ _).drew) HLQ.out (by omega) (Nat.le_refl _) ?_; intro v5 W5 ho5 hg5; rw [List.nil_append, Nat.zero_add] at ho5; have HO5 := Lib.hid ho5; have HB5 : Hid (Below w1.heap.size w1 W5) := (Below.refl w1.heap.size w1).drew.trans ((Below.refl _ _).grown hg5 (Nat.le_refl _) (fun q hq => by simp [Value.ownBlock] at hq)); have q05 := (cell_of_heap (HB5.out.block _ hbw1) 0).trans q01; have q15 := (cell_of_heap (HB5.out.block _ hbw1) 1).trans q11; clear ho5 hg5))
    all_goals
      obtain ⟨v7, W7, hap7, ho7, hg7, _⟩ := append_rws HO6.out (HTL.out.below HB6.out) HLM.out (c - (q + 1)) (by omega) HB6.out.size
      have hb7 := HB6.out.trans (grown_base HO6.out hg7 HB6.out.size)
      have hb17 := HB0.out.trans ((HB1.out.trans (hb7.mono HB1.out.size)).mono HB0.out.size)
      obtain ⟨A7, c7, rfl, hr7, hl7, h71, h72, h73⟩ := own_rws ho7
      have HR7 := Lib.hid hr7
      have HL7 := Lib.hid hl7
      have H73 := Lib.hid h73
      have HB7 := Lib.hid hb17
      clear ho7 hg7 hb7 hb17 hr7 hl7 h73
      go_wp2_with (at_builtin; refine wpList_append_run rfl (.tmp 25) (.tmp 28) 22 22 rfl _ _ rfl rfl hap7 ?_)
      go_ret
      refine ⟨_, rfl, ?_⟩
      rw [HPB2.out, HL7.out]
      exact ⟨A7, c7, rfl, HR7.out.more (fun i _ hi => Nat.le_trans (Nat.le_trans HB0.out.size HB1.out.size) hi), h71, h72, H73.out, HB7.out⟩
end Go.Proofs.Ytocaaebmelhhnaa
