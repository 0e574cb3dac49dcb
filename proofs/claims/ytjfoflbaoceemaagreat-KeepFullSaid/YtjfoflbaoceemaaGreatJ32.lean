/- . . . -/
import Derived.Test.YtjfoflbaoceemaaGreatJ15
import Derived.Test.YtjfoflbaoceemaaGreatJ21
import Derived.Test.YtjfoflbaoceemaaGreatJ23
import Derived.Test.YtjfoflbaoceemaaGreatJ31
import Derived.Test.YtjfoflbaoceemaaGreatJ19
set_option maxRecDepth 4000
namespace Go.Proofs.YtjfoflbaoceemaaGreat
theorem more1_fits {r : Int} (h : -9223372036854775808 ≤ r ∧ r ≤ 9223372036854775807) : -9223372036854775808 ≤ more1 r ∧ more1 r ≤ 9223372036854775807 := by
  unfold more1; split <;> omega
theorem tried_fits {m : Mg} (h : m.fits) : m.tried.fits := ⟨h.1, h.2.1, more1_fits h.2.2⟩
theorem off_fits {m : Mg} (h : m.fits) (b : Bool) : ({ m with claimed := b } : Mg).fits := h
theorem mright_fits {m : Mg} (h : m.right = true) : m.fits := by
  simp only [Mg.right, idB, priB, retryB, Bool.and_eq_true, decide_eq_true_eq] at h
  refine ⟨?_, ?_, ?_⟩ <;> omega
theorem free_fits {o : Ob} (h : o.fits) (id : Int) (t : Bool) : (freeO o id t).fits := by
  unfold freeO
  split
  · rename_i m hm
    have hmem : m ∈ o.msgs := List.mem_of_getElem? hm
    split
    · exact h
    · split
      · exact ⟨fun x hx => by
          rcases List.mem_or_eq_of_mem_set hx with hx | rfl
          · exact h.1 x hx
          · exact off_fits (h.1 m hmem) false, h.2⟩
      · split
        · exact ⟨fun x hx => h.1 x (List.mem_of_mem_eraseIdx hx), fun x hx => by
            rcases List.mem_append.1 hx with hx | hx
            · exact h.2 x hx
            · rw [List.mem_singleton] at hx
              subst hx
              exact tried_fits (h.1 m hmem)⟩
        · exact ⟨fun x hx => by
            rcases List.mem_or_eq_of_mem_set hx with hx | rfl
            · exact h.1 x hx
            · exact tried_fits (h.1 m hmem), h.2⟩
  · exact h
theorem free_short {o : Ob} {n : Nat} (h : o.short n) (id : Int) (t : Bool) : (freeO o id t).short (n + 1) := by
  obtain ⟨h1, h2, h3⟩ := h
  unfold freeO
  split
  · split
    · exact ⟨by omega, by omega, by omega⟩
    · split
      · exact ⟨by show o.rows.length ≤ _; omega, by rw [List.length_set]; omega, by show o.dead.length ≤ _; omega⟩
      · split
        · exact ⟨by show o.rows.length ≤ _; omega, by rw [List.length_eraseIdx]; split <;> omega, by rw [List.length_append]; show _ + 1 ≤ _; omega⟩
        · exact ⟨by show o.rows.length ≤ _; omega, by rw [List.length_set]; omega, by show o.dead.length ≤ _; omega⟩
  · exact ⟨by omega, by omega, by omega⟩
theorem mem_addM {l : List Mg} {m x : Mg} (h : x ∈ addM l m) : x ∈ l ∨ x = m := by
  unfold addM at h
  rcases List.mem_append.1 h with h | h
  · rcases List.mem_append.1 h with h | h
    · exact .inl (List.mem_of_mem_take h)
    · rw [List.mem_singleton] at h
      exact .inr h
  · exact .inl (List.mem_of_mem_drop h)
theorem mem_claimM {l : List Mg} {id : Int} {on : Bool} {x : Mg} (h : x ∈ claimM l id on) : x ∈ l ∨ ∃ m ∈ l, x = { m with claimed := on } := by
  unfold claimM at h
  obtain ⟨k, hk, rfl⟩ := List.getElem_of_mem h
  have hk2 : k < l.length := by rw [List.length_modify] at hk; exact hk
  rw [List.getElem_modify]
  split
  · exact .inr ⟨l[k], List.getElem_mem hk2, rfl⟩
  · exact .inl (List.getElem_mem hk2)
theorem within_fits {next : Int} {l : List Ob} {o : Ob} {e : Ef} (h : o.fits) (he : e.right = true) : (withinO next l o e).2.fits := by
  unfold withinO
  split
  · exact h
  split
  · split
    · exact h
    · exact h
  split
  · rename_i h4
    split
    · exact h
    split
    · exact h
    · have hr : e.msg.right = true := by
        simp only [Ef.right, Bool.and_eq_true] at he
        have hg := he.1
        simp only [Ef.good, h4] at hg
        simp at hg
        exact hg.2
      exact ⟨fun x hx => by
        rcases mem_addM hx with hx | rfl
        · exact h.1 x hx
        · exact mright_fits hr, h.2⟩
  split
  · split
    · exact ⟨fun x hx => h.1 x (by unfold cutM at hx; exact List.mem_of_mem_eraseIdx hx), h.2⟩
    · exact h
  split
  · split
    · split
      · exact ⟨fun x hx => by
          rcases mem_claimM hx with hx | ⟨m, hm, rfl⟩
          · exact h.1 x hx
          · exact h.1 m hm, h.2⟩
      · exact h
    · exact h
  split
  · split
    · exact free_fits h _ _
    · exact h
  · exact h
theorem within_short {next : Int} {l : List Ob} {o : Ob} {e : Ef} {n : Nat} (h : o.short n) : (withinO next l o e).2.short (n + 1) := by
  have hk : o.short (n + 1) := ⟨by have := h.1; omega, by have := h.2.1; omega, by have := h.2.2; omega⟩
  obtain ⟨h1, h2, h3⟩ := h
  unfold withinO
  split
  · exact ⟨by rw [put_len]; split <;> omega, by show o.msgs.length ≤ _; omega, by show o.dead.length ≤ _; omega⟩
  split
  · split
    · exact ⟨by rw [cut_len]; split <;> omega, by show o.msgs.length ≤ _; omega, by show o.dead.length ≤ _; omega⟩
    · exact hk
  split
  · split
    · exact hk
    split
    · exact hk
    · exact ⟨by show o.rows.length ≤ _; omega, by rw [add_len]; omega, by show o.dead.length ≤ _; omega⟩
  split
  · split
    · exact ⟨by show o.rows.length ≤ _; omega, by unfold cutM; rw [List.length_eraseIdx]; split <;> omega, by show o.dead.length ≤ _; omega⟩
    · exact hk
  split
  · split
    · split
      · exact ⟨by show o.rows.length ≤ _; omega, by unfold claimM; rw [List.length_modify]; omega, by show o.dead.length ≤ _; omega⟩
      · exact hk
    · exact hk
  split
  · split
    · exact free_short ⟨h1, h2, h3⟩ _ _
    · exact hk
  · exact hk
theorem make_mem {l : List Ob} {e : Ef} {o : Ob} (h : o ∈ (makeO l e).2) : o ∈ l ∨ o = ⟨e.obj, e.n, e.limit, [], [], []⟩ := by
  unfold makeO at h
  split at h
  · exact .inl h
  split at h
  · exact .inl h
  · rcases List.mem_append.1 h with h | h
    · exact .inl (List.mem_of_mem_take h)
    · rcases List.mem_cons.1 h with h | h
      · exact .inr h
      · exact .inl (List.mem_of_mem_drop h)
theorem make_len {l : List Ob} {e : Ef} (h : l.length ≤ 20) : (makeO l e).2.length ≤ 20 := by
  unfold makeO
  split
  · exact h
  split
  · exact h
  · rename_i h2
    have : spotO l e.obj ≤ l.length := List.findIdx_le_length
    simp only [List.length_append, List.length_take, List.length_cons, List.length_drop]
    omega
structure Bears (n : Nat) (s : St) : Prop where
  len : s.objs.length ≤ 20
  short : ∀ o ∈ s.objs, o.short n
  fits : ∀ o ∈ s.objs, o.fits
theorem Bears.more {n m : Nat} {s : St} (h : Bears n s) (hm : n ≤ m) : Bears m s := ⟨h.len, fun o ho => by obtain ⟨a, b, c⟩ := h.short o ho; exact ⟨by omega, by omega, by omega⟩, h.fits⟩
theorem Bears.one {n : Nat} {s : St} (h : Bears n s) (e : Ef) : Bears (n + 1) (oneS s e).2 := by
  have hk := h.more (Nat.le_succ n)
  unfold oneS
  split
  · exact hk
  rename_i hr
  have hr2 : e.right = true := by simpa using hr
  split
  · exact ⟨make_len h.len, fun o ho => by
      rcases make_mem ho with ho | rfl
      · exact hk.short o ho
      · exact ⟨Nat.zero_le _, Nat.zero_le _, Nat.zero_le _⟩, fun o ho => by
      rcases make_mem ho with ho | rfl
      · exact h.fits o ho
      · exact ⟨(fun x hx => by cases hx), (fun x hx => by cases hx)⟩⟩
  split
  · split
    · exact hk
    · exact ⟨h.len, hk.short, h.fits⟩
  split
  · exact hk
  · rename_i o hg
    have hmem : o ∈ s.objs := List.mem_of_getElem? hg
    split
    · exact ⟨by rw [List.length_set]; exact h.len, fun x hx => by
        rcases List.mem_or_eq_of_mem_set hx with hx | rfl
        · exact hk.short x hx
        · exact within_short (h.short o hmem), fun x hx => by
        rcases List.mem_or_eq_of_mem_set hx with hx | rfl
        · exact h.fits x hx
        · exact within_fits (h.fits o hmem) hr2⟩
    · exact hk
theorem run_at {s : St} {l : List Ef} {j : Nat} (h : j < l.length) : runS s (l.drop j) = if (oneS s l[j]).1 = 0 then runS (oneS s l[j]).2 (l.drop (j + 1)) else ((oneS s l[j]).1, St.zero) := by
  rw [List.drop_eq_getElem_cons h, runS]
theorem run_end {s : St} {l : List Ef} {j : Nat} (h : l.length ≤ j) : runS s (l.drop j) = (0, s) := by
  rw [List.drop_of_length_le h, runS]
theorem right_len {s : St} (h : rightS s = true) : s.objs.length ≤ 20 := by
  simp only [rightS, Bool.and_eq_true, decide_eq_true_eq] at h
  exact h.1.2.2
end Go.Proofs.YtjfoflbaoceemaaGreat
namespace Go.Proofs.YtjfoflbaoceemaaGreat
open Go.RowKit
def Applied (w : World) (p : Int × St) (e : Ending) (w' : World) : Prop :=
  ∃ (s' : Sv) (xs' : List Oc), e = .returned (.tuple #[.agg #[.int .i64 p.2.next, .slice s'.a s'.n s'.c], .int .i64 p.1]) ∧ ObsAt w' (fun i => w.heap.size ≤ i) s' xs' ∧ obsOf xs' = p.2.objs ∧ Below w.heap.size w w'
theorem applied_zero {w w' : World} {n : Int} (hb : Below w.heap.size w w') : Applied w (n, St.zero) (.returned (.tuple #[.agg #[.int .i64 0, .slice none 0 0], .int .i64 n])) w' :=
  ⟨⟨none, 0, 0⟩, [], rfl, ⟨SlK.none_ _ _ _, fun x hx => by cases hx⟩, rfl, hb⟩
structure ApS (w : World) (b : Nat) (next : Int) (s : Sv) (xs : List Oc) (W : World) : Prop where
  bel : Below w.heap.size w W
  res : Blk W (w.heap.size + 1) 54 #[.int .i64 0, .slice none 0 0]
  st : OwnSt (w.heap.size + 2) b next s xs W
theorem ApS.step {w : World} {b : Nat} {next : Int} {s : Sv} {xs : List Oc} {W W' : World} (h : ApS w b next s xs W) (k : Below W.heap.size W W') : ApS w b next s xs W' :=
  ⟨h.bel.trans (k.mono h.bel.size), h.res.below k h.res.lt, h.st.below k⟩
theorem ApS.last {w : World} {b : Nat} {next : Int} {s : Sv} {xs : List Oc} {W : World} (h : ApS w b next s xs W) (n : Int) :
    Applied w (n, ⟨next, obsOf xs⟩) (.returned (.tuple #[.agg #[.int .i64 next, .slice s.a s.n s.c], .int .i64 n])) ((W.setCell ⟨w.heap.size + 1, 0, none⟩ (.int .i64 next)).setCell ⟨w.heap.size + 1, 1, none⟩ (.slice s.a s.n s.c)) := by
  have hk : Keep (fun i _ => i ≠ w.heap.size + 1) W ((W.setCell ⟨w.heap.size + 1, 0, none⟩ (.int .i64 next)).setCell ⟨w.heap.size + 1, 1, none⟩ (.slice s.a s.n s.c)) :=
    ((Keep.refl W).setCell (p := ⟨w.heap.size + 1, 0, none⟩) (fun _ _ h => h rfl) _).setCell (p := ⟨w.heap.size + 1, 1, none⟩) (fun _ _ h => h rfl) _
  have hn : s.val.ownBlock ≠ some (w.heap.size + 1) := own_out h.st.own (by omega)
  have ho := own_far (p := ⟨w.heap.size + 1, 1, none⟩) (own_far (p := ⟨w.heap.size + 1, 0, none⟩) h.st.own hn (.int .i64 next)) hn (.slice s.a s.n s.c)
  obtain ⟨a1, a2, a3, a4⟩ := own_cap ho
  exact ⟨s, xs, rfl, ⟨⟨a1, (own_lst2 ho).more fun i _ hi => by omega, a2, a3, a4⟩, fun x hx => ((h.st.rows x hx).keep hk fun i _ _ hi => by have := hi.2.2; omega).more fun i _ hi => by have := hi.2.2; omega⟩, rfl, (h.bel.setCell (by show w.heap.size ≤ w.heap.size + 1; omega) _).setCell (by show w.heap.size ≤ w.heap.size + 1; omega) _⟩
theorem Cpd.own {w W W' : World} {next : Int} {s : Sv} {xs : List Oc} (ho : OwnO W' W.heap.size s.val xs) (hx : ∀ x ∈ xs, OcK W' (fun i => W.heap.size + 2 ≤ i ∧ s.val.ownBlock ≠ some i) x) (hb : Below W.heap.size W W') (hW : w.heap.size + 2 ≤ W.heap.size) (hbel : Below w.heap.size w W)
    (hr : Blk W (w.heap.size + 1) 54 #[.int .i64 0, .slice none 0 0]) : ApS w W'.heap.size next s xs (W'.alloc (.cells #[.int .i64 next, .slice s.a s.n s.c] 54)) := by
  have k := alloc_below W' (.cells #[.int .i64 next, .slice s.a s.n s.c] 54)
  refine ⟨(hbel.trans (hb.mono hbel.size)).trans (k.mono (Nat.le_trans hbel.size hb.size)), (hr.below hb hr.lt).alloc _, Nat.le_trans hW hb.size, Blk.new _ _ _, own_base (own_belowE ho k) hW, fun e => by have := (own_blk ho e).2.1; omega, fun x hxs => ?_⟩
  exact (OcK.more (K' := fun i => i ≠ W'.heap.size ∧ s.val.ownBlock ≠ some i ∧ w.heap.size + 2 ≤ i) (hx x hxs) fun i hi h => ⟨by omega, h.2, by omega⟩).below k
def ApR (w : World) (b : Nat) (l : List Ef) (p : Int × St) (n0 k : Nat) (i : Value) (wr : World) : Prop :=
  ∃ j next s xs, j + k = l.length ∧ i = .int .i64 (j : Int) ∧ ApS w b next s xs wr ∧ p = runS ⟨next, obsOf xs⟩ (l.drop j) ∧ Bears (n0 + j) ⟨next, obsOf xs⟩
structure ShutA (p : Prop) : Prop where out : p
set_option maxHeartbeats 4000000 in
theorem apply_o {w : World} {K : Nat → Prop} {s : Sv} {xs : List Oc} (h : ObsAt w K s xs) (hs : ∀ x ∈ xs, x.o.short 450) (hft : ∀ x ∈ xs, x.o.fits) (next : Int) {K2 : Nat → Prop} {A2 : Option Addr} {n2 c2 : Nat} {l : List Ef} (hl : Lst w K2 eEf A2 l) (hln : l.length = n2) (hn2 : n2 ≤ 50000) :
    Calls Tryz.prog 50 #[.agg #[.int .i64 next, .slice s.a s.n s.c], .slice A2 n2 c2] w (Applied w (applyS ⟨next, obsOf xs⟩ l)) := by
  have k1 := alloc_below w (.cells #[.int .i64 next, .slice s.a s.n s.c] 54)
  have k2 := k1.alloc k1.size (.cells #[.int .i64 0, .slice none 0 0] 54)
  have hbox := (Blk.new w 54 #[.int .i64 next, .slice s.a s.n s.c]).alloc (.cells #[.int .i64 0, .slice none 0 0] 54)
  have hres := Blk.new (w.alloc (.cells #[.int .i64 next, .slice s.a s.n s.c] 54)) 54 #[.int .i64 0, .slice none 0 0]
  rw [show (w.alloc (.cells #[.int .i64 next, .slice s.a s.n s.c] 54)).heap.size = w.heap.size + 1 by simp] at hres
  have hr := fun W (k : Below w.heap.size w W) => right_o (h.below k) hs hft next
  have hsh : ∀ o ∈ obsOf xs, o.short 450 := fun o ho => by
    obtain ⟨x, hx, rfl⟩ := List.mem_map.1 ho
    exact hs x hx
  have hfo : ∀ o ∈ obsOf xs, o.fits := fun o ho => by
    obtain ⟨x, hx, rfl⟩ := List.mem_map.1 ho
    exact hft x hx
  have hcp := fun W (k : Below w.heap.size w W) (hn : xs.length ≤ 20) => copied_o (h.below k) (by omega) (fun x hx => by obtain ⟨a, b, c⟩ := hs x hx; exact ⟨by omega, by omega, by omega⟩) next
  obtain ⟨A, n, c⟩ := s
  obtain ⟨P, hP⟩ : ∃ P, applyS ⟨next, obsOf xs⟩ l = P := ⟨_, rfl⟩
  rw [hP]
  have HK2 := ShutA.mk k2
  have HBOX := ShutA.mk hbox
  have HRES := ShutA.mk hres
  have HR := ShutA.mk hr
  have HCP := ShutA.mk hcp
  have HSH := ShutA.mk hsh
  have HFO := ShutA.mk hfo
  have HL := ShutA.mk hl
  have HLN := ShutA.mk hln
  simp only at HK2 HBOX HRES HR HCP
  by_cases hrt : rightS ⟨next, obsOf xs⟩ = true
  · have hp2 : runS ⟨next, obsOf xs⟩ l = P := by rw [← hP, applyS, if_pos hrt]
    have hlen : xs.length ≤ 20 := by have := right_len hrt; simpa [obsOf] using this
    have HP2 := ShutA.mk hp2
    rw [hrt] at HR
    clear hP hrt hp2 k1 k2 hbox hres hr hcp hsh hfo hl hln h hs hft
    go_enter Tryz.func50, Tryz.ntmps50
    go_wp2_with fail
    refine (HR.out _ HK2.out).mono ?_
    rintro e1 w1 ⟨rfl, hb1⟩
    have HB1 := ShutA.mk (HK2.out.trans (hb1.mono HK2.out.size))
    have HX1 := ShutA.mk (HBOX.out.below hb1 HBOX.out.lt)
    have HY1 := ShutA.mk (HRES.out.below hb1 HRES.out.lt)
    have d0 := HX1.out.cell 0
    have d1 := HX1.out.cell 1
    simp only [List.getElem?_toArray, List.getElem?_cons_zero, List.getElem?_cons_succ] at d0 d1
    clear hb1 HR HK2 HBOX HRES
    go_wp2_with fail
    refine (HCP.out _ HB1.out hlen).mono ?_
    rintro e2 w2 ⟨s', ys, rfl, ho, hx, hy, hb2⟩
    have hap := Cpd.own (w := w) (next := next) ho hx hb2 (by have := HY1.out.lt; omega) HB1.out HY1.out
    have hbr : Bears (450 + 0) ⟨next, obsOf ys⟩ := by rw [hy]; exact ⟨by simpa [obsOf] using hlen, HSH.out, HFO.out⟩
    have hpr : P = runS ⟨next, obsOf ys⟩ (l.drop 0) := by rw [hy, List.drop_zero]; exact HP2.out.symm
    have HAP := ShutA.mk hap
    have HBR := ShutA.mk hbr
    have HPR := ShutA.mk hpr
    obtain ⟨A', n', c'⟩ := s'
    simp only at HAP
    clear ho hx hy hb2 hap hbr hpr HCP HP2 d0 d1 hlen
    go_wp2_with fail
    go_loopg [18] n2 (fun k i wr => ApR w w2.heap.size l P 450 k i wr)
    case atStart => exact ⟨0, next, ⟨A', n', c'⟩, ys, by have := HLN.out; omega, rfl, HAP.out, HPR.out, HBR.out⟩
    case round =>
      obtain ⟨j, nx, s3, zs, hj, rfl, hap, hpr, hbr⟩ := hrel
      have HJ := ShutA.mk hj
      have HAP3 := ShutA.mk hap
      have HPR3 := ShutA.mk hpr
      have HBR3 := ShutA.mk hbr
      clear hj hap hpr hbr HAP HPR HBR
      by_cases hlt : j < n2
      · have hjl : j < l.length := by rw [HLN.out]; exact hlt
        have hjn : (j : Int) < (n2 : Int) := by omega
        obtain ⟨b', o', e', hbb, c0, c1, c2', c3, c4, c5, c6, c7, c8, c9, c10, c11, c12⟩ := (HL.out.below HAP3.out.bel).atEf hjl
        subst e'
        have hzl : zs.length ≤ 20 := by have := HBR3.out.len; simpa [obsOf] using this
        have hzs : ∀ x ∈ zs, x.o.short 100000 := fun x hx => by
          obtain ⟨p1, p2, p3⟩ := HBR3.out.short x.o (List.mem_map_of_mem hx)
          have : j ≤ 50000 := by omega
          exact ⟨by omega, by omega, by omega⟩
        have hzf : ∀ x ∈ zs, x.o.fits := fun x hx => HBR3.out.fits x.o (List.mem_map_of_mem hx)
        have hdo := fun W (k : Below wr.heap.size wr W) => do_o (HAP3.out.step k).st (by omega) hzs hzf l[j]
        have hrun := run_at (s := ⟨nx, obsOf zs⟩) hjl
        rw [← HPR3.out] at hrun
        have hbo := HBR3.out.one l[j]
        generalize l[j] = f at *
        generalize oneS ⟨nx, obsOf zs⟩ f = p at *
        obtain ⟨z, st2⟩ := p
        obtain ⟨k, o, ky, v, en, li, t, ⟨m0, m1, m2, m3, m4, m5⟩⟩ := f
        have k1 := alloc_below wr (.cells (Ef.cells ⟨k, o, ky, v, en, li, t, ⟨m0, m1, m2, m3, m4, m5⟩⟩) 46)
        have hd1 := hdo _ k1
        have hst1 := HAP3.out.step k1
        have HD := ShutA.mk hd1
        have HST := ShutA.mk hst1
        have HRUN := ShutA.mk hrun
        have HBO := ShutA.mk hbo
        simp only [Ef.cells, Ef.val_] at HD HST
        simp only at c0 c1 c2' c3 c4 c5 c6 c7 c8 c9 c10 c11 c12
        clear hzl hzs hzf hdo hrun hbo k1 hd1 hst1 HAP3 HPR3 HBR3 hjl hbb
        go_wp2_with fail
        refine HD.out.mono ?_
        rintro e3 w3 ⟨s4, us, rfl, ho4, hb4, hu4⟩
        have HB3 := ShutA.mk (HST.out.bel.trans (hb4.mono (by omega)))
        have HRES3 := ShutA.mk (HST.out.res.below hb4 (by omega))
        have HO4 := ShutA.mk ho4
        have HU4 := ShutA.mk hu4
        clear ho4 hb4 hu4 HST HD
        by_cases hz : z = 0
        · subst hz
          have hrun := HRUN.out
          rw [if_pos rfl] at hrun
          have HRUN2 := ShutA.mk hrun
          clear hrun HRUN
          go_wp2_with fail
          go_roundg (n2 - (j + 1))
          case measure => have := HJ.out; have := HLN.out; omega
          case rel => exact ⟨j + 1, st2.next, s4, us, by have := HLN.out; have := HJ.out; omega, by go_num, ⟨HB3.out, HRES3.out, HO4.out⟩, by rw [HU4.out]; exact HRUN2.out, by rw [HU4.out]; exact HBO.out⟩
        · have hzb : (z == 0) = false := by simpa using hz
          have hrun := HRUN.out
          simp only [if_neg hz] at hrun
          subst hrun
          clear HRUN hz
          have hb2 := (HRES3.out.set_ 0 (.int .i64 0)).set_ 1 (.slice none 0 0)
          have t0 := hb2.cell 0
          have t1 := hb2.cell 1
          have r0 := HRES3.out.cell 0
          have r1 := HRES3.out.cell 1
          have g0 := HRES3.out.frozen 0
          have g1 := HRES3.out.frozen 1
          simp only [List.getElem?_toArray, List.getElem?_cons_zero, List.getElem?_cons_succ] at r0 r1
          simp only [Array.setIfInBounds] at t0 t1
          have HBE := ShutA.mk ((HB3.out.setCell (p := ⟨w.heap.size + 1, 0, none⟩) (by show w.heap.size ≤ w.heap.size + 1; omega) (.int .i64 0)).setCell (p := ⟨w.heap.size + 1, 1, none⟩) (by show w.heap.size ≤ w.heap.size + 1; omega) (.slice none 0 0))
          clear hb2
          go_wp2_with fail
          refine bodyPost_ret (v := .tuple #[.agg #[.int .i64 0, .slice none 0 0], .int .i64 z]) (by simp [results, Tryz.results50, go_sem, t0, t1]) rfl ?_
          exact applied_zero HBE.out
      · have hjn : ¬ (j : Int) < (n2 : Int) := by omega
        have hpe : P = (0, ⟨nx, obsOf zs⟩) := by rw [HPR3.out]; exact run_end (by rw [HLN.out]; omega)
        subst hpe
        have hlast := HAP3.out.last 0
        have hb2 := (HAP3.out.res.set_ 0 (.int .i64 nx)).set_ 1 (.slice s3.a s3.n s3.c)
        have t0 := hb2.cell 0
        have t1 := hb2.cell 1
        have r0 := HAP3.out.res.cell 0
        have r1 := HAP3.out.res.cell 1
        have g0 := HAP3.out.res.frozen 0
        have g1 := HAP3.out.res.frozen 1
        have b0 := HAP3.out.st.blk.cell 0
        have b1 := HAP3.out.st.blk.cell 1
        simp only [List.getElem?_toArray, List.getElem?_cons_zero, List.getElem?_cons_succ] at r0 r1 b0 b1
        simp only [Array.setIfInBounds] at t0 t1
        have HLAST := ShutA.mk hlast
        clear hlast hb2 HAP3 HPR3 HBR3
        obtain ⟨A3, n3, c3⟩ := s3
        simp only at HLAST t0 t1 b0 b1
        go_wp2_with fail
        refine bodyPost_ret (v := .tuple #[.agg #[.int .i64 nx, .slice A3 n3 c3], .int .i64 0]) (by simp [results, Tryz.results50, go_sem, t0, t1]) rfl ?_
        exact HLAST.out
  · have hp2 : (1, St.zero) = P := by rw [← hP, applyS, if_neg hrt]
    have hrf : rightS ⟨next, obsOf xs⟩ = false := by simpa using hrt
    subst hp2
    rw [hrf] at HR
    clear hP hrt hrf k1 k2 hbox hres hr hcp hsh hfo hl hln h hs hft
    go_enter Tryz.func50, Tryz.ntmps50
    go_wp2_with fail
    refine (HR.out _ HK2.out).mono ?_
    rintro e1 w1 ⟨rfl, hb1⟩
    have HB3 := ShutA.mk (HK2.out.trans (hb1.mono HK2.out.size))
    have HRES3 := ShutA.mk (HRES.out.below hb1 HRES.out.lt)
    clear hb1
    have hb2 := (HRES3.out.set_ 0 (.int .i64 0)).set_ 1 (.slice none 0 0)
    have t0 := hb2.cell 0
    have t1 := hb2.cell 1
    have r0 := HRES3.out.cell 0
    have r1 := HRES3.out.cell 1
    have g0 := HRES3.out.frozen 0
    have g1 := HRES3.out.frozen 1
    simp only [List.getElem?_toArray, List.getElem?_cons_zero, List.getElem?_cons_succ] at r0 r1
    simp only [Array.setIfInBounds] at t0 t1
    have HBE := ShutA.mk ((HB3.out.setCell (p := ⟨w.heap.size + 1, 0, none⟩) (by show w.heap.size ≤ w.heap.size + 1; omega) (.int .i64 0)).setCell (p := ⟨w.heap.size + 1, 1, none⟩) (by show w.heap.size ≤ w.heap.size + 1; omega) (.slice none 0 0))
    clear hb2
    go_wp2_with fail
    refine bodyPost_ret (v := .tuple #[.agg #[.int .i64 0, .slice none 0 0], .int .i64 1]) (by simp [results, Tryz.results50, go_sem, t0, t1]) rfl ?_
    exact applied_zero HBE.out
end Go.Proofs.YtjfoflbaoceemaaGreat
namespace Go.Proofs.YtjfoflbaoceemaaGreat
def freeE (n : ByteArray) (m : Mg) : Ef := ⟨7, n, ⟨#[]⟩, ⟨#[]⟩, m.id, 0, true, Mg.zero⟩
def claimsO (o : Ob) : List Ef := (o.msgs.filter (·.claimed)).map (freeE o.name)
def claimsS (l : List Ob) : List Ef := l.flatMap claimsO
def leftM (limit : Int) (m : Mg) : Option Mg := if m.claimed = true then (if triedB m.retry limit = true then none else some m.tried) else some m
def goneM (limit : Int) (m : Mg) : Option Mg := if m.claimed = true then (if triedB m.retry limit = true then some m.tried else none) else none
def partO (o : Ob) (q : Nat) : Ob := { o with msgs := (o.msgs.take q).filterMap (leftM o.limit) ++ o.msgs.drop q, dead := o.dead ++ (o.msgs.take q).filterMap (goneM o.limit) }
theorem part_zero (o : Ob) : partO o 0 = o := by simp [partO]
theorem part_idle {o : Ob} {q : Nat} (hq : q < o.msgs.length) (hc : o.msgs[q].claimed = false) : partO o (q + 1) = partO o q := by
  have e1 : o.msgs.drop q = o.msgs[q] :: o.msgs.drop (q + 1) := List.drop_eq_getElem_cons hq
  unfold partO
  rw [List.take_succ_eq_append_getElem hq, List.filterMap_append, List.filterMap_append, e1]
  have h1 : [o.msgs[q]].filterMap (leftM o.limit) = [o.msgs[q]] := by simp [leftM, hc]
  have h2 : [o.msgs[q]].filterMap (goneM o.limit) = [] := by simp [goneM, hc]
  rw [h1, h2]
  simp
theorem left_id {limit : Int} {m k : Mg} (h : leftM limit m = some k) : k.id = m.id := by
  unfold leftM at h
  split at h
  · split at h
    · cases h
    · injection h with h; subst h; rfl
  · injection h with h; subst h; rfl
theorem idx_mid {a b : List Mg} {m : Mg} (h : ∀ x ∈ a, x.id ≠ m.id) : (a ++ m :: b).findIdx (isM m.id) = a.length := by
  have hlt : a.length < (a ++ m :: b).length := by simp
  rw [List.findIdx_eq hlt]
  refine ⟨by simp [isM], fun j hj => ?_⟩
  rw [List.getElem_append_left hj]
  have := h _ (List.getElem_mem hj)
  simpa [isM] using this
theorem free_part {o : Ob} {q : Nat} (hq : q < o.msgs.length) (hc : o.msgs[q].claimed = true) (hn : (idsL o.msgs).Nodup) : freeOk (partO o q) o.msgs[q].id = true ∧ freeO (partO o q) o.msgs[q].id true = partO o (q + 1) := by
  have e1 : o.msgs.drop q = o.msgs[q] :: o.msgs.drop (q + 1) := List.drop_eq_getElem_cons hq
  have hm : (partO o q).msgs = (o.msgs.take q).filterMap (leftM o.limit) ++ o.msgs[q] :: o.msgs.drop (q + 1) := by unfold partO; rw [← e1]
  have hid : ∀ x ∈ (o.msgs.take q).filterMap (leftM o.limit), x.id ≠ o.msgs[q].id := fun x hx e => by
    obtain ⟨y, hy, hyx⟩ := List.mem_filterMap.1 hx
    obtain ⟨j, hj, rfl⟩ := List.getElem_of_mem hy
    rw [List.length_take] at hj
    rw [List.getElem_take] at hyx
    have h1 := left_id hyx
    have h2 : (idsL o.msgs)[j]'(by simp [idsL]; omega) = (idsL o.msgs)[q]'(by simp [idsL]; omega) := by simp only [idsL, List.getElem_map]; rw [← h1, e]
    exact List.pairwise_iff_getElem.1 hn j q (by simp [idsL]; omega) (by simp [idsL]; omega) (by omega) h2
  have hix := idx_mid (b := o.msgs.drop (q + 1)) hid
  rw [← hm] at hix
  have hat : (partO o q).msgs[((o.msgs.take q).filterMap (leftM o.limit)).length]? = some o.msgs[q] := by rw [hm, List.getElem?_append_right (Nat.le_refl _), Nat.sub_self]; rfl
  cases ht : triedB o.msgs[q].retry (partO o q).limit
  · obtain ⟨h1, h2⟩ := free_stay hix hat hc ht
    refine ⟨h1, h2.trans ?_⟩
    have ht2 : triedB o.msgs[q].retry o.limit = false := ht
    have l1 : [o.msgs[q]].filterMap (leftM o.limit) = [o.msgs[q].tried] := by simp [leftM, hc, ht2]
    have l2 : [o.msgs[q]].filterMap (goneM o.limit) = [] := by simp [goneM, hc, ht2]
    unfold partO
    rw [List.take_succ_eq_append_getElem hq, List.filterMap_append, List.filterMap_append, l1, l2, e1]
    simp
    rw [e1]
    rfl
  · obtain ⟨h1, h2⟩ := free_dead hix hat hc ht
    refine ⟨h1, h2.trans ?_⟩
    have ht2 : triedB o.msgs[q].retry o.limit = true := ht
    have l1 : [o.msgs[q]].filterMap (leftM o.limit) = [] := by simp [leftM, hc, ht2]
    have l2 : [o.msgs[q]].filterMap (goneM o.limit) = [o.msgs[q].tried] := by simp [goneM, hc, ht2]
    unfold partO
    rw [List.take_succ_eq_append_getElem hq, List.filterMap_append, List.filterMap_append, l1, l2, e1]
    simp [List.eraseIdx_append_of_length_le]
end Go.Proofs.YtjfoflbaoceemaaGreat
