/- A record taken: what add leaves of a log. -/
import Derived.Test.YtmpkgnmijnjddaaLogF
namespace Go.Proofs.Ytmpkgnmijnjddaa
open Go.RowKit
theorem info30 : (Try.prog.info? 30).map (fun i => (i.zero, i.size, i.bytes)) = some (some (.slice none 0 0), 1, 24) := by kernel_rfl
/-- one value behind a row of slices -/
theorem row_append {w : World} {vr : Value} {n : Nat} {vs : List Value} (h : w.ownsRow 0 30 1 vr n vs) (A : Option Addr) (l c : Nat) (hn : n ≤ 100000) :
    ∃ A' c' W', (Builtin.append_ #[37, 37] 37 #[vr, .slice (some ⟨w.heap.size, 0, none⟩) 1 1]).run Try.prog (w.alloc (.cells #[.slice A l c] 30)) = .ok (.slice A' (n + 1) c') W' ∧
      W'.ownsRow 0 30 1 (.slice A' (n + 1) c') (n + 1) (vs ++ [.slice A l c]) ∧ w.heap.size ≤ W'.heap.size ∧ Keep (fun i _ => vr.ownBlock ≠ some i) w W' ∧
      (∀ k, (Value.slice A' (n + 1) c').ownBlock = some k → vr.ownBlock = some k ∨ w.heap.size ≤ k) := by
  obtain ⟨i0, hi, hz0, hz1, hz2⟩ := info_parts info30
  have hb := alloc_below w (.cells #[.slice A l c] 30)
  have hB := Blk.new w 30 #[.slice A l c]
  have ho : (w.alloc (.cells #[.slice A l c] 30)).ownsRow 0 30 1 vr n vs := by
    refine ⟨h.1, ?_⟩
    rcases h.2 with hn | ⟨q, cap, cur, h1, h2, h3, h4⟩
    · exact .inl hn
    · exact .inr ⟨q, cap, cur, h1, h2, (hb.block q (lt_of_some h3)).trans h3, h4⟩
  obtain ⟨v', W', hrun, h2, h3, _, h5⟩ := run_append_own_at (P := Try.prog) (w.alloc (.cells #[.slice A l c] 30)) 0 37 37 30 i0 _ 1 24 Try.underlying37 hi hz0 hz1 hz2 rfl (by omega) vr n vs ho ⟨w.heap.size, 0, none⟩ 1 1 [.slice A l c] rfl (fun j u hu => by
    rw [Addr.add_mid, hB.cell, Nat.zero_add]
    exact (List.getElem?_toArray (xs := [Value.slice A l c])).trans hu) (fun u hu => by simp at hu; subst hu; rfl) (by unfold maxLen; omega) (by omega) (by omega)
  have hv : ∃ A' c', v' = .slice A' (n + 1) c' := by
    rcases h2.2 with ⟨_, h0⟩ | ⟨q, cap, cur, rfl, _⟩
    · omega
    · exact ⟨_, cap, rfl⟩
  obtain ⟨A', c', rfl⟩ := hv
  refine ⟨A', c', W', hrun, h2, Nat.le_trans hb.size h3.size, (Keep.of_below hb).grown h3 (fun q o hq _ hk => hk hq), fun k hk => ?_⟩
  rcases h5 with h5 | h5
  · exact .inl (by rw [← h5]; exact hk)
  · rw [hk] at h5
    injection h5 with h5
    right
    rw [h5]
    simp
theorem rec_post {w W1 : World} {g gd : Nat} {O R : Nat → Prop} {vr : Value} {vs : List Value} {s : St} {L : Lg} (h : LogM w g gd O R vr vs s L) {A : Option Addr} {c : Nat} {b : List UInt8} (hb : Has w (fun i => R i ∧ Ty5 w i) A b) (hc : b.length ≤ c) (hm : c ≤ maxLen) (hA : A = none → c = 0) (hl : b.length ≤ 262144) (hf : L.p + (1 + need b.length) ≤ L.fin)
    {A1 : Option Addr} {c1 : Nat} (ho : W1.ownsRow 0 30 1 (.slice A1 (L.ls.length + 1) c1) (L.ls.length + 1) (vs ++ [.slice A b.length c])) (hk : Keep (fun i _ => vr.ownBlock ≠ some i) w W1)
    (hv : ∀ k, (Value.slice A1 (L.ls.length + 1) c1).ownBlock = some k → vr.ownBlock = some k ∨ w.heap.size ≤ k) (hgr : vr.ownBlock ≠ some g) (z : Int) (hz : z = (L.p : Int) + (1 + (need b.length : Int))) :
    LogAt (((W1.setCell ⟨g, 4, none⟩ (.slice A1 (L.ls.length + 1) c1)).setCell ⟨g, 2, none⟩ (.int .i64 z)).drew) g gd R s (L.add b) ∧ Keep (fun i _ => R i) w (((W1.setCell ⟨g, 4, none⟩ (.slice A1 (L.ls.length + 1) c1)).setCell ⟨g, 2, none⟩ (.int .i64 z)).drew) := by
  have hg1 : Keep (fun i _ => i ≠ g) W1 (((W1.setCell ⟨g, 4, none⟩ (.slice A1 (L.ls.length + 1) c1)).setCell ⟨g, 2, none⟩ (.int .i64 z)).drew) :=
    ((((Keep.refl W1).setCell (fun _ _ hk => hk rfl) _).setCell (fun _ _ hk => hk rfl) _).drew)
  have hk2 : Keep (fun i _ => vr.ownBlock ≠ some i ∧ i ≠ g) w (((W1.setCell ⟨g, 4, none⟩ (.slice A1 (L.ls.length + 1) c1)).setCell ⟨g, 2, none⟩ (.int .i64 z)).drew) :=
    (hk.mono fun i _ _ hi => hi.1).trans (hg1.mono fun i _ _ hi => hi.2)
  have h1 : Blk W1 g 53 #[ptr gd, .int .i64 L.e, .int .i64 (L.p : Int), .int .i64 (L.fin : Int), vr, .bool L.dead] := h.head.keep hk hgr
  have hkR : Keep (fun i _ => R i) w (((W1.setCell ⟨g, 4, none⟩ (.slice A1 (L.ls.length + 1) c1)).setCell ⟨g, 2, none⟩ (.int .i64 z)).drew) := hk2.mono fun i _ _ hi => ⟨(h.rO i hi).2.2.2, (h.rO i hi).2.2.1⟩
  refine ⟨⟨O, .slice A1 (L.ls.length + 1) c1, vs ++ [.slice A b.length c], h.disk.keep (K := fun i _ => vr.ownBlock ≠ some i ∧ i ≠ g) hk2 (fun i _ ho => ⟨fun e => h.orr i e ho, fun e => h.og (e ▸ ho)⟩), fun i hi => Nat.lt_of_lt_of_le (h.hi i hi) hk2.size, ?_, h.og, ?_, ?_, ?_, ?_, ?_, h.fn, ?_, ?_⟩, hkR⟩
  · have := ((h1.set_ 4 (.slice A1 (L.ls.length + 1) c1)).set_ 2 (.int .i64 z)).drew
    have ez : ((L.add b).p : Int) = z := by rw [hz]; simp [Lg.add]
    have el : (L.add b).ls.length = L.ls.length + 1 := by simp [Lg.add]
    rw [ez]
    simpa [Lg.add] using this
  · have el : (L.add b).ls.length = L.ls.length + 1 := by simp [Lg.add]
    rw [el]
    exact ownsRow_keep (K := fun i _ => i ≠ g) ho hg1 fun i _ hi e => by
      subst e
      rcases ho.2 with ⟨hv, _⟩ | ⟨q, cap, cur, hv, _, hq, _⟩
      · rw [hv] at hi; cases hi
      · rw [hv] at hi
        simp [Value.ownBlock] at hi
        subst hi
        exact ne_of_types h1 hq (by decide) rfl
  · intro k hk ho
    rcases hv k hk with e | e
    · exact h.orr k e ho
    · have := h.hi k ho; omega
  · exact (h.held.snoc hb hc hm hA).keep5 (hkR.mono fun _ _ _ hi => hi.1)
  · intro i hi
    obtain ⟨r1, r2, r3, r4⟩ := h.rO i hi
    refine ⟨Nat.lt_of_lt_of_le r1 hk2.size, r2, r3, fun e => ?_⟩
    rcases hv i e with e | e
    · exact r4 e
    · omega
  · exact hf
  · have := h.nl
    simp only [Lg.add, List.length_append, List.length_singleton]; omega
  · intro x hx
    rcases List.mem_append.1 hx with hx | hx
    · exact h.long x hx
    · rw [List.mem_singleton.1 hx]; exact hl
set_option maxHeartbeats 1000000 in
theorem add_rec {w : World} {g gd : Nat} {R : Nat → Prop} {s : St} {L : Lg} (h : LogAt w g gd R s L) {A : Option Addr} {n c : Nat} {b : List UInt8} (hb : Has w (fun i => R i ∧ Ty5 w i) A b) (hn : b.length = n) (hc : n ≤ c) (hm : c ≤ maxLen) (hA : A = none → c = 0) (hl : n ≤ 262144) (hf : L.p + (1 + need n) ≤ L.fin) :
    Calls Try.prog 21 #[ptr g, .slice A n c] w fun e w' => e = .returned (.tuple #[]) ∧ LogAt w' g gd R s (L.add b) ∧ Keep (fun i _ => R i) w w' := by
  subst hn
  obtain ⟨O, vr, vs, h⟩ := h
  obtain ⟨A1, c1, W1, hap, ho1, hs1, hk1, hv1⟩ := row_append h.rows A b.length c (by have := h.nl; have := h.pf; have := h.fn; have := h.ok.many; unfold St.n at *; omega)
  have c4 := h.head.cell 4
  have c2 := h.head.cell 2
  have f4 := h.head.frozen 4
  have f2 := h.head.frozen 2
  simp at c4 c2
  have hgr : vr.ownBlock ≠ some g := fun e => by
    rcases h.rows.2 with ⟨rfl, _⟩ | ⟨q, cap, cur, rfl, _, hq, _⟩
    · cases e
    · simp [Value.ownBlock] at e
      subst e
      exact ne_of_types h.head hq (by decide) rfl
  have HP := Lib.hid (rec_post h hb hc hm hA hl hf ho1 hk1 hv1 hgr)
  have h1 : Blk W1 g 53 #[ptr gd, .int .i64 L.e, .int .i64 (L.p : Int), .int .i64 (L.fin : Int), vr, .bool L.dead] := h.head.keep hk1 hgr
  have d4 := h1.frozen 4
  have d4c := h1.cell 4
  simp at d4c
  have h2 := h1.set_ 4 (.slice A1 (L.ls.length + 1) c1)
  have e2 := h2.cell 2
  have e2f := h2.frozen 2
  simp at e2
  have hpl : L.p ≤ 4096 := by have := h.pf; have := h.fn; have := h.ok.many; unfold St.n at *; omega
  have hnb : need b.length ≤ 262144 := by unfold need; omega
  clear h h1 h2 ho1 hk1 hv1 hs1 hb hgr hA
  go_enter Try.func21, Try.ntmps21
  go_wp2_with (at_builtin; refine wpList_append_run rfl (.tmp 8) (.tmp 10) 37 37 rfl _ _ rfl rfl hap ?_)
  obtain ⟨W2, hW2⟩ : ∃ W2, W1.setCell ⟨g, 4, none⟩ (.slice A1 (L.ls.length + 1) c1) = W2 := ⟨_, rfl⟩
  have HW2 := Lib.hid hW2
  rw [hW2] at e2 e2f ⊢
  clear hW2
  go_region_with (go_at_call 35; refine (size_ (Int.toNat_natCast b.length) (by omega) _).mono ?_; rintro e w' ⟨rfl, rfl⟩)
  all_goals
    go_end0
    have hw2 := HW2.out
    subst hw2
    exact ⟨rfl, HP.out _ (IntWalk.i64_in _ (by omega))⟩
end Go.Proofs.Ytmpkgnmijnjddaa
