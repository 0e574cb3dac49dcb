/- Next of a cursor. -/
import Derived.Test.YtocaaebmelhhnaaCurM
import Derived.StillTailTactics
set_option maxRecDepth 4000
namespace Go.Proofs.Ytocaaebmelhhnaa
open Go.RowKit
attribute [local go_sem] Oper.semAt_some wide_fn wide_depth
/-- as Q, but no panic -/
def calmQ (Q : Exit → Act → World → Prop) : Exit → Act → World → Prop
  | .panic _, _, _ => False
  | .normal, a, w => Q .normal a w
  | .ret, a, w => Q .ret a w
  | .exit n, a, w => Q (.exit n) a w
  | .goto n, a, w => Q (.goto n) a w
  | .outgrown, a, w => Q .outgrown a w
theorem of_calm {Q : Exit → Act → World → Prop} : ∀ e a w, calmQ Q e a w → Q e a w
  | .panic _, _, _, h => h.elim
  | .normal, _, _, h => h
  | .ret, _, _, h => h
  | .exit _, _, _, h => h
  | .goto _, _, _, h => h
  | .outgrown, _, _, h => h
theorem keep_own {β : Type} {B : Nat} {w : World} {K : Nat → Obj → Prop} (hK : ∀ i o, K i o → i < B) : OwnFrom B (fun (_ : β) W => Keep K w W) := fun _ _ _ row hs hg hr =>
  hs.grown hg (fun g o e _ hk => by have h1 := (hr g e).1; have h2 := hK g o hk; omega)
/-- what lies about while Next runs: its parameter, its results, the cursor -/
def CurX (w : World) (b bt : Nat) (k z1 z2 : ByteArray) (v : Bool) (W : World) : Prop :=
  (Blk W w.heap.size 52 #[.pointer (some ⟨b, 0, none⟩)] ∧ Blk W (w.heap.size + 1) 29 #[.string z1, .string z2]) ∧ (Blk W (w.heap.size + 1 + 1) 4 #[.bool v] ∧ Cur W b bt k) ∧ Keep (fun i _ => i ≠ b ∧ i < w.heap.size) w W
theorem curX_own {β : Type} {w : World} {b bt B : Nat} {k z1 z2 : ByteArray} {v : Bool} (hB : w.heap.size ≤ B) : OwnFrom B (fun (_ : β) W => CurX w b bt k z1 z2 v W) :=
  OwnFrom.and (OwnFrom.and (Own.from (blk_own _ _ _) _) (Own.from (blk_own _ _ _) _)) (OwnFrom.and (OwnFrom.and (Own.from (blk_own _ _ _) _) (Own.from (blk_own _ _ _) _)) (keep_own (fun i _ h => by omega)))
theorem CurX.below {w W W' : World} {b bt : Nat} {k z1 z2 : ByteArray} {v : Bool} (h : CurX w b bt k z1 z2 v W) (hb : Below W.heap.size W W') : CurX w b bt k z1 z2 v W' :=
  ⟨⟨h.1.1.below hb h.1.1.lt, h.1.2.below hb h.1.2.lt⟩, ⟨h.2.1.1.below hb h.2.1.1.lt, Blk.below h.2.1.2 hb (Blk.lt h.2.1.2)⟩, h.2.2.trans (Keep.of_below hb)⟩
/-- .. behind its only round -/
def CurQ (w : World) (b bt : Nat) (pre : List { x : Rw // x.1.size < maxLen }) (W : World) : Prop := ∃ x, pre = [x] ∧ CurX w b bt (nextK x.1.1) x.1.1 x.1.2 true W
/-- From of a tree, by its rows -/
theorem from_tree {w : World} {K : Nat → Prop} {b : Nat} {l : List Rw} (a : Tree w K b l) (k : ByteArray) {n₀ : Nat} (hK : ∀ i, i < w.heap.size → K i → i < n₀) (h0 : n₀ ≤ w.heap.size) :
    Calls Try.prog 27 #[.pointer (some ⟨b, 0, none⟩), .string k] w (FromP w n₀ (fromR l k)) := by
  obtain ⟨hu, T, h1, h2, h3⟩ := a
  rw [← h3, ← from_all h2 (by rw [h3]; exact hu)]
  exact from_seq h1 h2 hK h0 k
/-- what Next answers, and leaves of the cursor -/
def NextX (w : World) (b bt : Nat) (k : ByteArray) (xs : List Rw) (e : Ending) (w' : World) : Prop :=
  Keep (fun i _ => i ≠ b) w w' ∧ match xs with
  | [] => e = .returned (.tuple #[.agg #[.string ⟨#[]⟩, .string ⟨#[]⟩], .bool false]) ∧ Cur w' b bt k
  | x :: _ => e = .returned (.tuple #[.agg #[.string x.1, .string x.2], .bool true]) ∧ Cur w' b bt (nextK x.1)
theorem keepN {w W : World} {b : Nat} (h : Keep (fun i _ => i ≠ b ∧ i < w.heap.size) w W) : Keep (fun i _ => i ≠ b) w W := h.mono fun _ _ ho hi => ⟨hi, lt_of_some ho⟩
set_option maxHeartbeats 2000000 in
theorem cur_next {w : World} {K : Nat → Prop} {b bt : Nat} {k : ByteArray} {l : List Rw} (a : Cur w b bt k) (t : Tree w K bt l) (hz : ∀ r ∈ l, r.1.size < maxLen) :
    Calls Try.prog 25 #[.pointer (some ⟨b, 0, none⟩)] w (NextX w b bt k (fromR l k)) := by
  have t2 : Tree w (fun i => K i ∧ i < w.heap.size) bt l := t.more (fun i hi hk => ⟨hk, hi⟩) (fun h => t.not h.1)
  have HF : Hid (∀ W, Below w.heap.size w W → Calls Try.prog 27 #[.pointer (some ⟨bt, 0, none⟩), .string k] W (FromP W w.heap.size (fromR l k))) := fun W hb =>
    from_tree (t2.below hb) k (fun i _ h => h.2) hb.size
  have hsub : ∀ r ∈ fromR l k, r.1.size < maxLen := fun r hr => hz r (List.mem_of_mem_drop hr)
  have hc0 := Blk.cell a 0
  have hc1 := Blk.cell a 1
  simp only [List.getElem?_toArray, List.getElem?_cons_succ, List.getElem?_cons_zero] at hc0 hc1
  have hlt0 := Blk.lt a
  have HA := Lib.hid a
  have HZ := Lib.hid hsub
  generalize fromR l k = xs at *
  clear a t t2 hz hsub
  refine callsIn_wide (n := 1).1 ?_
  refine callsIn_of_wp_marks Try.func25 rfl trivial ?_ rfl
  simp only [Try.ntmps25, List.size_toArray, List.length_cons, List.length_nil, Nat.reduceAdd, Nat.reduceSub, Array.replicate_succ, Array.replicate_zero, List.push_toArray, List.append_toArray, List.nil_append, List.cons_append]
  refine wpIn_mono (wpIn_wide.2 ?_) of_calm
  go_wp2_with fail
  have hB1 := ((Blk.new w 52 #[.pointer (some ⟨b, 0, none⟩)]).alloc (.cells #[.string ⟨#[]⟩, .string ⟨#[]⟩] 29)).alloc (.cells #[.bool false] 4)
  have hB2 := (Blk.new (w.alloc (.cells #[.pointer (some ⟨b, 0, none⟩)] 52)) 29 #[.string ⟨#[]⟩, .string ⟨#[]⟩]).alloc (.cells #[.bool false] 4)
  have hB3 := Blk.new ((w.alloc (.cells #[.pointer (some ⟨b, 0, none⟩)] 52)).alloc (.cells #[.string ⟨#[]⟩, .string ⟨#[]⟩] 29)) 4 #[.bool false]
  have hbb : Below w.heap.size w (((w.alloc (.cells #[.pointer (some ⟨b, 0, none⟩)] 52)).alloc (.cells #[.string ⟨#[]⟩, .string ⟨#[]⟩] 29)).alloc (.cells #[.bool false] 4)) := ((alloc_below _ _).alloc (by simp) _).alloc (by simp; omega) _
  simp only [World.size_alloc] at hB2 hB3
  generalize ((w.alloc (.cells #[.pointer (some ⟨b, 0, none⟩)] 52)).alloc (.cells #[.string ⟨#[]⟩, .string ⟨#[]⟩] 29)).alloc (.cells #[.bool false] 4) = W0 at *
  have hA0 : Cur W0 b bt k := HA.out.below hbb hlt0
  have q1 := hB1.cell 0
  have qa := Blk.cell hA0 0
  have qb := Blk.cell hA0 1
  simp only [List.getElem?_toArray, List.getElem?_cons_succ, List.getElem?_cons_zero] at q1 qa qb
  have HB := Lib.hid hbb
  have H1 := Lib.hid hB1
  have H2 := Lib.hid hB2
  have H3 := Lib.hid hB3
  have HA0 := Lib.hid hA0
  clear hB1 hB2 hB3 hbb hA0 hc0 hc1
  refine wp_region_still_tail 8 (by kernel_rfl) (by kernel_rfl) ?_
  simp only [List.take_succ_cons, List.take_zero, List.drop_succ_cons, List.drop_zero]
  repeat still_step
  refine wpStill_nil ?_
  go_wp2_with fail
  refine (HF.out _ HB.out.drew).mono ?_
  rintro e W1 ⟨P1, P2, rfl, hb1, _, hsq⟩
  have HS := Lib.hid (hsq (fun x => x.1.size < maxLen) HZ.out)
  have HL := Lib.hid hb1
  clear hb1 hsq
  go_wp2_with fail
  have hX : CurX w b bt k ⟨#[]⟩ ⟨#[]⟩ false W1 := CurX.below (W := W0.drew) ⟨⟨H1.out, H2.out⟩, ⟨H3.out, HA0.out⟩, (Keep.of_below (HB.out.drew))⟩ HL.out
  have hle : w.heap.size ≤ W1.heap.size := Nat.le_trans HB.out.size HL.out.size
  have HX := Lib.hid hX
  have hsq := HS.out 0 W1 (Below.refl _ _)
  have HQ := Lib.hid hsq
  clear hX hsq
  refine (wpIn_wide (n := 1)).1 ?_
  refine wpIn_rangeFunc_ownH rfl (Nat.le_refl 1) (gf := 33) (lb := #[.pointer (some ⟨P1, 0, none⟩), .pointer (some ⟨P2, 0, none⟩)]) rfl trivial (enters_of Try.func33 (by kernel_rfl) rfl)
    HQ.out belowK_t (belowK_b hle) (Below.refl _ _) (fun _ => rfl)
    (fun pre W => pre = [] ∧ CurX w b bt k ⟨#[]⟩ ⟨#[]⟩ false W)
    (fun c pre W => c = .ret ∧ CurQ w b bt pre W)
    (OwnFrom.and (ownFrom_pure _ (fun pre => pre = [])) (curX_own hle))
    (fun c s X Y row hs hg hr => by obtain ⟨h1, x, h2, h3⟩ := hs; exact ⟨h1, x, h2, curX_own (β := Unit) hle () X Y row h3 hg hr⟩)
    ⟨rfl, HX.out⟩
    (fun x a' W => ∃ Bx, LoopVar (w.heap.size + 1 + 1) x.1 W Bx ∧ a' = { tmps := #[.pointer (some ⟨b, 0, none⟩), .pointer (some ⟨w.heap.size, 0, none⟩), .pointer (some ⟨w.heap.size + 1, 0, none⟩), .pointer (some ⟨w.heap.size + 1 + 1, 0, none⟩), .pointer (some ⟨Bx, 0, none⟩), .pointer (some ⟨b, 0, none⟩), .bool false, undef, .pointer (some ⟨b, 0, none⟩), .pointer (some ⟨b, 0, none⟩), .pointer (some ⟨b, 0, none⟩), .pointer (some ⟨bt, 0, none⟩), .pointer (some ⟨b, 0, none⟩), .pointer (some ⟨b, 0, none⟩), .pointer (some ⟨b, 1, none⟩), .string k, .func (.func 33) #[] #[.pointer (some ⟨P1, 0, none⟩), .pointer (some ⟨P2, 0, none⟩)], .agg #[.string x.1.1, .string x.1.2], undef, undef, undef, undef, undef, undef, undef, undef], defers := [] })
    ?hAx ?assign ?body ?done ?stop
  case hAx =>
    rintro x a' _ X Y row ⟨Bx, ⟨h1, h2⟩, rfl⟩ hg hr
    exact ⟨Bx, ⟨h1, (Own.from (blk_own Bx 29 (fun _ : Unit => #[.string x.1.1, .string x.1.2])) _) () X Y row h2 hg hr⟩, rfl⟩
  case assign =>
    rintro l pre x W K ⟨hp, hX⟩ hK
    gi_wp2
    exact hK _ _ ((KeepsOthers.alloc _ _).from _) ((Below.refl _ W).alloc hX.2.2.size _) ⟨hp, hX.below (alloc_below _ _)⟩ ⟨W.heap.size, ⟨hX.2.1.1.lt, Blk.new _ _ _⟩, rfl⟩
  case body =>
    rintro l pre x a' W _ _ ⟨rfl, hX⟩ ⟨Bx, ⟨hx1, hx2⟩, rfl⟩ hlt
    have q1 := hX.1.1.cell 0
    have q4 := hx2.cell 0
    have q5 := hx2.cell 1
    have q6 := Blk.frozen hX.2.1.2 1
    have q7 := Blk.cell hX.2.1.2 1
    simp only [List.getElem?_toArray, List.getElem?_cons_succ, List.getElem?_cons_zero] at q1 q4 q5 q7
    have hsz : x.1.1.size < maxLen := x.2
    have hm : Try.prog.follows .mixedOrders = true := by kernel_rfl
    have HX := Lib.hid hX
    obtain ⟨⟨y1, y2⟩, hy⟩ := x
    have hV : Blk W Bx 29 #[.string y1, .string y2] := hx2
    have HV := Lib.hid hV
    dsimp only at q4 q5 hsz
    clear hX hx2 hV
    gi_wp2
    gi_region_with_o (gi_at_call 32; refine (CallsIn.inRound l (callsIn_wide.2 (order_next _ _ hsz))).mono ?_; rintro e w' ⟨rfl, rfl⟩)
    all_goals
      have hbl := Blk.lt HX.out.2.1.2
      have hbs : b < w.heap.size := hlt0
      have hC2 : Cur (W.setCell ⟨b, 1, none⟩ (.string (nextK y1))).drew b bt (nextK y1) := (Blk.set_ HX.out.2.1.2 1 (.string (nextK y1))).drew
      have hV2 := (Blk.far HV.out (p := ⟨b, 1, none⟩) (by simp only; omega) (.string (nextK y1))).drew
      have hR2 := (Blk.far HX.out.1.2 (p := ⟨b, 1, none⟩) (by simp only; omega) (.string (nextK y1))).drew
      have hP2 := (Blk.far HX.out.1.1 (p := ⟨b, 1, none⟩) (by simp only; omega) (.string (nextK y1))).drew
      have hF2 := (Blk.far HX.out.2.1.1 (p := ⟨b, 1, none⟩) (by simp only; omega) (.string (nextK y1))).drew
      have hK2 : Keep (fun i _ => i ≠ b ∧ i < w.heap.size) w (W.setCell ⟨b, 1, none⟩ (.string (nextK y1))).drew := (HX.out.2.2.setCell (p := ⟨b, 1, none⟩) (fun _ _ h => h.1 rfl) (.string (nextK y1))).drew
      have hO2 : KeepsOthers W (W.setCell ⟨b, 1, none⟩ (.string (nextK y1))).drew := (KeepsOthers.setCell _ _ _).trans (KeepsOthers.drew _)
      generalize (W.setCell ⟨b, 1, none⟩ (.string (nextK y1))).drew = V at *
      have v0 := hV2.cell 0
      have v1 := hV2.cell 1
      have r0 := hR2.cell 0
      have r1 := hR2.cell 1
      have r2 := hR2.frozen 0
      have r3 := hR2.frozen 1
      have f0 := hF2.cell 0
      have f1 := hF2.frozen 0
      simp only [List.getElem?_toArray, List.getElem?_cons_succ, List.getElem?_cons_zero] at v0 v1 r0 r1 f0
      have HC2 := Lib.hid hC2
      have HR2 := Lib.hid hR2
      have HP2 := Lib.hid hP2
      have HF2 := Lib.hid hF2
      have HK2 := Lib.hid hK2
      have HO2 := Lib.hid hO2
      clear hC2 hV2 hR2 hP2 hF2 hK2 hO2 q1 q4 q5 q6 q7 HV HX
      gi_wp2
      refine ⟨((HO2.out.trans (KeepsOthers.setCell _ _ _)).trans ((KeepsOthers.setCell _ _ _).trans (KeepsOthers.setCell _ _ _))).from _, rfl, ⟨(y1, y2), hsz⟩, rfl, ?_⟩
      have s1 := ((HR2.out.set_ 0 (.string y1)).set_ 1 (.string y2)).far (p := ⟨w.heap.size + 1 + 1, 0, none⟩) (by simp) (.bool true)
      have s2 := (((HF2.out.far (p := ⟨w.heap.size + 1, 0, none⟩) (by simp) (.string y1)).far (p := ⟨w.heap.size + 1, 1, none⟩) (by simp) (.string y2))).set_ 0 (.bool true)
      have s3 := ((HP2.out.far (p := ⟨w.heap.size + 1, 0, none⟩) (by simp) (.string y1)).far (p := ⟨w.heap.size + 1, 1, none⟩) (by simp) (.string y2)).far (p := ⟨w.heap.size + 1 + 1, 0, none⟩) (by simp; omega) (.bool true)
      have s4 := ((Blk.far HC2.out (p := ⟨w.heap.size + 1, 0, none⟩) (by simp; omega) (.string y1)).far (p := ⟨w.heap.size + 1, 1, none⟩) (by simp; omega) (.string y2)).far (p := ⟨w.heap.size + 1 + 1, 0, none⟩) (by simp; omega) (.bool true)
      have hno : ∀ (j : Nat) (p : Addr), p.block = w.heap.size + j → ∀ o, w.heap[p.block]? = some o → ¬ (p.block ≠ b ∧ p.block < w.heap.size) := fun j p e o _ h => by omega
      have s5 := ((HK2.out.setCell (p := ⟨w.heap.size + 1, 0, none⟩) (hno 1 _ rfl) (.string y1)).setCell (p := ⟨w.heap.size + 1, 1, none⟩) (hno 1 _ rfl) (.string y2)).setCell (p := ⟨w.heap.size + 1 + 1, 0, none⟩) (hno 2 _ rfl) (.bool true)
      exact ⟨⟨s3, s1⟩, ⟨s2, s4⟩, s5⟩
  case done =>
    rintro D zs W hD hzs ⟨rfl, hX⟩ hK
    obtain rfl : xs = [] := by simpa using hzs.symm
    have r0 := hX.1.2.cell 0
    have r1 := hX.1.2.cell 1
    have r2 := hX.1.2.frozen 0
    have r3 := hX.1.2.frozen 1
    have f0 := hX.2.1.1.cell 0
    have f1 := hX.2.1.1.frozen 0
    simp only [List.getElem?_toArray, List.getElem?_cons_succ, List.getElem?_cons_zero] at r0 r1 f0
    have HX := Lib.hid hX
    have HD := Lib.hid hK
    have HDW := Lib.hid hD
    clear hX hK hD
    dsimp only
    go_wp2_with fail
    have s1 := ((HX.out.1.2.set_ 0 (.string ⟨#[]⟩)).set_ 1 (.string ⟨#[]⟩)).far (p := ⟨w.heap.size + 1 + 1, 0, none⟩) (by simp) (.bool false)
    have s2 := (((HX.out.2.1.1.far (p := ⟨w.heap.size + 1, 0, none⟩) (by simp) (.string ⟨#[]⟩)).far (p := ⟨w.heap.size + 1, 1, none⟩) (by simp) (.string ⟨#[]⟩))).set_ 0 (.bool false)
    have s4 := ((Blk.far HX.out.2.1.2 (p := ⟨w.heap.size + 1, 0, none⟩) (by simp; omega) (.string ⟨#[]⟩)).far (p := ⟨w.heap.size + 1, 1, none⟩) (by simp; omega) (.string ⟨#[]⟩)).far (p := ⟨w.heap.size + 1 + 1, 0, none⟩) (by simp; omega) (.bool false)
    have hno : ∀ (j : Nat) (p : Addr), p.block = w.heap.size + j → ∀ o, w.heap[p.block]? = some o → ¬ (p.block ≠ b ∧ p.block < w.heap.size) := fun j p e o _ h => by omega
    have s5 := ((HX.out.2.2.setCell (p := ⟨w.heap.size + 1, 0, none⟩) (hno 1 _ rfl) (.string ⟨#[]⟩)).setCell (p := ⟨w.heap.size + 1, 1, none⟩) (hno 1 _ rfl) (.string ⟨#[]⟩)).setCell (p := ⟨w.heap.size + 1 + 1, 0, none⟩) (hno 2 _ rfl) (.bool false)
    have hD2 := (((KeepsOthers.setCell W ⟨w.heap.size + 1, 0, none⟩ (.string ⟨#[]⟩)).trans (KeepsOthers.setCell _ ⟨w.heap.size + 1, 1, none⟩ (.string ⟨#[]⟩))).trans (KeepsOthers.setCell _ ⟨w.heap.size + 1 + 1, 0, none⟩ (.bool false))).same D _ HD.out rfl
    have hx2 : CurX w b bt k ⟨#[]⟩ ⟨#[]⟩ false _ := ⟨⟨((HX.out.1.1.far (p := ⟨w.heap.size + 1, 0, none⟩) (by simp) (.string ⟨#[]⟩)).far (p := ⟨w.heap.size + 1, 1, none⟩) (by simp) (.string ⟨#[]⟩)).far (p := ⟨w.heap.size + 1 + 1, 0, none⟩) (by simp; omega) (.bool false), s1⟩, ⟨s2, s4⟩, s5⟩
    have hx3 := (curX_own (β := Unit) (Nat.le_refl _)).putObj (s := ()) (.deferred none) hx2 (Nat.le_trans hle HDW.out) hD2 rfl
    refine ⟨by simp, .inl ⟨_, _, rfl, run_takeDeferred hD2, ?_⟩⟩
    have r0 := hx3.1.2.cell 0
    have r1 := hx3.1.2.cell 1
    have f0 := hx3.2.1.1.cell 0
    simp only [List.getElem?_toArray, List.getElem?_cons_succ, List.getElem?_cons_zero] at r0 r1 f0
    refine ⟨.tuple #[.agg #[.string ⟨#[]⟩, .string ⟨#[]⟩], .bool false], ?_, keepN hx3.2.2, rfl, hx3.2.1.2⟩
    simp [results, Try.f25, go_sem, r0, r1, f0]
  case stop =>
    rintro D c pre W hD hp ⟨rfl, x, rfl, hX⟩ hK
    have HX := Lib.hid hX
    have HD := Lib.hid hK
    have HDW := Lib.hid hD
    clear hX hK hD
    refine wpIn_wide.2 ?_
    dsimp only
    go_wp2_with fail
    have hx3 := (curX_own (β := Unit) (Nat.le_refl _)).putObj (s := ()) (.deferred none) HX.out (Nat.le_trans hle HDW.out) HD.out rfl
    refine ⟨by simp, .inl ⟨_, _, rfl, run_takeDeferred HD.out, ?_⟩⟩
    have r0 := hx3.1.2.cell 0
    have r1 := hx3.1.2.cell 1
    have f0 := hx3.2.1.1.cell 0
    simp only [List.getElem?_toArray, List.getElem?_cons_succ, List.getElem?_cons_zero] at r0 r1 f0
    obtain ⟨rest, hrest⟩ := hp
    obtain rfl : xs = x.1 :: rest := by simpa using hrest.symm
    refine ⟨.tuple #[.agg #[.string x.1.1, .string x.1.2], .bool true], ?_, keepN hx3.2.2, rfl, hx3.2.1.2⟩
    simp [results, Try.f25, go_sem, r0, r1, f0]
end Go.Proofs.Ytocaaebmelhhnaa
