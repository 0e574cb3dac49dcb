/- A lock's lists are made anew ahead of a change: Clone at claims, and package grant's ownLists. -/
import Derived.Test.YtnjhhndggfjjdaaDoorGqG
import Derived.Deep.Slices
import Derived.ChangeArms
import Derived.Laws.Cover1
set_option maxRecDepth 4000
namespace Go.Proofs.YtnjhhndggfjjdaaDoor
open Go.RowKit
set_option maxHeartbeats 400000 in
theorem clone_ {w : World} {K : Nat → Prop} {A : Option Addr} {n c : Nat} {l : List Cl} (h : Lst w K eC A l) (hl : l.length = n) (hn : n ≤ 100000) (hA : A = none → c = 0) :
    Calls Tryd.prog 56 #[.slice A n c] w fun e w' => ∃ v, e = .returned v ∧ Own w' w.heap.size eC 78 v l ∧ Below w.heap.size w w' := by
  rcases A with _ | a
  · have hc := hA rfl
    have hx : l = [] := h.none_
    subst hx
    simp only [List.length_nil] at hl
    subst hc hl
    clear h hA
    have hnil := fun (W : World) => Lib.run_eql_slice_nil (P := Tryd.prog) W 58 78 none 0 0 0 0 Tryd.underlying58
    simp only [Option.isNone_none] at hnil
    go_enter Tryd.func56, Tryd.ntmps56
    go_wp2
    go_ret
    exact ⟨_, rfl, own_nil _ _, Below.refl _ _⟩
  · have hnil := fun (W : World) => Lib.run_eql_slice_nil (P := Tryd.prog) W 58 78 (some a) n c 0 0 Tryd.underlying58
    simp only [Option.isNone_some] at hnil
    obtain ⟨v', W', hap, ho, hg, hat⟩ := append_own tyC (own_empty w w.heap.size (Nat.le_refl _)) (h.below (alloc_below w (.cells #[] 78))) hl c (by show 0 + n ≤ _; omega) (by simp)
    rw [List.nil_append] at ho
    have hbel : Below w.heap.size w W' := ((Below.refl _ _).alloc (Nat.le_refl _) _).grown hg (by simp) (by intro k hk; simp [Value.ownBlock] at hk; omega)
    have HBE := Lib.hid hbel
    have HO := Lib.hid ho
    clear ho hg hat hbel h hA hl
    go_enter Tryd.func56, Tryd.ntmps56
    go_wp2_with (at_builtin; refine wpList_append_run rfl (.tmp 5) (.tmp 6) 58 58 rfl _ _ rfl rfl hap ?_)
    go_ret
    exact ⟨_, rfl, HO.out, HBE.out⟩
/-- a list that lies somewhere, in a block of claims, as a slice -/
def IsC (w : World) (i : Nat) : Prop := ∃ cur, w.heap[i]? = some (.cells cur 78 (0, 0))
def At (w : World) (v : Value) (l : List Cl) : Prop := ∃ A c, v = .slice A l.length c ∧ Lst w (IsC w) eC A l ∧ l.length ≤ c ∧ c ≤ maxLen ∧ (A = none → c = 0)
theorem At.kept {w w' : World} {v : Value} {l : List Cl} {Q : Nat → Obj → Prop} (h : At w v l) (k : Keep Q w w') (hq : ∀ i cur, w.heap[i]? = some (.cells cur 78 (0, 0)) → Q i (.cells cur 78 (0, 0))) : At w' v l := by
  obtain ⟨A, c, e, hl, hr⟩ := h
  refine ⟨A, c, e, fun h0 => ?_, hr⟩
  obtain ⟨g, o, e, ⟨cur, hk⟩, hg, hc⟩ := hl h0
  have hk' := k.block g _ hk (hq g cur hk)
  exact ⟨g, o, e, ⟨cur, hk'⟩, lt_of_some hk', fun j u hu => (cell_of_heap (hk'.trans hk.symm) _).trans (hc j u hu)⟩
theorem At.below {w w' : World} {v : Value} {l : List Cl} (h : At w v l) (k : Below w.heap.size w w') : At w' v l := h.kept (Keep.of_below (K := fun _ _ => True) k) fun _ _ _ => trivial
theorem At.own {w : World} {base : Nat} {v : Value} {l : List Cl} (h : Own w base eC 78 v l) : At w v l := by
  obtain ⟨A, c, e, hl, hr⟩ := own_lst h
  exact ⟨A, c, e, hl.more fun i _ hi => (own_blk h hi.2).2.2, hr⟩
theorem isC_ne {w : World} {b i off : Nat} {zn : Zn} {vH vL : Value} (h : Two w b off zn vH vL) (hc : IsC w i) : i ≠ b := fun e => by
  subst e
  obtain ⟨cur, hc⟩ := hc
  have := h.blk.symm.trans hc
  injection this with this
  injection this with _ this
  exact h.ty.1 this
/-- what an exported call of a lock at block b leaves alone: every other block that was there -/
theorem At.keep {w w' : World} {b off : Nat} {zn : Zn} {v vH vL : Value} {l : List Cl} (h : At w v l) (h2 : Two w b off zn vH vL) (k : Keep (fun i _ => i ≠ b) w w') : At w' v l := h.kept k fun _ cur hc => isC_ne h2 ⟨cur, hc⟩
set_option maxHeartbeats 1000000 in
theorem own_lists {w : World} {b off : Nat} {zn : Zn} {vH vL : Value} {H L : List Cl} (h2 : Two w b off zn vH vL) (hH : At w vH H) (hL : At w vL L) (hn : H.length ≤ 100000) (hm : L.length ≤ 100000) :
    Calls Tryd.prog 37 #[.pointer (some ⟨b, off, none⟩)] w fun e w' => e = .returned (.tuple #[]) ∧ ∃ vH' vL', Two w' b off zn vH' vL' ∧ Own w' w.heap.size eC 78 vH' H ∧ Own w' w.heap.size eC 78 vL' L ∧
      (∀ g, vH'.ownBlock = some g → vL'.ownBlock ≠ some g) ∧ Keep (fun i _ => i ≠ b) w w' := by
  have hL0 := hL
  have h20 := h2
  obtain ⟨A1, c1, rfl, l1, _, _, n1⟩ := hH
  obtain ⟨A2, c2, rfl, l2, _, _, n2⟩ := hL
  have b0 := h2.c0
  have hbs := h2.lt
  have hp1 := clone_ (c := c1) l1 rfl hn n1
  have HP1 := Lib.hid hp1
  have H2 := Lib.hid h20
  have HL := Lib.hid hL0
  clear hp1 h2 h20 hL0 l1 l2
  generalize hnn : H.length = n at *
  generalize hmm : L.length = m at *
  go_enter Tryd.func37, Tryd.ntmps37
  go_wp2_with fail
  refine HP1.out.mono ?_
  rintro e w1 ⟨v1, rfl, ho1, hb1⟩
  have T1 := Lib.hid (H2.out.below hb1 hbs)
  have p0 := T1.out.c0
  have p1 := T1.out.c1
  have f0 := T1.out.frozen off
  obtain ⟨A3, c3, rfl, _, _, _, _⟩ := own_lst ho1
  rw [hnn] at *
  obtain ⟨W2, hW2⟩ : ∃ W2, W2 = w1.setCell ⟨b, off, none⟩ (.slice A3 n c3) := ⟨_, rfl⟩
  have hk2 : Keep (fun i _ => i ≠ b) w W2 := by rw [hW2]; exact (Keep.of_below hb1).setCell (fun _ _ h => h rfl) _
  have t2 : Two W2 b off zn (.slice A3 n c3) (.slice A2 m c2) := by rw [hW2]; exact Two.set0 T1.out _
  have ho2 : Own W2 w.heap.size eC 78 (.slice A3 n c3) H := own_keep ho1 fun g hg => by
    have hgb : g ≠ b := fun e => by subst e; exact two_ne T1.out ho1 hg
    rw [hW2]; exact Below.heap_setCell w1 ⟨b, off, none⟩ _ g hgb
  obtain ⟨A4, c4, e4, l4, _, _, n4⟩ := HL.out.keep H2.out hk2
  rw [hmm] at e4
  injection e4 with e41 e42 e43
  subst e41 e43
  have hp2 := clone_ (c := c2) l4 hmm hm n4
  have HP2 := Lib.hid hp2
  have T2 := Lib.hid t2
  have K2 := Lib.hid hk2
  have HO2 := Lib.hid ho2
  clear ho1 hb1 b0 hk2 t2 ho2 l4 hp2
  go_wp2_with fail
  rw [← hW2]
  refine HP2.out.mono ?_
  rintro e w3 ⟨v3, rfl, ho3, hb3⟩
  have T3 := Lib.hid (T2.out.below hb3 T2.out.lt)
  have p4 := T3.out.c1
  have f4 := T3.out.frozen (off + 1)
  obtain ⟨A5, c5, rfl, _, _, _, _⟩ := own_lst ho3
  rw [hmm] at *
  have hO3 : Own w3 w.heap.size eC 78 (.slice A3 n c3) H := own_keep HO2.out fun g hg => hb3.block g (own_blk HO2.out hg).2.1
  have hfin : ∃ vH' vL', Two (w3.setCell ⟨b, off + 1, none⟩ (.slice A5 m c5)) b off zn vH' vL' ∧ Own (w3.setCell ⟨b, off + 1, none⟩ (.slice A5 m c5)) w.heap.size eC 78 vH' H ∧ Own (w3.setCell ⟨b, off + 1, none⟩ (.slice A5 m c5)) w.heap.size eC 78 vL' L ∧
      (∀ g, vH'.ownBlock = some g → vL'.ownBlock ≠ some g) ∧ Keep (fun i _ => i ≠ b) w (w3.setCell ⟨b, off + 1, none⟩ (.slice A5 m c5)) := by
    refine ⟨_, _, Two.set1 T3.out _, own_keep hO3 fun g hg => ?_, own_base (own_keep ho3 fun g hg => ?_) K2.out.size, fun g hg hg' => ?_, ?_⟩
    · have hgb : g ≠ b := fun e => by subst e; exact two_ne T3.out hO3 hg
      exact Below.heap_setCell w3 ⟨b, off + 1, none⟩ _ g hgb
    · have hgb : g ≠ b := fun e => by subst e; exact two_ne T3.out ho3 hg
      exact Below.heap_setCell w3 ⟨b, off + 1, none⟩ _ g hgb
    · have h1 := (own_blk HO2.out hg).2.1
      have h2 := (own_blk ho3 hg').1
      omega
    · exact (K2.out.trans (Keep.of_below hb3)).setCell (fun _ _ h => h rfl) _
  have HFIN := Lib.hid hfin
  clear hfin hO3 ho3 hb3
  go_wp2_with fail
  go_end0
  exact ⟨rfl, HFIN.out⟩
end Go.Proofs.YtnjhhndggfjjdaaDoor
