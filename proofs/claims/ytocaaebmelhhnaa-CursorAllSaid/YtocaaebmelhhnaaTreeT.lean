/- Join, Get and All of a part. -/
import Derived.Test.YtocaaebmelhhnaaTreeI
import Derived.Test.YtocaaebmelhhnaaTreeJ
import Derived.Test.YtocaaebmelhhnaaTreeK
import Derived.Test.YtocaaebmelhhnaaTreeQ
import Derived.Deep.QuietTactic
import Derived.BigQuiet
set_option maxRecDepth 4000
namespace Go.Proofs.Ytocaaebmelhhnaa
open Go.RowKit
/-- the kids of an inner part -/
theorem TrAt.kids {h : Nat} {w : World} {K : Nat → Prop} {bt T : Nat} {ks : List (Tr h)} (a : TrAt (h + 1) w K (.iface T (.pointer (some ⟨bt, 0, none⟩))) ks) :
    ∃ A n c vs, w.cell? ⟨bt, 4, none⟩ = some (.slice A n c) ∧ PsAt h w K A n c vs ks := by
  obtain ⟨b, A, n, c, vs, hd, hc, hp⟩ := a.inner
  have e := hd.val
  cases e
  exact ⟨A, n, c, vs, hc, hp⟩
set_option maxHeartbeats 1000000 in
theorem inner_join {h : Nat} {w : World} {K : Nat → Prop} {b1 b2 : Nat} {T : Nat} {ks ls : List (Tr h)} (a : TrAt (h + 1) w K (.iface T (.pointer (some ⟨b1, 0, none⟩))) ks) (d : TrAt (h + 1) w K (.iface 79 (.pointer (some ⟨b2, 0, none⟩))) ls) (h0 : 0 < ks.length) (hn : ks.length ≤ 1000) (hm : ls.length ≤ 1000)
    (hf : (flatL h ks).length ≤ 10000) (hf2 : (flatL h ls).length ≤ 10000) (hh : h ≤ 1000) (hK : ∀ i, w.heap.size ≤ i → K i) :
    Calls Try.prog 75 #[.pointer (some ⟨b1, 0, none⟩), .iface 79 (.pointer (some ⟨b2, 0, none⟩))] w fun e w' => ∃ v, e = .returned v ∧ NewP (h + 1) w K (halve (ks ++ ls)) v w' := by
  obtain ⟨A1, n1, c1, vs1, hc1, hp1⟩ := a.kids
  obtain ⟨A2, n2, c2, vs2, hc2, hp2⟩ := d.kids
  have hl1 := hp1.count
  have hl2 := hp2.count
  have hbt1 := block_of_cell hc1
  have hbt2 := block_of_cell hc2
  have hcc := concatp2 (b := w.heap.size) hp1 hp2 (by omega) hK rfl
  have hlen : (ks ++ ls).length = n1 + n2 := by rw [List.length_append, hl1, hl2]
  have hfl : (flatL h (ks ++ ls)).length ≤ 20000 := by rw [flatL_len]; omega
  have hs : n1 + n2 ≤ 2000 := by omega
  have h01 : 0 < n1 := by omega
  have HCC := Lib.hid hcc
  have HK := Lib.hid hK
  have HL := Lib.hid hlen
  have HF := Lib.hid hfl
  clear a d hp1 hp2 hcc hK hlen hfl hf hf2 hl1 hl2 hn hm h0
  generalize ks ++ ls = zs at *
  have has := as_inner
  go_enter Try.func75, Try.ntmps75
  go_wp2_with fail
  refine wp_region_still_tail 9 (by kernel_rfl) (by kernel_rfl) ?_
  simp only [List.take_succ_cons, List.take_zero, List.drop_succ_cons, List.drop_zero]
  repeat still_step
  refine wpStill_nil ?_
  go_wp2_with fail
  refine HCC.out.mono ?_
  rintro e w1 ⟨_, rfl, A3, n3, c3, vs3, rfl, hp3, hb1⟩
  have hl3 : 0 < n3 ∧ n3 ≤ 2000 := by have := hp3.count; have := HL.out; omega
  have HB := Lib.hid hb1
  have HP3 := Lib.hid hp3
  clear hp3 hb1
  go_wp2_with fail
  refine (inners_ HP3.out hl3.1 (Nat.le_trans hl3.2 (by omega)) (Nat.le_trans HF.out (by omega)) (by omega) (fun i hi => HK.out i (Nat.le_trans HB.out.size hi))).mono ?_
  rintro e w2 ⟨v2, rfl, hn2⟩
  have HN2 := Lib.hid (hn2.of_below HB.out)
  clear hn2
  go_wp2_with fail
  go_ret
  exact ⟨v2, rfl, HN2.out⟩
theorem join_part {h : Nat} {w : World} {K : Nat → Prop} {b1 b2 : Nat} {t s : Tr h} (a : TrAt h w K (.iface (tyT h) (.pointer (some ⟨b1, 0, none⟩))) t) (d : TrAt h w K (.iface (tyT h) (.pointer (some ⟨b2, 0, none⟩))) s) (h0 : 0 < widthT h t) (hn : widthT h t ≤ 1000) (hm : widthT h s ≤ 1000)
    (hf : (flatT h t).length ≤ 10000) (hf2 : (flatT h s).length ≤ 10000) (hh : h ≤ 1000) (hK : ∀ i, w.heap.size ≤ i → K i) :
    Calls Try.prog (fnJoin h) #[.pointer (some ⟨b1, 0, none⟩), .iface (tyT h) (.pointer (some ⟨b2, 0, none⟩))] w fun e w' => ∃ v, e = .returned v ∧ NewP h w K (joinT h t s) v w' := by
  cases h with
  | zero => exact leaf_join a d hn hm hK
  | succ h => exact inner_join (h := h) a d h0 hn hm hf hf2 (by omega) hK
/-- the value that Get tells, and whether there is one -/
def getT : (h : Nat) → Tr h → ByteArray → ByteArray × Bool
  | 0 => fun (xs : List Rw) k => (valR xs k, foundR xs k)
  | h + 1 => fun (ks : List (Tr h)) k => ((ks[placeT h ks k]?).map fun t => getT h t k).getD (⟨#[]⟩, false)
def GetSpec (h : Nat) : Prop := ∀ (w : World) (K : Nat → Prop) (bt : Nat) (t : Tr h) (k : ByteArray), TrAt h w K (.iface (tyT h) (.pointer (some ⟨bt, 0, none⟩))) t → OkT h t →
  Calls Try.prog (fnGet h) #[.pointer (some ⟨bt, 0, none⟩), .string k] w fun e w' => e = .returned (.tuple #[.string (getT h t k).1, .bool (getT h t k).2]) ∧ ∃ n, w' = w.drewN n
theorem get_zero : GetSpec 0 := fun _ _ _ _ k a ok => (leaf_get a k (Nat.le_trans ok (by omega))).mono fun e w' ⟨h1, h2⟩ => ⟨h1, 0, h2.symm⟩
theorem calls_same {P : Program} {f : FuncId} {args : Array Value} {w : World} {n : Nat} {v : Value} (h : Calls P f args (w.drewN n) fun e w' => e = .returned v ∧ w.drewN n = w') : Calls P f args (w.drewN n) fun e w'' => e = .returned v ∧ ∃ m, w'' = w.drewN m := h.mono fun _ _ ⟨a, b⟩ => ⟨a, n, b.symm⟩
set_option maxHeartbeats 1000000 in
theorem inner_get {h : Nat} (ih : GetSpec h) {w : World} {K : Nat → Prop} {bt : Nat} {ks : List (Tr h)} (k : ByteArray) (a : TrAt (h + 1) w K (.iface 79 (.pointer (some ⟨bt, 0, none⟩))) ks) (h2 : 2 ≤ ks.length) (h6 : ks.length ≤ 6) (k3 : ∀ t ∈ ks, OkT h t ∧ 3 ≤ widthT h t) :
    Calls Try.prog 74 #[.pointer (some ⟨bt, 0, none⟩), .string k] w fun e w' => e = .returned (.tuple #[.string (getT (h + 1) ks k).1, .bool (getT (h + 1) ks k).2]) ∧ ∃ n, w' = w.drewN n := by
  obtain ⟨A, n, c, vs, hc4, hp⟩ := a.kids
  have hn := hp.count
  have hj := placeT_lt (ks := ks) k (by omega)
  have hg := List.getElem?_eq_getElem hj
  have hok := (k3 _ (List.mem_of_getElem? hg)).1
  have hjn : placeT h ks k < n := by omega
  have he : getT (h + 1) ks k = getT h (ks[placeT h ks k]) k := by
    show ((ks[placeT h ks k]?).map fun t => getT h t k).getD (⟨#[]⟩, false) = _
    rw [hg]; rfl
  rw [he]
  have hdr : ∀ m, Below w.heap.size w (w.drewN m) := fun m => below_drewN (Below.refl _ _) m
  have hat := fun (m : Nat) => at_kid (w := w.drewN m) (b := bt) hc4 (hp.below (hdr m)) (by omega) (by omega) k
  obtain ⟨b2, o2, bt2, rfl, hc2, hd2, ht2⟩ := hp.at_ hg
  have hget := fun (m : Nat) => ih (w.drewN m) K bt2 _ k (ht2.below (hdr m)) hok
  have hm := fun n => m_get h n bt2
  have hcf := c_get h
  generalize getT h (ks[placeT h ks k]) k = g at *
  generalize placeT h ks k = j at *
  have HAT := Lib.hid hat
  have HGET := Lib.hid hget
  clear a hp hok k3 he hat hget hd2 ht2 hg hj hdr
  go_enter Try.func74, Try.ntmps74
  go_wp2_with fail
  go_quiet (first | (go_at_call 77; exact calls_same (HAT.out _)) | (guard_target =~ Calls _ (fnGet h) _ _ _; exact Calls.quiet_of (HGET.out _)))
  go_wp2_with fail
  go_ret2
  exact ⟨rfl, _, rfl⟩
theorem get_part : ∀ h, GetSpec h
  | 0 => get_zero
  | h + 1 => fun _ _ _ ks k a ok => inner_get (get_part h) (ks := ks) k a ok.1 ok.2.1 ok.2.2
end Go.Proofs.Ytocaaebmelhhnaa
