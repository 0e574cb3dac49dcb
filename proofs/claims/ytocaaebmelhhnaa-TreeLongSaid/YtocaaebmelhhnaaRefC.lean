/- The document's own rows with one cut. -/
import Derived.Test.YtocaaebmelhhnaaRefT
set_option maxRecDepth 4000
namespace Go.Proofs.Ytocaaebmelhhnaa
open Go.RowKit
set_option maxHeartbeats 2000000 in
theorem ref_cut {w : World} {K : Nat → Prop} {A : Option Addr} {n c : Nat} {xs : List Rw} (h : Rws w K A xs) (hl : xs.length = n) (hn : n ≤ 100000) (hc : n ≤ c) (hz : ∀ r ∈ xs, r.1.size ≤ maxLen) (k : ByteArray) :
    Calls Try.prog 19 #[.slice A n c, .string k] w fun e w' => ∃ v, e = .returned (.tuple #[v, .bool (foundR xs k)]) ∧ NewR w (cutRw xs k).length (cutRw xs k) v w' := by
  have H := Lib.hid h
  have HL := Lib.hid hl
  have hf1 := findR_le xs k
  rw [hl] at hf1
  have hfind := ref_find (c := c) h hl (by omega) hz k
  obtain ⟨fd, hfd⟩ : ∃ fd, foundR xs k = fd := ⟨_, rfl⟩
  rw [hfd] at hfind ⊢
  have HFI := Lib.hid hfind
  cases fd
  · have he : cutRw xs k = xs := by rw [cutRw, hfd]; rfl
    have HE := Lib.hid he
    clear h hl hfd hfind he hz
    generalize findR xs k = q at *
    go_enter Try.func19, Try.ntmps19
    go_wp2_with fail
    refine HFI.out.mono ?_
    rintro e w1 ⟨rfl, hb1⟩
    obtain ⟨v2, W2, hap, ho2, hg2, _⟩ := append_rws (n := 0) (ys := []) (World.ownsRow_nil w1 w1.heap.size _ 2) (H.out.below hb1) HL.out c (by omega) (Nat.le_refl _)
    have hb2 : Below w1.heap.size w1 W2 := (Below.refl _ _).grown hg2 (Nat.le_refl _) (fun q hq => by simp [Value.ownBlock] at hq)
    rw [List.nil_append, Nat.zero_add] at ho2
    obtain ⟨A2, c2, rfl, hr2, hl2, h21, h22, h23⟩ := own_rws ho2
    have HR2 := Lib.hid (hr2.more fun i _ hi => Nat.le_trans hb1.size hi)
    have HB2 := Lib.hid (hb1.trans (hb2.mono hb1.size))
    have H23 := Lib.hid h23
    clear hb1 ho2 hg2 hb2 hr2 hl2 h23
    go_wp2_with (at_builtin; refine wpList_append_run rfl (.const (.slice none 0 0)) (.tmp 16) 22 22 rfl _ _ rfl rfl hap ?_)
    go_ret2
    refine ⟨_, rfl, ?_⟩
    rw [HE.out, HL.out]
    exact ⟨A2, c2, rfl, HR2.out, h21, h22, H23.out, HB2.out⟩
  · have hlt := foundR_lt hfd
    rw [hl] at hlt
    have he := cut_at hfd
    have HE := Lib.hid he
    clear h hl hfd hfind he hz
    generalize findR xs k = q at *
    have hd1 := fun W => head_rows A n c q (by omega) W
    obtain ⟨m2, hm2⟩ : ∃ m, n - (q + 1) = m := ⟨_, rfl⟩
    obtain ⟨A2, hd2, hr2, _⟩ := tail_rows H.out HL.out hc (show q + 1 ≤ n by omega) hm2
    have hd2' : ∀ W, (Instr.slice 22 (.slice A n c) (some (.int .i64 ((q : Int) + 1))) none none).run Try.prog W = .ok (.slice A2 m2 (c - (q + 1))) W := hd2
    have hw : IntKind.i64.wrap ((q : Int) + 1) = (q : Int) + 1 := by rw [IntKind.wrap_i64]; omega
    have hlq : (xs.take q).length = q := by rw [List.length_take, HL.out]; omega
    have HLQ := Lib.hid hlq
    have hlm : (xs.drop (q + 1)).length = m2 := by rw [List.length_drop, HL.out]; exact hm2
    have HLM := Lib.hid hlm
    have hqm : q + m2 ≤ 200000 := by omega
    have HR2 := Lib.hid hr2
    clear hd2 hr2 hlq hlm hm2
    go_enter Try.func19, Try.ntmps19
    go_wp2_with fail
    refine HFI.out.mono ?_
    rintro e w1 ⟨rfl, hb1⟩
    have HB1 := Lib.hid hb1
    have HQ := Lib.hid ((H.out.below hb1).take q)
    have HTL := Lib.hid (HR2.out.below hb1)
    clear hb1
    go_wp2_with fail
    go_region_law (first
      | (refine step_append_rws rfl (.tmp 21) (.tmp 25) rfl rfl rfl HO5.out rfl (HTL.out.below HB5.out) HLM.out (by omega) HB5.out.size ?_; intro v6 W6 ho6 hg6; have HO6 := Lib.hid ho6; have HB6 : Hid (Below w1.heap.size w1 W6) := HB5.out.trans (grown_base HO5.out hg6 HB5.out.size); clear ho6 hg6)
      | (refine step_append_rws (v := .slice none 0 0) (n := 0) (ys := []) rfl (.const (.slice none 0 0)) (.tmp 20) rfl rfl rfl (World.ownsRow_nil w1.drew w1.heap.size _ 2) rfl (HQ.out.below (Below.refl _ _).drew) HLQ.out (by omega) (Nat.le_refl _) ?_; intro v5 W5 ho5 hg5; rw [List.nil_append, Nat.zero_add] at ho5; have HO5 := Lib.hid ho5; have HB5 : Hid (Below w1.heap.size w1 W5) := (Below.refl w1.heap.size w1).drew.trans ((Below.refl _ _).grown hg5 (Nat.le_refl _) (fun q hq => by simp [Value.ownBlock] at hq)); clear ho5 hg5))
    all_goals
      obtain ⟨A7, c7, rfl, hr7, hl7, h71, h72, h73⟩ := own_rws HO6.out
      have HR7 := Lib.hid hr7
      have HL7 := Lib.hid hl7
      have H73 := Lib.hid h73
      clear hr7 hl7 h73
      go_wp2_with fail
      go_ret2
      refine ⟨_, rfl, ?_⟩
      rw [HE.out, HL7.out]
      exact ⟨A7, c7, rfl, HR7.out.more (fun i _ hi => Nat.le_trans HB1.out.size hi), h71, h72, H73.out, HB1.out.trans (HB6.out.mono HB1.out.size)⟩
end Go.Proofs.Ytocaaebmelhhnaa
