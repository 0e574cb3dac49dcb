/- The document's ImageBytes (tools/r20_imv.py writes it). -/
import Derived.Test.YtpggnklbgkdjcaaJ13
import Derived.Test.YtpggnklbgkdjcaaJ21
import Derived.Test.YtpggnklbgkdjcaaJ22
set_option maxRecDepth 4000
namespace Go.Proofs.Ytpggnklbgkdjcaa
open Go.RowKit
theorem rf_mono {N B : Nat} {a b : World} (h : Keep (Rf N) a b) (hB : B ≤ N) : Keep (Rf B) a b := h.mono fun i o _ hi => by
  rcases hi with hi | hi
  · exact .inl (by omega)
  · exact .inr hi
/-- the state's box, and the document's writer -/
structure ImW (w : World) (N g : Nat) (c0 : Array Value) (bs : List UInt8) (wk : World) : Prop where
  bel : Below w.heap.size w wk
  box : Blk wk w.heap.size 24 c0
  wr : VAt wk N g bs
  le : w.heap.size ≤ N
/-- and an object's box -/
structure ImO (w : World) (N g : Nat) (c0 : Array Value) (b : Nat) (cs : Array Value) (bs : List UInt8) (wk : World) : Prop where
  im : ImW w N g c0 bs wk
  ob : Blk wk b 39 cs
section
variable {w wk w' : World} {N g b : Nat} {c0 cs : Array Value} {bs bs' : List UInt8}
theorem ImW.put (h : ImW w N g c0 bs wk) (hw : VAt w' N g bs') (hk : Keep (Rf N) wk w') : ImW w N g c0 bs' w' :=
  ⟨h.bel.trans ((rf_mono hk h.le).below (B := w.heap.size) h.bel.size fun _ _ hi => .inl hi), h.box.keep hk (.inr ⟨_, _, rfl, by decide, by decide⟩), hw, h.le⟩
theorem ImW.step (h : ImW w N g c0 bs wk) (k : Below wk.heap.size wk w') : ImW w N g c0 bs w' := ⟨h.bel.trans (k.mono h.bel.size), h.box.below k h.box.lt, h.wr.below k, h.le⟩
theorem ImO.put (h : ImO w N g c0 b cs bs wk) (hw : VAt w' N g bs') (hk : Keep (Rf N) wk w') : ImO w N g c0 b cs bs' w' := ⟨h.im.put hw hk, h.ob.keep hk (.inr ⟨_, _, rfl, by decide, by decide⟩)⟩
end
def ImR (w : World) (N g : Nat) (c0 : Array Value) (next : Int) (l : List Ob) (k : Nat) (i : Value) (wr : World) : Prop :=
  ∃ j, j + k = l.length ∧ i = .int .i64 (j : Int) ∧ ImW w N g c0 (encInt next ++ encInt (l.length : Int) ++ obsB (l.take j)) wr
def ImI (w : World) (N g : Nat) (c0 : Array Value) (b : Nat) (cs : Array Value) {α : Type} (f : α → List UInt8) (pre : List UInt8) (l : List α) (k : Nat) (i : Value) (wr : World) : Prop :=
  ∃ q, q + k = l.length ∧ i = .int .i64 (q : Int) ∧ ImO w N g c0 b cs (pre ++ (l.take q).flatMap f) wr
/-- these bytes are answered -/
def ImgP (L : List UInt8) (x : Ending) (w' : World) : Prop := ∃ A c, x = .returned (.slice A L.length c) ∧ RB w' w'.heap.size A L.length L ∧ L.length ≤ c ∧ c ≤ maxLen
theorem pre_le {α : Type} (f : α → List UInt8) (l : List α) (j : Nat) : ((l.take j).flatMap f).length ≤ (l.flatMap f).length := by
  have e : l.flatMap f = (l.take j).flatMap f ++ (l.drop j).flatMap f := by rw [← List.flatMap_append, List.take_append_drop]
  rw [e, List.length_append]; omega
theorem at_le {α : Type} (f : α → List UInt8) {n q : Nat} {l : List α} (h : ∀ x ∈ l, (f x).length ≤ n) : ((l.take q).flatMap f).length ≤ l.length * n := by
  exact Nat.le_trans (pre_le f l q) (flat_le f h)
structure ShutV (p : Prop) : Prop where out : p
set_option maxHeartbeats 8000000 in
theorem vimage_ {w : World} {K : Nat → Prop} {s : Sv} {xs : List Oc} (h : ObsAt w K s xs) (hs : ∀ x ∈ xs, x.o.short 450) (hk : ∀ x ∈ xs, ∀ r ∈ x.o.rows, r.1.size ≤ maxLen) (next : Int) (hby : RightD next (obsOf xs) → (imageB next (obsOf xs)).length ≤ 500000) :
    Calls Try.prog 8 #[.agg #[.int .i64 next, .slice s.a s.n s.c]] w fun x w' => ImgP (imgS next (obsOf xs)) x w' ∧ Below w.heap.size w w' := by
  obtain ⟨A, n, c⟩ := s
  have hln : n = xs.length := h.row.len
  have hol : (obsOf xs).length = n := by rw [hln]; simp [obsOf]
  have HB0 := ShutV.mk (alloc_below w (.cells #[.int .i64 next, .slice A n c] 24))
  have HX0 := ShutV.mk (Blk.new w 24 #[.int .i64 next, .slice A n c])
  have HH := ShutV.mk h
  have HSH := ShutV.mk hs
  have HK := ShutV.mk hk
  have HBY := ShutV.mk hby
  have HLN := ShutV.mk hln
  have HOL := ShutV.mk hol
  clear h hs hk hln hol hby
  obtain ⟨L, hL⟩ : ∃ L, imgS next (obsOf xs) = L := ⟨_, rfl⟩
  rw [hL]
  have HL := ShutV.mk hL
  clear hL
  go_enter Try.func8, Try.ntmps8
  go_wp2_with fail
  refine (rstate_ (HH.out.below HB0.out) HSH.out HK.out next).mono ?_
  rintro e w1 ⟨⟨t, rfl, hiff⟩, hb1⟩
  have HB1 := ShutV.mk (HB0.out.trans (hb1.mono HB0.out.size))
  have HX1 := ShutV.mk (HX0.out.below hb1 HX0.out.lt)
  clear hb1 HB0 HX0
  cases t
  · have hno : L = [] := by
      rw [← HL.out, imgS, if_neg fun k => by have := hiff.2 (right_of k); simp at this]
    have HNO := ShutV.mk hno
    clear hiff hno
    go_wp2_with fail
    go_ret
    refine ⟨?_, HB1.out⟩
    rw [HNO.out]
    exact ⟨none, 0, rfl, RB.nil_ _, Nat.le_refl _, by unfold maxLen; omega⟩
  have hrd := hiff.1 (by first | rfl | trivial)
  have hyes : L = imageB next (obsOf xs) := by rw [← HL.out, imgS, if_pos hrd.right]
  have HYES := ShutV.mk hyes
  have HRD := ShutV.mk hrd
  have hlen := HBY.out hrd
  have h20 : n ≤ 20 := by have := hrd.len; have := HOL.out; omega
  have HLEN := ShutV.mk hlen
  clear hiff hrd hyes hlen HBY
  have h0 : ImW w w1.heap.size w1.heap.size #[.int .i64 next, .slice A n c] [] (w1.alloc (.cells #[.slice none 0 0] 49)) := ⟨HB1.out.alloc HB1.out.size _, HX1.out.alloc _, vat_new w1 _ (Nat.le_refl _), HB1.out.size⟩
  have H0 := ShutV.mk h0
  have d0 := HX1.out.cell 0
  have d1 := HX1.out.cell 1
  have dlt := HX1.out.lt
  simp only [List.getElem?_toArray, List.getElem?_cons_zero, List.getElem?_cons_succ] at d0 d1
  clear h0
  go_wp2_with fail
  generalize w1.heap.size = g at *
  refine (vInt _ _ _ _ next H0.out.wr (by simp)).mono ?_
  rintro e w2 ⟨rfl, hw2, hk2⟩
  have H2 := ShutV.mk (H0.out.put hw2 hk2)
  have d1 := H2.out.box.cell 1
  simp only [List.getElem?_toArray, List.getElem?_cons_zero, List.getElem?_cons_succ] at d1
  clear hw2 hk2 H0 HB1 HX1
  go_wp2_with fail
  refine (vInt _ _ _ _ (n : Int) H2.out.wr (by simp [encInt_len])).mono ?_
  rintro e w3 ⟨rfl, hw3, hk3⟩
  rw [List.nil_append] at hw3
  have H3 := ShutV.mk (H2.out.put hw3 hk3)
  clear hw3 hk3 H2 d1
  go_wp2_with fail
  go_loopg [4] n (fun k i wr => ImR w g g #[.int .i64 next, .slice A n c] next (obsOf xs) k i wr)
  case atStart => exact ⟨0, by have := HOL.out; omega, rfl, by have hh := H3.out; rw [HOL.out, List.take_zero]; simpa [obsB] using hh⟩
  case round =>
    obtain ⟨j, hj, rfl, him⟩ := hrel
    have HJ := ShutV.mk hj
    have HI := ShutV.mk him
    clear hj him H3
    have d0 := HI.out.box.cell 0
    have d1 := HI.out.box.cell 1
    have dlt := HI.out.box.lt
    simp only [List.getElem?_toArray, List.getElem?_cons_zero, List.getElem?_cons_succ] at d0 d1
    by_cases hlt : j < n
    · have hjx : j < xs.length := by rw [← HLN.out]; exact hlt
      have hjo : j < (obsOf xs).length := by rw [HOL.out]; exact hlt
      have hjn : (j : Int) < (n : Int) := by omega
      have hmem := List.getElem_mem hjx
      obtain ⟨b, o, eA, hbs, c0, c1, c2, c3, c4, c5⟩ := (HH.out.row.lst.below HI.out.bel).atO hjx
      have eA2 : A = some ⟨b, o, none⟩ := eA
      subst eA2
      have hok := HRD.out.ok j hjo
      rw [List.getElem_map] at hok
      obtain ⟨z1, z2, z3, z4⟩ := hok.sizes
      have hnx : encInt next ++ encInt ((obsOf xs).length : Int) ++ obsB ((obsOf xs).take (j + 1)) = encInt next ++ encInt ((obsOf xs).length : Int) ++ obsB ((obsOf xs).take j) ++ obB xs[j].o := by
        have h1 := flat_take obB hjo
        rw [List.getElem_map] at h1
        unfold obsB
        rw [h1, List.append_assoc _ _ (obB xs[j].o)]
      have hpl : (encInt next ++ encInt ((obsOf xs).length : Int) ++ obsB ((obsOf xs).take j)).length ≤ 500000 := by
        have h1 := pre_le obB (obsOf xs) j
        have h2 := HLEN.out
        unfold imageB at h2
        simp only [List.length_append, encInt_len] at h2 ⊢
        unfold obsB at h2 ⊢
        omega
      obtain ⟨hs0, hs1, hs2⟩ := HSH.out _ hmem
      have hlr := fun W (k : Below w.heap.size w W) => ((HH.out.all _ hmem).below k).rows
      have hlm := fun W (k : Below w.heap.size w W) => ((HH.out.all _ hmem).below k).msgs
      have hld := fun W (k : Below w.heap.size w W) => ((HH.out.all _ hmem).below k).dead
      generalize hpre : encInt next ++ encInt ((obsOf xs).length : Int) ++ obsB ((obsOf xs).take j) = pre at *
      generalize hpre2 : encInt next ++ encInt ((obsOf xs).length : Int) ++ obsB ((obsOf xs).take (j + 1)) = pre2 at *
      clear hok eA hmem hpre
      generalize xs[j].o = ob at *
      generalize xs[j].r = sr at *
      generalize xs[j].m = sm at *
      generalize xs[j].d = sd at *
      obtain ⟨nm, kd, lm, rs, ms, ds⟩ := ob
      obtain ⟨ra, rn, rc⟩ := sr
      obtain ⟨ma, mn, mc⟩ := sm
      obtain ⟨da, dn, dc⟩ := sd
      simp only at c0 c1 c2 c3 c4 c5 z1 z2 z3 z4 hs0 hs1 hs2 hlr hlm hld
      have hrn : rn = rs.length := (hlr _ HI.out.bel).len
      have hmn : mn = ms.length := (hlm _ HI.out.bel).len
      have hdn : dn = ds.length := (hld _ HI.out.bel).len
      have hrb : ∀ q, ((rs.take q).flatMap rowB).length ≤ 64800 := fun q => by
        have h1 := at_le (q := q) rowB (n := 144) (l := rs) fun r hr => by have := rowB_le r; have := z2 r hr; omega
        have h2 : rs.length * 144 ≤ 450 * 144 := Nat.mul_le_mul_right _ hs0
        omega
      have hmb : ∀ q, ((ms.take q).flatMap Mg.bytes).length ≤ 76050 := fun q => by
        have h1 := at_le (q := q) Mg.bytes (n := 169) (l := ms) fun m hm => by have := mbytes_le m; have := z3 m hm; omega
        have h2 : ms.length * 169 ≤ 450 * 169 := Nat.mul_le_mul_right _ hs1
        omega
      have hdb : ∀ q, ((ds.take q).flatMap Mg.bytes).length ≤ 76050 := fun q => by
        have h1 := at_le (q := q) Mg.bytes (n := 169) (l := ds) fun m hm => by have := mbytes_le m; have := z4 m hm; omega
        have h2 : ds.length * 169 ≤ 450 * 169 := Nat.mul_le_mul_right _ hs2
        omega
      have htl := text_le nm
      have HRB := ShutV.mk hrb
      have HMB := ShutV.mk hmb
      have HDB := ShutV.mk hdb
      have HTL := ShutV.mk htl
      have HPL := ShutV.mk hpl
      have HNX := ShutV.mk hnx
      have HPR := ShutV.mk hpre2
      have HLR := ShutV.mk hlr
      have HLM := ShutV.mk hlm
      have HLD := ShutV.mk hld
      have HRN := ShutV.mk hrn
      have HMN := ShutV.mk hmn
      have HDN := ShutV.mk hdn
      have Z1 := ShutV.mk z1
      have Z2 := ShutV.mk z2
      have Z3 := ShutV.mk z3
      have Z4 := ShutV.mk z4
      have HS0 := ShutV.mk hs0
      have HS1 := ShutV.mk hs1
      have HS2 := ShutV.mk hs2
      have ho : ImO w g g #[.int .i64 next, .slice (some ⟨b, o, none⟩) n c] wr.heap.size #[.string nm, .int .i64 kd, .int .i64 lm, .slice ra rn rc, .slice ma mn mc, .slice da dn dc] pre (wr.alloc (.cells #[.string nm, .int .i64 kd, .int .i64 lm, .slice ra rn rc, .slice ma mn mc, .slice da dn dc] 39)) := ⟨HI.out.step (alloc_below wr _), Blk.new wr _ _⟩
      have O0 := ShutV.mk ho
      clear hrb hmb hdb htl hpl hnx hpre2 hlr hlm hld hrn hmn hdn z1 z2 z3 z4 hs0 hs1 hs2 ho
      go_wp2_with fail
      generalize wr.heap.size = bo at *
      clear c0 c1 c2 c3 c4 c5 d0 d1 dlt hbs HI
      refine (vText _ _ _ _ nm O0.out.im.wr (by have := HPL.out; omega) (by have := Z1.out; omega)).mono ?_
      rintro e w4 ⟨rfl, hw, hk⟩
      have O4 := ShutV.mk (O0.out.put hw hk)
      have e1 := O4.out.ob.cell 1
      simp only [List.getElem?_toArray, List.getElem?_cons_zero, List.getElem?_cons_succ] at e1
      clear hw hk O0
      go_wp2_with fail
      clear e1
      refine (vInt _ _ _ _ kd O4.out.im.wr (by have := HPL.out; have := HTL.out; have := Z1.out; rw [List.length_append]; omega)).mono ?_
      rintro e w5 ⟨rfl, hw, hk⟩
      have O5 := ShutV.mk (O4.out.put hw hk)
      have e2 := O5.out.ob.cell 2
      simp only [List.getElem?_toArray, List.getElem?_cons_zero, List.getElem?_cons_succ] at e2
      clear hw hk O4
      go_wp2_with fail
      clear e2
      refine (vInt _ _ _ _ lm O5.out.im.wr (by have := HPL.out; have := HTL.out; have := Z1.out; simp only [List.length_append, encInt_len]; omega)).mono ?_
      rintro e w6 ⟨rfl, hw, hk⟩
      have O6 := ShutV.mk (O5.out.put hw hk)
      have e3 := O6.out.ob.cell 3
      simp only [List.getElem?_toArray, List.getElem?_cons_zero, List.getElem?_cons_succ] at e3
      clear hw hk O5
      go_wp2_with fail
      clear e3
      refine (vInt _ _ _ _ (rn : Int) O6.out.im.wr (by have := HPL.out; have := HTL.out; have := Z1.out; simp only [List.length_append, encInt_len]; omega)).mono ?_
      rintro e w7 ⟨rfl, hw, hk⟩
      have O7 := ShutV.mk (O6.out.put hw hk)
      have e3 := O7.out.ob.cell 3
      simp only [List.getElem?_toArray, List.getElem?_cons_zero, List.getElem?_cons_succ] at e3
      clear hw hk O6
      go_wp2_with fail
      clear e3
      go_loopg [6] rs.length (fun k i wx => ImI w g g #[.int .i64 next, .slice (some ⟨b, o, none⟩) n c] bo #[.string nm, .int .i64 kd, .int .i64 lm, .slice ra rn rc, .slice ma mn mc, .slice da dn dc] rowB (pre ++ encText nm.data.toList ++ encInt kd ++ encInt lm ++ encInt (rn : Int)) rs k i wx)
      case atStart => exact ⟨0, by omega, rfl, by rw [List.take_zero, List.flatMap_nil, List.append_nil]; exact O7.out⟩
      case round =>
        obtain ⟨q6, hq6, rfl, him⟩ := hrel
        have HQ6 := ShutV.mk hq6
        have HO6 := ShutV.mk him
        clear hq6 him
        have e3 := HO6.out.ob.cell 3
        have e4 := HO6.out.ob.cell 4
        simp only [List.getElem?_toArray, List.getElem?_cons_zero, List.getElem?_cons_succ] at e3 e4
        by_cases hl6 : q6 < rs.length
        · obtain ⟨mb, mo, em, _, i0, i1⟩ := (HLR.out _ HO6.out.im.bel).lst.atR hl6
          have em2 : ra = some ⟨mb, mo, none⟩ := em
          subst em2
          have hrow : ∀ W, Below w.heap.size w W → W.cell? ⟨mb, mo + q6 * 2 + 1, none⟩ = some (.string rs[q6].2) := fun W k => by
            obtain ⟨mb', mo', em', _, _, i1'⟩ := (HLR.out W k).lst.atR hl6
            injection em' with em'
            injection em' with e1' e2'
            subst e1' e2'
            exact i1'
          have hqi : (q6 : Int) < (rn : Int) := by have := HRN.out; omega
          have hw1 : IntKind.i64.wrap ((q6 : Int) + 1) = (q6 : Int) + 1 := by rw [IntKind.wrap_i64]; have := HS0.out; omega
          have hz := Z2.out _ (List.getElem_mem hl6)
          have hst := flat_take rowB hl6
          have hb2 := HRB.out q6
          generalize rs[q6] = y at *
          obtain ⟨yk, yv⟩ := y
          simp only at i0 i1 hz hrow
          have HROW := ShutV.mk hrow
          clear hrow
          generalize hpp : (rs.take q6).flatMap rowB = pp at *
          have HST := ShutV.mk hst
          have HZ := ShutV.mk hz
          have HB2 := ShutV.mk hb2
          clear hst hz hb2 em
          have hkl := text_le yk
          have HKL := ShutV.mk hkl
          clear hkl
          go_wp2_with fail
          refine (vText _ _ _ _ yk HO6.out.im.wr (by have := HB2.out; have := HZ.out; have := HKL.out; have := HPL.out; have := HTL.out; have := Z1.out; simp only [List.length_append, encInt_len]; omega) (by have := HZ.out; omega)).mono ?_
          rintro e w20 ⟨rfl, hw, hk⟩
          have O20 := ShutV.mk (HO6.out.put hw hk)
          clear hw hk
          have e3 := O20.out.ob.cell 3
          simp only [List.getElem?_toArray, List.getElem?_cons_zero, List.getElem?_cons_succ] at e3
          have i3 := HROW.out _ O20.out.im.bel
          clear i0 i1
          go_wp2_with fail
          refine (vText _ _ _ _ yv O20.out.im.wr (by have := HB2.out; have := HZ.out; have := HKL.out; have := HPL.out; have := HTL.out; have := Z1.out; simp only [List.length_append, encInt_len]; omega) (by have := HZ.out; omega)).mono ?_
          rintro e w21 ⟨rfl, hw, hk⟩
          have O21 := ShutV.mk (O20.out.put hw hk)
          clear hw hk
          have O22 := O21.out
          rw [List.append_assoc _ (encText yk.data.toList), ← show rowB (yk, yv) = encText yk.data.toList ++ encText yv.data.toList from rfl, List.append_assoc _ pp, ← HST.out] at O22
          have O23 := ShutV.mk O22
          clear O22
          go_wp2_with fail
          go_roundg (rs.length - (q6 + 1))
          case measure => have := HQ6.out; omega
          case rel => exact ⟨q6 + 1, by have := HQ6.out; omega, congrArg (Value.int .i64) (by omega), O23.out⟩
        · have hqe : q6 = rs.length := by have := HQ6.out; omega
          have hqi : ¬ (q6 : Int) < (rn : Int) := by have := HRN.out; omega
          have hful := HO6.out
          rw [hqe, List.take_length] at hful
          have HF6 := ShutV.mk hful
          clear hful hqe hl6 HO6
          go_wp2_with fail
          have hrb := HRB.out rs.length
          rw [List.take_length] at hrb
          have HRB2 := ShutV.mk hrb
          clear hrb
          refine (vInt _ _ _ _ (mn : Int) HF6.out.im.wr (by have := HRB2.out; have := HPL.out; have := HTL.out; have := Z1.out; simp only [List.length_append, encInt_len]; omega)).mono ?_
          rintro e w40 ⟨rfl, hw, hk⟩
          have O40 := ShutV.mk (HF6.out.put hw hk)
          have e4 := O40.out.ob.cell 4
          have e5 := O40.out.ob.cell 5
          simp only [List.getElem?_toArray, List.getElem?_cons_zero, List.getElem?_cons_succ] at e4 e5
          clear hw hk HF6
          go_wp2_with fail
          clear e4 e5
          go_loopg [7] ms.length (fun k i wx => ImI w g g #[.int .i64 next, .slice (some ⟨b, o, none⟩) n c] bo #[.string nm, .int .i64 kd, .int .i64 lm, .slice ra rn rc, .slice ma mn mc, .slice da dn dc] Mg.bytes (pre ++ encText nm.data.toList ++ encInt kd ++ encInt lm ++ encInt (rn : Int) ++ rs.flatMap rowB ++ encInt (mn : Int)) ms k i wx)
          case atStart => exact ⟨0, by omega, rfl, by rw [List.take_zero, List.flatMap_nil, List.append_nil]; exact O40.out⟩
          case round =>
            obtain ⟨q7, hq7, rfl, him⟩ := hrel
            have HQ7 := ShutV.mk hq7
            have HO7 := ShutV.mk him
            clear hq7 him
            have e4 := HO7.out.ob.cell 4
            have e5 := HO7.out.ob.cell 5
            simp only [List.getElem?_toArray, List.getElem?_cons_zero, List.getElem?_cons_succ] at e4 e5
            by_cases hl7 : q7 < ms.length
            · obtain ⟨mb, mo, em, _, i0, i1, i2, i3, i4, i5⟩ := (HLM.out _ HO7.out.im.bel).lst.atM hl7
              have em2 : ma = some ⟨mb, mo, none⟩ := em
              subst em2
              have hqi : (q7 : Int) < (mn : Int) := by have := HMN.out; omega
              have hw1 : IntKind.i64.wrap ((q7 : Int) + 1) = (q7 : Int) + 1 := by rw [IntKind.wrap_i64]; have := HS1.out; omega
              have hz := Z3.out _ (List.getElem_mem hl7)
              have hst := flat_take Mg.bytes hl7
              have hb2 := HMB.out q7
              have hrb := HRB.out rs.length
              have hmb := HMB.out ms.length
              rw [List.take_length] at hrb hmb
              generalize ms[q7] = y at *
              have hpm := putMsg_ y (by omega) (by omega)
              have hob := onto_bytes y
              generalize hpp : (ms.take q7).flatMap Mg.bytes = pp at *
              have HST := ShutV.mk hst
              have HB2 := ShutV.mk hb2
              have HRB2 := ShutV.mk hrb
              have HMB2 := ShutV.mk hmb
              have HPM := ShutV.mk hpm
              have HOB := ShutV.mk hob
              clear hst hz hb2 em hrb hmb hpm hob
              obtain ⟨y0, y1, y2, y3, y4, y5⟩ := y
              simp only at i0 i1 i2 i3 i4 i5
              go_wp2_with fail
              refine (HPM.out _ (by have := HB2.out; have := HRB2.out; have := HMB2.out; have := HPL.out; have := HTL.out; have := Z1.out; simp only [List.length_append, encInt_len]; omega) _ _ _ HO7.out.im.wr).mono ?_
              rintro e w30 ⟨rfl, hw, hk⟩
              have O31 := HO7.out.put hw hk
              rw [HOB.out, List.append_assoc _ pp, ← HST.out] at O31
              have O32 := ShutV.mk O31
              clear hw hk O31
              go_wp2_with fail
              go_roundg (ms.length - (q7 + 1))
              case measure => have := HQ7.out; omega
              case rel => exact ⟨q7 + 1, by have := HQ7.out; omega, congrArg (Value.int .i64) (by omega), O32.out⟩
            · have hqe : q7 = ms.length := by have := HQ7.out; omega
              have hqi : ¬ (q7 : Int) < (mn : Int) := by have := HMN.out; omega
              have hful := HO7.out
              rw [hqe, List.take_length] at hful
              have HF7 := ShutV.mk hful
              clear hful hqe hl7 HO7
              go_wp2_with fail
              have hmb := HMB.out ms.length
              rw [List.take_length] at hmb
              have HMB2 := ShutV.mk hmb
              clear hmb
              refine (vInt _ _ _ _ (dn : Int) HF7.out.im.wr (by have := HRB2.out; have := HMB2.out; have := HPL.out; have := HTL.out; have := Z1.out; simp only [List.length_append, encInt_len]; omega)).mono ?_
              rintro e w41 ⟨rfl, hw, hk⟩
              have O41 := ShutV.mk (HF7.out.put hw hk)
              have e5 := O41.out.ob.cell 5
              simp only [List.getElem?_toArray, List.getElem?_cons_zero, List.getElem?_cons_succ] at e5
              clear hw hk HF7
              go_wp2_with fail
              clear e5
              go_loopg [8] ds.length (fun k i wx => ImI w g g #[.int .i64 next, .slice (some ⟨b, o, none⟩) n c] bo #[.string nm, .int .i64 kd, .int .i64 lm, .slice ra rn rc, .slice ma mn mc, .slice da dn dc] Mg.bytes (pre ++ encText nm.data.toList ++ encInt kd ++ encInt lm ++ encInt (rn : Int) ++ rs.flatMap rowB ++ encInt (mn : Int) ++ ms.flatMap Mg.bytes ++ encInt (dn : Int)) ds k i wx)
              case atStart => exact ⟨0, by omega, rfl, by rw [List.take_zero, List.flatMap_nil, List.append_nil]; exact O41.out⟩
              case round =>
                obtain ⟨q8, hq8, rfl, him⟩ := hrel
                have HQ8 := ShutV.mk hq8
                have HO8 := ShutV.mk him
                clear hq8 him
                have e5 := HO8.out.ob.cell 5
                simp only [List.getElem?_toArray, List.getElem?_cons_zero, List.getElem?_cons_succ] at e5
                by_cases hl8 : q8 < ds.length
                · obtain ⟨mb, mo, em, _, i0, i1, i2, i3, i4, i5⟩ := (HLD.out _ HO8.out.im.bel).lst.atM hl8
                  have em2 : da = some ⟨mb, mo, none⟩ := em
                  subst em2
                  have hqi : (q8 : Int) < (dn : Int) := by have := HDN.out; omega
                  have hw1 : IntKind.i64.wrap ((q8 : Int) + 1) = (q8 : Int) + 1 := by rw [IntKind.wrap_i64]; have := HS2.out; omega
                  have hz := Z4.out _ (List.getElem_mem hl8)
                  have hst := flat_take Mg.bytes hl8
                  have hb2 := HDB.out q8
                  have hrb := HRB.out rs.length
                  have hmb := HMB.out ms.length
                  rw [List.take_length] at hrb hmb
                  generalize ds[q8] = y at *
                  have hpm := putMsg_ y (by omega) (by omega)
                  have hob := onto_bytes y
                  generalize hpp : (ds.take q8).flatMap Mg.bytes = pp at *
                  have HST := ShutV.mk hst
                  have HB2 := ShutV.mk hb2
                  have HRB2 := ShutV.mk hrb
                  have HMB2 := ShutV.mk hmb
                  have HPM := ShutV.mk hpm
                  have HOB := ShutV.mk hob
                  clear hst hz hb2 em hrb hmb hpm hob
                  obtain ⟨y0, y1, y2, y3, y4, y5⟩ := y
                  simp only at i0 i1 i2 i3 i4 i5
                  go_wp2_with fail
                  refine (HPM.out _ (by have := HB2.out; have := HRB2.out; have := HMB2.out; have := HPL.out; have := HTL.out; have := Z1.out; simp only [List.length_append, encInt_len]; omega) _ _ _ HO8.out.im.wr).mono ?_
                  rintro e w30 ⟨rfl, hw, hk⟩
                  have O31 := HO8.out.put hw hk
                  rw [HOB.out, List.append_assoc _ pp, ← HST.out] at O31
                  have O32 := ShutV.mk O31
                  clear hw hk O31
                  go_wp2_with fail
                  go_roundg (ds.length - (q8 + 1))
                  case measure => have := HQ8.out; omega
                  case rel => exact ⟨q8 + 1, by have := HQ8.out; omega, congrArg (Value.int .i64) (by omega), O32.out⟩
                · have hqe : q8 = ds.length := by have := HQ8.out; omega
                  have hqi : ¬ (q8 : Int) < (dn : Int) := by have := HDN.out; omega
                  have hful := HO8.out
                  rw [hqe, List.take_length] at hful
                  have HF8 := ShutV.mk hful
                  clear hful hqe hl8 HO8
                  go_wp2_with fail
                  have hE := HF8.out.im
                  have hall : pre ++ encText nm.data.toList ++ encInt kd ++ encInt lm ++ encInt (rn : Int) ++ rs.flatMap rowB ++ encInt (mn : Int) ++ ms.flatMap Mg.bytes ++ encInt (dn : Int) ++ ds.flatMap Mg.bytes = pre2 := by
                    rw [HNX.out, HRN.out, HMN.out, HDN.out]
                    simp only [obB, rowsB, msgsB, List.append_assoc]
                  rw [hall] at hE
                  have HE := ShutV.mk hE
                  clear hE hall
                  have hwj : IntKind.i64.wrap ((j : Int) + 1) = (j : Int) + 1 := by rw [IntKind.wrap_i64]; omega
                  go_roundg (n - (j + 1))
                  case measure => have := HJ.out; have := HOL.out; omega
                  case rel => exact ⟨j + 1, by have := HJ.out; have := HOL.out; omega, congrArg (Value.int .i64) (by omega), by rw [HPR.out]; exact HE.out⟩
    · have he : j = (obsOf xs).length := by have := HJ.out; have := HOL.out; omega
      have hjn : ¬ (j : Int) < (n : Int) := by omega
      have hful := HI.out
      rw [he, List.take_length] at hful
      have hful2 : ImW w g g #[.int .i64 next, .slice A n c] (imageB next (obsOf xs)) wr := hful
      obtain ⟨v, hb1, ho1, _⟩ := hful2.wr
      obtain ⟨A', n', rfl, hr, hc1, hc2⟩ := own_rb ho1
      have q0 := hb1.cell 0
      have f0 := hb1.frozen 0
      have HR := ShutV.mk hr
      have HC1 := ShutV.mk hc1
      have HC2 := ShutV.mk hc2
      have HBL := ShutV.mk hful.bel
      clear hb1 ho1 hr hc1 hc2 hful hful2 he HI
      go_wp2
      go_ret
      refine ⟨?_, HBL.out⟩
      rw [HYES.out]
      exact ⟨A', n', rfl, HR.out, HC1.out, HC2.out⟩
end Go.Proofs.Ytpggnklbgkdjcaa
