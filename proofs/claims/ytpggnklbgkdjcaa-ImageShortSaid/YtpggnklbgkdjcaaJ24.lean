/- The document's Size (tools/r20_szd.py writes it). Two blocks made one behind the other, and what is stored into them: an object that is turned, and its result. The document's words on messages and rows: are two lists one?. Are two objects one, the document asks: of two that are. -/
import Derived.Test.YtpggnklbgkdjcaaJ13
import Derived.Test.YtpggnklbgkdjcaaJ21
import Derived.Test.YtpggnklbgkdjcaaJ02
import Derived.Test.YtpggnklbgkdjcaaJ14
import Derived.RegionTactic
import Derived.Deep.QuietTactic
import Derived.BigQuiet
import Derived.Test.YtpggnklbgkdjcaaJ10
import Derived.Laws.StructEq
set_option maxRecDepth 4000
namespace Go.Proofs.Ytpggnklbgkdjcaa
open Go.RowKit
def SzR (w : World) (c0 : Array Value) (l : List Ob) (k : Nat) (v i : Value) (wr : World) : Prop :=
  ∃ j, j + k = l.length ∧ i = .int .i64 (j : Int) ∧ v = .int .i64 ((16 + ((l.take j).map sizeO).sum : Nat) : Int) ∧ Below w.heap.size w wr ∧ Blk wr w.heap.size 24 c0
def SzI (w : World) (b : Nat) (c0 cs : Array Value) {α : Type} (f : α → Nat) (V : Nat) (l : List α) (k : Nat) (v i : Value) (wr : World) : Prop :=
  ∃ q, q + k = l.length ∧ i = .int .i64 (q : Int) ∧ v = .int .i64 ((V + ((l.take q).map f).sum : Nat) : Int) ∧ RdW w b c0 cs wr
theorem sum_succ {α : Type} (f : α → Nat) {l : List α} {q : Nat} (h : q < l.length) : ((l.take (q + 1)).map f).sum = ((l.take q).map f).sum + f l[q] := by
  rw [List.take_succ_eq_append_getElem h, List.map_append, List.sum_append]; simp
theorem sum_pre {α : Type} (f : α → Nat) (l : List α) (q : Nat) : ((l.take q).map f).sum ≤ (l.map f).sum := by
  have e : (l.map f).sum = ((l.take q).map f).sum + ((l.drop q).map f).sum := by rw [← List.sum_append, ← List.map_append, List.take_append_drop]
  omega
theorem sum_ge {α : Type} (f : α → Nat) {l : List α} (h : ∀ x ∈ l, 1 ≤ f x) : l.length ≤ (l.map f).sum := by
  induction l with
  | nil => simp
  | cons a t ih =>
    have h1 := h a List.mem_cons_self
    have h2 := ih fun x hx => h x (List.mem_cons_of_mem _ hx)
    rw [List.map_cons, List.sum_cons, List.length_cons]
    omega
structure ShutY (p : Prop) : Prop where out : p
set_option maxHeartbeats 8000000 in
theorem vsize_ {w : World} {K : Nat → Prop} {s : Sv} {xs : List Oc} (h : ObsAt w K s xs) (next : Int) (hz : sizeD (obsOf xs) ≤ 1000000) :
    Calls Try.prog 13 #[.agg #[.int .i64 next, .slice s.a s.n s.c]] w fun e w' => e = .returned (.int .i64 ((sizeD (obsOf xs) : Nat) : Int)) ∧ Below w.heap.size w w' := by
  obtain ⟨A, n, c⟩ := s
  have hln : n = xs.length := h.row.len
  have hol : (obsOf xs).length = n := by rw [hln]; simp [obsOf]
  have HB0 := ShutY.mk (alloc_below w (.cells #[.int .i64 next, .slice A n c] 24))
  have HX0 := ShutY.mk (Blk.new w 24 #[.int .i64 next, .slice A n c])
  have HH := ShutY.mk h
  have HLN := ShutY.mk hln
  have HOL := ShutY.mk hol
  obtain ⟨Z, hZ⟩ : ∃ Z, sizeD (obsOf xs) = Z := ⟨_, rfl⟩
  rw [hZ] at hz ⊢
  have HZ := ShutY.mk hZ
  have HZB := ShutY.mk hz
  clear h hln hol hZ hz
  go_enter Try.func13, Try.ntmps13
  go_wp2_with fail
  go_loopg [3, 4] n (fun k v i wr => SzR w #[.int .i64 next, .slice A n c] (obsOf xs) k v i wr)
  case atStart => exact ⟨0, by have := HOL.out; omega, rfl, rfl, HB0.out, HX0.out⟩
  case round =>
    obtain ⟨wo, rfl⟩ : ∃ wo, wo = wr := ⟨_, rfl⟩
    obtain ⟨j, hj, rfl, rfl, hb, hblk⟩ := hrel
    have HJ := ShutY.mk hj
    have HB := ShutY.mk hb
    have HX := ShutY.mk hblk
    have d1 := hblk.cell 1
    have dlt := hblk.lt
    simp only [List.getElem?_toArray, List.getElem?_cons_zero, List.getElem?_cons_succ] at d1
    clear hj hb hblk HB0 HX0
    by_cases hlt : j < n
    · have hjx : j < xs.length := by rw [← HLN.out]; exact hlt
      have hjo : j < (obsOf xs).length := by rw [HOL.out]; exact hlt
      have hjn : (j : Int) < (n : Int) := by omega
      have hjb : j ≤ 1000000 := by
        have h1 := sum_ge sizeO (l := obsOf xs) fun o _ => (by unfold sizeO; omega)
        have h2 := HZ.out
        have h3 := HZB.out
        unfold sizeD at h2
        omega
      have hwj : IntKind.i64.wrap ((j : Int) + 1) = (j : Int) + 1 := by rw [IntKind.wrap_i64]; omega
      have hmem := List.getElem_mem hjx
      obtain ⟨b, o, eA, hbs, c0, c1, c2, c3, c4, c5⟩ := (HH.out.row.lst.below HB.out).atO hjx
      have eA2 : A = some ⟨b, o, none⟩ := eA
      subst eA2
      have hnx := sum_succ sizeO hjo
      rw [show (obsOf xs)[j] = xs[j].o from List.getElem_map _] at hnx
      have hbig := sum_pre sizeO (obsOf xs) (j + 1)
      have hzz : 16 + ((obsOf xs).map sizeO).sum ≤ 1000000 := by have h1 := HZ.out; have h2 := HZB.out; unfold sizeD at h1; omega
      rw [hnx] at hbig
      have hlr := fun W (k : Below w.heap.size w W) => ((HH.out.all _ hmem).below k).rows
      have hlm := fun W (k : Below w.heap.size w W) => ((HH.out.all _ hmem).below k).msgs
      have hld := fun W (k : Below w.heap.size w W) => ((HH.out.all _ hmem).below k).dead
      generalize ((obsOf xs).map sizeO).sum = TT at *
      generalize hT2 : (((obsOf xs).take (j + 1)).map sizeO).sum = T2 at *
      have HT2 := ShutY.mk hT2
      generalize (((obsOf xs).take j).map sizeO).sum = T1 at *
      generalize xs[j].o = ob at *
      generalize xs[j].r = sr at *
      generalize xs[j].m = sm at *
      generalize xs[j].d = sd at *
      obtain ⟨nm, kd, lm, rs, ms, ds⟩ := ob
      obtain ⟨ra, rn, rc⟩ := sr
      obtain ⟨ma, mn, mc⟩ := sm
      obtain ⟨da, dn, dc⟩ := sd
      simp only at c0 c1 c2 c3 c4 c5 hlr hlm hld
      simp only [sizeO] at hnx hbig
      obtain ⟨R, hR⟩ : ∃ R, (rs.map (fun r : Rw => 20 + r.1.size + r.2.size)).sum = R := ⟨_, rfl⟩
      obtain ⟨M, hM⟩ : ∃ M, (ms.map (fun m : Mg => 60 + m.corr.size + m.body.size)).sum = M := ⟨_, rfl⟩
      obtain ⟨D, hD⟩ : ∃ D, (ds.map (fun m : Mg => 60 + m.corr.size + m.body.size)).sum = D := ⟨_, rfl⟩
      rw [hR, hM, hD] at hnx hbig
      have hcap : 16 + T1 + 50 + nm.size + R + M + D ≤ 1000000 := by omega
      have hnx2 : 16 + T2 = 16 + T1 + 50 + nm.size + R + M + D := by omega
      have HCAP := ShutY.mk hcap
      have HNX := ShutY.mk hnx2
      have HR := ShutY.mk hR
      have HM := ShutY.mk hM
      have HD := ShutY.mk hD
      have HLR := ShutY.mk hlr
      have HLM := ShutY.mk hlm
      have HLD := ShutY.mk hld
      have hw0 : IntKind.i64.wrap (((16 + T1 : Nat) : Int) + 50) = ((16 + T1 + 50 : Nat) : Int) := by rw [IntKind.wrap_i64]; omega
      have hw1 : IntKind.i64.wrap (((16 + T1 + 50 : Nat) : Int) + (nm.size : Int)) = ((16 + T1 + 50 + nm.size : Nat) : Int) := by rw [IntKind.wrap_i64]; omega
      generalize hu0 : 16 + T1 = U0 at *
      generalize hu1 : U0 + 50 = U1 at *
      generalize hu2 : U1 + nm.size = U2 at *
      have hrw : RdW w wo.heap.size #[.int .i64 next, .slice (some ⟨b, o, none⟩) n c] #[.string nm, .int .i64 kd, .int .i64 lm, .slice ra rn rc, .slice ma mn mc, .slice da dn dc] (wo.alloc (.cells #[.string nm, .int .i64 kd, .int .i64 lm, .slice ra rn rc, .slice ma mn mc, .slice da dn dc] 39)) := ⟨HB.out.alloc HB.out.size _, HX.out.alloc _, Blk.new wo _ _⟩
      have HR0 := ShutY.mk hrw
      clear hrw hcap hnx hnx2 hR hM hD hlr hlm hld hbig hzz hmem eA hT2 hu0 hu1 hu2
      go_wp2_with fail
      clear c0 c1 c2 c3 c4 c5 d1 dlt hbs hw0 hw1
      go_loopg [3, 6] rs.length (fun k v i wx => SzI w wo.heap.size #[.int .i64 next, .slice (some ⟨b, o, none⟩) n c] #[.string nm, .int .i64 kd, .int .i64 lm, .slice ra rn rc, .slice ma mn mc, .slice da dn dc] (fun r : Rw => 20 + r.1.size + r.2.size) (U2) rs k v i wx)
      case atStart => exact ⟨0, by omega, rfl, by simp, HR0.out⟩
      case round =>
        obtain ⟨q6, hq6, rfl, rfl, him⟩ := hrel
        have HQ6 := ShutY.mk hq6
        have HO6 := ShutY.mk him
        have e3 := him.o.cell 3
        simp only [List.getElem?_toArray, List.getElem?_cons_zero, List.getElem?_cons_succ] at e3
        have hn6 : rn = rs.length := (HLR.out _ him.b).len
        clear hq6 him
        by_cases hl6 : q6 < rs.length
        · obtain ⟨mb, mo, em, _, i0, i1⟩ := (HLR.out _ HO6.out.b).lst.atR hl6
          have em2 : ra = some ⟨mb, mo, none⟩ := em
          subst em2
          have hqi : (q6 : Int) < (rn : Int) := by omega
          have hst := sum_succ (fun r : Rw => 20 + r.1.size + r.2.size) hl6
          have hle := sum_pre (fun r : Rw => 20 + r.1.size + r.2.size) rs (q6 + 1)
          have hfx := HR.out
          rw [hfx] at hle
          rw [hst] at hle
          try simp only at hst hle
          generalize rs[q6].1 = yk at *
          generalize rs[q6].2 = yv at *
          generalize hu2 : ((rs.take (q6 + 1)).map (fun r : Rw => 20 + r.1.size + r.2.size)).sum = u2 at *
          have HU2 := ShutY.mk hu2
          generalize ((rs.take q6).map (fun r : Rw => 20 + r.1.size + r.2.size)).sum = u1 at *
          have hcap := HCAP.out
          have hlen : rs.length ≤ 1000000 := by
            have h1 := sum_ge (fun r : Rw => 20 + r.1.size + r.2.size) (l := rs) fun x _ => by show 1 ≤ 20 + _ + _; omega
            rw [hfx] at h1
            omega
          have hwq : IntKind.i64.wrap ((q6 : Int) + 1) = (q6 : Int) + 1 := by rw [IntKind.wrap_i64]; omega
          have hwA : IntKind.i64.wrap (((U2 + u1 : Nat) : Int) + 20) = ((U2 + u1 + 20 : Nat) : Int) := by rw [IntKind.wrap_i64]; omega
          have hwB : IntKind.i64.wrap (((U2 + u1 + 20 : Nat) : Int) + (yk.size : Int)) = ((U2 + u1 + 20 + yk.size : Nat) : Int) := by rw [IntKind.wrap_i64]; omega
          have hwC : IntKind.i64.wrap (((U2 + u1 + 20 + yk.size : Nat) : Int) + (yv.size : Int)) = ((U2 + u2 : Nat) : Int) := by rw [IntKind.wrap_i64]; omega
          generalize hv5 : U2 + u2 = V5 at *
          have HV5 := ShutY.mk hv5
          generalize hv4 : U2 + u1 + 20 + yk.size = V4 at *
          generalize hv3 : U2 + u1 + 20 = V3 at *
          generalize hv2 : U2 + u1 = V2 at *
          clear hst hle hfx hcap hlen em hv2 hv3 hv4 hv5 hu2
          go_wp2_with fail
          go_quiet (fail)
          go_wp2_with fail
          go_roundg (rs.length - (q6 + 1))
          case measure => have := HQ6.out; omega
          case rel => exact ⟨q6 + 1, by have := HQ6.out; omega, congrArg (Value.int .i64) (by omega), (by rw [HU2.out, HV5.out]), HO6.out.drewN _⟩
        · have hqe : q6 = rs.length := by have := HQ6.out; omega
          have hqi : ¬ (q6 : Int) < (rn : Int) := by omega
          have hful : ((rs.take q6).map (fun r : Rw => 20 + r.1.size + r.2.size)).sum = R := by rw [hqe, List.take_length]; exact HR.out
          rw [hful]
          clear hful hqe hl6 hn6
          go_wp2_with fail
          go_loopg [3, 7] ms.length (fun k v i wx => SzI w wo.heap.size #[.int .i64 next, .slice (some ⟨b, o, none⟩) n c] #[.string nm, .int .i64 kd, .int .i64 lm, .slice ra rn rc, .slice ma mn mc, .slice da dn dc] (fun m : Mg => 60 + m.corr.size + m.body.size) (U2 + R) ms k v i wx)
          case atStart => exact ⟨0, by omega, rfl, by simp, HO6.out⟩
          case round =>
            obtain ⟨q7, hq7, rfl, rfl, him⟩ := hrel
            have HQ7 := ShutY.mk hq7
            have HO7 := ShutY.mk him
            have e4 := him.o.cell 4
            simp only [List.getElem?_toArray, List.getElem?_cons_zero, List.getElem?_cons_succ] at e4
            have hn7 : mn = ms.length := (HLM.out _ him.b).len
            clear hq7 him
            by_cases hl7 : q7 < ms.length
            · obtain ⟨mb, mo, em, _, _, _, _, _, i0, i1⟩ := (HLM.out _ HO7.out.b).lst.atM hl7
              have em2 : ma = some ⟨mb, mo, none⟩ := em
              subst em2
              have hqi : (q7 : Int) < (mn : Int) := by omega
              have hst := sum_succ (fun m : Mg => 60 + m.corr.size + m.body.size) hl7
              have hle := sum_pre (fun m : Mg => 60 + m.corr.size + m.body.size) ms (q7 + 1)
              have hfx := HM.out
              rw [hfx] at hle
              rw [hst] at hle
              try simp only at hst hle
              generalize ms[q7].corr = yk at *
              generalize ms[q7].body = yv at *
              generalize hu2 : ((ms.take (q7 + 1)).map (fun m : Mg => 60 + m.corr.size + m.body.size)).sum = u2 at *
              have HU2 := ShutY.mk hu2
              generalize ((ms.take q7).map (fun m : Mg => 60 + m.corr.size + m.body.size)).sum = u1 at *
              have hcap := HCAP.out
              have hlen : ms.length ≤ 1000000 := by
                have h1 := sum_ge (fun m : Mg => 60 + m.corr.size + m.body.size) (l := ms) fun x _ => by show 1 ≤ 60 + _ + _; omega
                rw [hfx] at h1
                omega
              have hwq : IntKind.i64.wrap ((q7 : Int) + 1) = (q7 : Int) + 1 := by rw [IntKind.wrap_i64]; omega
              have hwA : IntKind.i64.wrap (((U2 + R + u1 : Nat) : Int) + 60) = ((U2 + R + u1 + 60 : Nat) : Int) := by rw [IntKind.wrap_i64]; omega
              have hwB : IntKind.i64.wrap (((U2 + R + u1 + 60 : Nat) : Int) + (yk.size : Int)) = ((U2 + R + u1 + 60 + yk.size : Nat) : Int) := by rw [IntKind.wrap_i64]; omega
              have hwC : IntKind.i64.wrap (((U2 + R + u1 + 60 + yk.size : Nat) : Int) + (yv.size : Int)) = ((U2 + R + u2 : Nat) : Int) := by rw [IntKind.wrap_i64]; omega
              generalize hv5 : U2 + R + u2 = V5 at *
              have HV5 := ShutY.mk hv5
              generalize hv4 : U2 + R + u1 + 60 + yk.size = V4 at *
              generalize hv3 : U2 + R + u1 + 60 = V3 at *
              generalize hv2 : U2 + R + u1 = V2 at *
              clear hst hle hfx hcap hlen em hv2 hv3 hv4 hv5 hu2
              go_wp2_with fail
              go_quiet (fail)
              go_wp2_with fail
              go_roundg (ms.length - (q7 + 1))
              case measure => have := HQ7.out; omega
              case rel => exact ⟨q7 + 1, by have := HQ7.out; omega, congrArg (Value.int .i64) (by omega), (by rw [HU2.out, HV5.out]), HO7.out.drewN _⟩
            · have hqe : q7 = ms.length := by have := HQ7.out; omega
              have hqi : ¬ (q7 : Int) < (mn : Int) := by omega
              have hful : ((ms.take q7).map (fun m : Mg => 60 + m.corr.size + m.body.size)).sum = M := by rw [hqe, List.take_length]; exact HM.out
              rw [hful]
              clear hful hqe hl7 hn7
              go_wp2_with fail
              go_loopg [3, 8] ds.length (fun k v i wx => SzI w wo.heap.size #[.int .i64 next, .slice (some ⟨b, o, none⟩) n c] #[.string nm, .int .i64 kd, .int .i64 lm, .slice ra rn rc, .slice ma mn mc, .slice da dn dc] (fun m : Mg => 60 + m.corr.size + m.body.size) (U2 + R + M) ds k v i wx)
              case atStart => exact ⟨0, by omega, rfl, by simp, HO7.out⟩
              case round =>
                obtain ⟨q8, hq8, rfl, rfl, him⟩ := hrel
                have HQ8 := ShutY.mk hq8
                have HO8 := ShutY.mk him
                have e5 := him.o.cell 5
                simp only [List.getElem?_toArray, List.getElem?_cons_zero, List.getElem?_cons_succ] at e5
                have hn8 : dn = ds.length := (HLD.out _ him.b).len
                clear hq8 him
                by_cases hl8 : q8 < ds.length
                · obtain ⟨mb, mo, em, _, _, _, _, _, i0, i1⟩ := (HLD.out _ HO8.out.b).lst.atM hl8
                  have em2 : da = some ⟨mb, mo, none⟩ := em
                  subst em2
                  have hqi : (q8 : Int) < (dn : Int) := by omega
                  have hst := sum_succ (fun m : Mg => 60 + m.corr.size + m.body.size) hl8
                  have hle := sum_pre (fun m : Mg => 60 + m.corr.size + m.body.size) ds (q8 + 1)
                  have hfx := HD.out
                  rw [hfx] at hle
                  rw [hst] at hle
                  try simp only at hst hle
                  generalize ds[q8].corr = yk at *
                  generalize ds[q8].body = yv at *
                  generalize hu2 : ((ds.take (q8 + 1)).map (fun m : Mg => 60 + m.corr.size + m.body.size)).sum = u2 at *
                  have HU2 := ShutY.mk hu2
                  generalize ((ds.take q8).map (fun m : Mg => 60 + m.corr.size + m.body.size)).sum = u1 at *
                  have hcap := HCAP.out
                  have hlen : ds.length ≤ 1000000 := by
                    have h1 := sum_ge (fun m : Mg => 60 + m.corr.size + m.body.size) (l := ds) fun x _ => by show 1 ≤ 60 + _ + _; omega
                    rw [hfx] at h1
                    omega
                  have hwq : IntKind.i64.wrap ((q8 : Int) + 1) = (q8 : Int) + 1 := by rw [IntKind.wrap_i64]; omega
                  have hwA : IntKind.i64.wrap (((U2 + R + M + u1 : Nat) : Int) + 60) = ((U2 + R + M + u1 + 60 : Nat) : Int) := by rw [IntKind.wrap_i64]; omega
                  have hwB : IntKind.i64.wrap (((U2 + R + M + u1 + 60 : Nat) : Int) + (yk.size : Int)) = ((U2 + R + M + u1 + 60 + yk.size : Nat) : Int) := by rw [IntKind.wrap_i64]; omega
                  have hwC : IntKind.i64.wrap (((U2 + R + M + u1 + 60 + yk.size : Nat) : Int) + (yv.size : Int)) = ((U2 + R + M + u2 : Nat) : Int) := by rw [IntKind.wrap_i64]; omega
                  generalize hv5 : U2 + R + M + u2 = V5 at *
                  have HV5 := ShutY.mk hv5
                  generalize hv4 : U2 + R + M + u1 + 60 + yk.size = V4 at *
                  generalize hv3 : U2 + R + M + u1 + 60 = V3 at *
                  generalize hv2 : U2 + R + M + u1 = V2 at *
                  clear hst hle hfx hcap hlen em hv2 hv3 hv4 hv5 hu2
                  go_wp2_with fail
                  go_quiet (fail)
                  go_wp2_with fail
                  go_roundg (ds.length - (q8 + 1))
                  case measure => have := HQ8.out; omega
                  case rel => exact ⟨q8 + 1, by have := HQ8.out; omega, congrArg (Value.int .i64) (by omega), (by rw [HU2.out, HV5.out]), HO8.out.drewN _⟩
                · have hqe : q8 = ds.length := by have := HQ8.out; omega
                  have hqi : ¬ (q8 : Int) < (dn : Int) := by omega
                  have hful : ((ds.take q8).map (fun m : Mg => 60 + m.corr.size + m.body.size)).sum = D := by rw [hqe, List.take_length]; exact HD.out
                  rw [hful]
                  clear hful hqe hl8 hn8
                  go_wp2_with fail
                  go_roundg (n - (j + 1))
                  case measure => have := HJ.out; have := HOL.out; omega
                  case rel => exact ⟨j + 1, by have := HJ.out; have := HOL.out; omega, congrArg (Value.int .i64) (by omega), congrArg (Value.int .i64) (by rw [HT2.out, HNX.out]; omega), HO8.out.b, HO8.out.s⟩
    · have he : j = (obsOf xs).length := by have := HJ.out; have := HOL.out; omega
      have hjn : ¬ (j : Int) < (n : Int) := by omega
      have hsum : 16 + (((obsOf xs).take j).map sizeO).sum = Z := by rw [he, List.take_length]; exact HZ.out
      rw [hsum]
      have HBL := ShutY.mk HB.out
      clear he hsum
      go_wp2_with fail
      go_ret
      exact ⟨rfl, HBL.out⟩
end Go.Proofs.Ytpggnklbgkdjcaa
namespace Go.Proofs.Ytpggnklbgkdjcaa
open Go.RowKit
/-- two blocks, the first one and the next one, behind all that was there -/
structure TwoB (w : World) (T : TypeId) (cs zs : Array Value) (W : World) : Prop where
  below : Below w.heap.size w W
  obj : Blk W w.heap.size T cs
  res : Blk W (w.heap.size + 1) T zs
theorem TwoB.new (w : World) (T : TypeId) (cs zs : Array Value) : TwoB w T cs zs ((w.alloc (.cells cs T)).alloc (.cells zs T)) := by
  have h1 := alloc_below w (.cells cs T)
  have := Blk.new (w.alloc (.cells cs T)) T zs
  rw [show (w.alloc (.cells cs T)).heap.size = w.heap.size + 1 by simp] at this
  exact ⟨h1.alloc h1.size _, (Blk.new w _ cs).alloc _, this⟩
section
variable {w W W' : World} {T : TypeId} {cs zs : Array Value}
theorem TwoB.step (h : TwoB w T cs zs W) (k : Below W.heap.size W W') : TwoB w T cs zs W' := ⟨h.below.trans (k.mono h.below.size), h.obj.below k h.obj.lt, h.res.below k h.res.lt⟩
theorem TwoB.store (h : TwoB w T cs zs W) (i : Nat) (v : Value) : TwoB w T (cs.setIfInBounds i v) zs (W.setCell ⟨w.heap.size, i, none⟩ v) :=
  ⟨h.below.setCell (Nat.le_refl _) v, h.obj.set_ i v, h.res.far (by simp) v⟩
theorem TwoB.own {α : Type} {E : Enc α} {V : TypeId} {base : Nat} {v : Value} {l : List α} (ho : Own W base E V v l) (hb : w.heap.size < base) (i : Nat) (u : Value) : Own (W.setCell ⟨w.heap.size, i, none⟩ u) base E V v l :=
  own_far ho (own_out ho hb) u
theorem TwoB.size (h : TwoB w T cs zs W) : w.heap.size + 2 ≤ W.heap.size := h.res.lt
end
/-- six cells stored into the second one -/
theorem TwoB.last {w W : World} {T : TypeId} {cs : Array Value} {z0 z1 z2 z3 z4 z5 : Value} (h : TwoB w T cs #[z0, z1, z2, z3, z4, z5] W) (a b c d e f : Value) :
    Below w.heap.size w ((((((W.setCell ⟨w.heap.size + 1, 0, none⟩ a).setCell ⟨w.heap.size + 1, 1, none⟩ b).setCell ⟨w.heap.size + 1, 2, none⟩ c).setCell ⟨w.heap.size + 1, 3, none⟩ d).setCell ⟨w.heap.size + 1, 4, none⟩ e).setCell ⟨w.heap.size + 1, 5, none⟩ f) ∧
    Blk ((((((W.setCell ⟨w.heap.size + 1, 0, none⟩ a).setCell ⟨w.heap.size + 1, 1, none⟩ b).setCell ⟨w.heap.size + 1, 2, none⟩ c).setCell ⟨w.heap.size + 1, 3, none⟩ d).setCell ⟨w.heap.size + 1, 4, none⟩ e).setCell ⟨w.heap.size + 1, 5, none⟩ f) (w.heap.size + 1) T #[a, b, c, d, e, f] :=
  ⟨below_six h.below (by omega) a b c d e f, blk_store6 h.res⟩
theorem own_six {w W : World} {α : Type} {E : Enc α} {V : TypeId} {v : Value} {l : List α} (ho : Own W (w.heap.size + 2) E V v l) (a b c d e f : Value) :
    Own ((((((W.setCell ⟨w.heap.size + 1, 0, none⟩ a).setCell ⟨w.heap.size + 1, 1, none⟩ b).setCell ⟨w.heap.size + 1, 2, none⟩ c).setCell ⟨w.heap.size + 1, 3, none⟩ d).setCell ⟨w.heap.size + 1, 4, none⟩ e).setCell ⟨w.heap.size + 1, 5, none⟩ f) w.heap.size E V v l := by
  have hb := own_out ho (b := w.heap.size + 1) (by omega)
  exact own_base (own_keep ho fun g hg => by
    have hne : g ≠ w.heap.size + 1 := fun e => hb (by rw [hg, e])
    obtain ⟨ob, hob⟩ : ∃ ob, W.heap[g]? = some ob := ⟨_, (own_blk ho hg).2.2.choose_spec⟩
    rw [hob]
    exact (keep_six W (w.heap.size + 1) a b c d e f).block g ob hob hne) (by omega)
/-- what was made behind a row of one's own is not its block -/
theorem own_apart {α β : Type} {E1 : Enc α} {E2 : Enc β} {T1 T2 : TypeId} {W1 W2 : World} {b1 b2 : Nat} {v1 v2 : Value} {l1 : List α} {l2 : List β} (h1 : Own W1 b1 E1 T1 v1 l1) (h2 : Own W2 b2 E2 T2 v2 l2) (hb : W1.heap.size ≤ b2) :
    ∀ g, v1.ownBlock = some g → v2.ownBlock ≠ some g := fun g hg e => by
  have a := (own_blk h1 hg).2.1
  have b := (own_blk h2 e).1
  omega
end Go.Proofs.Ytpggnklbgkdjcaa
namespace Go.Proofs.Ytpggnklbgkdjcaa
open Go.RowKit
def SameRel (w : World) (n : Nat) (k : Nat) (i : Value) (wr : World) : Prop := ∃ j, j + k = n ∧ i = .int .i64 (j : Int) ∧ Below w.heap.size w wr
set_option maxHeartbeats 400000 in
/-- of two lists that are one -/
theorem same_msgs {w : World} {K K2 : Nat → Prop} {A A2 : Option Addr} {n c c2 : Nat} {xs : List Mg} (h : Lst w K eM A xs) (h2 : Lst w K2 eM A2 xs) (hn : xs.length = n) (hm : n ≤ 1000000) :
    Calls Try.prog 57 #[.slice A n c, .slice A2 n c2] w fun e w' => e = .returned (.bool true) ∧ Below w.heap.size w w' := by
  have H := Lib.hid h
  have H2 := Lib.hid h2
  have HN := Lib.hid hn
  clear h h2 hn
  go_enter Try.func57, Try.ntmps57
  go_wp2
  go_loopg [5] n (fun k i wr => SameRel w n k i wr)
  case atStart => exact ⟨0, by omega, rfl, Below.refl _ _⟩
  case round =>
    obtain ⟨j, hj, rfl, hb⟩ := hrel
    have HB := Lib.hid hb
    have HJ := Lib.hid hj
    clear hb hj
    by_cases hlt : j < n
    · have hx : j < xs.length := by rw [HN.out]; exact hlt
      obtain ⟨b, o, rfl, _, c0, c1, c2, c3, c4, c5⟩ := (H.out.below HB.out).atM hx
      obtain ⟨b2, o2, rfl, _, d0, d1, d2, d3, d4, d5⟩ := (H2.out.below HB.out).atM hx
      generalize xs[j].id = x0 at *
      generalize xs[j].pri = x1 at *
      generalize xs[j].retry = x2 at *
      generalize xs[j].claimed = x3 at *
      generalize xs[j].corr = x4 at *
      generalize xs[j].body = x5 at *
      clear hx
      go_wp2
      go_region
      go_wp2
      go_roundg (n - (j + 1))
      case measure => have := HJ.out; have := HN.out; omega
      case rel => exact ⟨j + 1, by omega, by go_num, HB.out.drew⟩
    · go_wp2
      go_ret
      exact ⟨rfl, HB.out⟩
set_option maxHeartbeats 400000 in
theorem same_rows_e {w : World} {K K2 : Nat → Prop} {A A2 : Option Addr} {n c c2 : Nat} {xs : List Rw} (h : Lst w K eR A xs) (h2 : Lst w K2 eR A2 xs) (hn : xs.length = n) (hm : n ≤ 1000000) :
    Calls Try.prog 56 #[.slice A n c, .slice A2 n c2] w fun e w' => e = .returned (.bool true) ∧ Below w.heap.size w w' := by
  have H := Lib.hid h
  have H2 := Lib.hid h2
  have HN := Lib.hid hn
  clear h h2 hn
  go_enter Try.func56, Try.ntmps56
  go_wp2
  go_loopg [5] n (fun k i wr => SameRel w n k i wr)
  case atStart => exact ⟨0, by omega, rfl, Below.refl _ _⟩
  case round =>
    obtain ⟨j, hj, rfl, hb⟩ := hrel
    have HB := Lib.hid hb
    have HJ := Lib.hid hj
    clear hb hj
    by_cases hlt : j < n
    · have hx : j < xs.length := by rw [HN.out]; exact hlt
      obtain ⟨b, o, rfl, _, c0, c1⟩ := (H.out.below HB.out).atR hx
      obtain ⟨b2, o2, rfl, _, d0, d1⟩ := (H2.out.below HB.out).atR hx
      obtain ⟨k1, v1, e1⟩ : ∃ k v, xs[j] = (k, v) := ⟨_, _, rfl⟩
      rw [e1] at c0 c1 d0 d1
      simp only at c0 c1 d0 d1
      clear e1 hx
      go_wp2
      go_region
      go_wp2
      go_roundg (n - (j + 1))
      case measure => have := HJ.out; have := HN.out; omega
      case rel => exact ⟨j + 1, by omega, by go_num, HB.out.drew⟩
    · go_wp2
      go_ret
      exact ⟨rfl, HB.out⟩
end Go.Proofs.Ytpggnklbgkdjcaa
namespace Go.Proofs.Ytpggnklbgkdjcaa
open Go.RowKit
set_option maxHeartbeats 1000000 in
theorem same_obj {w : World} {o : Ob} {r m d r2 m2 d2 : Value} (h : ObAt w o r m d) (h2 : ObAt w o r2 m2 d2) (hn : o.short 100001) :
    Calls Try.prog 35 #[o.val r m d, o.val r2 m2 d2] w fun e w' => e = .returned (.bool true) ∧ Below w.heap.size w w' := by
  obtain ⟨s, k, l, rs, ms, ds⟩ := o
  obtain ⟨⟨A1, c1, rfl, l1, k1, x1, n1⟩, ⟨A2, c2, rfl, l2, k2, x2, n2⟩, ⟨A3, c3, rfl, l3, k3, x3, n3⟩⟩ := h
  obtain ⟨⟨B1, b1, rfl, p1, y1, z1, q1⟩, ⟨B2, b2, rfl, p2, y2, z2, q2⟩, ⟨B3, b3, rfl, p3, y3, z3, q3⟩⟩ := h2
  obtain ⟨s1, s2, s3⟩ := hn
  simp only at l1 l2 l3 p1 p2 p3 s1 s2 s3
  simp only [Ob.val, Ob.cells]
  have hT0 := TwoB.new w 39 #[.string s, .int .i64 k, .int .i64 l, .slice A1 rs.length c1, .slice A2 ms.length c2, .slice A3 ds.length c3] #[.string s, .int .i64 k, .int .i64 l, .slice B1 rs.length b1, .slice B2 ms.length b2, .slice B3 ds.length b3]
  have hf1 := same_rows_e (c := c1) (c2 := b1) (l1.below hT0.below) (p1.below hT0.below) rfl (by omega)
  have hf2 := fun W (hb : Below w.heap.size w W) => same_msgs (c := c2) (c2 := b2) (l2.below hb) (p2.below hb) rfl (by omega)
  have hf3 := fun W (hb : Below w.heap.size w W) => same_msgs (c := c3) (c2 := b3) (l3.below hb) (p3.below hb) rfl (by omega)
  have HT0 := Lib.hid hT0
  have F1 := Lib.hid hf1
  have F2 := Lib.hid hf2
  have F3 := Lib.hid hf3
  clear hT0 hf1 hf2 hf3 l1 l2 l3 p1 p2 p3 k1 k2 k3 n1 n2 n3 q1 q2 q3 y1 y2 y3
  generalize rs.length = m1 at *
  generalize ms.length = m2 at *
  generalize ds.length = m3 at *
  go_enter Try.func35, Try.ntmps35
  go_wp2_with fail
  refine F1.out.mono ?_
  rintro e w1 ⟨rfl, hb1⟩
  have hT1 := HT0.out.step hb1
  have a4 := hT1.obj.cell 4
  have e4 := hT1.res.cell 4
  have HT1 := Lib.hid hT1
  clear hb1 hT1 HT0 F1
  go_wp2_with fail
  refine (F2.out _ HT1.out.below).mono ?_
  rintro e w2 ⟨rfl, hb2⟩
  have hT2 := HT1.out.step hb2
  have a5 := hT2.obj.cell 5
  have e5 := hT2.res.cell 5
  have HT2 := Lib.hid hT2
  clear hb2 hT2 HT1 F2 a4 e4
  go_wp2_with fail
  refine (F3.out _ HT2.out.below).mono ?_
  rintro e w3 ⟨rfl, hb3⟩
  have HT3 := Lib.hid (HT2.out.step hb3)
  clear hb3 HT2 F3 a5 e5
  go_wp2_with fail
  go_ret
  exact ⟨rfl, HT3.out.below⟩
end Go.Proofs.Ytpggnklbgkdjcaa
