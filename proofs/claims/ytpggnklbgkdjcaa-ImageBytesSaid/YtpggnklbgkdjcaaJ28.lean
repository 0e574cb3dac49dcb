/- Package image: Read; both contracts paid. -/
import Derived.Test.YtpggnklbgkdjcaaJ18
import Derived.Test.YtpggnklbgkdjcaaJ19
import Derived.Test.YtpggnklbgkdjcaaJ27
set_option maxRecDepth 4000
namespace Go.Proofs.Ytpggnklbgkdjcaa
open Go.RowKit
/-- the answer's block, and the readers -/
structure RdJ (w : World) (G g : Nat) (low : Bool) (r : Rd) (wk : World) : Prop where
  bel : Below w.heap.size w wk
  res : Blk wk w.heap.size 24 #[.int .i64 0, .slice none 0 0]
  rx : RX wk G g g low r
  lt : w.heap.size < g
section
variable {w wk w' : World} {G g : Nat} {low low2 : Bool} {r r2 : Rd}
theorem RdJ.call (h : RdJ w G g low r wk) (k : Keep (But2 g G) wk w') (hx : RX w' G g g low2 r2) : RdJ w G g low2 r2 w' :=
  ⟨h.bel.trans (k.below (B := w.heap.size) h.bel.size fun i _ hi => by have := h.lt; have := hx.lt; exact ⟨by omega, by omega⟩), h.res.keep k (by have := h.lt; have := hx.lt; exact ⟨by omega, by omega⟩), hx, h.lt⟩
theorem RdJ.step (h : RdJ w G g low r wk) (k : Below wk.heap.size wk w') : RdJ w G g low r w' :=
  ⟨h.bel.trans (k.mono h.bel.size), h.res.below k h.res.lt, h.rx.below k, h.lt⟩
end
theorem rd_dead {r : Rd} (h : r.bad = true) : r.done = false := by rw [Rd.done, h]; rfl
theorem low_open {low : Bool} {r2 r : Rd} (h : Sim low r2 r) (hl : low = true) : r.done = false := by
  rcases h with ⟨h, _⟩ | ⟨h, _⟩
  · rw [hl] at h; cases h
  · exact rd_dead h
theorem end_open {low : Bool} {r2 r : Rd} (h : Sim low r2 r) (hd : r2.done = false) : r.done = false := by
  rcases h with ⟨_, h⟩ | ⟨h, _⟩
  · rw [← h]; exact hd
  · exact rd_dead h
theorem end_done {r2 r : Rd} (h : Sim false r2 r) (hd : r2.done = true) : r.done = true := by
  rcases h with ⟨_, h⟩ | ⟨_, h | h⟩
  · rw [← h]; exact hd
  · cases h
  · rw [rd_dead h] at hd; cases hd
theorem not_bad {r : Rd} (h : r.done = true) : r.bad = false := by
  cases e : r.bad
  · rfl
  · rw [rd_dead e] at h; cases h
theorem no_end {α : Type} {x : Option α} {d b : Bool} {p : α} (h : x = if (d && b) = true then some p else none) (hd : d = false) : x = none := by rw [h, hd]; rfl
theorem no_right {α : Type} {x : Option α} {d b : Bool} {p : α} (h : x = if (d && b) = true then some p else none) (hb : b = false) : x = none := by rw [h, hb, Bool.and_false]; rfl
theorem yes_end {α : Type} {x : Option α} {d b : Bool} {p : α} (h : x = if (d && b) = true then some p else none) (hd : d = true) (hb : b = true) : x = some p := by rw [h, hd, hb]; rfl
set_option maxHeartbeats 8000000 in
theorem read_ok : ReadOk := by
  intro w B n c A bs hrb hB hn hfit hA hnc hcm
  have k1 := alloc_below w (.cells #[.int .i64 0, .slice none 0 0] 24)
  have hrb1 : RB (w.alloc (.cells #[.int .i64 0, .slice none 0 0] 24)) (w.alloc (.cells #[.int .i64 0, .slice none 0 0] 24)).heap.size A n bs := (hrb.below (k1.mono hB)).more (Nat.le_trans hB k1.size)
  have HR1 := ShutL2.mk hrb1
  have K1 := ShutL2.mk k1
  have HX1 := ShutL2.mk (Blk.new w 24 #[.int .i64 0, .slice none 0 0])
  have HFIT := ShutL2.mk hfit
  have HLN := ShutL2.mk hrb.1
  have hsz1 : (w.alloc (.cells #[.int .i64 0, .slice none 0 0] 24)).heap.size = w.heap.size + 1 := by simp
  have HSZ1 := ShutL2.mk hsz1
  clear hrb hB hfit k1 hrb1 hsz1
  go_enter Try.func10, Try.ntmps10
  go_wp2_with fail
  refine (newReader _ A n c bs HR1.out (by omega) hA).mono ?_
  rintro e w2 ⟨g, rfl, hg2, hr2, hb2⟩
  have hj2 : RdJ w w2.heap.size g false ⟨bs, false⟩ (w2.alloc (.cells #[.pointer (some ⟨g, 0, none⟩), .bool false] 68)) := by
    have ha := alloc_below w2 (.cells #[.pointer (some ⟨g, 0, none⟩), .bool false] 68)
    have hs := HSZ1.out
    have hbel : Below w.heap.size w w2 := K1.out.trans (hb2.mono K1.out.size)
    exact ⟨hbel.trans (ha.mono hbel.size), (HX1.out.below hb2 HX1.out.lt).below ha (Nat.lt_of_lt_of_le HX1.out.lt hb2.size), ⟨Blk.new w2 68 _, hr2.belowR ha, hr2.lt, by have := HLN.out; show bs.length ≤ 500000; omega⟩, by omega⟩
  have HJ2 := ShutL2.mk hj2
  obtain ⟨c0, -, -⟩ := hj2.rx.cells
  clear hg2 hr2 hb2 hj2 HR1 K1 HX1 HSZ1 hA
  go_wp2_with fail
  generalize w2.alloc (.cells #[.pointer (some ⟨g, 0, none⟩), .bool false] 68) = w3 at *
  generalize w2.heap.size = G at *
  refine (rdInt _ _ _ _ HJ2.out.rx.rd).mono ?_
  rintro e w4 ⟨rfl, hr4, hk4⟩
  have HJ4 := ShutL2.mk (HJ2.out.call (hk4.but2 (G := G)) (HJ2.out.rx.read hr4 hk4 (got_int _).le))
  clear hr4 hk4 c0 HJ2
  go_wp2_with fail
  refine (list_o object_ok HJ4.out.rx (Sim.refl _)).mono ?_
  rintro e w5 ⟨⟨sa, sn, sc⟩, ys, lw, r2, rfl, hsl, hmm, hx5, hs5, hv5, hk5, -⟩
  have HJ5 := ShutL2.mk (HJ4.out.call hk5 hx5)
  have hlo : w.heap.size < w4.heap.size := HJ4.out.res.lt
  have hoa : ObsAt w5 (fun i => w.heap.size < i) ⟨sa, sn, sc⟩ ys := ⟨hsl.more fun i _ hi => by omega, fun x hx => (hmm x hx).more fun i _ hi => by omega⟩
  have HOA := ShutL2.mk hoa
  have hsim : Sim lw r2 (objsR ⟨bs, false⟩) := hs5
  have hval : (objsR ⟨bs, false⟩).bad = false → obsOf ys = objsV ⟨bs, false⟩ := hv5
  have HSIM := ShutL2.mk hsim
  have HVAL := ShutL2.mk hval
  have hri : readI bs = if ((objsR ⟨bs, false⟩).done && rightS ⟨(⟨bs, false⟩ : Rd).int.1, objsV ⟨bs, false⟩⟩) = true then some ((⟨bs, false⟩ : Rd).int.1, objsV ⟨bs, false⟩) else none := rfl
  have HRI := ShutL2.mk hri
  clear hsl hmm hx5 hs5 hv5 hk5 hlo hoa hsim hval hri HJ4
  generalize (⟨bs, false⟩ : Rd).int.1 = next at *
  generalize objsR ⟨bs, false⟩ = ro at *
  generalize objsV ⟨bs, false⟩ = ov at *
  have HX6 := ShutL2.mk (Blk.new w5 24 #[.int .i64 next, .slice sa sn sc])
  have K6 := ShutL2.mk (alloc_below w5 (.cells #[.int .i64 next, .slice sa sn sc] 24))
  have HJ6 := ShutL2.mk (HJ5.out.step K6.out)
  obtain ⟨c0, c1, -⟩ := HJ6.out.rx.cells
  clear HJ5
  go_upto_region 3 with fail
  generalize w5.alloc (.cells #[.int .i64 next, .slice sa sn sc] 24) = w6 at *
  obtain ⟨d0, d1⟩ := blk_two HX6.out
  cases lw
  rotate_left
  · have HNO := ShutL2.mk (no_end HRI.out (low_open HSIM.out rfl))
    clear HRI HSIM HVAL HFIT HOA HX6 K6
    have hres := HJ6.out.res
    have f0 := hres.frozen 0
    have f1 := hres.frozen 1
    obtain ⟨q0, q1⟩ := blk_two hres
    have hb2 := blk_store2 hres (.int .i64 0) (.slice none 0 0)
    obtain ⟨t0, t1⟩ := blk_two hb2
    have HD := ShutL2.mk (HJ6.out.bel.trans (below_two (Below.refl w.heap.size _) (Nat.le_refl _) (.int .i64 0) (.slice none 0 0)))
    clear hres hb2
    go_wp2_with fail
    refine bodyPost_ret (v := .tuple #[.agg #[.int .i64 0, .slice none 0 0], .int .i64 11]) (by simp [results, Try.results10, go_sem, t0, t1]) rfl ?_
    exact ⟨⟨0, ⟨none, 0, 0⟩, [], 11, rfl, ⟨SlK.none_ _ _ _, fun x hx => absurd hx (by simp)⟩, fun _ => rfl, fun q hq => by rw [HNO.out] at hq; cases hq⟩, HD.out⟩
  go_wp2_with fail
  refine (rdDone _ _ _ _ HJ6.out.rx.rd).mono ?_
  rintro e w7 ⟨rfl, rfl⟩
  cases hd : r2.done
  · have HNO := ShutL2.mk (no_end HRI.out (end_open HSIM.out hd))
    clear HRI HSIM HVAL HFIT HOA HX6 K6 hd
    have hres := HJ6.out.res
    have f0 := hres.frozen 0
    have f1 := hres.frozen 1
    obtain ⟨q0, q1⟩ := blk_two hres
    have hb2 := blk_store2 hres (.int .i64 0) (.slice none 0 0)
    obtain ⟨t0, t1⟩ := blk_two hb2
    have HD := ShutL2.mk (HJ6.out.bel.trans (below_two (Below.refl w.heap.size _) (Nat.le_refl _) (.int .i64 0) (.slice none 0 0)))
    clear hres hb2
    go_wp2_with fail
    refine bodyPost_ret (v := .tuple #[.agg #[.int .i64 0, .slice none 0 0], .int .i64 11]) (by simp [results, Try.results10, go_sem, t0, t1]) rfl ?_
    exact ⟨⟨0, ⟨none, 0, 0⟩, [], 11, rfl, ⟨SlK.none_ _ _ _, fun x hx => absurd hx (by simp)⟩, fun _ => rfl, fun q hq => by rw [HNO.out] at hq; cases hq⟩, HD.out⟩
  have hrd := end_done HSIM.out hd
  have hov := HVAL.out (not_bad hrd)
  have hft := HFIT.out hrd
  rw [← hov] at hft
  have hft2 : ∀ x ∈ ys, x.o.short 450 ∧ x.o.fits := fun x hx => hft x.o (List.mem_map_of_mem hx)
  have HFT := ShutL2.mk hft2
  have hri := HRI.out
  rw [← hov] at hri
  have HRI2 := ShutL2.mk hri
  have HRD := ShutL2.mk hrd
  have HOA6 := ShutL2.mk ((HOA.out.below K6.out))
  have HOV := ShutL2.mk hov
  clear hrd hov hft hft2 hri HRI HSIM HVAL HFIT hd HOA
  go_wp2_with fail
  refine (right_o HOA6.out (fun x hx => (HFT.out x hx).1) (fun x hx => (HFT.out x hx).2) next).mono ?_
  rintro e w8 ⟨rfl, hb8⟩
  have HJ8 := ShutL2.mk (HJ6.out.step hb8)
  have HX8 := ShutL2.mk (HX6.out.below hb8 HX6.out.lt)
  have HOA8 := ShutL2.mk (HOA6.out.below hb8)
  have HRI3 := ShutL2.mk HRI2.out
  generalize hrs : rightS ⟨next, obsOf ys⟩ = rs at *
  clear hb8 HJ6 HX6 HOA6 HRI2 hrs c0 c1 d0 d1 HFT K6
  cases rs
  · have HNO := ShutL2.mk (no_right HRI3.out rfl)
    clear HRI3 HOA8 HX8 HOV
    have hres := HJ8.out.res
    have f0 := hres.frozen 0
    have f1 := hres.frozen 1
    obtain ⟨q0, q1⟩ := blk_two hres
    have hb2 := blk_store2 hres (.int .i64 0) (.slice none 0 0)
    obtain ⟨t0, t1⟩ := blk_two hb2
    have HD := ShutL2.mk (HJ8.out.bel.trans (below_two (Below.refl w.heap.size _) (Nat.le_refl _) (.int .i64 0) (.slice none 0 0)))
    clear hres hb2
    go_wp2_with fail
    refine bodyPost_ret (v := .tuple #[.agg #[.int .i64 0, .slice none 0 0], .int .i64 11]) (by simp [results, Try.results10, go_sem, t0, t1]) rfl ?_
    exact ⟨⟨0, ⟨none, 0, 0⟩, [], 11, rfl, ⟨SlK.none_ _ _ _, fun x hx => absurd hx (by simp)⟩, fun _ => rfl, fun q hq => by rw [HNO.out] at hq; cases hq⟩, HD.out⟩
  · have HYES := ShutL2.mk (yes_end HRI3.out HRD.out rfl)
    obtain ⟨e0, e1⟩ := blk_two HX8.out
    have hres := HJ8.out.res
    have f0 := hres.frozen 0
    have f1 := hres.frozen 1
    obtain ⟨q0, q1⟩ := blk_two hres
    have hb2 := blk_store2 hres (.int .i64 next) (.slice sa sn sc)
    obtain ⟨t0, t1⟩ := blk_two hb2
    have hkk : Keep (fun i _ => w.heap.size < i) w8 (put2 w8 w.heap.size (.int .i64 next) (.slice sa sn sc)) := ((Keep.refl w8).setCell (fun o _ h => by simp at h) _).setCell (fun o _ h => by simp at h) _
    have HD := ShutL2.mk (HJ8.out.bel.trans (below_two (Below.refl w.heap.size _) (Nat.le_refl _) (.int .i64 next) (.slice sa sn sc)))
    have hoz : ObsAt (put2 w8 w.heap.size (.int .i64 next) (.slice sa sn sc)) (fun _ => True) ⟨sa, sn, sc⟩ ys := ⟨(HOA8.out.row.keep hkk fun i o _ hi => hi).more fun _ _ _ => trivial, fun x hx => ((HOA8.out.all x hx).keep hkk fun i o _ hi => hi).more fun _ _ _ => trivial⟩
    have HOZ := ShutL2.mk hoz
    clear hres hb2 hkk hoz HOA8 HX8
    go_wp2_with fail
    refine bodyPost_ret (v := .tuple #[.agg #[.int .i64 next, .slice sa sn sc], .int .i64 0]) (by simp [results, Try.results10, go_sem, t0, t1]) rfl ?_
    exact ⟨⟨next, ⟨sa, sn, sc⟩, ys, 0, rfl, HOZ.out, (fun h => by rw [HYES.out] at h; cases h), fun q hq => by rw [HYES.out] at hq; cases hq; exact ⟨rfl, rfl, rfl⟩⟩, HD.out⟩
end Go.Proofs.Ytpggnklbgkdjcaa
