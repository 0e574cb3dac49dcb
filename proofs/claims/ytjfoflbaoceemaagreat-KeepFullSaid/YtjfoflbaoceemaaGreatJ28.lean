/- . . . . . -/
import Derived.Test.YtjfoflbaoceemaaGreatJ24
import Derived.Test.YtjfoflbaoceemaaGreatJ25
import Derived.Test.YtjfoflbaoceemaaGreatJ27
import Derived.Test.YtjfoflbaoceemaaGreatJ16
import Derived.LoopTactic
import Derived.Deep.Slices
import Derived.ChangeArms
import Derived.Laws.Cover1
import Derived.Shelf.Abstract
import Derived.Test.YtjfoflbaoceemaaGreatJ15
import Derived.RegionTactic
import Derived.Deep.QuietTactic
import Derived.BigQuiet
import Derived.Deep.RegionHeld3
import Derived.Deep.RegionWith
set_option maxRecDepth 4000
namespace Go.Proofs.YtjfoflbaoceemaaGreat
open Go.RowKit
def Did (B b : Nat) (next : Int) (s : Sv) (xs : List Oc) (q : Nat) (w : World) (p : Int × Ob) (e : Ending) (w' : World) : Prop :=
  ∃ xs', e = .returned (.int .i64 p.1) ∧ OwnSt B b next s xs' w' ∧ Below B w w' ∧ obsOf xs' = (obsOf xs).set q p.2
section
variable {B b g : Nat} {next : Int} {s : Sv} {xs : List Oc} {W : World} {q : Nat}
theorem Did.same {w w' : World} {n : Int} (h : OwnSt B b next s xs w') (hb : Below B w w') (hq : q < xs.length) : Did B b next s xs q w (n, xs[q].o) (.returned (.int .i64 n)) w' :=
  ⟨xs, rfl, h, hb, by
    have : xs[q].o = (obsOf xs)[q]'(by simpa using hq) := by simp [obsOf]
    rw [this, List.set_getElem_self]⟩
theorem Did.set_ {w w' : World} {x : Oc} (h : OwnSt B b next s (xs.set q x) w') (hb : Below B w w') : Did B b next s xs q w (0, x.o) (.returned (.int .i64 0)) w' :=
  ⟨xs.set q x, rfl, h, hb, by simp [obsOf, List.map_set]⟩
theorem Did.more {w w1 w2 : World} {p : Int × Ob} {e : Ending} (h : Did B b next s xs q w p e w1) (k : Below w1.heap.size w1 w2) : Did B b next s xs q w p e w2 := by
  obtain ⟨xs', h1, h2, h3, h4⟩ := h
  exact ⟨xs', h1, h2.below k, h3.trans (k.mono (h2.size)), h4⟩
theorem OwnSt.one (h : OwnSt B b next s xs W) (hq : q < xs.length) : ∃ K, OcK W K xs[q] := ⟨_, h.rows _ (List.getElem_mem hq)⟩
theorem OwnSt.froz (h : OwnSt B b next s xs W) (h0 : 0 < xs.length) (e : s.a = some ⟨g, 0, none⟩) : B ≤ g ∧ g ≠ b ∧ g < W.heap.size ∧ ∀ j, W.frozen? ⟨g, j, none⟩ = false := by
  obtain ⟨g', e', _, h1, h2, h3, h4⟩ := h.slot h0
  rw [e] at e'
  injection e' with e'
  injection e' with e'
  subst e'
  exact ⟨h1, h2, h3, h4⟩
structure Aft (B b g : Nat) (next : Int) (s : Sv) (xs : List Oc) (q : Nat) (W W' : World) : Prop where
  st : OwnSt B b next s xs W'
  bel : Below W.heap.size W W'
structure ShutW (p : Prop) : Prop where out : p
set_option maxHeartbeats 1000000 in
theorem cut_row_o (h : OwnSt B b next s xs W) (hq : q < xs.length) (e : s.a = some ⟨g, 0, none⟩) (hs : xs[q].o.short 100000) (k : ByteArray) :
    Calls Tryz.prog 202 #[.pointer (some ⟨g, q * 6, none⟩), .string k] W (Did B b next s xs q W (if foundR xs[q].o.rows k = true then (0, { xs[q].o with rows := cutRw xs[q].o.rows k }) else (7, xs[q].o))) := by
  obtain ⟨K, hK⟩ := h.one hq
  have hc := cutrow2_ hK.rows hs.1 k
  obtain ⟨_, _, _, d3, _, _⟩ := h.cells hq e
  obtain ⟨hBg, _, _, _⟩ := h.froz (by omega) e
  have hst := fun W' (kb : Below W.heap.size W W') (t : Sv) (ht : SlK W' (fun i => W.heap.size ≤ i) eR t (cutRw xs[q].o.rows k)) => h.putRows kb hq e ht
  have hcl := fun W' (kb : Below W.heap.size W W') => (h.below kb).cells hq e
  have hfr := fun W' (kb : Below W.heap.size W W') => (h.below kb).froz (by omega) e
  have hsame := fun W' (kb : Below W.heap.size W W') => Did.same (n := 7) (h.below kb) (kb.mono h.size) hq
  have hset := fun W' (kb : Below W.heap.size W W') (t : Sv) (ht : SlK W' (fun i => W.heap.size ≤ i) eR t (cutRw xs[q].o.rows k)) => Did.set_ (hst W' kb t ht) ((kb.mono h.size).trans (put_below W' hBg (q * 6 + 3) (.slice t.a t.n t.c)))
  have HC := ShutW.mk hc
  have HS := ShutW.mk hsame
  have HT := ShutW.mk hset
  have HCL := ShutW.mk hcl
  have HFR := ShutW.mk hfr
  generalize hA : xs[q].r.a = A at *
  generalize hN : xs[q].r.n = n at *
  generalize hCc : xs[q].r.c = c at *
  generalize foundR xs[q].o.rows k = y at *
  clear hc hsame hset hcl hfr hst hK hs hBg hA hN hCc
  go_enter Tryz.func202, Tryz.ntmps202
  go_wp2_with fail
  refine HC.out.mono ?_
  rintro e1 w1 ⟨⟨A1, n1, c1⟩, rfl, ht, hb⟩
  have HB := ShutW.mk hb
  have HTT := ShutW.mk ht
  obtain ⟨_, _, _, k3, _, _⟩ := HCL.out _ hb
  obtain ⟨_, _, hlt, fz⟩ := HFR.out _ hb
  have fz3 := fz (q * 6 + 3)
  clear fz ht hb d3
  cases y
  · go_wp2_with fail
    go_ret
    exact HS.out _ HB.out
  · go_wp2_with fail
    go_ret
    exact HT.out _ HB.out _ HTT.out
set_option maxHeartbeats 1000000 in
theorem take_msg_o (h : OwnSt B b next s xs W) (hq : q < xs.length) (e : s.a = some ⟨g, 0, none⟩) (hs : xs[q].o.short 100000) (k : Int) :
    Calls Tryz.prog 204 #[.pointer (some ⟨g, q * 6, none⟩), .int .i64 k] W (Did B b next s xs q W (if hasM xs[q].o.msgs k = true then (0, { xs[q].o with msgs := cutM xs[q].o.msgs k }) else (7, xs[q].o))) := by
  obtain ⟨K, hK⟩ := h.one hq
  have hc := cut_m (c := xs[q].m.c) hK.msgs.lst hK.msgs.len.symm (by rw [hK.msgs.len]; exact hs.2.1) hK.msgs.cap hK.msgs.nil k
  obtain ⟨_, _, _, _, d4, _⟩ := h.cells hq e
  obtain ⟨hBg, _, _, _⟩ := h.froz (by omega) e
  have hcl := fun W' (kb : Below W.heap.size W W') => (h.below kb).cells hq e
  have hfr := fun W' (kb : Below W.heap.size W W') => (h.below kb).froz (by omega) e
  have hsame := fun (z : Int) W' (kb : Below W.heap.size W W') => Did.same (n := z) (h.below kb) (kb.mono h.size) hq
  have hset := fun W' (kb : Below W.heap.size W W') (t : Sv) (ht : SlK W' (fun i => W.heap.size ≤ i) eM t (cutM xs[q].o.msgs k)) => Did.set_ (h.putMsgs kb hq e ht) ((kb.mono h.size).trans (put_below W' hBg (q * 6 + 4) (.slice t.a t.n t.c)))
  have HC := ShutW.mk hc
  have HS := ShutW.mk hsame
  have HT := ShutW.mk hset
  have HCL := ShutW.mk hcl
  have HFR := ShutW.mk hfr
  generalize hA : xs[q].m.a = A at *
  generalize hN : xs[q].m.n = n at *
  generalize hCc : xs[q].m.c = c at *
  generalize hasM xs[q].o.msgs k = y at *
  clear hc hsame hset hcl hfr hK hs hBg hA hN hCc
  go_enter Tryz.func204, Tryz.ntmps204
  go_wp2_with fail
  refine HC.out.mono ?_
  rintro e1 w1 ⟨v, rfl, ho, hb⟩
  obtain ⟨⟨A1, n1, c1⟩, rfl, ht⟩ := ho.k
  have HB := ShutW.mk hb
  have HTT := ShutW.mk ht
  obtain ⟨_, _, _, _, k4, _⟩ := HCL.out _ hb
  obtain ⟨_, _, hlt, fz⟩ := HFR.out _ hb
  have fz4 := fz (q * 6 + 4)
  clear fz ht hb d4 ho
  cases y
  · go_wp2_with fail
    go_ret
    exact HS.out 7 _ HB.out
  · go_wp2_with fail
    go_ret
    exact HT.out _ HB.out _ HTT.out
set_option maxHeartbeats 1000000 in
theorem claim_msg_o (h : OwnSt B b next s xs W) (hq : q < xs.length) (e : s.a = some ⟨g, 0, none⟩) (hs : xs[q].o.short 100000) (k : Int) :
    Calls Tryz.prog 205 #[.pointer (some ⟨g, q * 6, none⟩), .int .i64 k] W (Did B b next s xs q W (if hasM xs[q].o.msgs k = true then (if canM xs[q].o.msgs k true = true then (0, { xs[q].o with msgs := claimM xs[q].o.msgs k true }) else (2, xs[q].o)) else (7, xs[q].o))) := by
  obtain ⟨K, hK⟩ := h.one hq
  have hf := find_m (c := xs[q].m.c) hK.msgs.lst hK.msgs.len.symm (by have := hs.2.1; rw [hK.msgs.len]; omega) k
  have hc := fun W' (kb : Below W.heap.size W W') => claim_m (c := xs[q].m.c) (hK.below kb).msgs.lst hK.msgs.len.symm (by rw [hK.msgs.len]; exact hs.2.1) hK.msgs.nil k true
  have hz := idx_neg (isM k) xs[q].o.msgs
  have hy : (xs[q].o.msgs.any (isM k)) = hasM xs[q].o.msgs k := rfl
  rw [hy] at hz
  obtain ⟨_, _, _, _, d4, _⟩ := h.cells hq e
  obtain ⟨hBg, _, _, _⟩ := h.froz (by omega) e
  have hcl := fun W' (kb : Below W.heap.size W W') => (h.below kb).cells hq e
  have hfr := fun W' (kb : Below W.heap.size W W') => (h.below kb).froz (by omega) e
  have hsame := fun (z : Int) W' (kb : Below W.heap.size W W') => Did.same (n := z) (h.below kb) (kb.mono h.size) hq
  have hset := fun W' (kb : Below W.heap.size W W') (t : Sv) (ht : SlK W' (fun i => W.heap.size ≤ i) eM t (claimM xs[q].o.msgs k true)) => Did.set_ (h.putMsgs kb hq e ht) ((kb.mono h.size).trans (put_below W' hBg (q * 6 + 4) (.slice t.a t.n t.c)))
  have HF := ShutW.mk hf
  have HC := ShutW.mk hc
  have HS := ShutW.mk hsame
  have HT := ShutW.mk hset
  have HCL := ShutW.mk hcl
  have HFR := ShutW.mk hfr
  generalize hA : xs[q].m.a = A at *
  generalize hN : xs[q].m.n = n at *
  generalize hCc : xs[q].m.c = c at *
  generalize hasM xs[q].o.msgs k = y at *
  generalize canM xs[q].o.msgs k true = y2 at *
  generalize idxI (isM k) xs[q].o.msgs = z at *
  clear hc hsame hset hcl hfr hK hs hBg hA hN hCc hf hy
  go_enter Tryz.func205, Tryz.ntmps205
  go_wp2_with fail
  refine HF.out.mono ?_
  rintro e1 w1 ⟨rfl, hb1⟩
  have HB1 := ShutW.mk hb1
  obtain ⟨_, _, _, _, k4, _⟩ := HCL.out _ hb1
  clear hb1 d4
  cases y
  · simp only [Bool.not_false] at hz
    go_wp2_with fail
    go_ret
    exact HS.out 7 _ HB1.out
  · simp only [Bool.not_true] at hz
    go_wp2_with fail
    refine (HC.out _ HB1.out).mono ?_
    rintro e2 w2 ⟨v, rfl, ho, hb⟩
    obtain ⟨⟨A1, n1, c1⟩, rfl, ht⟩ := ho.k
    have hb2 := HB1.out.trans (hb.mono HB1.out.size)
    have HB := ShutW.mk hb2
    have HTT := ShutW.mk (ht.more (K' := fun i => W.heap.size ≤ i) fun i _ hi => Nat.le_trans HB1.out.size hi)
    obtain ⟨_, _, _, _, m4, _⟩ := HCL.out _ hb2
    obtain ⟨_, _, hlt, fz⟩ := HFR.out _ hb2
    have fz4 := fz (q * 6 + 4)
    clear fz ht hb hb2 k4 ho
    cases y2
    · go_wp2_with fail
      go_ret
      exact HS.out 2 _ HB.out
    · go_wp2_with fail
      go_ret
      exact HT.out _ HB.out _ HTT.out
theorem free_same (o : Ob) (id : Int) (t : Bool) : (freeO o id t).name = o.name ∧ (freeO o id t).kind = o.kind ∧ (freeO o id t).limit = o.limit := by
  unfold freeO
  split
  · split
    · exact ⟨rfl, rfl, rfl⟩
    · split
      · exact ⟨rfl, rfl, rfl⟩
      · split <;> exact ⟨rfl, rfl, rfl⟩
  · exact ⟨rfl, rfl, rfl⟩
set_option maxHeartbeats 2000000 in
theorem free_msg_o (h : OwnSt B b next s xs W) (hq : q < xs.length) (e : s.a = some ⟨g, 0, none⟩) (hs : xs[q].o.short 100000) (hft : xs[q].o.fits) (k : Int) (t : Bool) :
    Calls Tryz.prog 206 #[.pointer (some ⟨g, q * 6, none⟩), .int .i64 k, .bool t] W (Did B b next s xs q W (if freeOk xs[q].o k = true then (0, freeO xs[q].o k t) else (7, xs[q].o))) := by
  obtain ⟨K, hK⟩ := h.one hq
  have hc := free_ hK.at_ hs hft k t
  obtain ⟨n1, n2, n3⟩ := free_same xs[q].o k t
  obtain ⟨d0, d1, d2, d3, d4, d5⟩ := h.cells hq e
  obtain ⟨hBg, _, _, _⟩ := h.froz (by omega) e
  have hcl := fun W' (kb : Below W.heap.size W W') => (h.below kb).cells hq e
  have hfr := fun W' (kb : Below W.heap.size W W') => (h.below kb).froz (by omega) e
  have hsame := fun (z : Int) W' (kb : Below W.heap.size W W') => Did.same (n := z) (h.below kb) (kb.mono h.size) hq
  have hset := fun W' (kb : Below W.heap.size W W') (r m d : Sv) (ht : OcK W' (fun i => W.heap.size ≤ i) ⟨freeO xs[q].o k t, r, m, d⟩) => Did.set_ (h.putAll kb hq e ⟨freeO xs[q].o k t, r, m, d⟩ n1 n2 n3 ht) ((kb.mono h.size).trans (six_below W' hBg (q * 6) _ _ _ _ _ _))
  unfold Freed at hc
  have hval : xs[q].o.val xs[q].r.val xs[q].m.val xs[q].d.val = .agg #[.string xs[q].o.name, .int .i64 xs[q].o.kind, .int .i64 xs[q].o.limit, .slice xs[q].r.a xs[q].r.n xs[q].r.c, .slice xs[q].m.a xs[q].m.n xs[q].m.c, .slice xs[q].d.a xs[q].d.n xs[q].d.c] := rfl
  rw [hval] at hc
  have HC := ShutW.mk hc
  have HS := ShutW.mk hsame
  have HT := ShutW.mk hset
  have HCL := ShutW.mk hcl
  have HFR := ShutW.mk hfr
  generalize freeO xs[q].o k t = o' at *
  generalize freeOk xs[q].o k = y at *
  generalize xs[q].r.a = A1 at *
  generalize xs[q].r.n = l1 at *
  generalize xs[q].r.c = c1 at *
  generalize xs[q].m.a = A2 at *
  generalize xs[q].m.n = l2 at *
  generalize xs[q].m.c = c2 at *
  generalize xs[q].d.a = A3 at *
  generalize xs[q].d.n = l3 at *
  generalize xs[q].d.c = c3 at *
  generalize xs[q].o.name = p1 at *
  generalize xs[q].o.kind = p2 at *
  generalize xs[q].o.limit = p3 at *
  clear hc hsame hset hcl hfr hK hs hBg hval hft n1 n2 n3
  go_enter Tryz.func206, Tryz.ntmps206
  go_wp2_with fail
  refine HC.out.mono ?_
  rintro e1 w1 ⟨r', m', d', rfl, ho, hb⟩
  obtain ⟨⟨B1, j1, b1⟩, rfl, t1⟩ := ho.rows.k
  obtain ⟨⟨B2, j2, b2⟩, rfl, t2⟩ := ho.msgs.k
  obtain ⟨⟨B3, j3, b3⟩, rfl, t3⟩ := ho.dead.k
  obtain ⟨o0, o1, o2, o3, o4, o5⟩ := o'
  have hal := alloc_below w1 (.cells #[.string o0, .int .i64 o1, .int .i64 o2, .slice B1 j1 b1, .slice B2 j2 b2, .slice B3 j3 b3] 77)
  have hb2 := hb.trans (hal.mono hb.size)
  have hok : OcK w1 (fun i => W.heap.size ≤ i) ⟨⟨o0, o1, o2, o3, o4, o5⟩, ⟨B1, j1, b1⟩, ⟨B2, j2, b2⟩, ⟨B3, j3, b3⟩⟩ := ⟨t1, t2, t3⟩
  have HOK := ShutW.mk hok
  have HB2 := ShutW.mk hb2
  have HB1 := ShutW.mk hb
  obtain ⟨k0, k1, k2, k3, k4, k5⟩ := HCL.out _ hb
  obtain ⟨_, _, hlt, fz⟩ := HFR.out _ hb
  have fz0 := fz (q * 6)
  have fz1 := fz (q * 6 + 1)
  have fz2 := fz (q * 6 + 2)
  have fz3 := fz (q * 6 + 3)
  have fz4 := fz (q * 6 + 4)
  have fz5 := fz (q * 6 + 5)
  have hne : g ≠ w1.heap.size := by omega
  clear fz hok hal hb hb2 t1 t2 t3 ho d0 d1 d2 d3 d4 d5
  simp only [Ob.val, Ob.cells, Sv.val]
  cases y
  · go_wp2_with fail
    go_ret
    exact HS.out 7 _ HB2.out
  · go_wp2_with fail
    go_ret
    exact (HT.out _ HB1.out ⟨B1, j1, b1⟩ ⟨B2, j2, b2⟩ ⟨B3, j3, b3⟩ HOK.out).more (alloc_below _ _)
end
end Go.Proofs.YtjfoflbaoceemaaGreat
namespace Go.Proofs.YtjfoflbaoceemaaGreat
open Go.RowKit
def PredO (g : Nat) (lb : Array Value) (p : Oc → Bool) (l : List Oc) (w : World) : Prop :=
  ∀ (W : World) (x : Oc), x ∈ l → Below w.heap.size w W → Calls Tryz.prog g (#[x.val] ++ lb) W fun e w' => e = .returned (.bool (p x)) ∧ Below w.heap.size w w'
def SeesO (w : World) (p : Oc → Bool) (l : List Oc) (k : Nat) (i : Value) (wr : World) : Prop := ∃ j, j + k = l.length ∧ i = .int .i64 (j : Int) ∧ (∀ q (hq : q < j) (hl : q < l.length), p l[q] = false) ∧ Below w.heap.size w wr
set_option maxHeartbeats 1000000 in
theorem index_o {w : World} {K : Nat → Prop} {A : Option Addr} {n c : Nat} {l : List Oc} (h : Lst w K eO A l) (hl : l.length = n) (hn : n ≤ 1000000) {p : Oc → Bool} {g : Nat} {lb : Array Value}
    (eg : ∀ args w, (callFunc g args).run Tryz.prog w = .ok (.enter g args) w) (hp : PredO g lb p l w) :
    Calls Tryz.prog 199 #[.slice A n c, .func (.func g) #[] lb] w fun e w' => e = .returned (.int .i64 (idxI p l)) ∧ Below w.heap.size w w' := by
  have H := Lib.hid h
  have HL := Lib.hid hl
  have HP := Lib.hid hp
  clear h hl hp
  go_enter Tryz.func199, Tryz.ntmps199
  go_wp2
  go_loopg [5, 8] n (fun m _ i wr => SeesO w p l m i wr)
  case atStart => exact ⟨0, by rw [HL.out]; omega, rfl, fun q hq => absurd hq (Nat.not_lt_zero q), Below.refl _ _⟩
  case round =>
    obtain ⟨j, hj, rfl, h1, hb⟩ := hrel
    have HJ := Lib.hid hj
    have H1 := Lib.hid h1
    have HB := Lib.hid hb
    clear hj h1 hb
    by_cases hlt : j < n
    · have hx : j < l.length := by rw [HL.out]; exact hlt
      obtain ⟨b, o, rfl, hb, c0, c1, c2, c3, c4, c5⟩ := (H.out.below HB.out).atO hx
      have hcall := HP.out wr l[j] (List.getElem_mem hx) HB.out
      have e1 : idxI p l = (j : Int) ∨ p l[j] = false := by
        cases hpj : p l[j]
        · exact .inr rfl
        · exact .inl (idx_hit hx hpj fun q hq => H1.out q hq (by omega))
      have e2 : p l[j] = false → ∀ q (hq : q < j + 1) (hl : q < l.length), p l[q] = false := fun h q hq hl => by
        rcases Nat.lt_or_ge q j with h5 | h5
        · exact H1.out q h5 hl
        · obtain rfl : q = j := by omega
          exact h
      have E2 := Lib.hid e2
      have E1 := Lib.hid e1
      clear e1 e2 hb
      obtain ⟨x, hxx⟩ : ∃ x, l[j] = x := ⟨_, rfl⟩
      rw [hxx] at c0 c1 c2 c3 c4 c5 hcall E1 E2
      clear hxx
      generalize hpb : p x = pb at *
      clear hpb
      obtain ⟨⟨x0, x1, x2, x3, x4, x5⟩, ⟨ra, rn, rc⟩, ⟨ma, mn, mc⟩, ⟨da, dn, dc⟩⟩ := x
      simp only [Oc.val, Oc.cells] at hcall c0 c1 c2 c3 c4 c5
      cases pb
      · go_wp2_with (go_at_fn g; refine hcall.mono ?_; rintro e w' ⟨rfl, hb'⟩)
        go_roundg (n - (j + 1))
        case measure => have := HJ.out; have := HL.out; omega
        case rel => exact ⟨j + 1, by have := HL.out; omega, by go_num, E2.out (by simp), hb'⟩
      · go_wp2_with (go_at_fn g; refine hcall.mono ?_; rintro e w' ⟨rfl, hb'⟩)
        go_ret
        refine ⟨?_, hb'⟩
        rcases E1.out with h | h
        · rw [h]; rfl
        · cases h
    · have he : j = l.length := by have := HJ.out; have := HL.out; omega
      have e1 : idxI p l = -1 := idx_miss fun q hq => H1.out q (by omega) hq
      have E1 := Lib.hid e1
      clear e1 he
      go_wp2
      go_ret
      exact ⟨by rw [E1.out]; rfl, HB.out⟩
end Go.Proofs.YtjfoflbaoceemaaGreat
namespace Go.Proofs.YtjfoflbaoceemaaGreat
open Go.RowKit
theorem geO {z : Int} {b : Bool} (h : decide (0 ≤ z) = b) : (b = true → 0 ≤ z) ∧ (b = false → z < 0) := by
  subst h
  simp
theorem retW {a b : Int} (h : a = b) : Ending.returned (.int .i64 a) = .returned (.int .i64 b) := by rw [h]
set_option maxHeartbeats 1000000 in
theorem where_ {w : World} {o : Ob} {r m d : Value} (h : ObAt w o r m d) (hn : o.short 100000) (id : Int) :
    Calls Tryz.prog 240 #[o.val r m d, .int .i64 id] w fun e w' => e = .returned (.int .i64 (whereO o id)) ∧ Below w.heap.size w w' := by
  obtain ⟨s, k, l, rs, ms, ds⟩ := o
  obtain ⟨⟨A1, c1, rfl, l1, k1, x1, n1⟩, ⟨A2, c2, rfl, l2, k2, x2, n2⟩, ⟨A3, c3, rfl, l3, k3, x3, n3⟩⟩ := h
  obtain ⟨s1, s2, s3⟩ := hn
  simp only at l1 l2 l3 k1 k2 k3 s1 s2 s3
  simp only [Ob.val, Ob.cells]
  have hb0 := alloc_below w (.cells #[.string s, .int .i64 k, .int .i64 l, .slice A1 rs.length c1, .slice A2 ms.length c2, .slice A3 ds.length c3] 77)
  have hB0 := Blk.new w 77 #[.string s, .int .i64 k, .int .i64 l, .slice A1 rs.length c1, .slice A2 ms.length c2, .slice A3 ds.length c3]
  have hf2 := fun W (hb : Below w.heap.size w W) => find_m (c := c2) (l2.below hb) rfl (by omega) id
  have hf3 := fun W (hb : Below w.heap.size w W) => find_m (c := c3) (l3.below hb) rfl (by omega) id
  have hi2 := geO (idx_nonneg (isM id) ms)
  have hi3 := geO (idx_nonneg (isM id) ds)
  have hw : whereO ⟨s, k, l, rs, ms, ds⟩ id = if ms.any (isM id) = true then 1 else if ds.any (isM id) = true then 2 else 0 := rfl
  generalize whereO ⟨s, k, l, rs, ms, ds⟩ id = z at *
  generalize ms.any (isM id) = y2 at *
  generalize ds.any (isM id) = y3 at *
  generalize idxI (isM id) ms = i2 at *
  generalize idxI (isM id) ds = i3 at *
  generalize rs.length = m1 at *
  generalize ms.length = m2 at *
  generalize ds.length = m3 at *
  have HB0 := Lib.hid hb0
  have HX0 := Lib.hid hB0
  have F2 := Lib.hid hf2
  have F3 := Lib.hid hf3
  have I2 := Lib.hid hi2
  have I3 := Lib.hid hi3
  have HW := Lib.hid hw
  clear hb0 hB0 hf2 hf3 hi2 hi3 hw l1 l2 l3
  go_enter Tryz.func240, Tryz.ntmps240
  go_wp2_with fail
  refine (F2.out _ HB0.out).mono ?_
  rintro e w1 ⟨rfl, hb1⟩
  have hb1' := HB0.out.trans (hb1.mono HB0.out.size)
  have d5 := (HX0.out.below hb1 HX0.out.lt).cell 5
  have HB1 := Lib.hid hb1'
  clear hb1 hb1'
  cases y2
  · have g2 : decide (0 ≤ i2) = false := decide_eq_false (by have := I2.out.2 rfl; omega)
    go_wp2_with fail
    refine (F3.out _ HB1.out).mono ?_
    rintro e w2 ⟨rfl, hb2⟩
    have HB2 := Lib.hid (HB1.out.trans (hb2.mono HB1.out.size))
    clear hb2
    cases y3
    · have g3 : decide (0 ≤ i3) = false := decide_eq_false (by have := I3.out.2 rfl; omega)
      go_wp2_with fail
      go_ret
      exact ⟨retW (by rw [HW.out]; rfl), HB2.out⟩
    · have g3 : decide (0 ≤ i3) = true := decide_eq_true (by have := I3.out.1 rfl; omega)
      go_wp2_with fail
      go_ret
      exact ⟨retW (by rw [HW.out]; rfl), HB2.out⟩
  · have g2 : decide (0 ≤ i2) = true := decide_eq_true (by have := I2.out.1 rfl; omega)
    go_wp2_with fail
    go_ret
    exact ⟨retW (by rw [HW.out]; rfl), HB1.out⟩
end Go.Proofs.YtjfoflbaoceemaaGreat
namespace Go.Proofs.YtjfoflbaoceemaaGreat
open Go.RowKit
theorem pred_name (nm : ByteArray) (B : Nat) (w : World) (hB : B < w.heap.size) (hc : w.cell? ⟨B, 0, none⟩ = some (.string nm)) (l : List Oc) : PredO 200 #[.pointer (some ⟨B, 0, none⟩)] (fun x => isN nm x.o) l w := fun W x _ hb => by
  have hc' : W.cell? ⟨B, 0, none⟩ = some (.string nm) := (hb.cell (p := ⟨B, 0, none⟩) hB).trans hc
  have hBW : B < W.heap.size := Nat.lt_of_lt_of_le hB hb.size
  have hne : B ≠ W.heap.size := by omega
  obtain ⟨⟨x0, x1, x2, x3, x4, x5⟩, ⟨ra, rn, rc⟩, ⟨ma, mn, mc⟩, ⟨da, dn, dc⟩⟩ := x
  have hnew := hb.alloc hb.size (.cells #[.string x0, .int .i64 x1, .int .i64 x2, .slice ra rn rc, .slice ma mn mc, .slice da dn dc] 77)
  have HN := Lib.hid hnew
  clear hc hb hnew
  show Calls Tryz.prog 200 #[.agg #[.string x0, .int .i64 x1, .int .i64 x2, .slice ra rn rc, .slice ma mn mc, .slice da dn dc], .pointer (some ⟨B, 0, none⟩)] W _
  go_enter Tryz.func200, Tryz.ntmps200
  go_wp2
  all_goals (go_ret; exact ⟨by simp [isN], HN.out⟩)
theorem enters_name : ∀ args w, (callFunc 200 args).run Tryz.prog w = .ok (.enter 200 args) w := enters_of Tryz.func200 (by kernel_rfl) rfl
theorem idx_map {α β : Type} (f : α → β) (p : β → Bool) (l : List α) : idxI p (l.map f) = idxI (fun x => p (f x)) l := by
  have h : (l.map f).findIdx p = l.findIdx fun x => p (f x) := List.findIdx_map ..
  unfold idxI
  rw [List.length_map, h]
theorem find_o {w : World} {K : Nat → Prop} {A : Option Addr} {n c : Nat} {l : List Oc} (h : Lst w K eO A l) (hl : l.length = n) (hn : n ≤ 1000000) (next : Int) (nm : ByteArray) :
    Calls Tryz.prog 148 #[.agg #[.int .i64 next, .slice A n c], .string nm] w fun e w' => e = .returned (.int .i64 (idxI (isN nm) (obsOf l))) ∧ Below w.heap.size w w' := by
  have k1 := alloc_below w (.cells #[.int .i64 next, .slice A n c] 54)
  have k2 := k1.alloc k1.size (.cells #[.string nm] 9)
  have hi := index_o (c := c) (h.below k2) hl hn enters_name (pred_name nm (w.heap.size + 1) _ (by simp) (by simp) l)
  rw [← idx_map] at hi
  unfold obsOf
  generalize idxI (isN nm) (l.map (·.o)) = z at *
  have HI := Lib.hid hi
  have HK := Lib.hid k2
  clear hi h hl k1 k2
  go_enter Tryz.func148, Tryz.ntmps148
  go_wp2_with (go_at_call 199; refine HI.out.mono ?_; rintro e w' ⟨rfl, hb'⟩)
  go_ret
  exact ⟨rfl, HK.out.trans (hb'.mono HK.out.size)⟩
theorem contains_o {w : World} {K : Nat → Prop} {A : Option Addr} {n c : Nat} {l : List Oc} (h : Lst w K eO A l) (hl : l.length = n) (hn : n ≤ 1000000) {p : Oc → Bool} {g : Nat} {lb : Array Value}
    (eg : ∀ args w, (callFunc g args).run Tryz.prog w = .ok (.enter g args) w) (hp : PredO g lb p l w) :
    Calls Tryz.prog 238 #[.slice A n c, .func (.func g) #[] lb] w fun e w' => e = .returned (.bool (l.any p)) ∧ Below w.heap.size w w' := by
  have hi := index_o (c := c) h hl hn eg hp
  have hz := idx_nonneg p l
  generalize idxI p l = z at *
  generalize l.any p = y at *
  subst hz
  have HI := Lib.hid hi
  clear hi h hl hp eg
  go_enter Tryz.func238, Tryz.ntmps238
  go_wp2_with (go_at_call 199; refine HI.out.mono ?_; rintro e w' ⟨rfl, hb'⟩)
  go_ret
  exact ⟨rfl, hb'⟩
theorem pred_where (id : Int) (B : Nat) (w : World) (hB : B < w.heap.size) (hc : w.cell? ⟨B, 0, none⟩ = some (.int .i64 id)) {K : Nat → Prop} (l : List Oc) (hx : ∀ x ∈ l, OcK w K x) (hs : ∀ x ∈ l, x.o.short 100000) : PredO 239 #[.pointer (some ⟨B, 0, none⟩)] (fun x => !(whereO x.o id == 0)) l w := fun W x hxl hb => by
  have hc' : W.cell? ⟨B, 0, none⟩ = some (.int .i64 id) := (hb.cell (p := ⟨B, 0, none⟩) hB).trans hc
  have hBW : B < W.heap.size := Nat.lt_of_lt_of_le hB hb.size
  have hne : B ≠ W.heap.size := by omega
  have hat := ((hx x hxl).below hb).at_
  have hsx := hs x hxl
  have hw := fun W2 (k : Below W.heap.size W W2) => where_ (hat.below k) hsx id
  obtain ⟨o, ⟨ra, rn, rc⟩, ⟨ma, mn, mc⟩, ⟨da, dn, dc⟩⟩ := x
  have hnew := alloc_below W (.cells #[.string o.name, .int .i64 o.kind, .int .i64 o.limit, .slice ra rn rc, .slice ma mn mc, .slice da dn dc] 77)
  have hw2 := hw _ hnew
  simp only [Ob.val, Ob.cells] at hw2
  have HN := Lib.hid (hb.trans (hnew.mono hb.size))
  have hsz : w.heap.size ≤ (W.alloc (.cells #[.string o.name, .int .i64 o.kind, .int .i64 o.limit, .slice ra rn rc, .slice ma mn mc, .slice da dn dc] 77)).heap.size := (hb.trans (hnew.mono hb.size)).size
  have HSZ := Lib.hid hsz
  obtain ⟨z, hz⟩ : ∃ z, whereO o id = z := ⟨_, rfl⟩
  rw [hz] at hw2
  have HZ := Lib.hid hz
  have HW := Lib.hid hw2
  clear hc hb hnew hat hw hw2 hx hs hsx hxl hsz hz
  obtain ⟨o0, o1, o2, o3, o4, o5⟩ := o
  show Calls Tryz.prog 239 #[.agg #[.string o0, .int .i64 o1, .int .i64 o2, .slice ra rn rc, .slice ma mn mc, .slice da dn dc], .pointer (some ⟨B, 0, none⟩)] W _
  go_enter Tryz.func239, Tryz.ntmps239
  go_wp2_with (go_at_call 240; refine HW.out.mono ?_; rintro e w' ⟨rfl, hb'⟩)
  go_ret
  refine ⟨?_, HN.out.trans (hb'.mono HSZ.out)⟩
  show _ = Ending.returned (.bool (!(whereO _ id == 0)))
  rw [HZ.out]
  rfl
theorem enters_where : ∀ args w, (callFunc 239 args).run Tryz.prog w = .ok (.enter 239 args) w := enters_of Tryz.func239 (by kernel_rfl) rfl
theorem has_o {w : World} {K : Nat → Prop} {b : Nat} {next : Int} {s : Sv} {l : List Oc} (h : ObsAt w K s l) (hn : l.length ≤ 1000000) (hs : ∀ x ∈ l, x.o.short 100000) (hb : Blk w b 54 #[.int .i64 next, s.val]) (id : Int) :
    Calls Tryz.prog 225 #[.pointer (some ⟨b, 0, none⟩), .int .i64 id] w fun e w' => e = .returned (.bool (hasS (obsOf l) id)) ∧ Below w.heap.size w w' := by
  have k1 := alloc_below w (.cells #[.int .i64 id] 3)
  have hi := contains_o (c := s.c) ((h.row.below k1).lst) h.row.len.symm (by rw [h.row.len]; exact hn) enters_where (pred_where id w.heap.size _ (by simp) (by simp) l (fun x hx => (h.all x hx).below k1) hs)
  have e : (l.any fun x => !(whereO x.o id == 0)) = hasS (obsOf l) id := by
    unfold hasS obsOf
    rw [List.any_map]; rfl
  rw [e] at hi
  generalize hasS (obsOf l) id = z at *
  obtain ⟨A, n, c⟩ := s
  have hb1 := hb.below k1 hb.lt
  have d0 := hb1.cell 0
  have d1 := hb1.cell 1
  simp only [List.getElem?_toArray, List.getElem?_cons_zero, List.getElem?_cons_succ] at d0 d1
  have HI := Lib.hid hi
  have HK := Lib.hid k1
  clear hi h hs e k1 hb hb1 hn
  go_enter Tryz.func225, Tryz.ntmps225
  go_wp2_with (go_at_call 238; refine HI.out.mono ?_; rintro e w' ⟨rfl, hb'⟩)
  go_ret
  exact ⟨rfl, HK.out.trans (hb'.mono HK.out.size)⟩
end Go.Proofs.YtjfoflbaoceemaaGreat
namespace Go.Proofs.YtjfoflbaoceemaaGreat
open Go.RowKit
section
variable {B b g : Nat} {next : Int} {s : Sv} {xs : List Oc} {W : World} {q : Nat}
theorem kind_for (k : Int) (w : World) : Calls Tryz.prog 149 #[.int .i64 k] w fun e w' => e = .returned (.int .i64 (kindE k)) ∧ w = w' := by
  by_cases h1 : k = 2
  · subst h1
    go_enter Tryz.func149, Tryz.ntmps149
    go_wp2
    go_ret
    exact ⟨rfl, rfl⟩
  · have b1 : (k == 2) = false := by simpa using h1
    by_cases h2 : k = 3
    · subst h2
      go_enter Tryz.func149, Tryz.ntmps149
      go_wp2
      go_ret
      exact ⟨rfl, rfl⟩
    · have b2 : (k == 3) = false := by simpa using h2
      have e : Hid (kindE k = 2) := by show kindE k = 2; unfold kindE; rw [if_neg h1, if_neg h2]
      go_enter Tryz.func149, Tryz.ntmps149
      go_wp2
      go_ret
      exact ⟨by rw [e.out]; rfl, rfl⟩
def Done (B b : Nat) (w : World) (p : Int × St) (e : Ending) (w' : World) : Prop :=
  ∃ s' xs', e = .returned (.int .i64 p.1) ∧ OwnSt B b p.2.next s' xs' w' ∧ Below B w w' ∧ obsOf xs' = p.2.objs
theorem set_next_o (h : OwnSt B b next s xs W) (n : Int) :
    Calls Tryz.prog 147 #[.pointer (some ⟨b, 0, none⟩), .int .i64 n] W (Done B b W (if n < next then (1, ⟨next, obsOf xs⟩) else (0, ⟨n, obsOf xs⟩))) := by
  have d0 := h.blk.cell 0
  have f0 := h.blk.frozen 0
  have hlt := h.blk.lt
  have HN := Lib.hid (h.setNext n)
  have HB := Lib.hid (put_below W h.outb 0 (.int .i64 n))
  have HS := Lib.hid h
  simp only [List.getElem?_toArray, List.getElem?_cons_zero] at d0
  clear h
  by_cases hn : n < next
  · have E : Hid ((if n < next then ((1 : Int), (⟨next, obsOf xs⟩ : St)) else (0, ⟨n, obsOf xs⟩)) = (1, ⟨next, obsOf xs⟩)) := if_pos hn
    rw [E.out]
    go_enter Tryz.func147, Tryz.ntmps147
    go_wp2_with fail
    go_ret
    exact ⟨s, xs, rfl, HS.out, Below.refl _ _, rfl⟩
  · have E : Hid ((if n < next then ((1 : Int), (⟨next, obsOf xs⟩ : St)) else (0, ⟨n, obsOf xs⟩)) = (0, ⟨n, obsOf xs⟩)) := if_neg hn
    rw [E.out]
    go_enter Tryz.func147, Tryz.ntmps147
    go_wp2_with fail
    go_ret
    exact ⟨s, xs, rfl, HN.out, HB.out, rfl⟩
set_option maxHeartbeats 2000000 in
theorem add_msg_o (h : OwnSt B b next s xs W) (hq : q < xs.length) (e : s.a = some ⟨g, 0, none⟩) (hx : xs.length ≤ 1000000) (hs : ∀ x ∈ xs, x.o.short 100000) (m : Mg) :
    Calls Tryz.prog 203 #[.pointer (some ⟨b, 0, none⟩), .pointer (some ⟨g, q * 6, none⟩), m.val] W
      (Did B b next s xs q W (if next ≤ m.id ∨ m.claimed = true then (1, xs[q].o) else if hasS (obsOf xs) m.id = true then (4, xs[q].o) else (0, { xs[q].o with msgs := addM xs[q].o.msgs m }))) := by
  obtain ⟨K, hK⟩ := h.one hq
  have hsq := hs _ (List.getElem_mem hq)
  have hc := fun W' (kb : Below W.heap.size W W') => add_m (c := xs[q].m.c) (hK.below kb).msgs.lst hK.msgs.len.symm (by rw [hK.msgs.len]; exact hsq.2.1) hK.msgs.cap m
  have hh := fun W' (kb : Below W.heap.size W W') => has_o (h.below kb).obs hx hs (h.below kb).blk m.id
  have d0 := h.blk.cell 0
  have hblt := h.blk.lt
  obtain ⟨hBg, _, hglt, _⟩ := h.froz (by omega) e
  have hcl := fun W' (kb : Below W.heap.size W W') => (h.below kb).cells hq e
  have hfr := fun W' (kb : Below W.heap.size W W') => (h.below kb).froz (by omega) e
  have hsame := fun (z : Int) W' (kb : Below W.heap.size W W') => Did.same (n := z) (h.below kb) (kb.mono h.size) hq
  have hset := fun W' (kb : Below W.heap.size W W') (t : Sv) (ht : SlK W' (fun i => W.heap.size ≤ i) eM t (addM xs[q].o.msgs m)) => Did.set_ (h.putMsgs kb hq e ht) ((kb.mono h.size).trans (put_below W' hBg (q * 6 + 4) (.slice t.a t.n t.c)))
  have HK0 := ShutW.mk (alloc_below W (.cells m.cells 44))
  have HX0 := ShutW.mk (Blk.new W 44 m.cells)
  have HC := ShutW.mk hc
  have HH := ShutW.mk hh
  have HS := ShutW.mk hsame
  have HT := ShutW.mk hset
  have HCL := ShutW.mk hcl
  have HFR := ShutW.mk hfr
  generalize hasS (obsOf xs) m.id = y at *
  generalize xs[q].m.a = A at *
  generalize xs[q].m.n = n at *
  generalize xs[q].m.c = c at *
  simp only [List.getElem?_toArray, List.getElem?_cons_zero] at d0
  clear hc hsame hset hcl hfr hK hs hBg hh h hsq hx
  obtain ⟨m0, m1, m2, m3, m4, m5⟩ := m
  simp only [Mg.val, Mg.cells] at HX0 HC HH HT HK0 ⊢
  by_cases hid : next ≤ m0
  · have hg : decide (next ≤ m0) = true := decide_eq_true hid
    rw [if_pos (Or.inl hid)]
    go_enter Tryz.func203, Tryz.ntmps203
    go_wp2_with fail
    go_quiet (fail)
    go_wp2_with fail
    go_ret
    exact HS.out 1 _ (below_drewN HK0.out _)
  · have hg : decide (next ≤ m0) = false := decide_eq_false hid
    cases m3
    · rw [if_neg (by simp; omega)]
      go_enter Tryz.func203, Tryz.ntmps203
      go_wp2_with fail
      go_quiet (fail)
      go_wp2_with fail
      refine (HH.out _ (below_drewN HK0.out _)).mono ?_
      rintro e1 w1 ⟨rfl, hb1⟩
      have hb01 := (below_drewN HK0.out nq).trans (hb1.mono (below_drewN HK0.out nq).size)
      have hx1 : Blk w1 W.heap.size 44 #[.int .i64 m0, .int .i64 m1, .int .i64 m2, .bool false, .string m4, .string m5] := Blk.below (w := (W.alloc (.cells #[.int .i64 m0, .int .i64 m1, .int .i64 m2, .bool false, .string m4, .string m5] 44)).drewN nq) HX0.out hb1 HX0.out.lt
      have HB1 := ShutW.mk hb01
      cases y
      · obtain ⟨i0, i1, i2, i3, i4, i5⟩ := blk_six (m := ⟨m0, m1, m2, false, m4, m5⟩) hx1
        obtain ⟨_, _, _, _, k4, _⟩ := HCL.out _ hb01
        have hc1 := HC.out _ hb01.drew
        have HC1 := ShutW.mk hc1
        have HBD := ShutW.mk hb01.drew
        clear hb1 hb01 hx1 hc1 HX0 HK0 HH HC hg d0
        go_wp2_with fail
        go_region_with (go_at_call 226; refine HC1.out.mono ?_; rintro e2 w2 ⟨v, rfl, ho, hb2⟩; obtain ⟨⟨A1, n1, c1⟩, rfl, ht⟩ := ho.k; have HB2 := ShutW.mk (HBD.out.trans (hb2.mono HBD.out.size)); have HTT := ShutW.mk (ht.more (K' := fun i => W.heap.size ≤ i) fun i _ hi => Nat.le_trans HBD.out.size hi); obtain ⟨_, _, _, _, j4, _⟩ := HCL.out _ HB2.out; obtain ⟨_, _, hlt2, fz⟩ := HFR.out _ HB2.out; have fz4 := fz (q * 6 + 4); clear fz hb2 ht ho)
        all_goals
          go_wp2_with fail
          go_ret
          exact HT.out _ HB2.out _ HTT.out
      · clear hb1 hb01 hx1 HX0 HK0 HH HC hg d0
        go_wp2_with fail
        go_ret
        exact HS.out 4 _ HB1.out
    · rw [if_pos (Or.inr rfl)]
      go_enter Tryz.func203, Tryz.ntmps203
      go_wp2_with fail
      go_quiet (fail)
      go_wp2_with fail
      go_ret
      exact HS.out 1 _ (below_drewN HK0.out _)
end
end Go.Proofs.YtjfoflbaoceemaaGreat
