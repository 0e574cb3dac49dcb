/- The document's RightState: it answers whether the state is right (RightD). -/
import Derived.Test.YtpggnklbgkdjcaaJ13
import Derived.Test.YtpggnklbgkdjcaaJ19
import Derived.Test.YtpggnklbgkdjcaaJ20
import Derived.Test.YtpggnklbgkdjcaaJ10
import Derived.Deep.RegionHeld3
import Derived.Deep.QuietTactic
import Derived.BigQuiet
set_option maxRecDepth 4000
namespace Go.Proofs.Ytpggnklbgkdjcaa
open Go.RowKit
def RightP (next : Int) (l : List Ob) (e : Ending) : Prop := ∃ b, e = .returned (.bool b) ∧ (b = true ↔ RightD next l)
def RdSR (w : World) (next : Int) (l : List Ob) (c0 : Array Value) (k : Nat) (i : Value) (wr : World) : Prop :=
  ∃ j, j + k = l.length ∧ i = .int .i64 (j : Int) ∧ (∀ q (h : q < l.length), q < j → OkD next l l[q]) ∧ (∀ q (h : q + 1 < l.length), q + 1 < j → cmpS l[q].name l[q + 1].name < 0) ∧ Below w.heap.size w wr ∧ Blk wr w.heap.size 24 c0
theorem RightP.no {next : Int} {l : List Ob} (h : ¬ RightD next l) : RightP next l (.returned (.bool false)) := ⟨false, rfl, fun k => (by cases k), fun k => absurd k h⟩
theorem rightR_row {r : Rw} (h : rightR r = true) : (keyLB r.1 && bodyB r.2) = true := by
  unfold rightR at h
  unfold keyLB bodyB
  simp only [Bool.and_eq_true, decide_eq_true_eq] at h ⊢
  omega
theorem OkD.row {next : Int} {l : List Ob} {o : Ob} (h : OkD next l o) (t : Nat) (ht : t < o.rows.length) : (keyLB o.rows[t].1 && bodyB o.rows[t].2) = true := rightR_row (List.all_eq_true.1 h.rows _ (List.getElem_mem ht))
structure RdG (next : Int) (o : Ob) : Prop where
  table : o.kind = 1 → o.msgs.length + o.dead.length = 0
  queue : o.kind = 2 → o.rows.length = 0
  rises : risesR o.rows = true
  up : risesD o.msgs = true
  msgs : o.msgs.all (dmsg next false) = true
  dead : o.dead.all (dmsg next true) = true
theorem OkD.g {next : Int} {l : List Ob} {o : Ob} (h : OkD next l o) : RdG next o := ⟨h.table, h.queue, h.rises, h.up, h.msgs, h.dead⟩
/-- the state's box and the object's stand, and what was there -/
structure RdW (w : World) (g : Nat) (c0 cs : Array Value) (wx : World) : Prop where
  b : Below w.heap.size w wx
  s : Blk wx w.heap.size 24 c0
  o : Blk wx g 39 cs
theorem RdW.step {w wx w' : World} {g : Nat} {c0 cs : Array Value} (h : RdW w g c0 cs wx) (k : Below wx.heap.size wx w') : RdW w g c0 cs w' := ⟨h.b.trans (k.mono h.b.size), h.s.below k h.s.lt, h.o.below k h.o.lt⟩
theorem RdW.drew {w wx : World} {g : Nat} {c0 cs : Array Value} (h : RdW w g c0 cs wx) : RdW w g c0 cs wx.drew := ⟨h.b.drew, h.s, h.o⟩
theorem RdW.drewN {w wx : World} {g : Nat} {c0 cs : Array Value} (h : RdW w g c0 cs wx) (n : Nat) : RdW w g c0 cs (wx.drewN n) := ⟨below_drewN h.b n, h.s, h.o⟩
theorem RdW.at_ {w wx : World} {g : Nat} {a0 a1 x0 x1 x2 x3 x4 x5 : Value} (h : RdW w g #[a0, a1] #[x0, x1, x2, x3, x4, x5] wx) :
    wx.cell? ⟨w.heap.size, 0, none⟩ = some a0 ∧ wx.cell? ⟨w.heap.size, 1, none⟩ = some a1 ∧ wx.cell? ⟨g, 0, none⟩ = some x0 ∧ wx.cell? ⟨g, 1, none⟩ = some x1 ∧ wx.cell? ⟨g, 2, none⟩ = some x2 ∧ wx.cell? ⟨g, 3, none⟩ = some x3 ∧ wx.cell? ⟨g, 4, none⟩ = some x4 ∧ wx.cell? ⟨g, 5, none⟩ = some x5 :=
  ⟨h.s.cell 0, h.s.cell 1, h.o.cell 0, h.o.cell 1, h.o.cell 2, h.o.cell 3, h.o.cell 4, h.o.cell 5⟩
def RdI (w : World) (g : Nat) (c0 cs : Array Value) {α : Type} (P : α → Prop) (l : List α) (k : Nat) (i : Value) (wr : World) : Prop :=
  ∃ q, q + k = l.length ∧ i = .int .i64 (q : Int) ∧ (∀ t (h : t < l.length), t < q → P l[t]) ∧ RdW w g c0 cs wr
theorem next_all {α : Type} {P : α → Prop} {l : List α} {q : Nat} (h : q < l.length) (ha : ∀ t (h : t < l.length), t < q → P l[t]) (hp : P l[q]) : ∀ t (h : t < l.length), t < q + 1 → P l[t] := fun t ht k => by
  rcases Nat.lt_or_ge t q with h5 | h5
  · exact ha t ht h5
  · obtain rfl : t = q := by omega
    exact hp
structure ShutRd (p : Prop) : Prop where out : p
set_option maxHeartbeats 8000000 in
theorem rstate_ {w : World} {K : Nat → Prop} {s : Sv} {xs : List Oc} (h : ObsAt w K s xs) (hs : ∀ x ∈ xs, x.o.short 450) (hk : ∀ x ∈ xs, ∀ r ∈ x.o.rows, r.1.size ≤ maxLen) (next : Int) :
    Calls Try.prog 9 #[.agg #[.int .i64 next, .slice s.a s.n s.c]] w fun e w' => RightP next (obsOf xs) e ∧ Below w.heap.size w w' := by
  obtain ⟨A, n, c⟩ := s
  have hln : n = xs.length := h.row.len
  have hol : (obsOf xs).length = n := by rw [hln]; simp [obsOf]
  have HB0 := ShutRd.mk (alloc_below w (.cells #[.int .i64 next, .slice A n c] 24))
  have HX0 := ShutRd.mk (Blk.new w 24 #[.int .i64 next, .slice A n c])
  have HH := ShutRd.mk h
  have HSH := ShutRd.mk hs
  have HK := ShutRd.mk hk
  have HLN := ShutRd.mk hln
  have HOL := ShutRd.mk hol
  clear h hs hk hln hol
  by_cases h1 : next < 1
  · go_enter Try.func9, Try.ntmps9
    go_wp2_with fail
    go_ret
    exact ⟨.no fun k => (by have h4 := k.low; omega), HB0.out⟩
  by_cases h2 : next > 1099511627776
  · go_enter Try.func9, Try.ntmps9
    go_wp2_with fail
    go_ret
    exact ⟨.no fun k => (by have h4 := k.high; omega), HB0.out⟩
  by_cases h3 : (n : Int) > 20
  · go_enter Try.func9, Try.ntmps9
    go_wp2_with fail
    go_ret
    exact ⟨.no fun k => (by have h4 := k.len; have h5 := HOL.out; omega), HB0.out⟩
  go_enter Try.func9, Try.ntmps9
  go_wp2_with fail
  go_loopg [3] n (fun k i wr => RdSR w next (obsOf xs) #[.int .i64 next, .slice A n c] k i wr)
  case atStart => exact ⟨0, by have := HOL.out; omega, rfl, fun q h k => absurd k (Nat.not_lt_zero q), fun q h k => absurd k (Nat.not_lt_zero _), HB0.out, HX0.out⟩
  case round =>
    obtain ⟨j, hj, rfl, hok, hnm, hb, hblk⟩ := hrel
    have HJ := ShutRd.mk hj
    have HOKS := ShutRd.mk hok
    have HNM := ShutRd.mk hnm
    have HB := ShutRd.mk hb
    have HX := ShutRd.mk hblk
    have d0 := hblk.cell 0
    have d1 := hblk.cell 1
    simp only [List.getElem?_toArray, List.getElem?_cons_zero, List.getElem?_cons_succ] at d0 d1
    have hgl := hblk.lt
    clear hj hok hnm hb hblk
    by_cases hlt : j < n
    · have hjx : j < xs.length := by rw [← HLN.out]; exact hlt
      have hjo : j < (obsOf xs).length := by rw [HOL.out]; exact hlt
      have hjn : (j : Int) < (n : Int) := by omega
      obtain ⟨b, o, rfl, hbs, c0, c1, c2, c3, c4, c5⟩ := (HH.out.row.lst.below HB.out).atO hjx
      by_cases hn1 : nameB xs[j].o.name = true
      rotate_left
      · have hn2 : nameB xs[j].o.name = false := by simpa using hn1
        have HNO := ShutRd.mk (show ¬ RightD next (obsOf xs) from fun k => by have h4 := (k.ok j hjo).name; rw [List.getElem_map, hn2] at h4; cases h4)
        have hnc : ∀ W, Calls Try.prog 22 #[.string xs[j].o.name] W fun e w' => e = .returned (.bool false) ∧ w' = W := fun W => (name_ xs[j].o.name W).mono fun e w' ⟨h1, h2⟩ => ⟨by rw [h1, hn2], h2.symm⟩
        clear hn1 hn2
        generalize xs[j].o.name = nm at *
        generalize xs[j].o.kind = kd at *
        generalize xs[j].o.limit = lm at *
        generalize xs[j].r = sr at *
        generalize xs[j].m = sm at *
        generalize xs[j].d = sd at *
        obtain ⟨ra, rn, rc⟩ := sr
        obtain ⟨ma, mn, mc⟩ := sm
        obtain ⟨da, dn, dc⟩ := sd
        simp only at c3 c4 c5
        have HBO := ShutRd.mk (HB.out.alloc HB.out.size (.cells #[.string nm, .int .i64 kd, .int .i64 lm, .slice ra rn rc, .slice ma mn mc, .slice da dn dc] 39))
        have e0 := (Blk.new wr 39 #[.string nm, .int .i64 kd, .int .i64 lm, .slice ra rn rc, .slice ma mn mc, .slice da dn dc]).cell 0
        simp only [List.getElem?_toArray, List.getElem?_cons_zero] at e0
        go_wp2_with fail
        generalize wr.alloc (.cells #[.string nm, .int .i64 kd, .int .i64 lm, .slice ra rn rc, .slice ma mn mc, .slice da dn dc] 39) = w2 at *
        go_quiet ((go_at_call 22; exact Calls.quiet_of_same (hnc _)))
        go_wp2_with fail
        go_ret
        exact ⟨.no HNO.out, below_drewN HBO.out _⟩
      by_cases hk1 : kindB xs[j].o.kind xs[j].o.limit = true
      rotate_left
      · have hk2 : kindB xs[j].o.kind xs[j].o.limit = false := by simpa using hk1
        have HNO := ShutRd.mk (show ¬ RightD next (obsOf xs) from fun k => by have h4 := (k.ok j hjo).kind; rw [List.getElem_map, hk2] at h4; cases h4)
        have hnc : ∀ W, Calls Try.prog 22 #[.string xs[j].o.name] W fun e w' => e = .returned (.bool true) ∧ w' = W := fun W => (name_ xs[j].o.name W).mono fun e w' ⟨h1, h2⟩ => ⟨by rw [h1, hn1], h2.symm⟩
        have hkc : ∀ W, Calls Try.prog 23 #[.int .i64 xs[j].o.kind, .int .i64 xs[j].o.limit] W fun e w' => e = .returned (.bool false) ∧ w' = W := fun W => (rkind_ xs[j].o.kind xs[j].o.limit W).mono fun e w' ⟨h1, h2⟩ => ⟨by rw [h1, hk2], h2.symm⟩
        clear hn1 hk1 hk2
        generalize xs[j].o.name = nm at *
        generalize xs[j].o.kind = kd at *
        generalize xs[j].o.limit = lm at *
        generalize xs[j].r = sr at *
        generalize xs[j].m = sm at *
        generalize xs[j].d = sd at *
        obtain ⟨ra, rn, rc⟩ := sr
        obtain ⟨ma, mn, mc⟩ := sm
        obtain ⟨da, dn, dc⟩ := sd
        simp only at c3 c4 c5
        have HBO := ShutRd.mk (HB.out.alloc HB.out.size (.cells #[.string nm, .int .i64 kd, .int .i64 lm, .slice ra rn rc, .slice ma mn mc, .slice da dn dc] 39))
        have e0 := (Blk.new wr 39 #[.string nm, .int .i64 kd, .int .i64 lm, .slice ra rn rc, .slice ma mn mc, .slice da dn dc]).cell 0
        have e1 := (Blk.new wr 39 #[.string nm, .int .i64 kd, .int .i64 lm, .slice ra rn rc, .slice ma mn mc, .slice da dn dc]).cell 1
        have e2 := (Blk.new wr 39 #[.string nm, .int .i64 kd, .int .i64 lm, .slice ra rn rc, .slice ma mn mc, .slice da dn dc]).cell 2
        simp only [List.getElem?_toArray, List.getElem?_cons_zero, List.getElem?_cons_succ] at e0 e1 e2
        go_wp2_with fail
        generalize wr.alloc (.cells #[.string nm, .int .i64 kd, .int .i64 lm, .slice ra rn rc, .slice ma mn mc, .slice da dn dc] 39) = w2 at *
        go_quiet ((first | (go_at_call 22; exact Calls.quiet_of_same (hnc _)) | (go_at_call 23; exact Calls.quiet_of_same (hkc _))))
        go_wp2_with fail
        go_ret
        exact ⟨.no HNO.out, below_drewN HBO.out _⟩
      by_cases hbad : ∃ (i : Nat) (hi : i < xs.length), i + 1 = j ∧ ¬ cmpS xs[i].o.name xs[j].o.name < 0
      · obtain ⟨i, hi, rfl, hno⟩ := hbad
        have HNO := ShutRd.mk (show ¬ RightD next (obsOf xs) from fun k => by have h4 := k.names i hjo; rw [List.getElem_map, List.getElem_map] at h4; exact hno h4)
        have hprev := (HOKS.out i (by omega) (by omega)).name
        rw [show (obsOf xs)[i]'(by omega) = xs[i].o from List.getElem_map _] at hprev
        have hsz : xs[i].o.name.size ≤ maxLen := by
          unfold nameB at hprev
          simp only [Bool.and_eq_true, decide_eq_true_eq] at hprev
          unfold maxLen
          omega
        obtain ⟨b', o', eA, _, p0, _⟩ := (HH.out.row.lst.below HB.out).atO hi
        injection eA with eA
        injection eA with eA1 eA2
        subst eA1 eA2
        have hnc : ∀ W, Calls Try.prog 22 #[.string xs[i + 1].o.name] W fun e w' => e = .returned (.bool true) ∧ w' = W := fun W => (name_ xs[i + 1].o.name W).mono fun e w' ⟨h1, h2⟩ => ⟨by rw [h1, hn1], h2.symm⟩
        have hkc : ∀ W, Calls Try.prog 23 #[.int .i64 xs[i + 1].o.kind, .int .i64 xs[i + 1].o.limit] W fun e w' => e = .returned (.bool true) ∧ w' = W := fun W => (rkind_ xs[i + 1].o.kind xs[i + 1].o.limit W).mono fun e w' ⟨h1, h2⟩ => ⟨by rw [h1, hk1], h2.symm⟩
        have hcc := fun W => refKeys xs[i].o.name xs[i + 1].o.name W hsz
        have hge : 0 ≤ cmpS xs[i].o.name xs[i + 1].o.name := by omega
        generalize cmpS xs[i].o.name xs[i + 1].o.name = cz at *
        generalize xs[i].o.name = pn at *
        clear hn1 hk1 hno hprev hsz
        generalize xs[i + 1].o.name = nm at *
        generalize xs[i + 1].o.kind = kd at *
        generalize xs[i + 1].o.limit = lm at *
        generalize xs[i + 1].r = sr at *
        generalize xs[i + 1].m = sm at *
        generalize xs[i + 1].d = sd at *
        obtain ⟨ra, rn, rc⟩ := sr
        obtain ⟨ma, mn, mc⟩ := sm
        obtain ⟨da, dn, dc⟩ := sd
        simp only at c3 c4 c5
        have hal := alloc_below wr (.cells #[.string nm, .int .i64 kd, .int .i64 lm, .slice ra rn rc, .slice ma mn mc, .slice da dn dc] 39)
        have HBO := ShutRd.mk (HB.out.alloc HB.out.size (.cells #[.string nm, .int .i64 kd, .int .i64 lm, .slice ra rn rc, .slice ma mn mc, .slice da dn dc] 39))
        have e0 := (Blk.new wr 39 #[.string nm, .int .i64 kd, .int .i64 lm, .slice ra rn rc, .slice ma mn mc, .slice da dn dc]).cell 0
        have e1 := (Blk.new wr 39 #[.string nm, .int .i64 kd, .int .i64 lm, .slice ra rn rc, .slice ma mn mc, .slice da dn dc]).cell 1
        have e2 := (Blk.new wr 39 #[.string nm, .int .i64 kd, .int .i64 lm, .slice ra rn rc, .slice ma mn mc, .slice da dn dc]).cell 2
        have d1' := (HX.out.alloc (.cells #[.string nm, .int .i64 kd, .int .i64 lm, .slice ra rn rc, .slice ma mn mc, .slice da dn dc] 39)).cell 1
        simp only [List.getElem?_toArray, List.getElem?_cons_zero, List.getElem?_cons_succ] at e0 e1 e2 d1'
        have p0' := (cell_of_heap (hal.block b hbs) _).trans p0
        have hw : IntKind.i64.wrap (((i + 1 : Nat) : Int) - 1) = (i : Int) := by rw [IntKind.wrap_i64]; omega
        have hin : (i : Int) < (n : Int) := by omega
        have hpos : (0 : Int) < ((i + 1 : Nat) : Int) := by omega
        clear p0 hal
        go_wp2_with fail
        generalize wr.alloc (.cells #[.string nm, .int .i64 kd, .int .i64 lm, .slice ra rn rc, .slice ma mn mc, .slice da dn dc] 39) = w2 at *
        go_quiet ((first | (go_at_call 22; exact Calls.quiet_of_same (hnc _)) | (go_at_call 23; exact Calls.quiet_of_same (hkc _)) | (go_at_call 24; exact Calls.quiet_of (hcc _))))
        go_wp2_with fail
        go_ret
        exact ⟨.no HNO.out, below_drewN HBO.out _⟩
      obtain ⟨wo, rfl⟩ : ∃ wo, wo = wr := ⟨_, rfl⟩
      have hord : ∀ i (hi : i < xs.length), i + 1 = j → cmpS xs[i].o.name xs[j].o.name < 0 := fun i hi e => Decidable.byContradiction fun hn => hbad ⟨i, hi, e, hn⟩
      have hon : ∀ q (h : q + 1 < (obsOf xs).length), q + 1 < j + 1 → cmpS (obsOf xs)[q].name (obsOf xs)[q + 1].name < 0 := fun q h k => by
        rcases Nat.lt_or_ge (q + 1) j with h5 | h5
        · exact HNM.out q h h5
        · obtain rfl : j = q + 1 := by omega
          rw [List.getElem_map, List.getElem_map]
          exact hord q (by omega) rfl
      have HON := ShutRd.mk hon
      have hmem := List.getElem_mem hjx
      have hokn : RdG next xs[j].o → (∀ t (h : t < xs[j].o.rows.length), (keyLB xs[j].o.rows[t].1 && bodyB xs[j].o.rows[t].2) = true) → (∀ t (h : t < xs[j].o.msgs.length), totalD (obsOf xs) xs[j].o.msgs[t].id = 1) → (∀ t (h : t < xs[j].o.dead.length), totalD (obsOf xs) xs[j].o.dead[t].id = 1) →
          ∀ q (h : q < (obsOf xs).length), q < j + 1 → OkD next (obsOf xs) (obsOf xs)[q] := fun a1 a7 a8 a9 q h k => by
        rcases Nat.lt_or_ge q j with h5 | h5
        · exact HOKS.out q h h5
        · obtain rfl : q = j := by omega
          rw [List.getElem_map]
          exact ⟨hn1, hk1, a1.table, a1.queue, a1.rises, a1.up, a1.msgs, a1.dead, List.all_eq_true.2 fun r hr => by obtain ⟨t, ht, rfl⟩ := List.getElem_of_mem hr; exact rightR_of (a7 t ht),
            fun m hm => by obtain ⟨t, ht, rfl⟩ := List.getElem_of_mem hm; exact a8 t ht, fun m hm => by obtain ⟨t, ht, rfl⟩ := List.getElem_of_mem hm; exact a9 t ht⟩
      have HOKN := ShutRd.mk hokn
      have hro : RightD next (obsOf xs) → OkD next (obsOf xs) xs[j].o := fun k => by
        have h4 := k.ok j hjo
        rwa [List.getElem_map] at h4
      have HRO := ShutRd.mk hro
      have hnc : ∀ W, Calls Try.prog 22 #[.string xs[j].o.name] W fun e w' => e = .returned (.bool true) ∧ w' = W := fun W => (name_ xs[j].o.name W).mono fun e w' ⟨h1, h2⟩ => ⟨by rw [h1, hn1], h2.symm⟩
      have hkc : ∀ W, Calls Try.prog 23 #[.int .i64 xs[j].o.kind, .int .i64 xs[j].o.limit] W fun e w' => e = .returned (.bool true) ∧ w' = W := fun W => (rkind_ xs[j].o.kind xs[j].o.limit W).mono fun e w' ⟨h1, h2⟩ => ⟨by rw [h1, hk1], h2.symm⟩
      obtain ⟨hs0, hs1, hs2⟩ := HSH.out _ hmem
      have hlr := fun W (k : Below w.heap.size w W) => ((HH.out.all _ hmem).below k).rows
      have hlm := fun W (k : Below w.heap.size w W) => ((HH.out.all _ hmem).below k).msgs
      have hld := fun W (k : Below w.heap.size w W) => ((HH.out.all _ hmem).below k).dead
      have hrs := fun W (k : Below w.heap.size w W) => rises_ (c := xs[j].r.c) (Lst.rws (hlr W k).lst) (hlr W k).len.symm (by rw [(hlr W k).len]; omega) (HK.out _ hmem)
      have hms := fun W (k : Below w.heap.size w W) => rrises_m (c := xs[j].m.c) (hlm W k).lst (hlm W k).len.symm (by rw [(hlm W k).len]; omega)
      have hm1 := fun W (k : Below w.heap.size w W) => messages_ (c := xs[j].m.c) (hlm W k).lst (hlm W k).len.symm (by rw [(hlm W k).len]; omega) next false
      have hm2 := fun W (k : Below w.heap.size w W) => messages_ (c := xs[j].d.c) (hld W k).lst (hld W k).len.symm (by rw [(hld W k).len]; omega) next true
      have htc := fun id W (k : Below w.heap.size w W) => total_ (HH.out.below k) (by have := HLN.out; omega) HSH.out next id
      simp only at htc
      have hk2 : ¬ xs[j].o.kind = 1 → xs[j].o.kind = 2 := kind_two hk1
      have hprev : ∀ i (hi : i < xs.length), i + 1 = j → ∃ z pn, z < 0 ∧ (∀ W, Calls Try.prog 24 #[.string pn, .string xs[j].o.name] W fun e w' => e = .returned (.int .i64 z) ∧ ∃ n, w' = W.drewN n) ∧ wo.cell? ⟨b, o + i * 6, none⟩ = some (.string pn) := fun i hi e => by
        have hp := (HOKS.out i (by omega) (by omega)).name
        rw [show (obsOf xs)[i]'(by omega) = xs[i].o from List.getElem_map _] at hp
        have hsz : xs[i].o.name.size ≤ maxLen := by
          unfold nameB at hp
          simp only [Bool.and_eq_true, decide_eq_true_eq] at hp
          unfold maxLen
          omega
        obtain ⟨b', o', eA, _, p0, _⟩ := (HH.out.row.lst.below HB.out).atO hi
        injection eA with eA
        injection eA with eA1 eA2
        subst eA1 eA2
        refine ⟨cmpS xs[i].o.name xs[j].o.name, xs[i].o.name, hord i hi e, fun W => ?_, ?_⟩
        · exact refKeys xs[i].o.name xs[j].o.name W hsz
        · exact p0
      generalize xs[j].o = ob at *
      generalize xs[j].r = sr at *
      generalize xs[j].m = sm at *
      generalize xs[j].d = sd at *
      obtain ⟨nm, kd, lm, rs, ms, ds⟩ := ob
      obtain ⟨ra, rn, rc⟩ := sr
      obtain ⟨ma, mn, mc⟩ := sm
      obtain ⟨da, dn, dc⟩ := sd
      simp only at c0 c1 c2 c3 c4 c5 hrs hms hm1 hm2 hnc hkc hk2 hprev hs0 hs1 hs2 hlr hlm hld
      have HRS := ShutRd.mk hrs
      have HMS := ShutRd.mk hms
      have HM1 := ShutRd.mk hm1
      have HM2 := ShutRd.mk hm2
      have HTC := ShutRd.mk htc
      have HLR := ShutRd.mk hlr
      have HLM := ShutRd.mk hlm
      have HLD := ShutRd.mk hld
      have HK2 := ShutRd.mk hk2
      have HPV := ShutRd.mk hprev
      have HS0 := ShutRd.mk hs0
      have HS1 := ShutRd.mk hs1
      have HS2 := ShutRd.mk hs2
      have hal := alloc_below wo (.cells #[.string nm, .int .i64 kd, .int .i64 lm, .slice ra rn rc, .slice ma mn mc, .slice da dn dc] 39)
      have HAL := ShutRd.mk hal
      have hrw : RdW w wo.heap.size #[.int .i64 next, .slice (some ⟨b, o, none⟩) n c] #[.string nm, .int .i64 kd, .int .i64 lm, .slice ra rn rc, .slice ma mn mc, .slice da dn dc] (wo.alloc (.cells #[.string nm, .int .i64 kd, .int .i64 lm, .slice ra rn rc, .slice ma mn mc, .slice da dn dc] 39)) :=
        ⟨HB.out.alloc HB.out.size _, HX.out.alloc _, Blk.new wo _ _⟩
      have HRW := ShutRd.mk hrw
      have HBS := ShutRd.mk hbs
      clear hrs hms hm1 hm2 htc hlr hlm hld hk2 hprev hs0 hs1 hs2 hrw hokn hro hon hord hmem hbad hn1 hk1 hal hbs
      go_upto_region 7 with fail
      clear c0 c1 c2 c3 c4 c5 d0 d1
      generalize hw2 : wo.alloc (.cells #[.string nm, .int .i64 kd, .int .i64 lm, .slice ra rn rc, .slice ma mn mc, .slice da dn dc] 39) = w2 at *
      have HGL := ShutRd.mk hgl
      clear hw2 hgl
      go_cut [62] from 22 to 160 (fun v wx => v = .bool false ∧ RdW w wo.heap.size #[.int .i64 next, .slice (some ⟨b, o, none⟩) n c] #[.string nm, .int .i64 kd, .int .i64 lm, .slice ra rn rc, .slice ma mn mc, .slice da dn dc] wx)
      case first =>
        obtain ⟨d0, d1, e0, e1, e2, e3, e4, e5⟩ := HRW.out.at_
        clear e3 e4 e5
        rcases Nat.eq_zero_or_pos j with hj0 | hj0
        · have hg0 : decide ((0 : Int) < (j : Int)) = false := decide_eq_false (by omega)
          have hgn : decide (0 < j) = false := decide_eq_false (by omega)
          clear hj0 d1
          go_quiet ((first | (go_at_call 22; exact Calls.quiet_of_same (hnc _)) | (go_at_call 23; exact Calls.quiet_of_same (hkc _))))
          go_wp2_with fail
          go_meet
          exact ⟨rfl, HRW.out.drewN _⟩
        · obtain ⟨i, rfl⟩ : ∃ i, j = i + 1 := ⟨j - 1, by omega⟩
          obtain ⟨z, pn, hz, hcc, p0⟩ := HPV.out i (by omega) rfl
          have p0' := (cell_of_heap (HAL.out.block b HBS.out) _).trans p0
          have hw : IntKind.i64.wrap (((i + 1 : Nat) : Int) - 1) = (i : Int) := by rw [IntKind.wrap_i64]; omega
          have hin : (i : Int) < (n : Int) := by omega
          have hpos : (0 : Int) < ((i + 1 : Nat) : Int) := by omega
          have hge : ¬ 0 ≤ z := by omega
          clear p0 hj0 hz
          go_quiet ((first | (go_at_call 22; exact Calls.quiet_of_same (hnc _)) | (go_at_call 23; exact Calls.quiet_of_same (hkc _)) | (go_at_call 24; exact Calls.quiet_of (hcc _))))
          go_wp2_with fail
          go_meet
          exact ⟨rfl, HRW.out.drewN _⟩
      case rest =>
        obtain ⟨rfl, hrwc⟩ := hcut
        have HR3 := ShutRd.mk hrwc
        clear hrwc HRW hnc hkc HPV HAL
        go_upto_region 9 with fail
        go_cut [114] from 63 to 160 (fun v wx => ∃ t, v = .bool t ∧ (t = false → RdG next ⟨nm, kd, lm, rs, ms, ds⟩) ∧ (t = true → ¬ RdG next ⟨nm, kd, lm, rs, ms, ds⟩) ∧ RdW w wo.heap.size #[.int .i64 next, .slice (some ⟨b, o, none⟩) n c] #[.string nm, .int .i64 kd, .int .i64 lm, .slice ra rn rc, .slice ma mn mc, .slice da dn dc] wx)
        case first =>
          have hrn : rn = rs.length := (HLR.out _ HR3.out.b).len
          have hmn : mn = ms.length := (HLM.out _ HR3.out.b).len
          have hdn : dn = ds.length := (HLD.out _ HR3.out.b).len
          have hs1 := HS1.out
          have hs2 := HS2.out
          have hwa : IntKind.i64.wrap ((mn : Int) + (dn : Int)) = (mn : Int) + (dn : Int) := by rw [IntKind.wrap_i64]; omega
          have hrd : risesR rs = true → risesD ms = true → ms.all (dmsg next false) = true → ds.all (dmsg next true) = true → (kd = 1 → ms.length + ds.length = 0) → (kd = 2 → rs.length = 0) → RdG next ⟨nm, kd, lm, rs, ms, ds⟩ := fun a3 a4 a5 a6 a1 a2 => ⟨a1, a2, a3, a4, a5, a6⟩
          have HRD := ShutRd.mk hrd
          have hrx : RdG next ⟨nm, kd, lm, rs, ms, ds⟩ → risesR rs = true ∧ risesD ms = true ∧ ms.all (dmsg next false) = true ∧ ds.all (dmsg next true) = true := fun k => ⟨k.rises, k.up, k.msgs, k.dead⟩
          have HRX := ShutRd.mk hrx
          have HRN := ShutRd.mk hrn
          have HMN := ShutRd.mk hmn
          have HDN := ShutRd.mk hdn
          clear hrn hmn hdn hs1 hs2 hrd hrx
          have c1 := HRS.out
          have c2 := HMS.out
          have c3 := HM1.out
          have c4 := HM2.out
          generalize risesR rs = b1 at *
          generalize risesD ms = b2 at *
          generalize ms.all (dmsg next false) = b3 at *
          generalize ds.all (dmsg next true) = b4 at *
          have C1 := ShutRd.mk c1
          have C2 := ShutRd.mk c2
          have C3 := ShutRd.mk c3
          have C4 := ShutRd.mk c4
          clear c1 c2 c3 c4 HRS HMS HM1 HM2
          have hk2 := HK2.out
          obtain ⟨d0, d1, e0, e1, e2, e3, e4, e5⟩ := HR3.out.at_
          clear d1 e0 e2 HK2
          by_cases hk1 : kd = 1
          · subst hk1
            clear hk2
            by_cases l0 : mn + dn = 0
            · obtain rfl : mn = 0 := by omega
              obtain rfl : dn = 0 := by omega
              cases b1
              · go_wp2_with ((first | (go_at_call 25; refine (C1.out _ HR3.out.b).mono ?_; rintro e w4 ⟨rfl, hb4⟩; have HR4 := ShutRd.mk (HR3.out.step hb4); obtain ⟨d04, d14, e04, e14, e24, e34, e44, e54⟩ := HR4.out.at_; clear hb4 d14 e04 e14 e24) | (go_at_call 26; refine (C2.out _ HR4.out.b).mono ?_; rintro e w5 ⟨rfl, hb5⟩; have HR5 := ShutRd.mk (HR4.out.step hb5); obtain ⟨d05, d15, e05, e15, e25, e35, e45, e55⟩ := HR5.out.at_; clear hb5 d15 e05 e15 e25) | (go_at_call 27; refine (C4.out _ HR6.out.b).mono ?_; rintro e w7 ⟨rfl, hb7⟩; have HR7 := ShutRd.mk (HR6.out.step hb7); obtain ⟨d07, d17, e07, e17, e27, e37, e47, e57⟩ := HR7.out.at_; clear hb7 d17 e07 e17 e27) | (go_at_call 27; refine (C3.out _ HR5.out.b).mono ?_; rintro e w6 ⟨rfl, hb6⟩; have HR6 := ShutRd.mk (HR5.out.step hb6); obtain ⟨d06, d16, e06, e16, e26, e36, e46, e56⟩ := HR6.out.at_; clear hb6 d16 e06 e16 e26)))
                go_meet
                exact ⟨true, rfl, fun h => (by cases h), fun _ k => (by have hh := HRX.out k; simp at hh), HR4.out⟩
              cases b2
              · go_wp2_with ((first | (go_at_call 25; refine (C1.out _ HR3.out.b).mono ?_; rintro e w4 ⟨rfl, hb4⟩; have HR4 := ShutRd.mk (HR3.out.step hb4); obtain ⟨d04, d14, e04, e14, e24, e34, e44, e54⟩ := HR4.out.at_; clear hb4 d14 e04 e14 e24) | (go_at_call 26; refine (C2.out _ HR4.out.b).mono ?_; rintro e w5 ⟨rfl, hb5⟩; have HR5 := ShutRd.mk (HR4.out.step hb5); obtain ⟨d05, d15, e05, e15, e25, e35, e45, e55⟩ := HR5.out.at_; clear hb5 d15 e05 e15 e25) | (go_at_call 27; refine (C4.out _ HR6.out.b).mono ?_; rintro e w7 ⟨rfl, hb7⟩; have HR7 := ShutRd.mk (HR6.out.step hb7); obtain ⟨d07, d17, e07, e17, e27, e37, e47, e57⟩ := HR7.out.at_; clear hb7 d17 e07 e17 e27) | (go_at_call 27; refine (C3.out _ HR5.out.b).mono ?_; rintro e w6 ⟨rfl, hb6⟩; have HR6 := ShutRd.mk (HR5.out.step hb6); obtain ⟨d06, d16, e06, e16, e26, e36, e46, e56⟩ := HR6.out.at_; clear hb6 d16 e06 e16 e26)))
                go_meet
                exact ⟨true, rfl, fun h => (by cases h), fun _ k => (by have hh := HRX.out k; simp at hh), HR5.out⟩
              cases b3
              · go_wp2_with ((first | (go_at_call 25; refine (C1.out _ HR3.out.b).mono ?_; rintro e w4 ⟨rfl, hb4⟩; have HR4 := ShutRd.mk (HR3.out.step hb4); obtain ⟨d04, d14, e04, e14, e24, e34, e44, e54⟩ := HR4.out.at_; clear hb4 d14 e04 e14 e24) | (go_at_call 26; refine (C2.out _ HR4.out.b).mono ?_; rintro e w5 ⟨rfl, hb5⟩; have HR5 := ShutRd.mk (HR4.out.step hb5); obtain ⟨d05, d15, e05, e15, e25, e35, e45, e55⟩ := HR5.out.at_; clear hb5 d15 e05 e15 e25) | (go_at_call 27; refine (C4.out _ HR6.out.b).mono ?_; rintro e w7 ⟨rfl, hb7⟩; have HR7 := ShutRd.mk (HR6.out.step hb7); obtain ⟨d07, d17, e07, e17, e27, e37, e47, e57⟩ := HR7.out.at_; clear hb7 d17 e07 e17 e27) | (go_at_call 27; refine (C3.out _ HR5.out.b).mono ?_; rintro e w6 ⟨rfl, hb6⟩; have HR6 := ShutRd.mk (HR5.out.step hb6); obtain ⟨d06, d16, e06, e16, e26, e36, e46, e56⟩ := HR6.out.at_; clear hb6 d16 e06 e16 e26)))
                go_meet
                exact ⟨true, rfl, fun h => (by cases h), fun _ k => (by have hh := HRX.out k; simp at hh), HR6.out⟩
              cases b4
              · go_wp2_with ((first | (go_at_call 25; refine (C1.out _ HR3.out.b).mono ?_; rintro e w4 ⟨rfl, hb4⟩; have HR4 := ShutRd.mk (HR3.out.step hb4); obtain ⟨d04, d14, e04, e14, e24, e34, e44, e54⟩ := HR4.out.at_; clear hb4 d14 e04 e14 e24) | (go_at_call 26; refine (C2.out _ HR4.out.b).mono ?_; rintro e w5 ⟨rfl, hb5⟩; have HR5 := ShutRd.mk (HR4.out.step hb5); obtain ⟨d05, d15, e05, e15, e25, e35, e45, e55⟩ := HR5.out.at_; clear hb5 d15 e05 e15 e25) | (go_at_call 27; refine (C4.out _ HR6.out.b).mono ?_; rintro e w7 ⟨rfl, hb7⟩; have HR7 := ShutRd.mk (HR6.out.step hb7); obtain ⟨d07, d17, e07, e17, e27, e37, e47, e57⟩ := HR7.out.at_; clear hb7 d17 e07 e17 e27) | (go_at_call 27; refine (C3.out _ HR5.out.b).mono ?_; rintro e w6 ⟨rfl, hb6⟩; have HR6 := ShutRd.mk (HR5.out.step hb6); obtain ⟨d06, d16, e06, e16, e26, e36, e46, e56⟩ := HR6.out.at_; clear hb6 d16 e06 e16 e26)))
                go_meet
                exact ⟨true, rfl, fun h => (by cases h), fun _ k => (by have hh := HRX.out k; simp at hh), HR7.out⟩
              go_wp2_with ((first | (go_at_call 25; refine (C1.out _ HR3.out.b).mono ?_; rintro e w4 ⟨rfl, hb4⟩; have HR4 := ShutRd.mk (HR3.out.step hb4); obtain ⟨d04, d14, e04, e14, e24, e34, e44, e54⟩ := HR4.out.at_; clear hb4 d14 e04 e14 e24) | (go_at_call 26; refine (C2.out _ HR4.out.b).mono ?_; rintro e w5 ⟨rfl, hb5⟩; have HR5 := ShutRd.mk (HR4.out.step hb5); obtain ⟨d05, d15, e05, e15, e25, e35, e45, e55⟩ := HR5.out.at_; clear hb5 d15 e05 e15 e25) | (go_at_call 27; refine (C4.out _ HR6.out.b).mono ?_; rintro e w7 ⟨rfl, hb7⟩; have HR7 := ShutRd.mk (HR6.out.step hb7); obtain ⟨d07, d17, e07, e17, e27, e37, e47, e57⟩ := HR7.out.at_; clear hb7 d17 e07 e17 e27) | (go_at_call 27; refine (C3.out _ HR5.out.b).mono ?_; rintro e w6 ⟨rfl, hb6⟩; have HR6 := ShutRd.mk (HR5.out.step hb6); obtain ⟨d06, d16, e06, e16, e26, e36, e46, e56⟩ := HR6.out.at_; clear hb6 d16 e06 e16 e26)))
              go_meet
              exact ⟨false, rfl, fun _ => HRD.out (by first | rfl | trivial) (by first | rfl | trivial) (by first | rfl | trivial) (by first | rfl | trivial) (fun _ => (by have := HMN.out; have := HDN.out; omega)) (fun h => absurd h (by decide)), fun h => (by cases h), HR7.out⟩
            · have hg1 : decide (0 < mn + dn) = true := decide_eq_true (by omega)
              have hg2 : decide ((0 : Int) < (mn : Int) + (dn : Int)) = true := decide_eq_true (by omega)
              go_wp2_with fail
              go_meet
              exact ⟨true, rfl, fun h => (by cases h), fun _ k => (by have h4 := k.table rfl; simp only at h4; have := HMN.out; have := HDN.out; omega), HR3.out⟩
          · have hk := hk2 hk1
            clear hk2 hk1
            subst hk
            by_cases l0 : rn = 0
            · subst l0
              cases b1
              · go_wp2_with ((first | (go_at_call 25; refine (C1.out _ HR3.out.b).mono ?_; rintro e w4 ⟨rfl, hb4⟩; have HR4 := ShutRd.mk (HR3.out.step hb4); obtain ⟨d04, d14, e04, e14, e24, e34, e44, e54⟩ := HR4.out.at_; clear hb4 d14 e04 e14 e24) | (go_at_call 26; refine (C2.out _ HR4.out.b).mono ?_; rintro e w5 ⟨rfl, hb5⟩; have HR5 := ShutRd.mk (HR4.out.step hb5); obtain ⟨d05, d15, e05, e15, e25, e35, e45, e55⟩ := HR5.out.at_; clear hb5 d15 e05 e15 e25) | (go_at_call 27; refine (C4.out _ HR6.out.b).mono ?_; rintro e w7 ⟨rfl, hb7⟩; have HR7 := ShutRd.mk (HR6.out.step hb7); obtain ⟨d07, d17, e07, e17, e27, e37, e47, e57⟩ := HR7.out.at_; clear hb7 d17 e07 e17 e27) | (go_at_call 27; refine (C3.out _ HR5.out.b).mono ?_; rintro e w6 ⟨rfl, hb6⟩; have HR6 := ShutRd.mk (HR5.out.step hb6); obtain ⟨d06, d16, e06, e16, e26, e36, e46, e56⟩ := HR6.out.at_; clear hb6 d16 e06 e16 e26)))
                go_meet
                exact ⟨true, rfl, fun h => (by cases h), fun _ k => (by have hh := HRX.out k; simp at hh), HR4.out⟩
              cases b2
              · go_wp2_with ((first | (go_at_call 25; refine (C1.out _ HR3.out.b).mono ?_; rintro e w4 ⟨rfl, hb4⟩; have HR4 := ShutRd.mk (HR3.out.step hb4); obtain ⟨d04, d14, e04, e14, e24, e34, e44, e54⟩ := HR4.out.at_; clear hb4 d14 e04 e14 e24) | (go_at_call 26; refine (C2.out _ HR4.out.b).mono ?_; rintro e w5 ⟨rfl, hb5⟩; have HR5 := ShutRd.mk (HR4.out.step hb5); obtain ⟨d05, d15, e05, e15, e25, e35, e45, e55⟩ := HR5.out.at_; clear hb5 d15 e05 e15 e25) | (go_at_call 27; refine (C4.out _ HR6.out.b).mono ?_; rintro e w7 ⟨rfl, hb7⟩; have HR7 := ShutRd.mk (HR6.out.step hb7); obtain ⟨d07, d17, e07, e17, e27, e37, e47, e57⟩ := HR7.out.at_; clear hb7 d17 e07 e17 e27) | (go_at_call 27; refine (C3.out _ HR5.out.b).mono ?_; rintro e w6 ⟨rfl, hb6⟩; have HR6 := ShutRd.mk (HR5.out.step hb6); obtain ⟨d06, d16, e06, e16, e26, e36, e46, e56⟩ := HR6.out.at_; clear hb6 d16 e06 e16 e26)))
                go_meet
                exact ⟨true, rfl, fun h => (by cases h), fun _ k => (by have hh := HRX.out k; simp at hh), HR5.out⟩
              cases b3
              · go_wp2_with ((first | (go_at_call 25; refine (C1.out _ HR3.out.b).mono ?_; rintro e w4 ⟨rfl, hb4⟩; have HR4 := ShutRd.mk (HR3.out.step hb4); obtain ⟨d04, d14, e04, e14, e24, e34, e44, e54⟩ := HR4.out.at_; clear hb4 d14 e04 e14 e24) | (go_at_call 26; refine (C2.out _ HR4.out.b).mono ?_; rintro e w5 ⟨rfl, hb5⟩; have HR5 := ShutRd.mk (HR4.out.step hb5); obtain ⟨d05, d15, e05, e15, e25, e35, e45, e55⟩ := HR5.out.at_; clear hb5 d15 e05 e15 e25) | (go_at_call 27; refine (C4.out _ HR6.out.b).mono ?_; rintro e w7 ⟨rfl, hb7⟩; have HR7 := ShutRd.mk (HR6.out.step hb7); obtain ⟨d07, d17, e07, e17, e27, e37, e47, e57⟩ := HR7.out.at_; clear hb7 d17 e07 e17 e27) | (go_at_call 27; refine (C3.out _ HR5.out.b).mono ?_; rintro e w6 ⟨rfl, hb6⟩; have HR6 := ShutRd.mk (HR5.out.step hb6); obtain ⟨d06, d16, e06, e16, e26, e36, e46, e56⟩ := HR6.out.at_; clear hb6 d16 e06 e16 e26)))
                go_meet
                exact ⟨true, rfl, fun h => (by cases h), fun _ k => (by have hh := HRX.out k; simp at hh), HR6.out⟩
              cases b4
              · go_wp2_with ((first | (go_at_call 25; refine (C1.out _ HR3.out.b).mono ?_; rintro e w4 ⟨rfl, hb4⟩; have HR4 := ShutRd.mk (HR3.out.step hb4); obtain ⟨d04, d14, e04, e14, e24, e34, e44, e54⟩ := HR4.out.at_; clear hb4 d14 e04 e14 e24) | (go_at_call 26; refine (C2.out _ HR4.out.b).mono ?_; rintro e w5 ⟨rfl, hb5⟩; have HR5 := ShutRd.mk (HR4.out.step hb5); obtain ⟨d05, d15, e05, e15, e25, e35, e45, e55⟩ := HR5.out.at_; clear hb5 d15 e05 e15 e25) | (go_at_call 27; refine (C4.out _ HR6.out.b).mono ?_; rintro e w7 ⟨rfl, hb7⟩; have HR7 := ShutRd.mk (HR6.out.step hb7); obtain ⟨d07, d17, e07, e17, e27, e37, e47, e57⟩ := HR7.out.at_; clear hb7 d17 e07 e17 e27) | (go_at_call 27; refine (C3.out _ HR5.out.b).mono ?_; rintro e w6 ⟨rfl, hb6⟩; have HR6 := ShutRd.mk (HR5.out.step hb6); obtain ⟨d06, d16, e06, e16, e26, e36, e46, e56⟩ := HR6.out.at_; clear hb6 d16 e06 e16 e26)))
                go_meet
                exact ⟨true, rfl, fun h => (by cases h), fun _ k => (by have hh := HRX.out k; simp at hh), HR7.out⟩
              go_wp2_with ((first | (go_at_call 25; refine (C1.out _ HR3.out.b).mono ?_; rintro e w4 ⟨rfl, hb4⟩; have HR4 := ShutRd.mk (HR3.out.step hb4); obtain ⟨d04, d14, e04, e14, e24, e34, e44, e54⟩ := HR4.out.at_; clear hb4 d14 e04 e14 e24) | (go_at_call 26; refine (C2.out _ HR4.out.b).mono ?_; rintro e w5 ⟨rfl, hb5⟩; have HR5 := ShutRd.mk (HR4.out.step hb5); obtain ⟨d05, d15, e05, e15, e25, e35, e45, e55⟩ := HR5.out.at_; clear hb5 d15 e05 e15 e25) | (go_at_call 27; refine (C4.out _ HR6.out.b).mono ?_; rintro e w7 ⟨rfl, hb7⟩; have HR7 := ShutRd.mk (HR6.out.step hb7); obtain ⟨d07, d17, e07, e17, e27, e37, e47, e57⟩ := HR7.out.at_; clear hb7 d17 e07 e17 e27) | (go_at_call 27; refine (C3.out _ HR5.out.b).mono ?_; rintro e w6 ⟨rfl, hb6⟩; have HR6 := ShutRd.mk (HR5.out.step hb6); obtain ⟨d06, d16, e06, e16, e26, e36, e46, e56⟩ := HR6.out.at_; clear hb6 d16 e06 e16 e26)))
              go_meet
              exact ⟨false, rfl, fun _ => HRD.out (by first | rfl | trivial) (by first | rfl | trivial) (by first | rfl | trivial) (by first | rfl | trivial) (fun h => absurd h (by decide)) (fun _ => HRN.out.symm), fun h => (by cases h), HR7.out⟩
            · have hg1 : decide (0 < rn) = true := decide_eq_true (by omega)
              have hg2 : decide ((0 : Int) < (rn : Int)) = true := decide_eq_true (by omega)
              go_wp2_with fail
              go_meet
              exact ⟨true, rfl, fun h => (by cases h), fun _ k => (by have h4 := k.queue rfl; simp only at h4; have := HRN.out; omega), HR3.out⟩
        case rest =>
          obtain ⟨t, rfl, hgood, hbad4, hrw4⟩ := hcut
          have HBD := ShutRd.mk hbad4
          have HG := ShutRd.mk hgood
          have HR8 := ShutRd.mk hrw4
          clear hgood hbad4 hrw4 HR3 HRS HMS HM1 HM2 HK2
          cases t
          rotate_left
          · go_wp2_with fail
            go_ret
            exact ⟨.no fun k => HBD.out (by first | rfl | trivial) (HRO.out k).g, HR8.out.b⟩
          have hgd := HG.out (by first | rfl | trivial)
          have HGD := ShutRd.mk hgd
          clear hgd HG
          go_wp2_with fail
          go_loopg [5] rs.length (fun k i wx => RdI w wo.heap.size #[.int .i64 next, .slice (some ⟨b, o, none⟩) n c] #[.string nm, .int .i64 kd, .int .i64 lm, .slice ra rn rc, .slice ma mn mc, .slice da dn dc] (fun r : Rw => (keyLB r.1 && bodyB r.2) = true) rs k i wx)
          case atStart => exact ⟨0, by omega, rfl, fun t h k => absurd k (Nat.not_lt_zero t), HR8.out⟩
          case round =>
            obtain ⟨q5, hq5, rfl, hall5, hrr5⟩ := hrel
            have HQ5 := ShutRd.mk hq5
            have HA5 := ShutRd.mk hall5
            have HW5 := ShutRd.mk hrr5
            obtain ⟨d0, d1, e0, e1, e2, e3, e4, e5⟩ := hrr5.at_
            clear hq5 hall5 hrr5 e0 e1 e2
            have hln : rn = rs.length := (HLR.out _ HW5.out.b).len
            by_cases hl5 : q5 < rs.length
            · obtain ⟨mb, mo, em, _, i0, i1⟩ := (HLR.out _ HW5.out.b).lst.atR hl5
              have em2 : ra = some ⟨mb, mo, none⟩ := em
              subst em2
              have hqi : (q5 : Int) < (rn : Int) := by omega
              have hsb : rs.length ≤ 450 := HS0.out
              have hw1 : IntKind.i64.wrap ((q5 : Int) + 1) = (q5 : Int) + 1 := by rw [IntKind.wrap_i64]; omega
              obtain ⟨y, hy⟩ : ∃ y, rs[q5] = y := ⟨_, rfl⟩
              rw [hy] at i0 i1
              have HY := ShutRd.mk hy
              obtain ⟨yk, yv⟩ := y
              have hrc := rrow_ yk yv
              simp only at i0 i1
              clear em hy
              have hrowy : RightD next (obsOf xs) → (keyLB yk && bodyB yv) = true := fun k => by
                have h4 := (HRO.out k).row q5 hl5
                simp only [HY.out] at h4
                exact h4
              cases hv : (keyLB yk && bodyB yv)
              · rw [hv] at hrc hrowy
                have HRC := ShutRd.mk hrc
                have HNO := ShutRd.mk (show ¬ RightD next (obsOf xs) from fun k => by have h4 := hrowy k; cases h4)
                clear hrc hv hrowy
                go_wp2_with ((go_at_call 28; refine (HRC.out _).mono ?_; rintro e w9 ⟨rfl, hb9⟩; have HW9 := ShutRd.mk (HW5.out.step hb9); clear hb9))
                go_ret
                exact ⟨.no HNO.out, HW9.out.b⟩
              · rw [hv] at hrc
                have HRC := ShutRd.mk hrc
                have HV := ShutRd.mk (show (keyLB rs[q5].1 && bodyB rs[q5].2) = true by rw [HY.out]; exact hv)
                clear hrc hv hrowy
                go_wp2_with ((go_at_call 28; refine (HRC.out _).mono ?_; rintro e w9 ⟨rfl, hb9⟩; have HW9 := ShutRd.mk (HW5.out.step hb9); clear hb9))
                go_roundg (rs.length - (q5 + 1))
                case measure => have := HQ5.out; omega
                case rel => exact ⟨q5 + 1, by omega, congrArg (Value.int .i64) (by omega), next_all (P := (fun r : Rw => (keyLB r.1 && bodyB r.2) = true)) hl5 HA5.out HV.out, HW9.out⟩
            · have hqe : q5 = rs.length := by have := HQ5.out; omega
              have hqi : ¬ (q5 : Int) < (rn : Int) := by omega
              have HALL5 := ShutRd.mk (show ∀ t (h : t < rs.length), (fun r : Rw => (keyLB r.1 && bodyB r.2) = true) rs[t] from fun t h => HA5.out t h (by omega))
              clear hqe hln hl5
              go_wp2_with fail
              go_loopg [6] ms.length (fun k i wx => RdI w wo.heap.size #[.int .i64 next, .slice (some ⟨b, o, none⟩) n c] #[.string nm, .int .i64 kd, .int .i64 lm, .slice ra rn rc, .slice ma mn mc, .slice da dn dc] (fun m : Mg => totalD (obsOf xs) m.id = 1) ms k i wx)
              case atStart => exact ⟨0, by omega, rfl, fun t h k => absurd k (Nat.not_lt_zero t), HW5.out⟩
              case round =>
                obtain ⟨q6, hq6, rfl, hall6, hrr6⟩ := hrel
                have HQ6 := ShutRd.mk hq6
                have HA6 := ShutRd.mk hall6
                have HW6 := ShutRd.mk hrr6
                obtain ⟨d0, d1, e0, e1, e2, e3, e4, e5⟩ := hrr6.at_
                clear hq6 hall6 hrr6 e0 e1 e2
                have hln : mn = ms.length := (HLM.out _ HW6.out.b).len
                by_cases hl6 : q6 < ms.length
                · obtain ⟨mb, mo, em, hmb, i0, _⟩ := (HLM.out _ HW6.out.b).lst.atM hl6
                  have em2 : ma = some ⟨mb, mo, none⟩ := em
                  subst em2
                  have hqi : (q6 : Int) < (mn : Int) := by omega
                  have hsb : ms.length ≤ 450 := HS1.out
                  have hw1 : IntKind.i64.wrap ((q6 : Int) + 1) = (q6 : Int) + 1 := by rw [IntKind.wrap_i64]; omega
                  have HMB := ShutRd.mk hmb
                  obtain ⟨y, hy⟩ : ∃ y, ms[q6].id = y := ⟨_, rfl⟩
                  rw [hy] at i0
                  have HY := ShutRd.mk hy
                  have ht := HTC.out y
                  clear em hy hmb
                  generalize hz : totalD (obsOf xs) y = z at *
                  have HT := ShutRd.mk ht
                  clear ht
                  by_cases hz1 : z = 1
                  · subst hz1
                    have HV := ShutRd.mk (show totalD (obsOf xs) ms[q6].id = 1 by rw [HY.out]; exact hz)
                    clear hz
                    go_upto_region 19 with fail
                    have hS0 : ShutRd ((fun W : World => W.cell? ⟨w.heap.size, 0, none⟩ = some (.int .i64 next) ∧ W.cell? ⟨w.heap.size, 1, none⟩ = some (.slice (some ⟨b, o, none⟩) n c) ∧ W.cell? ⟨wo.heap.size, 4, none⟩ = some (.slice (some ⟨mb, mo, none⟩) mn mc) ∧ W.cell? ⟨mb, mo + q6 * 6, none⟩ = some (.int .i64 y)) wr.drew) := ⟨d0, d1, e4, i0⟩
                    clear d0 d1 e3 e4 e5 i0
                    go_region_held3 (fun W : World => W.cell? ⟨w.heap.size, 0, none⟩ = some (.int .i64 next) ∧ W.cell? ⟨w.heap.size, 1, none⟩ = some (.slice (some ⟨b, o, none⟩) n c) ∧ W.cell? ⟨wo.heap.size, 4, none⟩ = some (.slice (some ⟨mb, mo, none⟩) mn mc) ∧ W.cell? ⟨mb, mo + q6 * 6, none⟩ = some (.int .i64 y)) (first | with_reducible exact hS0.out | with_reducible exact hS1.out) ((go_at_call 29; refine (HT.out _ HW6.out.drew.b).mono ?_; rintro e w9 ⟨rfl, hb9⟩; have HW9 := ShutRd.mk (HW6.out.drew.step hb9); have hS1 : ShutRd ((fun W : World => W.cell? ⟨w.heap.size, 0, none⟩ = some (.int .i64 next) ∧ W.cell? ⟨w.heap.size, 1, none⟩ = some (.slice (some ⟨b, o, none⟩) n c) ∧ W.cell? ⟨wo.heap.size, 4, none⟩ = some (.slice (some ⟨mb, mo, none⟩) mn mc) ∧ W.cell? ⟨mb, mo + q6 * 6, none⟩ = some (.int .i64 y)) w9) := ⟨HW9.out.at_.1, HW9.out.at_.2.1, HW9.out.at_.2.2.2.2.2.2.1, (cell_of_heap (hb9.block mb HMB.out) _).trans hS0.out.2.2.2⟩; clear hb9))
                    go_wp2_with fail
                    go_roundg (ms.length - (q6 + 1))
                    case measure => have := HQ6.out; omega
                    case rel => exact ⟨q6 + 1, by omega, congrArg (Value.int .i64) (by omega), next_all (P := (fun m : Mg => totalD (obsOf xs) m.id = 1)) hl6 HA6.out HV.out, HW9.out⟩
                  · have HNO := ShutRd.mk (show ¬ RightD next (obsOf xs) from fun k => hz1 (by rw [← hz, ← HY.out]; exact (HRO.out k).onceM _ (List.getElem_mem hl6)))
                    have hg1 : decide (z = 1) = false := decide_eq_false hz1
                    have hg2 : decide ((z : Int) = 1) = false := decide_eq_false (by omega)
                    have hz2 : ¬ (z : Int) = 1 := by omega
                    clear hz
                    go_upto_region 19 with fail
                    have hS0 : ShutRd ((fun W : World => W.cell? ⟨w.heap.size, 0, none⟩ = some (.int .i64 next) ∧ W.cell? ⟨w.heap.size, 1, none⟩ = some (.slice (some ⟨b, o, none⟩) n c) ∧ W.cell? ⟨wo.heap.size, 4, none⟩ = some (.slice (some ⟨mb, mo, none⟩) mn mc) ∧ W.cell? ⟨mb, mo + q6 * 6, none⟩ = some (.int .i64 y)) wr.drew) := ⟨d0, d1, e4, i0⟩
                    clear d0 d1 e3 e4 e5 i0
                    go_region_held3 (fun W : World => W.cell? ⟨w.heap.size, 0, none⟩ = some (.int .i64 next) ∧ W.cell? ⟨w.heap.size, 1, none⟩ = some (.slice (some ⟨b, o, none⟩) n c) ∧ W.cell? ⟨wo.heap.size, 4, none⟩ = some (.slice (some ⟨mb, mo, none⟩) mn mc) ∧ W.cell? ⟨mb, mo + q6 * 6, none⟩ = some (.int .i64 y)) (first | with_reducible exact hS0.out | with_reducible exact hS1.out) ((go_at_call 29; refine (HT.out _ HW6.out.drew.b).mono ?_; rintro e w9 ⟨rfl, hb9⟩; have HW9 := ShutRd.mk (HW6.out.drew.step hb9); have hS1 : ShutRd ((fun W : World => W.cell? ⟨w.heap.size, 0, none⟩ = some (.int .i64 next) ∧ W.cell? ⟨w.heap.size, 1, none⟩ = some (.slice (some ⟨b, o, none⟩) n c) ∧ W.cell? ⟨wo.heap.size, 4, none⟩ = some (.slice (some ⟨mb, mo, none⟩) mn mc) ∧ W.cell? ⟨mb, mo + q6 * 6, none⟩ = some (.int .i64 y)) w9) := ⟨HW9.out.at_.1, HW9.out.at_.2.1, HW9.out.at_.2.2.2.2.2.2.1, (cell_of_heap (hb9.block mb HMB.out) _).trans hS0.out.2.2.2⟩; clear hb9))
                    go_wp2_with fail
                    go_ret
                    exact ⟨.no HNO.out, HW9.out.b⟩
                · have hqe : q6 = ms.length := by have := HQ6.out; omega
                  have hqi : ¬ (q6 : Int) < (mn : Int) := by omega
                  have HALL6 := ShutRd.mk (show ∀ t (h : t < ms.length), (fun m : Mg => totalD (obsOf xs) m.id = 1) ms[t] from fun t h => HA6.out t h (by omega))
                  clear hqe hln hl6
                  go_wp2_with fail
                  go_loopg [7] ds.length (fun k i wx => RdI w wo.heap.size #[.int .i64 next, .slice (some ⟨b, o, none⟩) n c] #[.string nm, .int .i64 kd, .int .i64 lm, .slice ra rn rc, .slice ma mn mc, .slice da dn dc] (fun m : Mg => totalD (obsOf xs) m.id = 1) ds k i wx)
                  case atStart => exact ⟨0, by omega, rfl, fun t h k => absurd k (Nat.not_lt_zero t), HW6.out⟩
                  case round =>
                    obtain ⟨q7, hq7, rfl, hall7, hrr7⟩ := hrel
                    have HQ7 := ShutRd.mk hq7
                    have HA7 := ShutRd.mk hall7
                    have HW7 := ShutRd.mk hrr7
                    obtain ⟨d0, d1, e0, e1, e2, e3, e4, e5⟩ := hrr7.at_
                    clear hq7 hall7 hrr7 e0 e1 e2
                    have hln : dn = ds.length := (HLD.out _ HW7.out.b).len
                    by_cases hl7 : q7 < ds.length
                    · obtain ⟨mb, mo, em, hmb, i0, _⟩ := (HLD.out _ HW7.out.b).lst.atM hl7
                      have em2 : da = some ⟨mb, mo, none⟩ := em
                      subst em2
                      have hqi : (q7 : Int) < (dn : Int) := by omega
                      have hsb : ds.length ≤ 450 := HS2.out
                      have hw1 : IntKind.i64.wrap ((q7 : Int) + 1) = (q7 : Int) + 1 := by rw [IntKind.wrap_i64]; omega
                      have HMB := ShutRd.mk hmb
                      obtain ⟨y, hy⟩ : ∃ y, ds[q7].id = y := ⟨_, rfl⟩
                      rw [hy] at i0
                      have HY := ShutRd.mk hy
                      have ht := HTC.out y
                      clear em hy hmb
                      generalize hz : totalD (obsOf xs) y = z at *
                      have HT := ShutRd.mk ht
                      clear ht
                      by_cases hz1 : z = 1
                      · subst hz1
                        have HV := ShutRd.mk (show totalD (obsOf xs) ds[q7].id = 1 by rw [HY.out]; exact hz)
                        clear hz
                        go_upto_region 24 with fail
                        have hS0 : ShutRd ((fun W : World => W.cell? ⟨w.heap.size, 0, none⟩ = some (.int .i64 next) ∧ W.cell? ⟨w.heap.size, 1, none⟩ = some (.slice (some ⟨b, o, none⟩) n c) ∧ W.cell? ⟨wo.heap.size, 5, none⟩ = some (.slice (some ⟨mb, mo, none⟩) dn dc) ∧ W.cell? ⟨mb, mo + q7 * 6, none⟩ = some (.int .i64 y)) wr.drew) := ⟨d0, d1, e5, i0⟩
                        clear d0 d1 e3 e4 e5 i0
                        go_region_held3 (fun W : World => W.cell? ⟨w.heap.size, 0, none⟩ = some (.int .i64 next) ∧ W.cell? ⟨w.heap.size, 1, none⟩ = some (.slice (some ⟨b, o, none⟩) n c) ∧ W.cell? ⟨wo.heap.size, 5, none⟩ = some (.slice (some ⟨mb, mo, none⟩) dn dc) ∧ W.cell? ⟨mb, mo + q7 * 6, none⟩ = some (.int .i64 y)) (first | with_reducible exact hS0.out | with_reducible exact hS1.out) ((go_at_call 29; refine (HT.out _ HW7.out.drew.b).mono ?_; rintro e w9 ⟨rfl, hb9⟩; have HW9 := ShutRd.mk (HW7.out.drew.step hb9); have hS1 : ShutRd ((fun W : World => W.cell? ⟨w.heap.size, 0, none⟩ = some (.int .i64 next) ∧ W.cell? ⟨w.heap.size, 1, none⟩ = some (.slice (some ⟨b, o, none⟩) n c) ∧ W.cell? ⟨wo.heap.size, 5, none⟩ = some (.slice (some ⟨mb, mo, none⟩) dn dc) ∧ W.cell? ⟨mb, mo + q7 * 6, none⟩ = some (.int .i64 y)) w9) := ⟨HW9.out.at_.1, HW9.out.at_.2.1, HW9.out.at_.2.2.2.2.2.2.2, (cell_of_heap (hb9.block mb HMB.out) _).trans hS0.out.2.2.2⟩; clear hb9))
                        go_wp2_with fail
                        go_roundg (ds.length - (q7 + 1))
                        case measure => have := HQ7.out; omega
                        case rel => exact ⟨q7 + 1, by omega, congrArg (Value.int .i64) (by omega), next_all (P := (fun m : Mg => totalD (obsOf xs) m.id = 1)) hl7 HA7.out HV.out, HW9.out⟩
                      · have HNO := ShutRd.mk (show ¬ RightD next (obsOf xs) from fun k => hz1 (by rw [← hz, ← HY.out]; exact (HRO.out k).onceD _ (List.getElem_mem hl7)))
                        have hg1 : decide (z = 1) = false := decide_eq_false hz1
                        have hg2 : decide ((z : Int) = 1) = false := decide_eq_false (by omega)
                        have hz2 : ¬ (z : Int) = 1 := by omega
                        clear hz
                        go_upto_region 24 with fail
                        have hS0 : ShutRd ((fun W : World => W.cell? ⟨w.heap.size, 0, none⟩ = some (.int .i64 next) ∧ W.cell? ⟨w.heap.size, 1, none⟩ = some (.slice (some ⟨b, o, none⟩) n c) ∧ W.cell? ⟨wo.heap.size, 5, none⟩ = some (.slice (some ⟨mb, mo, none⟩) dn dc) ∧ W.cell? ⟨mb, mo + q7 * 6, none⟩ = some (.int .i64 y)) wr.drew) := ⟨d0, d1, e5, i0⟩
                        clear d0 d1 e3 e4 e5 i0
                        go_region_held3 (fun W : World => W.cell? ⟨w.heap.size, 0, none⟩ = some (.int .i64 next) ∧ W.cell? ⟨w.heap.size, 1, none⟩ = some (.slice (some ⟨b, o, none⟩) n c) ∧ W.cell? ⟨wo.heap.size, 5, none⟩ = some (.slice (some ⟨mb, mo, none⟩) dn dc) ∧ W.cell? ⟨mb, mo + q7 * 6, none⟩ = some (.int .i64 y)) (first | with_reducible exact hS0.out | with_reducible exact hS1.out) ((go_at_call 29; refine (HT.out _ HW7.out.drew.b).mono ?_; rintro e w9 ⟨rfl, hb9⟩; have HW9 := ShutRd.mk (HW7.out.drew.step hb9); have hS1 : ShutRd ((fun W : World => W.cell? ⟨w.heap.size, 0, none⟩ = some (.int .i64 next) ∧ W.cell? ⟨w.heap.size, 1, none⟩ = some (.slice (some ⟨b, o, none⟩) n c) ∧ W.cell? ⟨wo.heap.size, 5, none⟩ = some (.slice (some ⟨mb, mo, none⟩) dn dc) ∧ W.cell? ⟨mb, mo + q7 * 6, none⟩ = some (.int .i64 y)) w9) := ⟨HW9.out.at_.1, HW9.out.at_.2.1, HW9.out.at_.2.2.2.2.2.2.2, (cell_of_heap (hb9.block mb HMB.out) _).trans hS0.out.2.2.2⟩; clear hb9))
                        go_wp2_with fail
                        go_ret
                        exact ⟨.no HNO.out, HW9.out.b⟩
                    · have hqe : q7 = ds.length := by have := HQ7.out; omega
                      have hqi : ¬ (q7 : Int) < (dn : Int) := by omega
                      have HALL7 := ShutRd.mk (show ∀ t (h : t < ds.length), (fun m : Mg => totalD (obsOf xs) m.id = 1) ds[t] from fun t h => HA7.out t h (by omega))
                      clear hqe hln hl7
                      go_wp2_with fail
                      go_roundg (n - (j + 1))
                      case measure => have := HJ.out; have := HOL.out; omega
                      case rel => exact ⟨j + 1, by have := HJ.out; have := HOL.out; omega, congrArg (Value.int .i64) (by omega), HOKN.out HGD.out HALL5.out HALL6.out HALL7.out, HON.out, HW7.out.b, HW7.out.s⟩
    · have he : j = (obsOf xs).length := by have := HJ.out; have := HOL.out; omega
      have hjn : ¬ (j : Int) < (n : Int) := by omega
      have hfin : RightD next (obsOf xs) := ⟨by omega, by omega, by have := HOL.out; omega, fun q h => HOKS.out q h (by omega), fun q h => HNM.out q h (by omega)⟩
      have HF := ShutRd.mk hfin
      clear hfin he
      go_wp2_with fail
      go_ret
      exact ⟨⟨true, rfl, fun _ => HF.out, fun _ => rfl⟩, HB.out⟩
end Go.Proofs.Ytpggnklbgkdjcaa
