/- . . -/
import Derived.Test.YtjfoflbaoceemaaGreatJ28
import Derived.Test.YtjfoflbaoceemaaGreatJ29
import Derived.Test.YtjfoflbaoceemaaGreatJ30
import Derived.Test.YtjfoflbaoceemaaGreatJ19
import Derived.Deep.RegionHeld3
import Derived.Deep.RegionWith
import Derived.StillTailTactics
import Derived.BigQuiet
set_option maxRecDepth 4000
namespace Go.Proofs.YtjfoflbaoceemaaGreat
open Go.RowKit
section
variable {B b g : Nat} {next : Int} {s : Sv} {xs : List Oc} {W : World} {q : Nat}
theorem Did.pre {w w1 w2 : World} {p : Int × Ob} {e : Ending} (k : Below B w w1) (h : Did B b next s xs q w1 p e w2) : Did B b next s xs q w p e w2 := by
  obtain ⟨xs', h1, h2, h3, h4⟩ := h
  exact ⟨xs', h1, h2, k.trans h3, h4⟩
set_option maxHeartbeats 2000000 in
theorem within_put (h : OwnSt B b next s xs W) (hq : q < xs.length) (e : s.a = some ⟨g, 0, none⟩) (hs : ∀ x ∈ xs, x.o.short 100000) (o ky v : ByteArray) (n l : Int) (t : Bool) (m : Mg) :
    Calls Tryz.prog 150 #[.pointer (some ⟨b, 0, none⟩), .pointer (some ⟨g, q * 6, none⟩), (Ef.mk 2 o ky v n l t m).val_] W (Did B b next s xs q W (withinO next (obsOf xs) xs[q].o ⟨2, o, ky, v, n, l, t, m⟩)) := by
  have hw : withinO next (obsOf xs) xs[q].o ⟨2, o, ky, v, n, l, t, m⟩ = (0, { xs[q].o with rows := putR xs[q].o.rows (ky, v) }) := by rw [withinO, if_pos rfl]
  rw [hw]
  clear hw
  have hsq := hs _ (List.getElem_mem hq)
  obtain ⟨K, hK⟩ := h.one hq
  obtain ⟨m0, m1, m2, m3, m4, m5⟩ := m
  have hk0 := alloc_below W (.cells (Ef.cells ⟨2, o, ky, v, n, l, t, ⟨m0, m1, m2, m3, m4, m5⟩⟩) 46)
  have hc := fun W' (kb : Below W.heap.size W W') => putrow_ (hK.below kb).rows hsq.1 ky v
  obtain ⟨hBg, _, hglt, _⟩ := h.froz (by omega) e
  have hcl := fun W' (kb : Below W.heap.size W W') => (h.below kb).cells hq e
  have hfr := fun W' (kb : Below W.heap.size W W') => (h.below kb).froz (by omega) e
  have hset := fun W' (kb : Below W.heap.size W W') (t : Sv) (ht : SlK W' (fun i => W.heap.size ≤ i) eR t (putR xs[q].o.rows (ky, v))) => Did.set_ (h.putRows kb hq e ht) ((kb.mono h.size).trans (put_below W' hBg (q * 6 + 3) (.slice t.a t.n t.c)))
  obtain ⟨_, _, _, d3, _, _⟩ := h.cells hq e
  have HBD := ShutW.mk hk0.drew
  have HC1 := ShutW.mk (hc _ hk0.drew)
  have HT := ShutW.mk hset
  have HCL := ShutW.mk hcl
  have HFR := ShutW.mk hfr
  generalize xs[q].r.a = A at *
  generalize xs[q].r.n = rn at *
  generalize xs[q].r.c = rc at *
  clear hc hset hcl hfr hK hs hBg h hsq hk0
  simp only [Ef.cells] at HC1 HBD
  go_enter Tryz.func150, Tryz.ntmps150
  go_wp2_with fail
  go_region_with (go_at_call 201; refine HC1.out.mono ?_; rintro e2 w2 ⟨⟨A1, n1, c1⟩, rfl, ht, hb2⟩; have HB2 := ShutW.mk (HBD.out.trans (hb2.mono HBD.out.size)); have HTT := ShutW.mk (ht.more (K' := fun i => W.heap.size ≤ i) fun i _ hi => Nat.le_trans HBD.out.size hi); obtain ⟨_, _, _, j3, _, _⟩ := HCL.out _ HB2.out; obtain ⟨_, _, hlt2, fz⟩ := HFR.out _ HB2.out; have fz3 := fz (q * 6 + 3); clear fz hb2 ht)
  all_goals
    go_wp2_with fail
    go_ret
    exact HT.out _ HB2.out _ HTT.out
set_option maxHeartbeats 2000000 in
theorem within_del (h : OwnSt B b next s xs W) (hq : q < xs.length) (e : s.a = some ⟨g, 0, none⟩) (hs : ∀ x ∈ xs, x.o.short 100000) (o ky v : ByteArray) (n l : Int) (t : Bool) (m : Mg) :
    Calls Tryz.prog 150 #[.pointer (some ⟨b, 0, none⟩), .pointer (some ⟨g, q * 6, none⟩), (Ef.mk 3 o ky v n l t m).val_] W (Did B b next s xs q W (withinO next (obsOf xs) xs[q].o ⟨3, o, ky, v, n, l, t, m⟩)) := by
  have hw : withinO next (obsOf xs) xs[q].o ⟨3, o, ky, v, n, l, t, m⟩ = (if foundR xs[q].o.rows ky = true then (0, { xs[q].o with rows := cutRw xs[q].o.rows ky }) else (7, xs[q].o)) := by rw [withinO, if_neg (by show ¬ ((3 : Int)) = 2; decide), if_pos rfl]
  rw [hw]
  clear hw
  have hsq := hs _ (List.getElem_mem hq)
  have hk0 := alloc_below W (.cells (Ef.cells ⟨3, o, ky, v, n, l, t, m⟩) 46)
  have hc := cut_row_o (h.below hk0) hq e hsq ky
  generalize ((if foundR xs[q].o.rows ky = true then (0, { xs[q].o with rows := cutRw xs[q].o.rows ky }) else (7, xs[q].o)) : Int × Ob) = P at *
  obtain ⟨z, o'⟩ := P
  have HC := ShutW.mk hc
  clear hs hsq hc
  obtain ⟨m0, m1, m2, m3, m4, m5⟩ := m
  have HP := ShutW.mk (hk0.mono h.size)
  go_enter Tryz.func150, Tryz.ntmps150
  go_wp2_with fail
  refine HC.out.mono ?_
  rintro e1 w1 hd
  have HD := ShutW.mk (hd.pre HP.out)
  obtain ⟨_, rfl, _⟩ := hd
  go_wp2_with fail
  go_ret
  exact HD.out
set_option maxHeartbeats 2000000 in
theorem within_add (h : OwnSt B b next s xs W) (hq : q < xs.length) (e : s.a = some ⟨g, 0, none⟩) (hx : xs.length ≤ 1000000) (hs : ∀ x ∈ xs, x.o.short 100000) (o ky v : ByteArray) (n l : Int) (t : Bool) (m : Mg) :
    Calls Tryz.prog 150 #[.pointer (some ⟨b, 0, none⟩), .pointer (some ⟨g, q * 6, none⟩), (Ef.mk 4 o ky v n l t m).val_] W (Did B b next s xs q W (withinO next (obsOf xs) xs[q].o ⟨4, o, ky, v, n, l, t, m⟩)) := by
  have hw : withinO next (obsOf xs) xs[q].o ⟨4, o, ky, v, n, l, t, m⟩ = (if next ≤ m.id ∨ m.claimed = true then (1, xs[q].o) else if hasS (obsOf xs) m.id = true then (4, xs[q].o) else (0, { xs[q].o with msgs := addM xs[q].o.msgs m })) := by rw [withinO, if_neg (by show ¬ ((4 : Int)) = 2; decide), if_neg (by show ¬ ((4 : Int)) = 3; decide), if_pos rfl]
  rw [hw]
  clear hw
  have hsq := hs _ (List.getElem_mem hq)
  have hk0 := alloc_below W (.cells (Ef.cells ⟨4, o, ky, v, n, l, t, m⟩) 46)
  have hc := add_msg_o (h.below hk0) hq e hx hs m
  generalize ((if next ≤ m.id ∨ m.claimed = true then (1, xs[q].o) else if hasS (obsOf xs) m.id = true then (4, xs[q].o) else (0, { xs[q].o with msgs := addM xs[q].o.msgs m })) : Int × Ob) = P at *
  obtain ⟨z, o'⟩ := P
  have HC := ShutW.mk hc
  clear hs hsq hc
  obtain ⟨m0, m1, m2, m3, m4, m5⟩ := m
  have HP := ShutW.mk (hk0.mono h.size)
  go_enter Tryz.func150, Tryz.ntmps150
  go_wp2_with fail
  refine HC.out.mono ?_
  rintro e1 w1 hd
  have HD := ShutW.mk (hd.pre HP.out)
  obtain ⟨_, rfl, _⟩ := hd
  go_wp2_with fail
  go_ret
  exact HD.out
set_option maxHeartbeats 2000000 in
theorem within_take (h : OwnSt B b next s xs W) (hq : q < xs.length) (e : s.a = some ⟨g, 0, none⟩) (hs : ∀ x ∈ xs, x.o.short 100000) (o ky v : ByteArray) (n l : Int) (t : Bool) (m : Mg) :
    Calls Tryz.prog 150 #[.pointer (some ⟨b, 0, none⟩), .pointer (some ⟨g, q * 6, none⟩), (Ef.mk 5 o ky v n l t m).val_] W (Did B b next s xs q W (withinO next (obsOf xs) xs[q].o ⟨5, o, ky, v, n, l, t, m⟩)) := by
  have hw : withinO next (obsOf xs) xs[q].o ⟨5, o, ky, v, n, l, t, m⟩ = (if hasM xs[q].o.msgs n = true then (0, { xs[q].o with msgs := cutM xs[q].o.msgs n }) else (7, xs[q].o)) := by rw [withinO, if_neg (by show ¬ ((5 : Int)) = 2; decide), if_neg (by show ¬ ((5 : Int)) = 3; decide), if_neg (by show ¬ ((5 : Int)) = 4; decide), if_pos rfl]
  rw [hw]
  clear hw
  have hsq := hs _ (List.getElem_mem hq)
  have hk0 := alloc_below W (.cells (Ef.cells ⟨5, o, ky, v, n, l, t, m⟩) 46)
  have hc := take_msg_o (h.below hk0) hq e hsq n
  generalize ((if hasM xs[q].o.msgs n = true then (0, { xs[q].o with msgs := cutM xs[q].o.msgs n }) else (7, xs[q].o)) : Int × Ob) = P at *
  obtain ⟨z, o'⟩ := P
  have HC := ShutW.mk hc
  clear hs hsq hc
  obtain ⟨m0, m1, m2, m3, m4, m5⟩ := m
  have HP := ShutW.mk (hk0.mono h.size)
  go_enter Tryz.func150, Tryz.ntmps150
  go_wp2_with fail
  refine HC.out.mono ?_
  rintro e1 w1 hd
  have HD := ShutW.mk (hd.pre HP.out)
  obtain ⟨_, rfl, _⟩ := hd
  go_wp2_with fail
  go_ret
  exact HD.out
set_option maxHeartbeats 2000000 in
theorem within_claim (h : OwnSt B b next s xs W) (hq : q < xs.length) (e : s.a = some ⟨g, 0, none⟩) (hs : ∀ x ∈ xs, x.o.short 100000) (o ky v : ByteArray) (n l : Int) (t : Bool) (m : Mg) :
    Calls Tryz.prog 150 #[.pointer (some ⟨b, 0, none⟩), .pointer (some ⟨g, q * 6, none⟩), (Ef.mk 6 o ky v n l t m).val_] W (Did B b next s xs q W (withinO next (obsOf xs) xs[q].o ⟨6, o, ky, v, n, l, t, m⟩)) := by
  have hw : withinO next (obsOf xs) xs[q].o ⟨6, o, ky, v, n, l, t, m⟩ = (if hasM xs[q].o.msgs n = true then (if canM xs[q].o.msgs n true = true then (0, { xs[q].o with msgs := claimM xs[q].o.msgs n true }) else (2, xs[q].o)) else (7, xs[q].o)) := by rw [withinO, if_neg (by show ¬ ((6 : Int)) = 2; decide), if_neg (by show ¬ ((6 : Int)) = 3; decide), if_neg (by show ¬ ((6 : Int)) = 4; decide), if_neg (by show ¬ ((6 : Int)) = 5; decide), if_pos rfl]
  rw [hw]
  clear hw
  have hsq := hs _ (List.getElem_mem hq)
  have hk0 := alloc_below W (.cells (Ef.cells ⟨6, o, ky, v, n, l, t, m⟩) 46)
  have hc := claim_msg_o (h.below hk0) hq e hsq n
  generalize ((if hasM xs[q].o.msgs n = true then (if canM xs[q].o.msgs n true = true then (0, { xs[q].o with msgs := claimM xs[q].o.msgs n true }) else (2, xs[q].o)) else (7, xs[q].o)) : Int × Ob) = P at *
  obtain ⟨z, o'⟩ := P
  have HC := ShutW.mk hc
  clear hs hsq hc
  obtain ⟨m0, m1, m2, m3, m4, m5⟩ := m
  have HP := ShutW.mk (hk0.mono h.size)
  go_enter Tryz.func150, Tryz.ntmps150
  go_wp2_with fail
  refine HC.out.mono ?_
  rintro e1 w1 hd
  have HD := ShutW.mk (hd.pre HP.out)
  obtain ⟨_, rfl, _⟩ := hd
  go_wp2_with fail
  go_ret
  exact HD.out
set_option maxHeartbeats 2000000 in
theorem within_free (h : OwnSt B b next s xs W) (hq : q < xs.length) (e : s.a = some ⟨g, 0, none⟩) (hft : xs[q].o.fits) (hs : ∀ x ∈ xs, x.o.short 100000) (o ky v : ByteArray) (n l : Int) (t : Bool) (m : Mg) :
    Calls Tryz.prog 150 #[.pointer (some ⟨b, 0, none⟩), .pointer (some ⟨g, q * 6, none⟩), (Ef.mk 7 o ky v n l t m).val_] W (Did B b next s xs q W (withinO next (obsOf xs) xs[q].o ⟨7, o, ky, v, n, l, t, m⟩)) := by
  have hw : withinO next (obsOf xs) xs[q].o ⟨7, o, ky, v, n, l, t, m⟩ = (if freeOk xs[q].o n = true then (0, freeO xs[q].o n t) else (7, xs[q].o)) := by rw [withinO, if_neg (by show ¬ ((7 : Int)) = 2; decide), if_neg (by show ¬ ((7 : Int)) = 3; decide), if_neg (by show ¬ ((7 : Int)) = 4; decide), if_neg (by show ¬ ((7 : Int)) = 5; decide), if_neg (by show ¬ ((7 : Int)) = 6; decide), if_pos rfl]
  rw [hw]
  clear hw
  have hsq := hs _ (List.getElem_mem hq)
  have hk0 := alloc_below W (.cells (Ef.cells ⟨7, o, ky, v, n, l, t, m⟩) 46)
  have hc := free_msg_o (h.below hk0) hq e hsq hft n t
  generalize ((if freeOk xs[q].o n = true then (0, freeO xs[q].o n t) else (7, xs[q].o)) : Int × Ob) = P at *
  obtain ⟨z, o'⟩ := P
  have HC := ShutW.mk hc
  clear hs hsq hc
  obtain ⟨m0, m1, m2, m3, m4, m5⟩ := m
  have HP := ShutW.mk (hk0.mono h.size)
  go_enter Tryz.func150, Tryz.ntmps150
  go_wp2_with fail
  refine HC.out.mono ?_
  rintro e1 w1 hd
  have HD := ShutW.mk (hd.pre HP.out)
  obtain ⟨_, rfl, _⟩ := hd
  go_wp2_with fail
  go_ret
  exact HD.out
set_option maxHeartbeats 1000000 in
theorem within_else (h : OwnSt B b next s xs W) (hq : q < xs.length) (k : Int) (h2 : k ≠ 2) (h3 : k ≠ 3) (h4 : k ≠ 4) (h5 : k ≠ 5) (h6 : k ≠ 6) (h7 : k ≠ 7) (o ky v : ByteArray) (n l : Int) (t : Bool) (m : Mg) (pt : Value) :
    Calls Tryz.prog 150 #[.pointer (some ⟨b, 0, none⟩), pt, (Ef.mk k o ky v n l t m).val_] W (Did B b next s xs q W (withinO next (obsOf xs) xs[q].o ⟨k, o, ky, v, n, l, t, m⟩)) := by
  have hw : withinO next (obsOf xs) xs[q].o ⟨k, o, ky, v, n, l, t, m⟩ = (0, xs[q].o) := by rw [withinO, if_neg h2, if_neg h3, if_neg h4, if_neg h5, if_neg h6, if_neg h7]
  rw [hw]
  clear hw
  obtain ⟨m0, m1, m2, m3, m4, m5⟩ := m
  have hk0 := alloc_below W (.cells (Ef.cells ⟨k, o, ky, v, n, l, t, ⟨m0, m1, m2, m3, m4, m5⟩⟩) 46)
  have HS := ShutW.mk (Did.same (n := 0) (h.below hk0) (hk0.mono h.size) hq)
  have b2 : (k == 2) = false := by simpa using h2
  have b3 : (k == 3) = false := by simpa using h3
  have b4 : (k == 4) = false := by simpa using h4
  have b5 : (k == 5) = false := by simpa using h5
  have b6 : (k == 6) = false := by simpa using h6
  have b7 : (k == 7) = false := by simpa using h7
  clear h hk0
  go_enter Tryz.func150, Tryz.ntmps150
  go_wp2_with fail
  go_ret
  exact HS.out
theorem do_within (h : OwnSt B b next s xs W) (hq : q < xs.length) (e : s.a = some ⟨g, 0, none⟩) (hx : xs.length ≤ 1000000) (hs : ∀ x ∈ xs, x.o.short 100000) (hft : xs[q].o.fits) (f : Ef) :
    Calls Tryz.prog 150 #[.pointer (some ⟨b, 0, none⟩), .pointer (some ⟨g, q * 6, none⟩), f.val_] W (Did B b next s xs q W (withinO next (obsOf xs) xs[q].o f)) := by
  obtain ⟨k, o, ky, v, n, l, t, m⟩ := f
  by_cases h2 : k = 2
  · subst h2; exact within_put h hq e hs o ky v n l t m
  by_cases h3 : k = 3
  · subst h3; exact within_del h hq e hs o ky v n l t m
  by_cases h4 : k = 4
  · subst h4; exact within_add h hq e hx hs o ky v n l t m
  by_cases h5 : k = 5
  · subst h5; exact within_take h hq e hs o ky v n l t m
  by_cases h6 : k = 6
  · subst h6; exact within_claim h hq e hs o ky v n l t m
  by_cases h7 : k = 7
  · subst h7; exact within_free h hq e hft hs o ky v n l t m
  exact within_else h hq k h2 h3 h4 h5 h6 h7 o ky v n l t m _
end
end Go.Proofs.YtjfoflbaoceemaaGreat
namespace Go.Proofs.YtjfoflbaoceemaaGreat
open Go.RowKit
section
variable {B b g : Nat} {next : Int} {s : Sv} {xs : List Oc} {W : World} {q : Nat}
theorem Done.pre {w w1 w2 : World} {p : Int × St} {e : Ending} (k : Below B w w1) (h : Done B b w1 p e w2) : Done B b w p e w2 := by
  obtain ⟨s', xs', h1, h2, h3, h4⟩ := h
  exact ⟨s', xs', h1, h2, k.trans h3, h4⟩
theorem Done.same {w w' : World} {n : Int} (h : OwnSt B b next s xs w') (hb : Below B w w') : Done B b w (n, ⟨next, obsOf xs⟩) (.returned (.int .i64 n)) w' := ⟨s, xs, rfl, h, hb, rfl⟩
theorem Did.done {w w' : World} {p : Int × Ob} {e : Ending} (h : Did B b next s xs q w p e w') : Done B b w (p.1, ⟨next, (obsOf xs).set q p.2⟩) e w' := by
  obtain ⟨xs', h1, h2, h3, h4⟩ := h
  exact ⟨s, xs', h1, h2, h3, h4⟩
set_option maxHeartbeats 2000000 in
theorem do_wrong (h : OwnSt B b next s xs W) (f : Ef) (hf : f.right = false) :
    Calls Tryz.prog 93 #[.pointer (some ⟨b, 0, none⟩), f.val_] W (Done B b W (1, ⟨next, obsOf xs⟩)) := by
  have hM0 := MkS.first h f
  have hBW := h.size
  have hr := rightE_ f
  rw [hf] at hr
  clear hf h
  obtain ⟨k, o, ky, v, en, l, t, ⟨m0, m1, m2, m3, m4, m5⟩⟩ := f
  have HM0 := ShutW.mk hM0
  have HR := ShutW.mk hr
  clear hM0 hr
  go_enter Tryz.func93, Tryz.ntmps93
  go_wp2_with fail
  refine (HR.out _).mono ?_
  rintro e1 w1 ⟨rfl, hb1⟩
  have H1 := ShutW.mk (HM0.out.step hb1)
  obtain ⟨c0, c1, c2, c3, c4, c5, c6, c7, c8, c9, c10, c11, c12⟩ := thir_of H1.out.box
  clear hb1
  go_wp2_with fail
  go_ret
  exact Done.same H1.out.st (H1.out.bel.mono hBW)
set_option maxHeartbeats 2000000 in
theorem do_make (h : OwnSt B b next s xs W) (f : Ef) (hf : f.right = true) (hx : xs.length ≤ 1000) (hk : f.kind = 1) :
    Calls Tryz.prog 93 #[.pointer (some ⟨b, 0, none⟩), f.val_] W (Done B b W ((makeO (obsOf xs) f).1, ⟨next, (makeO (obsOf xs) f).2⟩)) := by
  have hM0 := MkS.first h f
  have hBW := h.size
  have hr := rightE_ f
  rw [hf] at hr
  have hc := fun W1 (hm : MkS B b next s xs f W W1) => add_object_o hm.st hx f
  generalize makeO (obsOf xs) f = P at *
  obtain ⟨z, l2⟩ := P
  have HC := ShutW.mk hc
  clear hf h hc
  obtain ⟨k, o, ky, v, en, l, t, ⟨m0, m1, m2, m3, m4, m5⟩⟩ := f
  have HM0 := ShutW.mk hM0
  have HR := ShutW.mk hr
  clear hM0 hr
  simp only at hk
  subst hk
  go_enter Tryz.func93, Tryz.ntmps93
  go_wp2_with fail
  refine (HR.out _).mono ?_
  rintro e1 w1 ⟨rfl, hb1⟩
  have H1 := ShutW.mk (HM0.out.step hb1)
  obtain ⟨c0, c1, c2, c3, c4, c5, c6, c7, c8, c9, c10, c11, c12⟩ := thir_of H1.out.box
  clear hb1
  have HC1 := ShutW.mk (HC.out w1 H1.out)
  have HPB := ShutW.mk (H1.out.bel.mono hBW)
  simp only [Ef.val_, Ef.cells] at HC1
  clear H1 HC HR
  go_wp2_with fail
  refine HC1.out.mono ?_
  rintro e2 w2 hd
  have HD := ShutW.mk (hd.pre HPB.out)
  obtain ⟨_, _, rfl, _⟩ := hd
  go_wp2_with fail
  go_ret
  exact HD.out
set_option maxHeartbeats 2000000 in
theorem do_next (h : OwnSt B b next s xs W) (f : Ef) (hf : f.right = true) (hk : f.kind = 8) :
    Calls Tryz.prog 93 #[.pointer (some ⟨b, 0, none⟩), f.val_] W (Done B b W (if f.n < next then (1, ⟨next, obsOf xs⟩) else (0, ⟨f.n, obsOf xs⟩))) := by
  have hM0 := MkS.first h f
  have hBW := h.size
  have hr := rightE_ f
  rw [hf] at hr
  have hc := fun W1 (hm : MkS B b next s xs f W W1) => set_next_o hm.st f.n
  generalize ((if f.n < next then (1, ⟨next, obsOf xs⟩) else (0, ⟨f.n, obsOf xs⟩)) : Int × St) = P at *
  obtain ⟨z, s2⟩ := P
  have HC := ShutW.mk hc
  clear hf h hc
  obtain ⟨k, o, ky, v, en, l, t, ⟨m0, m1, m2, m3, m4, m5⟩⟩ := f
  have HM0 := ShutW.mk hM0
  have HR := ShutW.mk hr
  clear hM0 hr
  simp only at hk
  subst hk
  go_enter Tryz.func93, Tryz.ntmps93
  go_wp2_with fail
  refine (HR.out _).mono ?_
  rintro e1 w1 ⟨rfl, hb1⟩
  have H1 := ShutW.mk (HM0.out.step hb1)
  obtain ⟨c0, c1, c2, c3, c4, c5, c6, c7, c8, c9, c10, c11, c12⟩ := thir_of H1.out.box
  clear hb1
  have HC1 := ShutW.mk (HC.out w1 H1.out)
  have HPB := ShutW.mk (H1.out.bel.mono hBW)
  clear H1 HC HR
  go_wp2_with fail
  refine HC1.out.mono ?_
  rintro e2 w2 hd
  have HD := ShutW.mk (hd.pre HPB.out)
  obtain ⟨_, _, rfl, _⟩ := hd
  go_wp2_with fail
  go_ret
  exact HD.out
set_option maxHeartbeats 2000000 in
theorem do_none (h : OwnSt B b next s xs W) (f : Ef) (hf : f.right = true) (hx : xs.length ≤ 1000) (hk1 : f.kind ≠ 1) (hk8 : f.kind ≠ 8) (hz : idxI (isN f.obj) (obsOf xs) = -1) :
    Calls Tryz.prog 93 #[.pointer (some ⟨b, 0, none⟩), f.val_] W (Done B b W (3, ⟨next, obsOf xs⟩)) := by
  have hM0 := MkS.first h f
  have hBW := h.size
  have hr := rightE_ f
  rw [hf] at hr
  have hn := h.cap.1
  obtain ⟨A, n, c⟩ := s
  have hc := fun W1 (hm : MkS B b next ⟨A, n, c⟩ xs f W W1) => find_o (A := A) (c := c) hm.st.row hn.symm (by have : n = xs.length := hn; omega) next f.obj
  rw [hz] at hc
  have HC := ShutW.mk hc
  clear hf h hc hn hx hz
  obtain ⟨k, o, ky, v, en, l, t, ⟨m0, m1, m2, m3, m4, m5⟩⟩ := f
  have HM0 := ShutW.mk hM0
  have HR := ShutW.mk hr
  clear hM0 hr
  go_enter Tryz.func93, Tryz.ntmps93
  go_wp2_with fail
  refine (HR.out _).mono ?_
  rintro e1 w1 ⟨rfl, hb1⟩
  have H1 := ShutW.mk (HM0.out.step hb1)
  obtain ⟨c0, c1, c2, c3, c4, c5, c6, c7, c8, c9, c10, c11, c12⟩ := thir_of H1.out.box
  clear hb1
  have b1 : (k == 1) = false := by simpa using hk1
  have b8 : (k == 8) = false := by simpa using hk8
  have hS0 := H1.out.drew.ld3
  go_wp2_with fail
  go_region_held3 (fun W' : World => Ld3 b W.heap.size next A n c o W')
    (first | exact hS0 | exact hS1)
    ((go_at_call 148; refine (HC.out _ H1.out.drew).mono ?_; rintro e2 w2 ⟨rfl, hb2⟩; have H2 := ShutW.mk (H1.out.drew.step hb2); have hS1 := H2.out.ld3; clear hb2))
  go_wp2_with fail
  go_ret
  exact Done.same H2.out.st (H2.out.bel.mono hBW)
set_option maxHeartbeats 2000000 in
theorem do_kind (h : OwnSt B b next s xs W) (f : Ef) (hf : f.right = true) (hx : xs.length ≤ 1000) (hk1 : f.kind ≠ 1) (hk8 : f.kind ≠ 8) (hq : q < (obsOf xs).length) (hz : idxI (isN f.obj) (obsOf xs) = (q : Int)) (hkd : (obsOf xs)[q].kind ≠ kindE f.kind) :
    Calls Tryz.prog 93 #[.pointer (some ⟨b, 0, none⟩), f.val_] W (Done B b W (5, ⟨next, obsOf xs⟩)) := by
  have hM0 := MkS.first h f
  have hBW := h.size
  have hr := rightE_ f
  have hql : q < xs.length := by simpa [obsOf] using hq
  obtain ⟨g, e', _, _, _, _, _⟩ := h.slot (by omega)
  have hcl := fun W1 (hm : MkS B b next s xs f W W1) => hm.st.cells hql e'
  rw [hf] at hr
  have hn := h.cap.1
  obtain ⟨A, n, c⟩ := s
  have hc := fun W1 (hm : MkS B b next ⟨A, n, c⟩ xs f W W1) => find_o (A := A) (c := c) hm.st.row hn.symm (by have : n = xs.length := hn; omega) next f.obj
  have e'' : A = some ⟨g, 0, none⟩ := e'
  subst e''
  have hqn : q < n := by have : n = xs.length := hn; omega
  rw [hz] at hc
  have HC := ShutW.mk hc
  have HCL := ShutW.mk hcl
  have hko : (obsOf xs)[q].kind = xs[q].o.kind := by simp [obsOf]
  rw [hko] at hkd
  generalize xs[q].o.kind = kd at *
  clear hf h hc hn hx hz hcl e' hko
  obtain ⟨k, o, ky, v, en, l, t, ⟨m0, m1, m2, m3, m4, m5⟩⟩ := f
  have HM0 := ShutW.mk hM0
  have HR := ShutW.mk hr
  clear hM0 hr
  go_enter Tryz.func93, Tryz.ntmps93
  go_wp2_with fail
  refine (HR.out _).mono ?_
  rintro e1 w1 ⟨rfl, hb1⟩
  have H1 := ShutW.mk (HM0.out.step hb1)
  obtain ⟨c0, c1, c2, c3, c4, c5, c6, c7, c8, c9, c10, c11, c12⟩ := thir_of H1.out.box
  clear hb1

  have b1 : (k == 1) = false := by simpa using hk1
  have b8 : (k == 8) = false := by simpa using hk8
  have hS0 := H1.out.drew.ld3
  go_wp2_with fail
  go_region_held3 (fun W' : World => Ld3 b W.heap.size next (some ⟨g, 0, none⟩) n c o W')
    (first | exact hS0 | exact hS1)
    ((go_at_call 148; refine (HC.out _ H1.out.drew).mono ?_; rintro e2 w2 ⟨rfl, hb2⟩; have H2 := ShutW.mk (H1.out.drew.step hb2); have hS1 := H2.out.ld3; clear hb2))
  have bk : (kd == kindE k) = false := by simpa using hkd
  obtain ⟨d0, d1, d2, d3, d4, d5⟩ := HCL.out w2 H2.out
  have hqn2 : (q : Int) < (n : Int) := by omega
  have hqn3 : decide ((q : Int) < 0) = false := decide_eq_false (by omega)
  obtain ⟨a0, a1, a2, a3, a4, a5, a6, a7, a8, a9, a10, a11, a12⟩ := thir_of H2.out.box
  obtain ⟨_, e1, _⟩ := id hS1
  clear c0 c1 c2 c3 c4 c5 c6 c7 c8 c9 c10 c11 c12 hS0 hS1 d0 d2 d3 d4 d5
  go_wp2_with fail
  go_quiet ((go_at_call 149; exact Calls.quiet_of_same ((kind_for _ _).mono fun _ _ h => ⟨h.1, h.2.symm⟩)))
  generalize kindE k = ke at *
  go_wp2_with fail
  go_ret
  exact Done.same (H2.out.st.below (below_drewN (Below.refl _ _) _)) ((below_drewN H2.out.bel _).mono hBW)
set_option maxHeartbeats 2000000 in
theorem do_one (h : OwnSt B b next s xs W) (f : Ef) (hf : f.right = true) (hx : xs.length ≤ 1000) (hs : ∀ x ∈ xs, x.o.short 100000) (hft : ∀ x ∈ xs, x.o.fits) (hk1 : f.kind ≠ 1) (hk8 : f.kind ≠ 8) (hq : q < (obsOf xs).length) (hz : idxI (isN f.obj) (obsOf xs) = (q : Int)) (hkd : (obsOf xs)[q].kind = kindE f.kind) :
    Calls Tryz.prog 93 #[.pointer (some ⟨b, 0, none⟩), f.val_] W (Done B b W ((withinO next (obsOf xs) (obsOf xs)[q] f).1, ⟨next, (obsOf xs).set q (withinO next (obsOf xs) (obsOf xs)[q] f).2⟩)) := by
  have hM0 := MkS.first h f
  have hBW := h.size
  have hr := rightE_ f
  have hql : q < xs.length := by simpa [obsOf] using hq
  obtain ⟨g, e', _, _, _, _, _⟩ := h.slot (by omega)
  have hcl := fun W1 (hm : MkS B b next s xs f W W1) => hm.st.cells hql e'
  rw [hf] at hr
  have hn := h.cap.1
  obtain ⟨A, n, c⟩ := s
  have hc := fun W1 (hm : MkS B b next ⟨A, n, c⟩ xs f W W1) => find_o (A := A) (c := c) hm.st.row hn.symm (by have : n = xs.length := hn; omega) next f.obj
  have e'' : A = some ⟨g, 0, none⟩ := e'
  subst e''
  have hqn : q < n := by have : n = xs.length := hn; omega
  rw [hz] at hc
  have HC := ShutW.mk hc
  have HCL := ShutW.mk hcl
  have hko : (obsOf xs)[q] = xs[q].o := by simp [obsOf]
  rw [hko] at hkd
  rw [hko]
  have hdw := fun W1 (hm : MkS B b next ⟨some ⟨g, 0, none⟩, n, c⟩ xs f W W1) => (do_within hm.st hql rfl (by omega) hs (hft _ (List.getElem_mem hql)) f)
  generalize withinO next (obsOf xs) xs[q].o f = P at *
  generalize xs[q].o.kind = kd at *
  have HDW := ShutW.mk hdw
  clear hf h hc hn hx hz hcl e' hko hdw hs hft
  obtain ⟨k, o, ky, v, en, l, t, ⟨m0, m1, m2, m3, m4, m5⟩⟩ := f
  have HM0 := ShutW.mk hM0
  have HR := ShutW.mk hr
  clear hM0 hr
  go_enter Tryz.func93, Tryz.ntmps93
  go_wp2_with fail
  refine (HR.out _).mono ?_
  rintro e1 w1 ⟨rfl, hb1⟩
  have H1 := ShutW.mk (HM0.out.step hb1)
  obtain ⟨c0, c1, c2, c3, c4, c5, c6, c7, c8, c9, c10, c11, c12⟩ := thir_of H1.out.box
  clear hb1

  have b1 : (k == 1) = false := by simpa using hk1
  have b8 : (k == 8) = false := by simpa using hk8
  have hS0 := H1.out.drew.ld3
  go_wp2_with fail
  go_region_held3 (fun W' : World => Ld3 b W.heap.size next (some ⟨g, 0, none⟩) n c o W')
    (first | exact hS0 | exact hS1)
    ((go_at_call 148; refine (HC.out _ H1.out.drew).mono ?_; rintro e2 w2 ⟨rfl, hb2⟩; have H2 := ShutW.mk (H1.out.drew.step hb2); have hS1 := H2.out.ld3; clear hb2))
  have bk : (kd == kindE k) = true := by simpa using hkd
  obtain ⟨d0, d1, d2, d3, d4, d5⟩ := HCL.out w2 H2.out
  have hqn2 : (q : Int) < (n : Int) := by omega
  have hqn3 : decide ((q : Int) < 0) = false := decide_eq_false (by omega)
  obtain ⟨a0, a1, a2, a3, a4, a5, a6, a7, a8, a9, a10, a11, a12⟩ := thir_of H2.out.box
  obtain ⟨_, e1, _⟩ := id hS1
  clear c0 c1 c2 c3 c4 c5 c6 c7 c8 c9 c10 c11 c12 hS0 hS1 d0 d2 d3 d4 d5
  go_wp2_with fail
  go_quiet ((go_at_call 149; exact Calls.quiet_of_same ((kind_for _ _).mono fun _ _ h => ⟨h.1, h.2.symm⟩)))
  generalize kindE k = ke at *
  go_wp2_with fail
  have HM5 := ShutW.mk (H2.out.step (below_drewN (Below.refl _ w2) nq))
  generalize w2.drewN nq = w5 at *
  have HM3 := ShutW.mk HM5.out.drew
  obtain ⟨_, e3, _⟩ := HM5.out.ld3
  obtain ⟨p0, p1, p2, p3, p4, p5, p6, p7, p8, p9, p10, p11, p12⟩ := thir_of HM5.out.box
  refine wp_region_still_tail 8 (by kernel_rfl) (by kernel_rfl) ?_
  simp only [List.take_succ_cons, List.take_zero, List.drop_succ_cons, List.drop_zero]
  repeat still_step
  refine wpStill_nil ?_
  go_wp2_with fail
  refine (HDW.out _ HM3.out).mono ?_
  rintro e3 w3 hd
  have HD := ShutW.mk (hd.done.pre (HM3.out.bel.mono hBW))
  obtain ⟨_, rfl, _⟩ := hd
  go_wp2_with fail
  go_ret
  exact HD.out
theorem do_o (h : OwnSt B b next s xs W) (hx : xs.length ≤ 1000) (hs : ∀ x ∈ xs, x.o.short 100000) (hft : ∀ x ∈ xs, x.o.fits) (f : Ef) :
    Calls Tryz.prog 93 #[.pointer (some ⟨b, 0, none⟩), f.val_] W (Done B b W (oneS ⟨next, obsOf xs⟩ f)) := by
  by_cases hr : f.right = false
  · have e : oneS ⟨next, obsOf xs⟩ f = (1, ⟨next, obsOf xs⟩) := by rw [oneS, if_pos hr]
    rw [e]
    exact do_wrong h f hr
  have hr2 : f.right = true := by simpa using hr
  by_cases h1 : f.kind = 1
  · have e : oneS ⟨next, obsOf xs⟩ f = ((makeO (obsOf xs) f).1, ⟨next, (makeO (obsOf xs) f).2⟩) := by rw [oneS, if_neg hr, if_pos h1]
    rw [e]
    exact do_make h f hr2 hx h1
  by_cases h8 : f.kind = 8
  · have e : oneS ⟨next, obsOf xs⟩ f = (if f.n < next then (1, ⟨next, obsOf xs⟩) else (0, ⟨f.n, obsOf xs⟩)) := by rw [oneS, if_neg hr, if_neg h1, if_pos h8]
    rw [e]
    exact do_next h f hr2 h8
  rcases idx_cases (isN f.obj) (obsOf xs) with ⟨hz, ha⟩ | ⟨hlt, hz, _, _⟩
  · have hl : (obsOf xs).findIdx (isN f.obj) = (obsOf xs).length := List.findIdx_eq_length.2 fun x hx => by simpa using List.any_eq_false.1 ha x hx
    have e : oneS ⟨next, obsOf xs⟩ f = (3, ⟨next, obsOf xs⟩) := by
      rw [oneS, if_neg hr, if_neg h1, if_neg h8]
      simp only
      rw [hl, List.getElem?_eq_none (Nat.le_refl _)]
    rw [e]
    exact do_none h f hr2 hx h1 h8 hz
  · by_cases hk : (obsOf xs)[(obsOf xs).findIdx (isN f.obj)].kind = kindE f.kind
    · have e : oneS ⟨next, obsOf xs⟩ f = ((withinO next (obsOf xs) (obsOf xs)[(obsOf xs).findIdx (isN f.obj)] f).1, ⟨next, (obsOf xs).set ((obsOf xs).findIdx (isN f.obj)) (withinO next (obsOf xs) (obsOf xs)[(obsOf xs).findIdx (isN f.obj)] f).2⟩) := by
        rw [oneS, if_neg hr, if_neg h1, if_neg h8]
        simp only
        rw [List.getElem?_eq_getElem hlt]
        simp only
        rw [if_pos hk]
      rw [e]
      exact do_one h f hr2 hx hs hft h1 h8 hlt hz hk
    · have e : oneS ⟨next, obsOf xs⟩ f = (5, ⟨next, obsOf xs⟩) := by
        rw [oneS, if_neg hr, if_neg h1, if_neg h8]
        simp only
        rw [List.getElem?_eq_getElem hlt]
        simp only
        rw [if_neg hk]
      rw [e]
      exact do_kind h f hr2 hx h1 h8 hlt hz hk
end
end Go.Proofs.YtjfoflbaoceemaaGreat
