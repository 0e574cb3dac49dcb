/- What LogKeeps answers. -/
import Derived.Test.YtmpkgnmijnjddaaRoom
import Derived.Test.YtmpkgnmijnjddaaLogY
import Derived.Test.YtmpkgnmijnjddaaLogD
import Derived.Test.YtmpkgnmijnjddaaOpens
namespace Go.Proofs.Ytmpkgnmijnjddaa
open Go.RowKit
structure Ec (m : Nat) (s : St) (L : Lg) : Prop where
  el : El s L
  dead : L.dead = false
  ok : s.ok
  l : s.l = []
  ends : s.ends = false
  pf : L.p ≤ L.fin
  fin : L.fin = 52
  n : s.n = 60
  lim : s.lim m
theorem ec_append {m : Nat} {s : St} {L : Lg} {b : List UInt8} (h : Ec m s L) (hb : b.length ≤ 700) : ∃ s2 L2 c, L.append s b = (s2, L2, c) ∧ Ec (m + 13) s2 L2 := by
  obtain ⟨s2, L2, c, e, a1, a2, a3, a4, a5, a6, a7, a8, a9⟩ := el_append h.el h.dead h.ok h.l h.ends h.pf h.fin h.n h.lim hb
  exact ⟨s2, L2, c, e, a1, a2, a3, a4, a5, a6, a7, a8, a9⟩
theorem ref_zeros2 {w : World} {N g : Nat} {ys : List UInt8} (h : VAt w N g ys) (hy : ys.length = 29) : ∃ yb A c A' c' W', yb.length = 64 ∧ w.cell? ⟨g, 0, none⟩ = some (.slice A 29 c) ∧ (Builtin.append_ #[30, 3] 30 #[.slice A 29 c, .int .i64 35]).run Try.prog w.drew = .ok (.slice A' 64 c') W' ∧
    W'.cell? ⟨g, 0, none⟩ = some (.slice A 29 c) ∧ W'.ownsRow N 5 1 (.slice A' 64 c') 64 (cellsB yb) ∧ Keep (fun i _ => i < N) w W' := by
  obtain ⟨A, c, A', c', W', h1, h2, h3, h4, h5, _⟩ := ref_zeros h hy
  exact ⟨_, A, c, A', c', W', by rw [List.length_append, hy, zeros_length], h1, h2, h3, h4, h5⟩
/-- the elder epoch's round -/
def ElRel (w : World) (g gd n : Nat) (k : Nat) (i : Value) (wr : World) : Prop :=
  ∃ (j : Nat) (L : Lg) (R : Nat → Prop) (s : St), j + k = n ∧ i = .int .i64 (j : Int) ∧ LogAt wr g gd R s L ∧ Ec (13 * j) s L ∧ (∀ i, i < w.heap.size → R i) ∧ Below w.heap.size w wr
/-- what was appended OK -/
structure Row (w : World) (R : Nat → Prop) (v : Value) (ls : List (List UInt8)) (vs : List Value) : Prop where
  own : w.ownsRow 0 30 1 v ls.length vs
  held : Holds w (fun i => R i ∧ Ty5 w i) vs ls
  at_ : ∀ q, v.ownBlock = some q → R q
theorem Row.keep {w w' : World} {R : Nat → Prop} {v : Value} {ls : List (List UInt8)} {vs : List Value} (h : Row w R v ls vs) (k : Keep (fun i _ => R i) w w') : Row w' R v ls vs :=
  ⟨ownsRow_keep h.own k (fun i _ hi => h.at_ i hi), h.held.keep5 (k.mono fun _ _ _ hi => hi.1), h.at_⟩
theorem Row.more {w : World} {R R' : Nat → Prop} {v : Value} {ls : List (List UInt8)} {vs : List Value} (h : Row w R v ls vs) (hR : ∀ i, R i → R' i) : Row w R' v ls vs :=
  ⟨h.own, h.held.more fun _ _ hi => ⟨hR _ hi.1, hi.2⟩, fun q hq => hR q (h.at_ q hq)⟩
theorem Row.nil (w : World) (R : Nat → Prop) : Row w R (.slice none 0 0) [] [] := ⟨World.ownsRow_nil _ _ _ _, Holds.nil _ _, fun q hq => by cases hq⟩
theorem Row.lists {w : World} {R : Nat → Prop} {v : Value} {ls : List (List UInt8)} {vs : List Value} (h : Row w R v ls vs) : Lists w (fun _ => True) v ls := own_lists h.own h.held (fun _ _ => trivial) (fun _ _ => trivial)
theorem Row.slice {w : World} {R : Nat → Prop} {v : Value} {ls : List (List UInt8)} {vs : List Value} (h : Row w R v ls vs) : ∃ A c, v = .slice A ls.length c := h.lists.slice
/-- one more, beside a log -/
theorem row_more {w : World} {g gd : Nat} {R : Nat → Prop} {s : St} {L : Lg} {v : Value} {ls : List (List UInt8)} {vs : List Value} (hl : LogAt w g gd R s L) (h : Row w R v ls vs) (hn : ls.length ≤ 100000) {A : Option Addr} {n c : Nat} {b : List UInt8} (hb : Has w (fun i => R i ∧ Ty5 w i) A b) (hbn : b.length = n) (hc : n ≤ c) (hm : c ≤ maxLen) (hA : A = none → c = 0) :
    ∃ A' c' W' vs', (Builtin.append_ #[37, 37] 37 #[v, .slice (some ⟨w.heap.size, 0, none⟩) 1 1]).run Try.prog (w.alloc (.cells #[.slice A n c] 30)) = .ok (.slice A' (ls.length + 1) c') W' ∧
      LogAt W' g gd (fun i => R i ∨ w.heap.size ≤ i ∧ i < W'.heap.size) s L ∧ Row W' (fun i => R i ∨ w.heap.size ≤ i ∧ i < W'.heap.size) (.slice A' (ls.length + 1) c') (ls ++ [b]) vs' ∧ Keep (fun i _ => v.ownBlock ≠ some i) w W' ∧ ∀ q, (Value.slice A' (ls.length + 1) c').ownBlock = some q → v.ownBlock = some q ∨ w.heap.size ≤ q := by
  subst hbn
  obtain ⟨A', c', W', hrun, ho, _, hk, hat⟩ := row_append h.own A b.length c hn
  have h5 : Keep (fun i _ => R i ∧ Ty5 w i) w W' := hk.mono fun i _ _ hi e => by
    obtain ⟨cs, h1⟩ := hi.2
    obtain ⟨ds, h2⟩ := own_blk h.own e
    exact ne_of_types h1 h2 (by decide) rfl
  refine ⟨A', c', W', vs ++ [.slice A b.length c], hrun, hl.aside hk (fun q hq => ⟨h.at_ q hq, own_blk h.own hq⟩), ⟨by simpa using ho, ?_, fun q hq => ?_⟩, hk, hat⟩
  · exact ((h.held.snoc hb hc hm hA).keep5 h5).more fun _ _ hi => ⟨.inl hi.1, hi.2⟩
  · rcases hat q hq with e | e
    · exact .inl (h.at_ q e)
    · exact .inr ⟨e, rows_lt ho q hq⟩
def noneB : List UInt8 := [110, 111, 110, 101]
theorem has_beside {w w' : World} {R R' : Nat → Prop} {bn : Nat} {xs : List UInt8} {v : Value} (h : Has w R (some ⟨bn, 0, none⟩) xs) (k : Keep (fun i _ => v.ownBlock ≠ some i) w w') (hv : ∀ q, v.ownBlock = some q → bn < q) (hR : ∀ i, R i → R' i) : Has w' R' (some ⟨bn, 0, none⟩) xs := fun h0 => by
  obtain ⟨b, o, e, hr, hb, hc⟩ := h h0
  cases e
  have h1 : Has w (fun i => v.ownBlock ≠ some i) (some ⟨bn, 0, none⟩) xs := fun _ => ⟨bn, 0, rfl, fun e => by have := hv bn e; omega, hb, hc⟩
  obtain ⟨b', o', e', _, hb', hc'⟩ := h1.keep k h0
  cases e'
  exact ⟨_, _, rfl, hR _ hr, hb', hc'⟩
def KRel (w : World) (g gd bn n : Nat) (k : Nat) (vd vl i : Value) (wr : World) : Prop :=
  ∃ (j : Nat) (L : Lg) (R : Nat → Prop) (s : St) (vs : List Value), j + k = n ∧ i = .int .i64 (j : Int) ∧ vl = .slice (some ⟨bn, 0, none⟩) 4 4 ∧ LogAt wr g gd R s L ∧ Kp (200 + 13 * j) s L ∧ L.ls.length ≤ j ∧ Row wr R vd L.ls vs ∧
    Has wr R (some ⟨bn, 0, none⟩) noneB ∧ (∀ q, vd.ownBlock = some q → bn < q) ∧ (∀ i, i < w.heap.size → R i) ∧ Below w.heap.size w wr
set_option maxRecDepth 100000 in
set_option maxHeartbeats 8000000 in
theorem logKeeps (A1 : Option Addr) (n1 c1 : Nat) (z1 : List Int) (A2 : Option Addr) (n2 c2 : Nat) (z2 : List Int) (left : Int) (A3 : Option Addr) (n3 c3 : Nat) (ks : List Bool) (w : World) (h1 : Ints w A1 n1 z1) (h2 : Ints w A2 n2 z2) (h3 : Bools w (fun i => i < w.heap.size) A3 n3 ks)
    (m1 : n1 ≤ 9223372036854775807) (m2 : n2 ≤ 9223372036854775807) (m3 : n3 ≤ 9223372036854775807) (ml : left ≤ 9223372036854775807) :
    Calls Try.prog 3 #[.slice A1 n1 c1, .slice A2 n2 c2, .int .i64 left, .slice A3 n3 c3] w fun e w' => e = .returned (.bool true) ∧ Below w.heap.size w w' := by
  have kc := fun (w : World) (C : Array Value) (n c : Nat) => Lib.run_convert_bytes_const (P := Try.prog) w 30 5 C n c Try.underlying30 Try.underlying5
  by_cases h : n1 ≤ 12 ∧ 1 ≤ n2 ∧ n2 ≤ 12 ∧ 0 ≤ left ∧ n3 ≤ 200
  · obtain ⟨g1, g2, g3, g4, g5⟩ := h
    have HZ1 := Lib.hid h1
    have HZ2 := Lib.hid h2
    have HZ3 := Lib.hid h3
    clear h1 h2 h3
    go_enter Try.func3, Try.ntmps3
    go_wp2_with fail
    refine (alive w).mono ?_
    rintro e w1 ⟨rfl, hb1⟩
    have HB1 := Lib.hid hb1
    clear hb1
    go_wp2_with fail
    refine (new_ _ _).mono ?_
    rintro e w2 ⟨rfl, hd2, hb2, hz2⟩
    rw [show cutN 60 = 60 from rfl] at hd2
    have HD2 := Lib.hid (diskR_new hd2 hb2)
    have HB2 := Lib.hid (HB1.out.trans (hb2.mono HB1.out.size))
    clear hd2 hb2 hz2
    go_wp2_with fail
    refine (open_ HD2.out 2 50 (by rw [St.n_new]; omega) (by rw [St.n_new]; omega) 6).mono ?_
    rintro e w3 ⟨g, R3, L3, rfl, hR3, hl3, ho3, hk3⟩
    obtain rfl := new_open (by omega) ho3
    have HL3 := Lib.hid hl3
    have HR3 := Lib.hid (fun i (hi : i < w.heap.size) => hR3 i (Nat.lt_of_lt_of_le hi HB1.out.size))
    have HB3 := Lib.hid (HB2.out.trans (hk3.below HB2.out.size fun i _ hi => Nat.lt_of_lt_of_le hi HB1.out.size))
    have HEC : Hid (Ec 0 (St.new 60) (lg0 6 2 50)) := ⟨el_new, rfl, St.ok.new (by omega), rfl, rfl, by simp [lg0], rfl, St.n_new 60, new_lim 60 0⟩
    clear hl3 hR3 ho3 hk3
    go_wp2_with fail
    go_loopg [12] n1 (fun k i wr => ElRel w g (w1.heap.size + 1) n1 k i wr)
    case atStart => exact ⟨0, _, R3, _, by omega, rfl, HL3.out, HEC.out, HR3.out, HB3.out⟩
    case round =>
      obtain ⟨j, L, R, s, hj, rfl, hl, hec, hR, hb⟩ := hrel
      have HJ := Lib.hid hj
      have HL := Lib.hid hl
      have HE := Lib.hid hec
      have HR := Lib.hid hR
      have HB := Lib.hid hb
      have hj12 : j ≤ 12 := by omega
      clear hj hl hec hR hb
      by_cases hlt : j < n1
      · obtain ⟨b, o, z, rfl, hzj, hcell⟩ := HZ1.out.at_ HB.out hlt
        clear hzj
        have hv0 : VAt (wr.alloc (.cells #[.slice none 0 0] 32)) wr.heap.size wr.heap.size [] := ⟨.slice none 0 0, Blk.new wr _ _, ⟨rfl, .inl ⟨rfl, rfl⟩⟩, Nat.le_refl _⟩
        have HV0 := Lib.hid hv0
        have HC0 := Lib.hid (Keep.of_below (K := fun i _ => i < wr.heap.size) (alloc_below wr (.cells #[.slice none 0 0] 32)))
        have hbl : b < wr.heap.size := by have := block_of_cell hcell; exact this
        clear hv0
        go_wp2_with fail
        refine (vText _ wr.heap.size _ [] ⟨#[114, 101, 99]⟩ HV0.out (by simp) (by decide)).mono ?_
        rintro e w4 ⟨rfl, hv4, hk4⟩
        have HV4 := Lib.hid hv4
        have HC4 := Lib.hid (HC0.out.trans (hk4.mono fun _ _ _ hi => .inl hi))
        clear hv4 hk4
        go_wp2_with fail
        refine (vInt _ wr.heap.size _ _ 7 HV4.out (by decide)).mono ?_
        rintro e w5 ⟨rfl, hv5, hk5⟩
        have HV5 := Lib.hid hv5
        have HC5 := Lib.hid (HC4.out.trans (hk5.mono fun _ _ _ hi => .inl hi))
        have hcell5 := ((below_of_keep HC5.out (Nat.le_refl _)).cell (p := ⟨b, o + j, none⟩) hbl).trans hcell
        clear hv5 hk5
        go_wp2_with fail
        refine (vInt _ wr.heap.size _ _ _ HV5.out (by simp [encText_len, encInt_len])).mono ?_
        rintro e w6 ⟨rfl, hv6, hk6⟩
        have HV6 := Lib.hid hv6
        have HC6 := Lib.hid (HC5.out.trans (hk6.mono fun _ _ _ hi => .inl hi))
        have hcell6 := ((below_of_keep HC6.out (Nat.le_refl _)).cell (p := ⟨b, o + j, none⟩) hbl).trans hcell
        clear hv6 hk6 hcell5
        go_wp2_with fail
        refine (vInt _ wr.heap.size _ _ _ HV6.out (by simp [encText_len, encInt_len])).mono ?_
        rintro e w7 ⟨rfl, hv7, hk7⟩
        have HC7 := Lib.hid (HC6.out.trans (hk7.mono fun _ _ _ hi => .inl hi))
        clear hk7 hcell6
        obtain ⟨yb, AW, cW, AZ, cZ, W8, hyl, k0, hap, k0', hoz, hkz⟩ := ref_zeros2 hv7 (by simp [encText_len, encInt_len])
        obtain ⟨B1, d1, W9, B2, d2, W10, hap1, hap2, hh10, hd10, hB10, hb10⟩ := twice (n2 := 128) hoz hyl (by omega) (by omega)
        have HCZ := Lib.hid ((below_of_keep (HC7.out.trans hkz) (Nat.le_refl _)).trans (hb10.mono (below_of_keep (HC7.out.trans hkz) (Nat.le_refl _)).size))
        have HH10 := Lib.hid (hh10.more (K' := fun i => R i ∨ wr.heap.size ≤ i ∧ i < W10.heap.size) fun i hi h => .inr ⟨Nat.le_trans (HC7.out.trans hkz).size h.1, hi⟩)
        have HG10 := Lib.hid (HL.out.grow HCZ.out)
        have HYL := Lib.hid (show (yb ++ yb).length = 128 by rw [List.length_append, hyl])
        have HB10 := Lib.hid hB10
        clear hyl hv7 hh10 hoz hkz hb10 hB10
        go_wp2_with fail
        refine wp_region_noPanic ?_
        refine wp_region_held_drew (S := fun W => W.cell? ⟨wr.heap.size, 0, none⟩ = some (.slice AW 29 cW)) (by kernel_rfl) k0 (fun _ => ?_)
        refine wpAnyH_take (i := 0) (oi := { dst := some 83, op := Op.move (Operand.tmp 13), type := 29, pos := "law.go:110", after := #[], guard := none }) (v := .pointer (some ⟨wr.heap.size, 0, none⟩)) rfl (by kernel_rfl) (by kernel_rfl) (by kernel_rfl) (fun _ _ _ h => h) (Or.inl ⟨by rfl, ?_⟩) k0 ?_
        · intro W hSw; clear hSw; go_simp
        try simp only [Act.put, List.setIfInBounds_toArray, List.set_cons_zero, List.set_cons_succ]
        refine wpAnyH_take (i := 1) (oi := { dst := some 84, op := Op.nilCheck (Operand.tmp 83), type := 0, pos := "law.go:110", after := #[{ on := 0, ground := Ground.data }], guard := none }) (v := .pointer (some ⟨wr.heap.size, 0, none⟩)) rfl (by kernel_rfl) (by kernel_rfl) (by kernel_rfl) (fun _ _ _ h => h) (Or.inl ⟨by rfl, ?_⟩) k0 ?_
        · intro W hSw; clear hSw; go_simp
        try simp only [Act.put, List.setIfInBounds_toArray, List.set_cons_zero, List.set_cons_succ]
        refine wpAnyH_take (i := 2) (oi := { dst := some 85, op := Op.fieldAddr 32 (Operand.tmp 84) 0, type := 0, pos := "law.go:110", after := #[{ on := 1, ground := Ground.data }], guard := none }) (v := .pointer (some ⟨wr.heap.size, 0, none⟩)) rfl (by kernel_rfl) (by kernel_rfl) (by kernel_rfl) (fun _ _ _ h => h) (Or.inl ⟨by rfl, ?_⟩) k0 ?_
        · intro W hSw; clear hSw; go_simp
        try simp only [Act.put, List.setIfInBounds_toArray, List.set_cons_zero, List.set_cons_succ]
        refine wpAnyH_take (i := 3) (oi := { dst := some 86, op := Op.load 30 (Operand.tmp 85), type := 30, pos := "law.go:110", after := #[{ on := 2, ground := Ground.data }], guard := none }) (v := .slice AW 29 cW) rfl (by kernel_rfl) (by kernel_rfl) (by kernel_rfl) (fun _ _ _ h => h) (Or.inl ⟨by rfl, ?_⟩) k0 ?_
        · intro W hSw; go_simp
        try simp only [Act.put, List.setIfInBounds_toArray, List.set_cons_zero, List.set_cons_succ]
        refine wpAnyH_take (i := 4) (oi := { dst := some 87, op := Op.move (Operand.tmp 13), type := 29, pos := "law.go:110", after := #[], guard := none }) (v := .pointer (some ⟨wr.heap.size, 0, none⟩)) rfl (by kernel_rfl) (by kernel_rfl) (by kernel_rfl) (fun _ _ _ h => h) (Or.inl ⟨by rfl, ?_⟩) k0 ?_
        · intro W hSw; clear hSw; go_simp
        try simp only [Act.put, List.setIfInBounds_toArray, List.set_cons_zero, List.set_cons_succ]
        refine wpAnyH_take (i := 5) (oi := { dst := some 88, op := Op.nilCheck (Operand.tmp 87), type := 0, pos := "law.go:110", after := #[{ on := 4, ground := Ground.data }], guard := none }) (v := .pointer (some ⟨wr.heap.size, 0, none⟩)) rfl (by kernel_rfl) (by kernel_rfl) (by kernel_rfl) (fun _ _ _ h => h) (Or.inl ⟨by rfl, ?_⟩) k0 ?_
        · intro W hSw; clear hSw; go_simp
        try simp only [Act.put, List.setIfInBounds_toArray, List.set_cons_zero, List.set_cons_succ]
        refine wpAnyH_take (i := 6) (oi := { dst := some 89, op := Op.fieldAddr 32 (Operand.tmp 88) 0, type := 0, pos := "law.go:110", after := #[{ on := 5, ground := Ground.data }], guard := none }) (v := .pointer (some ⟨wr.heap.size, 0, none⟩)) rfl (by kernel_rfl) (by kernel_rfl) (by kernel_rfl) (fun _ _ _ h => h) (Or.inl ⟨by rfl, ?_⟩) k0 ?_
        · intro W hSw; clear hSw; go_simp
        try simp only [Act.put, List.setIfInBounds_toArray, List.set_cons_zero, List.set_cons_succ]
        refine wpAnyH_take (i := 7) (oi := { dst := some 90, op := Op.load 30 (Operand.tmp 89), type := 30, pos := "law.go:110", after := #[{ on := 6, ground := Ground.data }], guard := none }) (v := .slice AW 29 cW) rfl (by kernel_rfl) (by kernel_rfl) (by kernel_rfl) (fun _ _ _ h => h) (Or.inl ⟨by rfl, ?_⟩) k0 ?_
        · intro W hSw; go_simp
        try simp only [Act.put, List.setIfInBounds_toArray, List.set_cons_zero, List.set_cons_succ]
        refine wpAnyH_take (i := 8) (oi := { dst := some 91, op := Op.call { callee := Callee.builtin Builtin.len, args := #[Operand.tmp 90], argTypes := #[30] }, type := 3, pos := "law.go:110", after := #[{ on := 7, ground := Ground.data }], guard := none }) (v := .int .i64 29) rfl (by kernel_rfl) (by kernel_rfl) (by kernel_rfl) (fun _ _ _ h => h) (Or.inl ⟨by rfl, ?_⟩) k0 ?_
        · intro W hSw; clear hSw; go_simp
        try simp only [Act.put, List.setIfInBounds_toArray, List.set_cons_zero, List.set_cons_succ]
        refine wpAnyH_take (i := 9) (oi := { dst := some 92, op := Op.binOp BinOp.sub 3 (Operand.const (Value.int IntKind.i64 64)) (Operand.tmp 91) 3, type := 3, pos := "law.go:110", after := #[{ on := 8, ground := Ground.data }], guard := none }) (v := .int .i64 35) rfl (by kernel_rfl) (by kernel_rfl) (by kernel_rfl) (fun _ _ _ h => h) (Or.inl ⟨by rfl, ?_⟩) k0 ?_
        · intro W hSw; clear hSw; go_simp; exact IntWalk.i64_in _ (by omega)
        try simp only [Act.put, List.setIfInBounds_toArray, List.set_cons_zero, List.set_cons_succ]
        refine wpAnyH_1 (i := 10) (by kernel_rfl) (wpOp_value (o := { dst := some 93, op := Op.call { callee := Callee.builtin Builtin.append, args := #[Operand.tmp 86, Operand.tmp 92], argTypes := #[30, 3] }, type := 30, pos := "law.go:110", after := #[{ on := 3, ground := Ground.data }, { on := 9, ground := Ground.data }], guard := none }) (v := .slice AZ 64 cZ) (w' := W8) rfl (by rfl) (exec_append2 rfl rfl rfl hap) ?_)
        refine ⟨k0', ?_⟩
        try simp only [Act.put, List.setIfInBounds_toArray, List.set_cons_zero, List.set_cons_succ]
        refine wpAnyH_take (i := 11) (oi := { dst := some 14, op := Op.assign (Operand.tmp 93), type := 30, pos := "law.go:110", after := #[{ on := 10, ground := Ground.data }, { on := 10, ground := Ground.chain }, { on := 0, ground := Ground.phase }, { on := 1, ground := Ground.phase }, { on := 2, ground := Ground.phase }, { on := 3, ground := Ground.phase }, { on := 4, ground := Ground.phase }, { on := 5, ground := Ground.phase }, { on := 6, ground := Ground.phase }, { on := 7, ground := Ground.phase }, { on := 8, ground := Ground.phase }, { on := 9, ground := Ground.phase }, { on := 10, ground := Ground.phase }], guard := none }) (v := .slice AZ 64 cZ) rfl (by kernel_rfl) (by kernel_rfl) (by kernel_rfl) (fun _ _ _ h => h) (Or.inl ⟨by rfl, ?_⟩) k0' ?_
        · intro W hSw; clear hSw; go_simp
        try simp only [Act.put, List.setIfInBounds_toArray, List.set_cons_zero, List.set_cons_succ]
        refine wpAnyH_done (by kernel_rfl) ?_ _
        refine NoPanic.normal ?_
        go_wp2_with (first | (at_builtin; refine wpList_append_run rfl (.const (.slice none 0 0)) (.tmp 95) 30 30 rfl _ _ rfl rfl hap1 ?_) | (at_builtin; refine wpList_append_run rfl (.tmp 96) (.tmp 97) 30 30 rfl _ _ rfl rfl hap2 ?_))
        refine (append_ HG10.out (lim_mono HE.out.lim (by omega)) HH10.out HYL.out hd10 HB10.out (by omega)).mono ?_
        rintro e w11 ⟨rfl, ⟨R11, hR11, hl11⟩, hk11⟩
        obtain ⟨s2, L2, cx, hap2', hec2⟩ := ec_append HE.out (b := yb ++ yb) (by rw [HYL.out]; omega)
        rw [hap2'] at hl11 ⊢
        have HL11 := Lib.hid hl11
        have HE11 := Lib.hid hec2
        have HR11 := Lib.hid (fun i (hi : i < w.heap.size) => hR11 i (.inl (HR.out i hi)))
        have HB11 := Lib.hid (HB.out.trans ((HCZ.out.mono HB.out.size).trans ((hk11.below (B := w.heap.size) (Nat.le_trans HB.out.size HCZ.out.size) fun i _ hi => .inl (HR.out i hi)))))
        clear hap2' hec2 hl11 hR11 hk11 k0 k0' hap hap1 hap2
        go_wp2
        go_roundg (n1 - (j + 1))
        case measure => have := HJ.out; omega
        case rel => exact ⟨j + 1, L2, R11, s2, by omega, by go_num, HL11.out, by have := HE11.out; rw [show 13 * (j + 1) = 13 * j + 13 by omega]; exact this, HR11.out, HB11.out⟩
      · go_wp2_with fail
        refine (open_ HL.out.diskR 2 50 (by rw [HE.out.n]; omega) (by rw [HE.out.n]; omega) 7).mono ?_
        rintro e w4 ⟨gx, R4, L4, rfl, hR4, hl4, ho4, hk4⟩
        obtain rfl := open_stop (el_find HE.out.el) ho4
        have HL4 := Lib.hid hl4
        have HR4 := Lib.hid (fun i (hi : i < w.heap.size) => hR4 i (HR.out i hi))
        have HB4 := Lib.hid (HB.out.trans (hk4.below HB.out.size fun i _ hi => HR.out i hi))
        clear hl4 hR4 ho4 hk4
        go_wp2_with fail
        refine (records_ HL4.out).mono ?_
        rintro e w5 ⟨v5, rfl, hv5, hb5⟩
        obtain ⟨A5, c5, rfl⟩ := hv5.slice
        have HL5 := Lib.hid (HL4.out.below hb5)
        have HB5 := Lib.hid (HB4.out.trans (hb5.mono HB4.out.size))
        rw [show (lg0 7 2 50).ls.length = 0 from rfl]
        clear hv5 hb5
        go_wp2_with fail
        refine (log_break HL5.out (by simp [St.broken, HE.out.ends]) left).mono ?_
        rintro e w6 ⟨rfl, hl6, hk6⟩
        have HL6 := Lib.hid hl6
        have HKP := Lib.hid (kp_new (k := 200) (n := left.toNat) HE.out.el HE.out.ok HE.out.l HE.out.n (lim_mono HE.out.lim (by omega)) (by omega))
        have HB6 := Lib.hid (HB5.out.trans (hk6.below HB5.out.size fun i _ hi => HR4.out i hi))
        clear hl6 hk6
        have hbn := alloc_below w6 (.cells #[.int .u8 110, .int .u8 111, .int .u8 110, .int .u8 101] 5 (4, 5))
        have hxn : Has (w6.alloc (.cells #[.int .u8 110, .int .u8 111, .int .u8 110, .int .u8 101] 5 (4, 5))) (fun i => R4 i ∨ w6.heap.size ≤ i ∧ i < (w6.alloc (.cells #[.int .u8 110, .int .u8 111, .int .u8 110, .int .u8 101] 5 (4, 5))).heap.size) (some ⟨w6.heap.size, 0, none⟩) noneB := fun _ =>
          ⟨_, 0, rfl, .inr ⟨Nat.le_refl _, by simp⟩, by simp, fun j u hu => by
            rw [cell_of_row _ w6.heap.size _ #[.int .u8 110, .int .u8 111, .int .u8 110, .int .u8 101] 5 (4, 5) (heap_alloc_new w6 _), Nat.zero_add]
            rw [← hu, ← List.getElem?_toArray]; rfl⟩
        have HXN := Lib.hid hxn
        have HL7 := Lib.hid (HL6.out.grow hbn)
        have HR7 := Lib.hid (fun i (hi : i < w.heap.size) => (Or.inl (HR4.out i hi) : R4 i ∨ w6.heap.size ≤ i ∧ i < (w6.alloc (.cells #[.int .u8 110, .int .u8 111, .int .u8 110, .int .u8 101] 5 (4, 5))).heap.size))
        have HB7 := Lib.hid (HB6.out.trans (hbn.mono HB6.out.size))
        clear hxn hbn
        go_wp2_with fail
        generalize wr = wo at *
        go_loopg [16, 17, 18] n2 (fun k vd vl i wx => KRel w gx (w1.heap.size + 1) w6.heap.size n2 k vd vl i wx)
        case atStart => exact ⟨0, lg0 7 2 50, _, _, [], by omega, rfl, rfl, HL7.out, HKP.out, Nat.le_refl _, Row.nil _ _, HXN.out, (fun q hq => by cases hq), HR7.out, HB7.out⟩
        case round =>
          obtain ⟨jj, Lx, Rx, sx, vsD, hjj, rfl, rfl, hlx, hkx, hlen, hrow, hxl, hbq, hRx, hBx⟩ := hrel
          obtain ⟨D, hD⟩ : ∃ D, Lx.ls = D := ⟨_, rfl⟩
          rw [hD] at hlen hrow
          obtain ⟨dl, hdl⟩ : ∃ dl, D.length = dl := ⟨_, rfl⟩
          have HDL := Lib.hid hdl
          have HDD := Lib.hid hD
          obtain ⟨AD, cD, rfl⟩ := hrow.slice
          rw [hdl] at hlen ⊢
          have hdl12 : dl ≤ 12 := by omega
          have HJJ := Lib.hid hjj
          have HLX := Lib.hid hlx
          have HKX := Lib.hid hkx
          have HRO := Lib.hid hrow
          have HXL := Lib.hid hxl
          have HBQ := Lib.hid hbq
          have HRF := Lib.hid hRx
          have HBX := Lib.hid hBx
          have hj12 : jj ≤ 12 := by omega
          clear hD hdl hjj hlx hkx hrow hxl hbq hRx hBx
          by_cases hlt2 : jj < n2
          · obtain ⟨b, o, z, rfl, hzj, hcell⟩ := HZ2.out.at_ HBX.out hlt2
            clear hzj
            go_wp2_with fail
            rw [show (1 : Int) + (jj : Int) = ((jj + 1 : Nat) : Int) by omega]
            refine (text_ _ (jj + 1) (by omega) wr).mono ?_
            rintro e x0 ⟨rfl, hh0, hb0⟩
            have HG0 := Lib.hid (HLX.out.grow hb0)
            have hro := HRO.out.keep (Keep.of_below hb0)
            have HRO0 := Lib.hid (hro.more (R' := fun i => Rx i ∨ wr.heap.size ≤ i ∧ i < x0.heap.size) fun _ hi => .inl hi)
            have HXL0 := Lib.hid ((HXL.out.below hb0).more (K' := fun i => Rx i ∨ wr.heap.size ≤ i ∧ i < x0.heap.size) fun _ _ hi => .inl hi)
            have HH0 := Lib.hid (Has.of_blk (K := fun i => (Rx i ∨ wr.heap.size ≤ i ∧ i < x0.heap.size) ∧ Ty5 x0 i) hh0 ⟨.inr ⟨Nat.le_refl _, hh0.lt⟩, _, hh0⟩)
            have HR0 := Lib.hid (fun i (hi : i < w.heap.size) => (Or.inl (HRF.out i hi) : Rx i ∨ wr.heap.size ≤ i ∧ i < x0.heap.size))
            have HB0 := Lib.hid (HBX.out.trans (hb0.mono HBX.out.size))
            have HTL := Lib.hid (textB_len (bits .and .i64 z 255) (jj + 1))
            have hcl := cutT_le (bits .and .i64 z 255)
            generalize textB (bits .and .i64 z 255) (jj + 1) = tb at *
            generalize cutT (bits .and .i64 z 255) = tl at *
            have hka := kp_append HKX.out (b := tb) (by rw [HTL.out]; exact hcl)
            have HKA := Lib.hid hka
            clear hro hh0 hb0 hka
            go_wp2_with fail
            refine (append_ HG0.out (lim_mono HKX.out.lim (by omega)) (HH0.out.more fun _ _ h => h.1) HTL.out (Nat.le_refl _) (fun h => by cases h) (by omega)).mono ?_
            rintro e y1 ⟨rfl, ⟨Ry1, hRy1, hly1⟩, hky1⟩
            have HRO1 := Lib.hid ((HRO0.out.keep hky1).more hRy1)
            have HXL1 := Lib.hid ((HXL0.out.keep hky1).more (K' := Ry1) fun i _ hi => hRy1 i hi)
            have HH1 := Lib.hid ((HH0.out.keep5 (hky1.mono fun _ _ _ hi => hi.1)).more (K' := fun i => Ry1 i ∧ Ty5 y1 i) fun i _ hi => ⟨hRy1 i hi.1, hi.2⟩)
            have HR1 := Lib.hid (fun i (hi : i < w.heap.size) => hRy1 i (HR0.out i hi))
            have HBY := Lib.hid (HB0.out.trans (hky1.below HB0.out.size fun i _ hi => HR0.out i hi))
            rcases HKA.out with ⟨s1, happ, hkp⟩ | ⟨s1, L1, cc, happ, hc0, hc12, hn60, hlm, hpf⟩
            · rw [happ] at hly1 ⊢
              have HLY1 := Lib.hid hly1
              have HKP1 := Lib.hid hkp
              obtain ⟨Am, cm, y2, vs2, hrm, hly2, hro2, hkm, hqm⟩ := row_more HLY1.out HRO1.out (by rw [HDL.out]; omega) HH1.out HTL.out (Nat.le_refl _) (by unfold maxLen; omega) (fun h => by cases h)
              rw [HDL.out] at hrm hro2 hqm
              have hxl2 : Has y2 (fun i => Ry1 i ∨ y1.heap.size ≤ i ∧ i < y2.heap.size) (some ⟨w6.heap.size, 0, none⟩) noneB := has_beside HXL1.out hkm HBQ.out fun _ hi => .inl hi
              have HLY2 := Lib.hid hly2
              have HRO2 := Lib.hid hro2
              clear happ hkp hly1 hly2 hro2 hRy1 hky1
              go_wp2_with (first | (go_at_call 15; refine (num_ _ _).mono ?_; rintro e w' ⟨rfl, rfl⟩) | (at_builtin; refine wpList_append_run rfl (.tmp 137) (.tmp 139) 37 37 rfl _ _ rfl rfl hrm ?_))
              have hbx : w6.heap.size < y1.heap.size := by
                obtain ⟨_, _, e, _, hb, _⟩ := HXL1.out (by decide)
                cases e; exact hb
              have hq2 : ∀ q, (Value.slice Am (dl + 1) cm).ownBlock = some q → w6.heap.size < q := fun q hq => by
                rcases hqm q hq with h | h
                · exact HBQ.out q (by rw [HDL.out]; exact h)
                · omega
              have hby2 : Below w.heap.size w y2 := HBY.out.trans (hkm.below HBY.out.size fun i _ hi e => by have := HBQ.out i e; have := HB6.out.size; omega)
              have hR2 : ∀ i, i < w.heap.size → (Ry1 i ∨ y1.heap.size ≤ i ∧ i < y2.heap.size) := fun i hi => .inl (HR1.out i hi)
              have hls : (Lx.add tb).ls = D ++ [tb] := by rw [← HDD.out]; rfl
              have HLS := Lib.hid hls
              have HXL2 := Lib.hid hxl2
              have HQ2 := Lib.hid hq2
              have HBY2 := Lib.hid hby2
              have HR2 := Lib.hid hR2
              have hdl1 : (Lx.add tb).ls.length ≤ jj + 1 := by rw [hls, List.length_append, List.length_singleton, HDL.out]; omega
              have HD1 := Lib.hid hdl1
              clear hkm hqm hxl2 hbx hq2 hby2 hR2 hls hdl1 hrm
              go_roundg (n2 - (jj + 1))
              case measure => have := HJJ.out; omega
              case rel => exact ⟨jj + 1, Lx.add tb, _, s1, vs2, by omega, by go_num, rfl, HLY2.out, by have := HKP1.out; rw [show 200 + 13 * (jj + 1) = 200 + 13 * jj + 13 by omega]; exact this, HD1.out, by rw [HLS.out]; exact HRO2.out, HXL2.out, HQ2.out, HR2.out, HBY2.out⟩
            · rw [happ] at hly1 ⊢
              have HPF : Hid (∀ k L', Opens (s1.crash k) (lg0 7 2 50) L' → L'.ls = D ∨ L'.ls = D ++ [tb]) := by rw [← HDD.out]; exact hpf
              have HNF : Hid (s1.n = 60) := hn60
              have HLI : Hid (s1.lim 900000) := lim_mono hlm (by omega)
              have HLF := Lib.hid hly1
              have HROf := Lib.hid HRO1.out
              have HLA := Lib.hid (HH1.out.more (K' := Ry1) fun _ _ hi => hi.1)
              have HRF := Lib.hid HR1.out
              have HBF := Lib.hid HBY.out
              have HLB := Lib.hid HTL.out
              have HCC : Hid (tl ≤ tl ∧ tl ≤ maxLen ∧ (some (⟨wr.heap.size, 0, none⟩ : Addr) = none → tl = 0)) := ⟨Nat.le_refl _, by unfold maxLen; omega, fun h => by cases h⟩
              clear hly1 hpf hlm happ hRy1 hky1
              clear HRO
              have HRO := HROf
              go_wp2_with (go_at_call 15; refine (num_ _ _).mono ?_; rintro e w' ⟨rfl, rfl⟩)
              go_wp2_with fail
              refine (log_crash HLF.out HLI.out (((HZ3.out.keep (Keep.of_below HBF.out))).more fun i _ hi => HRF.out i hi) m3).mono ?_
              rintro e x1 ⟨rfl, hx1, kx1⟩
              have HD1 := Lib.hid hx1.diskR
              have HW1 := Lib.hid (HRO.out.keep kx1)
              have HA1 := Lib.hid (HLA.out.keep kx1)
              have HX1 := Lib.hid (HBF.out.trans (kx1.below HBF.out.size fun i _ hi => HRF.out i hi))
              have hn1 : (s1.crash (stays ks)).n = 60 := by rw [St.n_crash]; exact HNF.out
              clear hx1 kx1
              go_wp2_with fail
              refine (open_ HD1.out 2 50 (by omega) (by omega) 7).mono ?_
              rintro e x2 ⟨gy, Ry, Ly, rfl, hRy, hly, hoy, hky⟩
              have hfound := HPF.out _ _ hoy
              have HLY := Lib.hid hly
              have HW2 := Lib.hid (HW1.out.keep hky)
              have HA2 := Lib.hid (HA1.out.keep hky)
              have HX2 := Lib.hid (HX1.out.trans (hky.below HX1.out.size fun i _ hi => HRF.out i hi))
              have HFD := Lib.hid hfound
              clear hRy hly hoy hky hfound
              go_wp2_with fail
              refine (records_ HLY.out).mono ?_
              rintro e x3 ⟨vy, rfl, hvy, hb3⟩
              obtain ⟨Ay, cy, rfl⟩ := hvy.slice
              have HVY := Lib.hid hvy
              have HW3 := Lib.hid (HW2.out.keep (Keep.of_below hb3))
              have HA3 := Lib.hid (HA2.out.below hb3)
              have HX3 := Lib.hid (HX2.out.trans (hb3.mono HX2.out.size))
              have hyn : Ly.ls.length ≤ 100000 := by
                have h1 := HDL.out
                rcases HFD.out with h | h
                · rw [h]; omega
                · rw [h, List.length_append, List.length_singleton]; omega
              have HWL := Lib.hid HW3.out.lists
              rw [HDL.out] at HWL
              clear hvy hb3
              generalize Ly.ls = fy at *
              go_wp2_with fail
              refine (same_ HVY.out HWL.out hyn).mono ?_
              rintro e x4 ⟨rfl, hb4⟩
              have HX4 := Lib.hid (HX3.out.trans (hb4.mono HX3.out.size))
              by_cases hsame : fy = D
              · rw [decide_eq_true hsame]
                clear hsame hb4
                go_wp2_with fail
                go_ret
                exact ⟨rfl, HX4.out⟩
              · rw [decide_eq_false hsame]
                have hf2 : fy = D ++ [tb] := by
                  rcases HFD.out with h | h
                  · exact absurd h hsame
                  · exact h
                have HF2 := Lib.hid hf2
                have HW4 := Lib.hid (HW3.out.keep (Keep.of_below hb4))
                have HVY4 := Lib.hid (HVY.out.below hb4)
                have HE4 := Lib.hid (HW4.out.held.more (K' := fun i => i < x4.heap.size) fun _ hi _ => hi)
                have HA4 := Lib.hid ((HA3.out.below hb4).more (K' := fun i => i < x4.heap.size) fun _ hi _ => hi)
                have hown := HW4.out.own
                rw [HDL.out] at hown
                obtain ⟨Ad', cd', Ae, ce, x5, hde, hcp, hoe, hb5, hne⟩ := rows_copy hown HW4.out.held (by omega)
                cases hde
                obtain ⟨Ag, cg, x6, hap6, ho6, hs6, hk6, hv6⟩ := row_append hoe (some ⟨wr.heap.size, 0, none⟩) tl tl (by omega)
                have hk46 : Keep (fun i _ => i < x4.heap.size) x4 x6 := (Keep.of_below hb5).trans (hk6.mono fun i _ _ hi e => by have := hne i e; omega)
                have hl6 : Lists x6 (fun _ => True) (.slice Ag (dl + 1) cg) (D ++ [tb]) := by
                  refine own_lists (R := fun i => i < x4.heap.size) (vs := vsD ++ [Value.slice (some ⟨wr.heap.size, 0, none⟩) tl tl]) ?_ ?_ (fun _ _ => trivial) (fun _ _ => trivial)
                  · have e : (D ++ [tb]).length = dl + 1 := by rw [List.length_append, List.length_singleton, HDL.out]
                    rw [e]; exact ho6
                  · have := HE4.out.snoc HA4.out (c := tl) (by rw [HLB.out]; exact HCC.out.1) HCC.out.2.1 HCC.out.2.2
                    rw [HLB.out] at this
                    exact this.keep hk46
                have HL6 := Lib.hid hl6
                have HVY6 := Lib.hid ((HVY4.out.more (K' := fun i => i < x4.heap.size) fun _ hi _ => hi).keep hk46)
                have HX6 := Lib.hid (HX4.out.trans (hk46.below HX4.out.size fun i _ hi => Nat.lt_of_lt_of_le hi HX4.out.size))
                clear hsame hf2 hb4 hb5 hoe hown ho6 hs6 hk6 hv6 hk46 hl6 hne
                go_wp2_with (first | (at_builtin; refine wpList_append_run_g (by rfl) (.const (.slice none 0 0)) (.tmp 155) 37 37 rfl _ _ rfl rfl hcp ?_) | (at_builtin; refine wpList_append_run_g (by rfl) (.tmp 156) (.tmp 158) 37 37 rfl _ _ rfl rfl hap6 ?_))
                refine (same_ HVY6.out HL6.out hyn).mono ?_
                rintro e x7 ⟨rfl, hb7⟩
                rw [decide_eq_true HF2.out]
                have HX7 := Lib.hid (HX6.out.trans (hb7.mono HX6.out.size))
                clear hb7
                go_wp2_with fail
                go_ret
                exact ⟨rfl, HX7.out⟩
          · have HPF : Hid (∀ k L', Opens (sx.crash k) (lg0 7 2 50) L' → L'.ls = D ∨ L'.ls = D ++ [noneB]) := fun k L' ho => .inl ((kp_end HKX.out k ho).trans HDD.out)
            have HNF : Hid (sx.n = 60) := HKX.out.n
            have HLI : Hid (sx.lim 900000) := lim_mono HKX.out.lim (by omega)
            have HLF := Lib.hid HLX.out
            have HLA := Lib.hid HXL.out
            have HBF := Lib.hid HBX.out
            have HLB : Hid (noneB.length = 4) := rfl
            have HCC : Hid (4 ≤ 4 ∧ 4 ≤ maxLen ∧ (some (⟨w6.heap.size, 0, none⟩ : Addr) = none → 4 = 0)) := ⟨Nat.le_refl _, by unfold maxLen; omega, fun h => by cases h⟩
            go_wp2_with fail
            refine (log_crash HLF.out HLI.out (((HZ3.out.keep (Keep.of_below HBF.out))).more fun i _ hi => HRF.out i hi) m3).mono ?_
            rintro e x1 ⟨rfl, hx1, kx1⟩
            have HD1 := Lib.hid hx1.diskR
            have HW1 := Lib.hid (HRO.out.keep kx1)
            have HA1 := Lib.hid (HLA.out.keep kx1)
            have HX1 := Lib.hid (HBF.out.trans (kx1.below HBF.out.size fun i _ hi => HRF.out i hi))
            have hn1 : (sx.crash (stays ks)).n = 60 := by rw [St.n_crash]; exact HNF.out
            clear hx1 kx1
            go_wp2_with fail
            refine (open_ HD1.out 2 50 (by omega) (by omega) 7).mono ?_
            rintro e x2 ⟨gy, Ry, Ly, rfl, hRy, hly, hoy, hky⟩
            have hfound := HPF.out _ _ hoy
            have HLY := Lib.hid hly
            have HW2 := Lib.hid (HW1.out.keep hky)
            have HA2 := Lib.hid (HA1.out.keep hky)
            have HX2 := Lib.hid (HX1.out.trans (hky.below HX1.out.size fun i _ hi => HRF.out i hi))
            have HFD := Lib.hid hfound
            clear hRy hly hoy hky hfound
            go_wp2_with fail
            refine (records_ HLY.out).mono ?_
            rintro e x3 ⟨vy, rfl, hvy, hb3⟩
            obtain ⟨Ay, cy, rfl⟩ := hvy.slice
            have HVY := Lib.hid hvy
            have HW3 := Lib.hid (HW2.out.keep (Keep.of_below hb3))
            have HA3 := Lib.hid (HA2.out.below hb3)
            have HX3 := Lib.hid (HX2.out.trans (hb3.mono HX2.out.size))
            have hyn : Ly.ls.length ≤ 100000 := by
              have h1 := HDL.out
              rcases HFD.out with h | h
              · rw [h]; omega
              · rw [h, List.length_append, List.length_singleton]; omega
            have HWL := Lib.hid HW3.out.lists
            rw [HDL.out] at HWL
            clear hvy hb3
            generalize Ly.ls = fy at *
            go_wp2_with fail
            refine (same_ HVY.out HWL.out hyn).mono ?_
            rintro e x4 ⟨rfl, hb4⟩
            have HX4 := Lib.hid (HX3.out.trans (hb4.mono HX3.out.size))
            by_cases hsame : fy = D
            · rw [decide_eq_true hsame]
              clear hsame hb4
              go_wp2_with fail
              go_ret
              exact ⟨rfl, HX4.out⟩
            · rw [decide_eq_false hsame]
              have hf2 : fy = D ++ [noneB] := by
                rcases HFD.out with h | h
                · exact absurd h hsame
                · exact h
              have HF2 := Lib.hid hf2
              have HW4 := Lib.hid (HW3.out.keep (Keep.of_below hb4))
              have HVY4 := Lib.hid (HVY.out.below hb4)
              have HE4 := Lib.hid (HW4.out.held.more (K' := fun i => i < x4.heap.size) fun _ hi _ => hi)
              have HA4 := Lib.hid ((HA3.out.below hb4).more (K' := fun i => i < x4.heap.size) fun _ hi _ => hi)
              have hown := HW4.out.own
              rw [HDL.out] at hown
              obtain ⟨Ad', cd', Ae, ce, x5, hde, hcp, hoe, hb5, hne⟩ := rows_copy hown HW4.out.held (by omega)
              cases hde
              obtain ⟨Ag, cg, x6, hap6, ho6, hs6, hk6, hv6⟩ := row_append hoe (some ⟨w6.heap.size, 0, none⟩) 4 4 (by omega)
              have hk46 : Keep (fun i _ => i < x4.heap.size) x4 x6 := (Keep.of_below hb5).trans (hk6.mono fun i _ _ hi e => by have := hne i e; omega)
              have hl6 : Lists x6 (fun _ => True) (.slice Ag (dl + 1) cg) (D ++ [noneB]) := by
                refine own_lists (R := fun i => i < x4.heap.size) (vs := vsD ++ [Value.slice (some ⟨w6.heap.size, 0, none⟩) 4 4]) ?_ ?_ (fun _ _ => trivial) (fun _ _ => trivial)
                · have e : (D ++ [noneB]).length = dl + 1 := by rw [List.length_append, List.length_singleton, HDL.out]
                  rw [e]; exact ho6
                · have := HE4.out.snoc HA4.out (c := 4) (by rw [HLB.out]; exact HCC.out.1) HCC.out.2.1 HCC.out.2.2
                  rw [HLB.out] at this
                  exact this.keep hk46
              have HL6 := Lib.hid hl6
              have HVY6 := Lib.hid ((HVY4.out.more (K' := fun i => i < x4.heap.size) fun _ hi _ => hi).keep hk46)
              have HX6 := Lib.hid (HX4.out.trans (hk46.below HX4.out.size fun i _ hi => Nat.lt_of_lt_of_le hi HX4.out.size))
              clear hsame hf2 hb4 hb5 hoe hown ho6 hs6 hk6 hv6 hk46 hl6 hne
              go_wp2_with (first | (at_builtin; refine wpList_append_run_g (by rfl) (.const (.slice none 0 0)) (.tmp 155) 37 37 rfl _ _ rfl rfl hcp ?_) | (at_builtin; refine wpList_append_run_g (by rfl) (.tmp 156) (.tmp 158) 37 37 rfl _ _ rfl rfl hap6 ?_))
              refine (same_ HVY6.out HL6.out hyn).mono ?_
              rintro e x7 ⟨rfl, hb7⟩
              rw [decide_eq_true HF2.out]
              have HX7 := Lib.hid (HX6.out.trans (hb7.mono HX6.out.size))
              clear hb7
              go_wp2_with fail
              go_ret
              exact ⟨rfl, HX7.out⟩
  · go_enter Try.func3, Try.ntmps3
    go_wp2_with fail
    refine (alive w).mono ?_
    rintro e w1 ⟨rfl, hb⟩
    have HB := Lib.hid hb
    clear hb
    go_wp2_with fail
    all_goals first | (go_ret; exact ⟨rfl, HB.out⟩) | (exfalso; omega)
end Go.Proofs.Ytmpkgnmijnjddaa
