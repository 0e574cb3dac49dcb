/- . . -/
import Derived.Test.YtjfoflbaoceemaaGreatJ47
import Derived.Test.YtjfoflbaoceemaaGreatJ45
import Derived.Test.YtjfoflbaoceemaaGreatJ46
set_option maxRecDepth 4000
namespace Go.Proofs.YtjfoflbaoceemaaGreat
open Go.RowKit
section
variable {w : World} {b g gd : Nat} {R Q : Nat → Prop} {sv : Sv} {xs : List Oc} {d d1 : Dk} {K K1 : Ks} {v : Bool}
abbrev Ld4K (b g gd : Nat) (next : Int) (sv : Sv) (W : World) : Prop := W.cell? ⟨b, 0, none⟩ = some (ptr g) ∧ W.cell? ⟨b, 1, none⟩ = some (.int .i64 next) ∧ W.cell? ⟨b, 2, none⟩ = some (.slice sv.a sv.n sv.c) ∧ W.cell? ⟨g, 0, none⟩ = some (ptr gd)
theorem KsM.ld4 (h : KsM w b g gd R Q sv xs d K) : Ld4K b g gd K.st.next sv w := ⟨h.cells.1, h.cells.2.1, h.cells.2.2.1, h.gcell⟩
theorem obs_all {P : Ob → Prop} (h : ∀ o ∈ obsOf xs, P o) : ∀ x ∈ xs, P x.o := fun _ hx => h _ (List.mem_map_of_mem hx)
theorem bytesK_ (h : KsM w b g gd R Q sv xs d K) (hb : Base K.st) : Calls Tryz.prog 75 #[.agg #[.int .i64 K.st.next, .slice sv.a sv.n sv.c]] w fun e w' => (∃ v, e = .returned v ∧ OwnBy w' w.heap.size v (bytesK K.st)) ∧ Below w.heap.size w w' := by
  have := bytes_n w _ sv xs h.obs (obs_all (P := fun o => o.short 450) (by rw [h.eq]; exact fun o ho => by obtain ⟨a, b, c⟩ := hb.short o ho; exact ⟨by omega, by omega, by omega⟩)) (obs_all (P := fun o => o.fits) (by rw [h.eq]; exact hb.right.fits)) (obs_all (P := fun o => ∀ r ∈ o.rows, r.1.size ≤ maxLen) (by rw [h.eq]; exact hb.right.keys)) K.st.next (by
    rw [h.eq]
    intro _
    have h1 := image_le K.st.next K.st.objs
    have h2 := hb.size
    omega)
  rw [h.eq] at this
  exact this
theorem wrP_yes {w w' : World} {gd : Nat} {R : Nat → Prop} {d : Dk} {e : Ending} (h : WrP w gd R errno (d, true) e w') : e = .returned (.int .i64 0) ∧ DiskR w' gd R d ∧ Keep (fun i _ => R i) w w' := h
theorem wrP_no {w w' : World} {gd : Nat} {R : Nat → Prop} {d : Dk} {e : Ending} (h : WrP w gd R errno (d, false) e w') : e = .returned (.int .i64 12) ∧ DiskR w' gd R d ∧ Keep (fun i _ => R i) w w' := h
theorem lay_n {p : Pl} {s t : Dk} {e m : Nat} {bs : List UInt8} {v : Bool} (h : s.lim m) (hok : s.ok) (hl : p.lay s e bs = (t, v)) : t.n = s.n := by
  obtain ⟨s1, b1, h1⟩ : ∃ s1 b1, s.put (p.image e : Nat) bs = (s1, b1) := ⟨_, _, rfl⟩
  obtain ⟨l1, n1, _⟩ := put_lim h hok h1
  cases b1
  · rw [rlay_1 h1] at hl
    cases hl
    exact n1
  · obtain ⟨s2, b2, h2⟩ : ∃ s2 b2, s1.tryS = (s2, b2) := ⟨_, _, rfl⟩
    obtain ⟨l2, n2⟩ := tryS_lim l1 h2
    cases b2
    · rw [rlay_2 h1 h2] at hl
      cases hl
      exact n2.trans n1
    · obtain ⟨s3, b3, h3⟩ : ∃ s3 b3, s2.tryW (p.root e) (rootB e bs.length) = (s3, b3) := ⟨_, _, rfl⟩
      obtain ⟨l3, n3⟩ := tryW_lim l2 h3
      cases b3
      · rw [rlay_3 h1 h2 h3] at hl
        cases hl
        exact n3.trans (n2.trans n1)
      · obtain ⟨s5, b5, h5⟩ : ∃ s5 b5, s3.tryS = (s5, b5) := ⟨_, _, rfl⟩
        rw [rlay_4 h1 h2 h3 h5] at hl
        cases hl
        exact (tryS_lim l3 h5).2.trans (n3.trans (n2.trans n1))
theorem rootsWrite {W : World} {gd : Nat} {P' : Nat → Prop} {d2 d3 : Dk} {v3 : Bool} {A : Option Addr} {c : Nat} {bs : List UInt8} (hd : DiskR W gd P' d2) (hl : d2.lim 400000) (hh : Has W P' A bs) (hc : bs.length ≤ c) (hlen : bs.length ≤ 6144) (e : Nat) (he : e ≤ 900000) (hn : 354 ≤ d2.n) (hy : keepP.lay d2 (e + 1) bs = (d3, v3)) :
    Calls Tryz.prog 74 #[ptr gd, .int .i64 0, .int .i64 96, .int .i64 ((e : Int) + 1), .slice A bs.length c] W (WrP W gd P' errno (d3, v3)) := by
  have h1 := write_of hd hl 0 96 (by omega) hh rfl hc (by show bs.length ≤ 96 * 64; omega) (e + 1) (by omega) (by omega) (by show 0 + (e + 1) % 2 < d2.n; omega)
  rw [show cutR 96 = 96 from rfl] at h1
  have h2 : (⟨0, 96⟩ : Pl).lay d2 (e + 1) bs = (d3, v3) := hy
  rw [h2] at h1
  exact h1
def RenewP (w : World) (b gd : Nat) (R : Nat → Prop) (d1 : Dk) (K1 : Ks) (v : Bool) (e : Ending) (w' : World) : Prop := e = .returned (.bool v) ∧ KsAt w' b gd R d1 K1 ∧ Keep (fun i _ => R i) w w'
theorem KsM.turn_log (h : KsM w b g gd R Q sv xs d K) {w5 : World} {g5 : Nat} {P P5 : Nat → Prop} {L : Lg} {d2 : Dk} (hQP : ∀ i, Q i → P i) (hk : Keep (fun i _ => P i) w w5) (hP : ∀ i, P i → P5 i) (hl : LogAt w5 g5 gd P5 d2 L) (e : Nat) :
    KsAt ((w5.setCell ⟨b, 3, none⟩ (.int .i64 (e : Int))).setCell ⟨b, 0, none⟩ (ptr g5)) b gd R d2 { K with e := e, L := L } ∧ Keep (fun i _ => R i) w5 ((w5.setCell ⟨b, 3, none⟩ (.int .i64 (e : Int))).setCell ⟨b, 0, none⟩ (ptr g5)) := by
  have hbox := h.box.keep hk (hQP b h.qb)
  have k : Keep (fun i _ => i ≠ b) w5 ((w5.setCell ⟨b, 3, none⟩ (.int .i64 (e : Int))).setCell ⟨b, 0, none⟩ (ptr g5)) := ((Keep.refl w5).setCell (p := ⟨b, 3, none⟩) (fun _ _ hk => hk rfl) _).setCell (p := ⟨b, 0, none⟩) (fun _ _ hk => hk rfl) _
  refine ⟨⟨g5, P5, sv, xs, hl.beside k (hP b (hQP b h.qb)) hbox (by decide), ?_, hP b (hQP b h.qb), fun i hi => ⟨hP i (hQP i (h.qr i hi).1), (h.qr i hi).2⟩, ?_, h.eq⟩, k.mono fun i _ _ hi => (h.qr i hi).2⟩
  · have := (hbox.set_ 3 (.int .i64 (e : Int))).set_ 0 (ptr g5)
    simpa [kCells] using this
  · exact ((h.obs.keep hk fun i _ _ hi => hQP i hi.1).keep k fun i _ _ hi => hi.2).more fun i _ hi => ⟨hP i (hQP i hi.1), hi.2⟩
set_option maxHeartbeats 4000000 in
theorem renew_ (h : KsM w b g gd R Q sv xs d K) (hn : 354 ≤ d.n) (hl : d.lim 300000) (hb : Base K.st) (he : K.e ≤ 900000) (hr : rnK d K = (d1, K1, v)) : Calls Tryz.prog 44 #[ptr b] w (RenewP w b gd R d1 K1 v) := by
  obtain ⟨P, hP, hQP, hPb, hPg, hU⟩ := h.under
  have hok := hP.ok
  obtain ⟨d2, v2, hcl⟩ : ∃ d2 v2, clK d (K.e + 1) = (d2, v2) := ⟨_, _, rfl⟩
  have hd2 : d2.n = d.n ∧ d2.lim 300001 := by
    unfold clK at hcl
    split at hcl
    · cases hcl; exact ⟨rfl, lim_mono hl (by omega)⟩
    · obtain ⟨a, b⟩ := tryW_lim hl hcl
      exact ⟨b, lim_mono a (by omega)⟩
  have hcl2 := fun W (k : Below w.heap.size w W) => cleared_ (hP.below k) hn (lim_mono hl (by omega)) (K.e + 1) hcl
  have hcast : ((K.e + 1 : Nat) : Int) = (K.e : Int) + 1 := by omega
  rw [hcast] at hcl2
  have HCL := ShutK.mk hcl2
  have HCLE := ShutK.mk hcl
  have HR := ShutK.mk hr
  have H := ShutK.mk h
  have HU := ShutK.mk hU
  have HQP := ShutK.mk hQP
  have HP := ShutK.mk hP
  have HN2 := ShutK.mk hd2.1
  have HL2 := ShutK.mk hd2.2
  have HN := ShutK.mk hn
  have HBS := ShutK.mk hb
  have HRP := ShutK.mk fun i (hi : R i) => hQP i (h.qr i hi).1
  have HCAST := ShutK.mk hcast
  obtain ⟨c0, c1, c2, c3, _, hlt⟩ := h.cells
  have cg := h.gcell
  have hS0 : ShutK (Ld4K b g gd K.st.next sv w.drew) := ⟨h.ld4⟩
  clear hcl2 hcl hr h hU hQP hP hd2 hn hb hcast hPb hPg hl
  go_enter Tryz.func44, Tryz.ntmps44
  go_upto_region 2 with fail
  cases v2
  · have e1 := rnK_no HCLE.out
    rw [HR.out] at e1
    have E1 := ShutK.mk e1
    clear e1
    refine wp_region_noPanic ?_
    refine wp_region_held_drew (S := fun W : World => Ld4K b g gd K.st.next sv W) (by kernel_rfl) hS0.out (fun _ => ?_)
    refine wpAnyH_take (i := 0) (oi := { dst := some 9, op := Op.move (Operand.tmp 0), type := 29, pos := "disk.go:72", after := #[], guard := none }) (v := ptr b) rfl (by kernel_rfl) (by kernel_rfl) (by kernel_rfl) (fun _ _ _ h => h) (Or.inl ⟨by rfl, ?_⟩) hS0.out ?_
    · intro W hSw; clear hSw; go_simp
    try simp only [Act.put, zA1, zA2, zA3]
    refine wpAnyH_take (i := 1) (oi := { dst := some 10, op := Op.nilCheck (Operand.tmp 9), type := 0, pos := "disk.go:72", after := #[{ on := 0, ground := Ground.data }], guard := none }) (v := .pointer (some ⟨b, 0, none⟩)) rfl (by kernel_rfl) (by kernel_rfl) (by kernel_rfl) (fun _ _ _ h => h) (Or.inl ⟨by rfl, ?_⟩) hS0.out ?_
    · intro W hSw; clear hSw; go_simp
    try simp only [Act.put, zA1, zA2, zA3]
    refine wpAnyH_take (i := 2) (oi := { dst := some 11, op := Op.fieldAddr 93 (Operand.tmp 10) 0, type := 0, pos := "disk.go:72", after := #[{ on := 1, ground := Ground.data }], guard := none }) (v := .pointer (some ⟨b, 0, none⟩)) rfl (by kernel_rfl) (by kernel_rfl) (by kernel_rfl) (fun _ _ _ h => h) (Or.inl ⟨by rfl, ?_⟩) hS0.out ?_
    · intro W hSw; clear hSw; go_simp
    try simp only [Act.put, zA1, zA2, zA3]
    refine wpAnyH_take (i := 3) (oi := { dst := some 12, op := Op.load 91 (Operand.tmp 11), type := 91, pos := "disk.go:72", after := #[{ on := 2, ground := Ground.data }], guard := none }) (v := ptr g) rfl (by kernel_rfl) (by kernel_rfl) (by kernel_rfl) (fun _ _ _ h => h) (Or.inl ⟨by rfl, ?_⟩) hS0.out ?_
    · intro W hSw; obtain ⟨q0, q1, q2, q3⟩ := hSw; go_simp
    try simp only [Act.put, zA1, zA2, zA3]
    refine wpAnyH_take (i := 4) (oi := { dst := some 13, op := Op.nilCheck (Operand.tmp 12), type := 0, pos := "disk.go:72", after := #[{ on := 3, ground := Ground.data }], guard := none }) (v := .pointer (some ⟨g, 0, none⟩)) rfl (by kernel_rfl) (by kernel_rfl) (by kernel_rfl) (fun _ _ _ h => h) (Or.inl ⟨by rfl, ?_⟩) hS0.out ?_
    · intro W hSw; clear hSw; go_simp
    try simp only [Act.put, zA1, zA2, zA3]
    refine wpAnyH_take (i := 5) (oi := { dst := some 14, op := Op.fieldAddr 133 (Operand.tmp 13) 0, type := 0, pos := "disk.go:72", after := #[{ on := 4, ground := Ground.data }], guard := none }) (v := .pointer (some ⟨g, 0, none⟩)) rfl (by kernel_rfl) (by kernel_rfl) (by kernel_rfl) (fun _ _ _ h => h) (Or.inl ⟨by rfl, ?_⟩) hS0.out ?_
    · intro W hSw; clear hSw; go_simp
    try simp only [Act.put, zA1, zA2, zA3]
    refine wpAnyH_take (i := 6) (oi := { dst := some 15, op := Op.load 24 (Operand.tmp 14), type := 24, pos := "disk.go:72", after := #[{ on := 5, ground := Ground.data }], guard := none }) (v := ptr gd) rfl (by kernel_rfl) (by kernel_rfl) (by kernel_rfl) (fun _ _ _ h => h) (Or.inl ⟨by rfl, ?_⟩) hS0.out ?_
    · intro W hSw; obtain ⟨q0, q1, q2, q3⟩ := hSw; go_simp
    try simp only [Act.put, zA1, zA2, zA3]
    refine wpAnyH_take (i := 7) (oi := { dst := some 16, op := Op.move (Operand.tmp 3), type := 3, pos := "disk.go:72", after := #[], guard := none }) (v := .int .i64 ((K.e : Int) + 1)) rfl (by kernel_rfl) (by kernel_rfl) (by kernel_rfl) (fun _ _ _ h => h) (Or.inl ⟨by rfl, ?_⟩) hS0.out ?_
    · intro W hSw; clear hSw; go_simp
    try simp only [Act.put, zA1, zA2, zA3]
    refine wpAnyH_1 (i := 8) (by kernel_rfl) (wpOp_call (o := { dst := some 17, op := Op.call { callee := Callee.value (Operand.func 73), args := #[Operand.tmp 15, Operand.tmp 16], argTypes := #[24, 3] }, type := 4, pos := "disk.go:72", after := #[{ on := 6, ground := Ground.data }, { on := 7, ground := Ground.data }], guard := none }) (f := 73) rfl (by rfl) (by go_simp) ((HCL.out _ (Below.refl _ _).drew).mono ?_))
    rintro e w2 ⟨rfl, hd2, hk2⟩
    have H2 := ShutK.mk (HU.out w2 d2 hd2 (((Keep.refl w).drew).trans hk2) HN2.out)
    have HK2 := ShutK.mk ((((Keep.refl w).drew).trans hk2).mono fun i _ _ hi => HRP.out i hi)
    have hS2 : ShutK (Ld4K b g gd K.st.next sv w2) := ⟨H2.out.ld4⟩
    clear hd2 hk2
    refine ⟨_, rfl, hS2.out, ?_⟩
    try simp only [Act.put, zA1, zA2, zA3]
    refine wpAnyH_take (i := 9) (oi := { dst := some 18, op := Op.unOp UnOp.not 4 (Operand.tmp 17), type := 4, pos := "disk.go:72", after := #[{ on := 8, ground := Ground.data }], guard := none }) (v := .bool true) rfl (by kernel_rfl) (by kernel_rfl) (by kernel_rfl) (fun _ _ _ h => h) (Or.inl ⟨by rfl, ?_⟩) hS2.out ?_
    · intro W hSw; clear hSw; go_simp
    try simp only [Act.put, zA1, zA2, zA3]
    refine wpAnyH_take (i := 10) (oi := { dst := some 19, op := Op.move (Operand.tmp 18), type := 4, pos := "disk.go:72", after := #[{ on := 9, ground := Ground.data }, { on := 8, ground := Ground.chain }], guard := none }) (v := .bool true) rfl (by kernel_rfl) (by kernel_rfl) (by kernel_rfl) (fun _ _ _ h => h) (Or.inl ⟨by rfl, ?_⟩) hS2.out ?_
    · intro W hSw; clear hSw; go_simp
    try simp only [Act.put, zA1, zA2, zA3]
    refine wpAnyH_take (i := 11) (oi := { dst := some 20, op := Op.move (Operand.tmp 0), type := 29, pos := "disk.go:72", after := #[{ on := 10, ground := Ground.guard }], guard := some (10, false) }) (v := undef) rfl (by kernel_rfl) (by kernel_rfl) (by kernel_rfl) (fun _ _ _ h => h) (Or.inr ⟨by rfl, rfl⟩) hS2.out ?_
    try simp only [Act.put, zA1, zA2, zA3]
    refine wpAnyH_take (i := 12) (oi := { dst := some 21, op := Op.nilCheck (Operand.tmp 20), type := 0, pos := "disk.go:72", after := #[{ on := 11, ground := Ground.data }, { on := 10, ground := Ground.guard }], guard := some (10, false) }) (v := undef) rfl (by kernel_rfl) (by kernel_rfl) (by kernel_rfl) (fun _ _ _ h => h) (Or.inr ⟨by rfl, rfl⟩) hS2.out ?_
    try simp only [Act.put, zA1, zA2, zA3]
    refine wpAnyH_take (i := 13) (oi := { dst := some 22, op := Op.fieldAddr 93 (Operand.tmp 21) 0, type := 0, pos := "disk.go:72", after := #[{ on := 12, ground := Ground.data }, { on := 10, ground := Ground.guard }], guard := some (10, false) }) (v := undef) rfl (by kernel_rfl) (by kernel_rfl) (by kernel_rfl) (fun _ _ _ h => h) (Or.inr ⟨by rfl, rfl⟩) hS2.out ?_
    try simp only [Act.put, zA1, zA2, zA3]
    refine wpAnyH_take (i := 14) (oi := { dst := some 23, op := Op.load 91 (Operand.tmp 22), type := 91, pos := "disk.go:72", after := #[{ on := 13, ground := Ground.data }, { on := 10, ground := Ground.guard }], guard := some (10, false) }) (v := undef) rfl (by kernel_rfl) (by kernel_rfl) (by kernel_rfl) (fun _ _ _ h => h) (Or.inr ⟨by rfl, rfl⟩) hS2.out ?_
    try simp only [Act.put, zA1, zA2, zA3]
    refine wpAnyH_take (i := 15) (oi := { dst := some 24, op := Op.nilCheck (Operand.tmp 23), type := 0, pos := "disk.go:72", after := #[{ on := 14, ground := Ground.data }, { on := 10, ground := Ground.guard }], guard := some (10, false) }) (v := undef) rfl (by kernel_rfl) (by kernel_rfl) (by kernel_rfl) (fun _ _ _ h => h) (Or.inr ⟨by rfl, rfl⟩) hS2.out ?_
    try simp only [Act.put, zA1, zA2, zA3]
    refine wpAnyH_take (i := 16) (oi := { dst := some 25, op := Op.fieldAddr 133 (Operand.tmp 24) 0, type := 0, pos := "disk.go:72", after := #[{ on := 15, ground := Ground.data }, { on := 10, ground := Ground.guard }], guard := some (10, false) }) (v := undef) rfl (by kernel_rfl) (by kernel_rfl) (by kernel_rfl) (fun _ _ _ h => h) (Or.inr ⟨by rfl, rfl⟩) hS2.out ?_
    try simp only [Act.put, zA1, zA2, zA3]
    refine wpAnyH_take (i := 17) (oi := { dst := some 26, op := Op.load 24 (Operand.tmp 25), type := 24, pos := "disk.go:72", after := #[{ on := 16, ground := Ground.data }, { on := 10, ground := Ground.guard }], guard := some (10, false) }) (v := undef) rfl (by kernel_rfl) (by kernel_rfl) (by kernel_rfl) (fun _ _ _ h => h) (Or.inr ⟨by rfl, rfl⟩) hS2.out ?_
    try simp only [Act.put, zA1, zA2, zA3]
    refine wpAnyH_take (i := 18) (oi := { dst := some 27, op := Op.move (Operand.tmp 3), type := 3, pos := "disk.go:72", after := #[{ on := 10, ground := Ground.guard }], guard := some (10, false) }) (v := undef) rfl (by kernel_rfl) (by kernel_rfl) (by kernel_rfl) (fun _ _ _ h => h) (Or.inr ⟨by rfl, rfl⟩) hS2.out ?_
    try simp only [Act.put, zA1, zA2, zA3]
    refine wpAnyH_take (i := 19) (oi := { dst := some 28, op := Op.move (Operand.tmp 0), type := 29, pos := "disk.go:72", after := #[{ on := 10, ground := Ground.guard }], guard := some (10, false) }) (v := undef) rfl (by kernel_rfl) (by kernel_rfl) (by kernel_rfl) (fun _ _ _ h => h) (Or.inr ⟨by rfl, rfl⟩) hS2.out ?_
    try simp only [Act.put, zA1, zA2, zA3]
    refine wpAnyH_take (i := 20) (oi := { dst := some 29, op := Op.nilCheck (Operand.tmp 28), type := 0, pos := "disk.go:72", after := #[{ on := 19, ground := Ground.data }, { on := 10, ground := Ground.guard }], guard := some (10, false) }) (v := undef) rfl (by kernel_rfl) (by kernel_rfl) (by kernel_rfl) (fun _ _ _ h => h) (Or.inr ⟨by rfl, rfl⟩) hS2.out ?_
    try simp only [Act.put, zA1, zA2, zA3]
    refine wpAnyH_take (i := 21) (oi := { dst := some 30, op := Op.fieldAddr 93 (Operand.tmp 29) 1, type := 0, pos := "disk.go:72", after := #[{ on := 20, ground := Ground.data }, { on := 10, ground := Ground.guard }], guard := some (10, false) }) (v := undef) rfl (by kernel_rfl) (by kernel_rfl) (by kernel_rfl) (fun _ _ _ h => h) (Or.inr ⟨by rfl, rfl⟩) hS2.out ?_
    try simp only [Act.put, zA1, zA2, zA3]
    refine wpAnyH_take (i := 22) (oi := { dst := some 31, op := Op.load 54 (Operand.tmp 30), type := 54, pos := "disk.go:72", after := #[{ on := 21, ground := Ground.data }, { on := 10, ground := Ground.guard }], guard := some (10, false) }) (v := undef) rfl (by kernel_rfl) (by kernel_rfl) (by kernel_rfl) (fun _ _ _ h => h) (Or.inr ⟨by rfl, rfl⟩) hS2.out ?_
    try simp only [Act.put, zA1, zA2, zA3]
    refine wpAnyH_take (i := 23) (oi := { dst := some 32, op := Op.call { callee := Callee.value (Operand.func 75), args := #[Operand.tmp 31], argTypes := #[54] }, type := 42, pos := "disk.go:73", after := #[{ on := 22, ground := Ground.data }, { on := 10, ground := Ground.chain }, { on := 10, ground := Ground.guard }], guard := some (10, false) }) (v := undef) rfl (by kernel_rfl) (by kernel_rfl) (by kernel_rfl) (fun _ _ _ h => h) (Or.inr ⟨by rfl, rfl⟩) hS2.out ?_
    try simp only [Act.put, zA1, zA2, zA3]
    refine wpAnyH_take (i := 24) (oi := { dst := some 33, op := Op.call { callee := Callee.value (Operand.func 74), args := #[Operand.tmp 26, Operand.const (Value.int IntKind.i64 0), Operand.const (Value.int IntKind.i64 96), Operand.tmp 27, Operand.tmp 32], argTypes := #[24, 3, 3, 3, 42] }, type := 30, pos := "disk.go:73", after := #[{ on := 17, ground := Ground.data }, { on := 18, ground := Ground.data }, { on := 23, ground := Ground.data }, { on := 23, ground := Ground.chain }, { on := 10, ground := Ground.guard }], guard := some (10, false) }) (v := undef) rfl (by kernel_rfl) (by kernel_rfl) (by kernel_rfl) (fun _ _ _ h => h) (Or.inr ⟨by rfl, rfl⟩) hS2.out ?_
    try simp only [Act.put, zA1, zA2, zA3]
    refine wpAnyH_take (i := 25) (oi := { dst := some 34, op := Op.binOp BinOp.neq 30 (Operand.tmp 33) (Operand.const (Value.int IntKind.i64 0)) 30, type := 4, pos := "disk.go:72", after := #[{ on := 24, ground := Ground.data }, { on := 10, ground := Ground.guard }], guard := some (10, false) }) (v := undef) rfl (by kernel_rfl) (by kernel_rfl) (by kernel_rfl) (fun _ _ _ h => h) (Or.inr ⟨by rfl, rfl⟩) hS2.out ?_
    try simp only [Act.put, zA1, zA2, zA3]
    refine wpAnyH_take (i := 26) (oi := { dst := some 35, op := Op.pick (Operand.tmp 19) (Operand.const (Value.bool true)) (Operand.tmp 34), type := 4, pos := "disk.go:72", after := #[{ on := 10, ground := Ground.data }, { on := 25, ground := Ground.data }], guard := none }) (v := .bool true) rfl (by kernel_rfl) (by kernel_rfl) (by kernel_rfl) (fun _ _ _ h => h) (Or.inl ⟨by rfl, ?_⟩) hS2.out ?_
    · intro W hSw; clear hSw; go_simp
    try simp only [Act.put, zA1, zA2, zA3]
    refine wpAnyH_done (by kernel_rfl) ?_ _
    refine NoPanic.normal ?_
    go_wp2_with fail
    go_ret
    obtain ⟨rfl, e2⟩ := Prod.mk.inj E1.out
    obtain ⟨rfl, rfl⟩ := Prod.mk.inj e2
    exact ⟨rfl, ⟨g, Q, sv, xs, H2.out⟩, HK2.out⟩
  · obtain ⟨d3, v3, hly⟩ : ∃ d3 v3, keepP.lay d2 (K.e + 1) (bytesK K.st) = (d3, v3) := ⟨_, _, rfl⟩
    have hlk : layK d2 (K.e + 1) K.st = (d3, v3) := by rw [lay_fits HBS.out]; exact hly
    have hblen := HBS.out.bytes.2.1
    have hok2 : d2.ok := by
      have h1 := HCLE.out
      unfold clK at h1
      split at h1
      · cases h1; exact hok
      · unfold Dk.tryW at h1
        split at h1
        · cases h1
        · cases h1; exact hok.wr (by have := HN.out; omega) (zeros_length 64)
    have hn3 : d3.n = d.n := (lay_n HL2.out hok2 hly).trans HN2.out
    have HN3 := ShutK.mk hn3
    have e1 := rnK_yes HCLE.out
    rw [HR.out] at e1
    obtain ⟨bs, hbs⟩ : ∃ bs, bytesK K.st = bs := ⟨_, rfl⟩
    have hwr : ∀ (W : World) (P' : Nat → Prop) (A : Option Addr) (c : Nat), DiskR W gd P' d2 → Has W P' A bs → bs.length ≤ c → Calls Tryz.prog 74 #[ptr gd, .int .i64 0, .int .i64 96, .int .i64 ((K.e : Int) + 1), .slice A bs.length c] W (WrP W gd P' errno (d3, v3)) := fun W P' A c hd hh hc => by
      subst hbs
      exact rootsWrite hd (lim_mono HL2.out (by omega)) hh hc (by omega) K.e he (by have := HN2.out; have := HN.out; omega) hly
    have HWR := ShutK.mk hwr
    have HBE := ShutK.mk hbs
    have HLK := ShutK.mk hlk
    have E1 := ShutK.mk e1
    clear hly hlk hblen hok2 hn3 e1 hwr hok
    cases v3
    · have e2 := E1.out.trans (imK_no HLK.out)
      have E2 := ShutK.mk e2
      clear e2
      go_region_held3 (fun W : World => Ld4K b g gd K.st.next sv W)
        (first | with_reducible exact hS0.out | with_reducible exact hS2.out | with_reducible exact hS3.out | with_reducible exact hS4.out)
        (first | (go_at_call 74; refine (HWR.out _ _ _ _ HD3.out HH3.out hc3).mono ?_; intro e w4 hw; obtain ⟨rfl, hd4, hk4⟩ := wrP_no hw; have HD4 := ShutK.mk (hd4.keep (R' := P) fun i hi => .inl hi); have HK4 := ShutK.mk (HK3.out.trans (hk4.mono fun i _ _ hi => .inl hi)); have H4 := ShutK.mk (HU.out w4 d3 HD4.out HK4.out HN3.out); have hS4 : ShutK (Ld4K b g gd K.st.next sv w4) := ⟨H4.out.ld4⟩; clear hw hd4 hk4) | (go_at_call 75; refine (bytesK_ H2.out HBS.out).mono ?_; rintro e w3 ⟨⟨v3, rfl, ho3⟩, hb3⟩; rw [HBE.out] at ho3; obtain ⟨A3, c3, rfl, hh3, hc3, hm3, hA3⟩ := own_has ho3; have HD3 := ShutK.mk (HD2.out.grow hb3); have HH3 := ShutK.mk (Has.more hh3 (K' := fun i => P i ∨ w2.heap.size ≤ i ∧ i < w3.heap.size) fun i h1 h2 => .inr ⟨h2.1, h1⟩); have HK3 := ShutK.mk (HK2.out.trans (Keep.of_below hb3)); have hS3 : ShutK (Ld4K b g gd K.st.next sv w3) := ⟨(H2.out.below hb3).ld4⟩; clear ho3 hb3 hh3 hA3) | (go_at_call 73; refine (HCL.out _ (by exact (Below.refl _ _).drew)).mono ?_; rintro e w2 ⟨rfl, hd2, hk2⟩; have HD2 := ShutK.mk hd2; have H2 := ShutK.mk (HU.out w2 d2 hd2 (((Keep.refl w).drew).trans hk2) HN2.out); have HK2 := ShutK.mk (((Keep.refl w).drew).trans hk2); have hS2 : ShutK (Ld4K b g gd K.st.next sv w2) := ⟨H2.out.ld4⟩; clear hd2 hk2))
      go_wp2_with fail
      go_ret
      obtain ⟨rfl, e3⟩ := Prod.mk.inj E2.out
      obtain ⟨rfl, rfl⟩ := Prod.mk.inj e3
      exact ⟨rfl, ⟨g, Q, sv, xs, H4.out⟩, HK4.out.mono fun i _ _ hi => HRP.out i hi⟩
    · have e2 := E1.out.trans (imK_yes HLK.out)
      have E2 := ShutK.mk e2
      clear e2
      go_region_held3 (fun W : World => Ld4K b g gd K.st.next sv W)
        (first | with_reducible exact hS0.out | with_reducible exact hS2.out | with_reducible exact hS3.out | with_reducible exact hS4.out)
        (first | (go_at_call 74; refine (HWR.out _ _ _ _ HD3.out HH3.out hc3).mono ?_; intro e w4 hw; obtain ⟨rfl, hd4, hk4⟩ := wrP_yes hw; have HD4 := ShutK.mk (hd4.keep (R' := P) fun i hi => .inl hi); have HK4 := ShutK.mk (HK3.out.trans (hk4.mono fun i _ _ hi => .inl hi)); have H4 := ShutK.mk (HU.out w4 d3 HD4.out HK4.out HN3.out); have hS4 : ShutK (Ld4K b g gd K.st.next sv w4) := ⟨H4.out.ld4⟩; clear hw hd4 hk4) | (go_at_call 75; refine (bytesK_ H2.out HBS.out).mono ?_; rintro e w3 ⟨⟨v3, rfl, ho3⟩, hb3⟩; rw [HBE.out] at ho3; obtain ⟨A3, c3, rfl, hh3, hc3, hm3, hA3⟩ := own_has ho3; have HD3 := ShutK.mk (HD2.out.grow hb3); have HH3 := ShutK.mk (Has.more hh3 (K' := fun i => P i ∨ w2.heap.size ≤ i ∧ i < w3.heap.size) fun i h1 h2 => .inr ⟨h2.1, h1⟩); have HK3 := ShutK.mk (HK2.out.trans (Keep.of_below hb3)); have hS3 : ShutK (Ld4K b g gd K.st.next sv w3) := ⟨(H2.out.below hb3).ld4⟩; clear ho3 hb3 hh3 hA3) | (go_at_call 73; refine (HCL.out _ (by exact (Below.refl _ _).drew)).mono ?_; rintro e w2 ⟨rfl, hd2, hk2⟩; have HD2 := ShutK.mk hd2; have H2 := ShutK.mk (HU.out w2 d2 hd2 (((Keep.refl w).drew).trans hk2) HN2.out); have HK2 := ShutK.mk (((Keep.refl w).drew).trans hk2); have hS2 : ShutK (Ld4K b g gd K.st.next sv w2) := ⟨H2.out.ld4⟩; clear hd2 hk2))
      clear hS2 hS3 hS4 hS0 HK2 HK3 HD2 HD3
      obtain ⟨p0, p1, p2, p3⟩ := H4.out.ld4
      have ho4 := openLog_ HD4.out (by rw [HN3.out]; exact HN.out) (K.e + 1)
      rw [HCAST.out] at ho4
      have HO4 := ShutK.mk ho4
      have hlt4 := H4.out.box.lt
      clear ho4
      go_wp2_with fail
      refine HO4.out.mono ?_
      rintro e w5 ⟨g5, P5, rfl, hP5, hl5, hk5⟩
      have hk5' := HK4.out.trans hk5
      have hbx := H.out.box.keep hk5' (HQP.out b H.out.qb)
      have f0 := hbx.frozen 0
      have f3 := hbx.frozen 3
      have x0 := hbx.cell 0
      have x3 := hbx.cell 3
      have ht := H.out.turn_log HQP.out hk5' hP5 hl5 (K.e + 1)
      rw [HCAST.out] at ht
      have HT := ShutK.mk ht
      have HK5 := ShutK.mk hk5'
      simp only [List.getElem?_toArray, List.getElem?_cons_zero, List.getElem?_cons_succ] at x0 x3
      clear hP5 hl5 hk5 hk5' hbx ht HO4 p0 p1 p2 p3
      go_wp2_with fail
      go_ret
      obtain ⟨rfl, e3⟩ := Prod.mk.inj E2.out
      obtain ⟨rfl, rfl⟩ := Prod.mk.inj e3
      exact ⟨rfl, HT.out.1, (HK5.out.mono fun i _ _ hi => HRP.out i hi).trans HT.out.2⟩
end
end Go.Proofs.YtjfoflbaoceemaaGreat
namespace Go.Proofs.YtjfoflbaoceemaaGreat
open Go.RowKit
section
variable {w w' : World} {b g gd : Nat} {R : Nat → Prop} {d : Dk} {K : Ks}
def OpdP (w : World) (gd : Nat) (R : Nat → Prop) (r : Dk × Option Ks × Int) (x : Ending) (w' : World) : Prop :=
  Keep (fun i _ => R i) w w' ∧ ((r.2.1 = none ∧ x = .returned (.tuple #[.pointer none, .int .i64 r.2.2]) ∧ DiskR w' gd R r.1) ∨ ∃ K b, r.2.1 = some K ∧ x = .returned (.tuple #[ptr b, .int .i64 r.2.2]) ∧ KsAt w' b gd R r.1 K)
theorem opdP_no {r : Dk × Option Ks × Int} {d1 : Dk} {c : Int} {x : Ending} (hr : r = (d1, none, c)) (hx : x = .returned (.tuple #[.pointer none, .int .i64 c])) (hd : DiskR w' gd R d1) (hk : Keep (fun i _ => R i) w w') : OpdP w gd R r x w' := by
  subst hr
  exact ⟨hk, .inl ⟨rfl, hx, hd⟩⟩
theorem opdP_yes {r : Dk × Option Ks × Int} {d1 : Dk} {c : Int} {x : Ending} (hr : r = (d1, some K, c)) (hx : x = .returned (.tuple #[ptr b, .int .i64 c])) (hd : KsAt w' b gd R d1 K) (hk : Keep (fun i _ => R i) w w') : OpdP w gd R r x w' := by
  subst hr
  exact ⟨hk, .inr ⟨K, b, rfl, hx, hd⟩⟩
set_option maxHeartbeats 4000000 in
theorem kopen_ (h : DiskR w gd R d) (hn : 354 ≤ d.n) (hl : d.lim 300000) (hI : ∀ e bs, keepP.read d = some (e, bs) → (objsR ⟨bs, false⟩).done = true → ∀ o ∈ objsV ⟨bs, false⟩, o.short 450 ∧ o.fits) (hM : ∀ s e, baseK d = some (s, e) → MildB s (opK d e).ls)
    (hB : ∀ K, foundK d = some K → Base K.st ∧ K.e ≤ 900000) : Calls Tryz.prog 15 #[ptr gd] w (OpdP w gd R (openK rnK d)) := by
  have hf := found_ h hn hI hM
  have HF := ShutK.mk hf
  have HD := ShutK.mk h
  have HB := ShutK.mk hB
  have HNN := ShutK.mk hn
  have HL := ShutK.mk hl
  obtain ⟨n, hn1⟩ : ∃ n, d.n = n := ⟨_, rfl⟩
  rw [hn1] at hn
  have HN := ShutK.mk hn1
  have t1 : decide ((n : Int) < (354 : Int)) = false := decide_eq_false (by omega)
  have t2 : decide (n < 354) = false := decide_eq_false (by omega)
  clear h hn1 hf hI hM hB hl
  go_enter Tryz.func15, Tryz.ntmps15
  go_wp2_with fail
  refine (d_len HD.out).mono ?_
  rintro x w1 ⟨rfl, rfl⟩
  rw [HN.out]
  go_wp2_with fail
  refine (kneed_ _).mono ?_
  rintro x w2 ⟨rfl, rfl⟩
  go_wp2_with fail
  refine HF.out.mono ?_
  rintro x w1 ⟨hk1, ⟨hno, rfl, hd1⟩ | ⟨K, b, hyes, rfl, hst⟩⟩
  · have HO := ShutK.mk (openK_bytes (im := rnK) HNN.out hno)
    have HD1 := ShutK.mk hd1
    have HK1 := ShutK.mk hk1
    clear hno hd1 hk1 HF
    go_wp2_with fail
    go_ret2
    exact opdP_no HO.out rfl HD1.out HK1.out
  obtain ⟨hbs, hke⟩ := HB.out K hyes
  obtain ⟨g, Q, sv, xs, hm⟩ := hst
  have hcl := claims_ hm.obs (by have := congrArg List.length hm.eq; have h2 := hbs.right.len; rw [List.length_map] at this; omega) (mem_obs (P := fun o => o.short 450) (by rw [hm.eq]; exact (fun o ho => by obtain ⟨a, b, c⟩ := hbs.short o ho; exact ⟨by omega, by omega, by omega⟩))) K.st.next
  rw [hm.eq] at hcl
  have HCL := ShutK.mk hcl
  have HM1 := ShutK.mk hm
  have HY := ShutK.mk hyes
  have HBS := ShutK.mk hbs
  have HKE := ShutK.mk hke
  have HK1 := ShutK.mk hk1
  obtain ⟨_, d1, d2, d3, _, dlt⟩ := hm.cells
  clear hcl hm hyes hbs hke hk1 HF
  go_wp2_with fail
  refine HCL.out.mono ?_
  rintro x w2 ⟨v2, rfl, ho2, hb2⟩
  obtain ⟨⟨A2, n2, c2⟩, rfl, hk2⟩ := ho2.k
  have HM2 := ShutK.mk (HM1.out.below hb2)
  have HK2 := ShutK.mk (HK1.out.trans (Keep.of_below (K := fun i _ => R i) hb2))
  have HC2 := ShutK.mk hk2
  have hlen := hk2.len
  simp only at hlen
  have HLEN := ShutK.mk hlen
  have e3 := HM2.out.cells.2.2.2.1
  have elt := HM2.out.cells.2.2.2.2.2
  clear ho2 hb2 hk2 hlen HCL d1 d2 d3 dlt
  by_cases hca : n2 = 0 ∧ 0 < K.e
  · obtain ⟨h1, h2⟩ := hca
    have hcs : claimsS K.st.objs = [] := List.length_eq_zero_iff.1 (by rw [← HLEN.out]; exact h1)
    have HO := ShutK.mk (openK_as (im := rnK) HNN.out HY.out hcs h2)
    subst h1
    have t3 : decide ((0 : Int) < (K.e : Int)) = true := decide_eq_true (by omega)
    have t4 : decide (0 < K.e) = true := decide_eq_true h2
    clear hcs
    go_wp2_with fail
    go_ret2
    exact opdP_yes HO.out rfl ⟨g, Q, sv, xs, HM2.out⟩ HK2.out
  have hcs : claimsS K.st.objs ≠ [] ∨ K.e = 0 := by
    by_cases h0 : n2 = 0
    · exact .inr (by omega)
    · exact .inl fun h => h0 (by rw [HLEN.out, h]; rfl)
  have HCS := ShutK.mk hcs
  obtain ⟨e1, e2⟩ := freed_is HBS.out.right
  have e1' : applyS K.st (claimsS K.st.objs) = (0, freedK K.st) := by rw [e1, e2]
  have hcll : (claimsS K.st.objs).length ≤ 50000 := by
    have h1 := claims_len (l := K.st.objs) (n := 300) HBS.out.short K.st.objs.length (Nat.le_refl _)
    have h2 := HBS.out.right.len
    rw [List.take_length] at h1
    have h3 := Nat.mul_le_mul_right 300 h2
    omega
  have htn := kturn_ HM2.out (K := K) HBS.out.bear (c2 := c2) HC2.out.lst HC2.out.len.symm (by rw [HC2.out.len]; exact hcll) e1'
  have HTN := ShutK.mk htn
  obtain ⟨dE, KE, vE, hrn⟩ : ∃ dE KE vE, rnK d { K with st := freedK K.st } = (dE, KE, vE) := ⟨_, _, _, rfl⟩
  have HRN := ShutK.mk hrn
  have hway : (n2 = 0 ∧ K.e = 0) ∨ n2 ≠ 0 := by
    by_cases h0 : n2 = 0
    · exact .inl ⟨h0, by omega⟩
    · exact .inr h0
  clear hcs e1 e2 e1' hcll htn hrn hca HC2
  rcases hway with ⟨h1, h2⟩ | h1
  · have t3 : decide ((0 : Int) < (K.e : Int)) = false := decide_eq_false (by omega)
    have t4 : decide (0 < K.e) = false := decide_eq_false (by omega)
    subst h1
    clear h2
    go_wp2_with fail
    refine HTN.out.mono ?_
    rintro x w3 ⟨rfl, hy3, _, hk3⟩
    rw [decide_eq_true (rfl : (0 : Int) = 0)]
    obtain ⟨g3, Q3, sv3, xs3, hm3⟩ := hy3 rfl
    have HM3 := ShutK.mk hm3
    have HK3 := ShutK.mk (HK2.out.trans hk3)
    clear hy3 hm3 hk3 HTN
    have hrw := renew_ HM3.out HNN.out HL.out HBS.out.freed HKE.out HRN.out
    have HRW := ShutK.mk hrw
    clear hrw
    go_wp2_with fail
    refine HRW.out.mono ?_
    rintro x w4 ⟨rfl, h4, hk4⟩
    have H4 := ShutK.mk h4
    have HK4 := ShutK.mk (HK3.out.trans hk4)
    clear h4 hk4 HRW
    cases vE
    · have HO := ShutK.mk (openK_fail (im := rnK) HNN.out HY.out HCS.out HRN.out)
      go_wp2_with fail
      go_ret2
      exact opdP_no HO.out rfl (H4.out.disk fun i hi => hi) HK4.out
    · have HO := ShutK.mk (openK_new (im := rnK) HNN.out HY.out HCS.out HRN.out)
      go_wp2_with fail
      go_ret2
      exact opdP_yes HO.out rfl H4.out HK4.out
  · have t3 : ((n2 : Int) == 0) = false := by simp; omega
    have t4 : (n2 == 0) = false := by simp; omega
    clear h1
    go_wp2_with fail
    refine HTN.out.mono ?_
    rintro x w3 ⟨rfl, hy3, _, hk3⟩
    rw [decide_eq_true (rfl : (0 : Int) = 0)]
    obtain ⟨g3, Q3, sv3, xs3, hm3⟩ := hy3 rfl
    have HM3 := ShutK.mk hm3
    have HK3 := ShutK.mk (HK2.out.trans hk3)
    clear hy3 hm3 hk3 HTN
    have hrw := renew_ HM3.out HNN.out HL.out HBS.out.freed HKE.out HRN.out
    have HRW := ShutK.mk hrw
    clear hrw
    go_wp2_with fail
    refine HRW.out.mono ?_
    rintro x w4 ⟨rfl, h4, hk4⟩
    have H4 := ShutK.mk h4
    have HK4 := ShutK.mk (HK3.out.trans hk4)
    clear h4 hk4 HRW
    cases vE
    · have HO := ShutK.mk (openK_fail (im := rnK) HNN.out HY.out HCS.out HRN.out)
      go_wp2_with fail
      go_ret2
      exact opdP_no HO.out rfl (H4.out.disk fun i hi => hi) HK4.out
    · have HO := ShutK.mk (openK_new (im := rnK) HNN.out HY.out HCS.out HRN.out)
      go_wp2_with fail
      go_ret2
      exact opdP_yes HO.out rfl H4.out HK4.out
end
end Go.Proofs.YtjfoflbaoceemaaGreat
