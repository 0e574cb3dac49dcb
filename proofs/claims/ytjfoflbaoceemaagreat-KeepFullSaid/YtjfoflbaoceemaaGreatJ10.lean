/- . -/
import Derived.Test.YtjfoflbaoceemaaGreatJ09
set_option maxRecDepth 4000
namespace Go.Proofs.YtjfoflbaoceemaaGreat
open Go.RowKit
def LayP (w : World) (g gd : Nat) (R : Nat → Prop) (L : Lg) (r : Dk × Bool) (e : Ending) (w' : World) : Prop := e = .returned (.bool r.2) ∧ LogAt w' g gd R r.1 L ∧ Keep (fun i _ => R i) w w'
set_option maxRecDepth 100000 in
set_option maxHeartbeats 4000000 in
theorem lay_ {w : World} {g gd : Nat} {R : Nat → Prop} {s : Dk} {L : Lg} (h : LogAt w g gd R s L) (hl : s.lim 500000) {A : Option Addr} {n c : Nat} {b : List UInt8} (hb : Has w R A b) (hn : b.length = n) (hc : n ≤ c) (hf : L.next n ≤ L.fin) :
    Calls Tryz.prog 156 #[ptr g, .slice A n c] w (LayP w g gd R L (L.lay s b)) := by
  obtain ⟨h1, h2, h3⟩ := h.fn
  have hnx : L.next n = L.p + (1 + need n) := rfl
  have hx : n ≤ 262144 := by have := need_ge n; omega
  obtain ⟨s1, b1, hp1⟩ : ∃ s1 b1, s.put ((L.p : Int) + 1) b = (s1, b1) := ⟨_, _, rfl⟩
  have hm1 := put_lim hl h.ok hp1
  rw [hn] at hm1
  obtain ⟨q, hq⟩ : ∃ q, L.next n = q := ⟨_, rfl⟩
  have hpl : L.p ≤ 4096 := by omega
  have hnd : need n ≤ 4096 := by omega
  have hql : q ≤ 4096 := by omega
  have hqv : IntKind.i64.wrap ((L.p : Int) + (1 + (need n : Int))) = (q : Int) := by rw [IntWalk.i64_in _ (by omega)]; omega
  have hhn : ∀ (t : Dk) (r : Dk) (v : Bool), t.tryW L.p (L.head (n : Int)) = (r, v) → t.tryW L.p (L.head b.length) = (r, v) := by rw [hn]; exact fun _ _ _ h => h
  have HHN := Lib.hid hhn
  have HQV := Lib.hid hqv
  have HM1 := Lib.hid (And.intro (lim_mono (k := 600000) hm1.1 (by omega)) hm1.2.1)
  have HP1 := Lib.hid hp1
  have HLIM := Lib.hid hl
  have HOK := Lib.hid h.ok
  have HB := Lib.hid (show Has w.drew.drew R A b from hb)
  have HN := Lib.hid hn
  have HC := Lib.hid hc
  have HX := Lib.hid hx
  have HL0 := Lib.hid h.drew.drew
  have HLD := Lib.hid h.drew.drew
  have HLD0 := Lib.hid h.drew
  have HK0 := Lib.hid ((Keep.refl (K := fun i _ => R i) w).drew.drew)
  have HRN := Lib.hid (show i64r (n : Int) from ⟨by omega, by omega⟩)
  have HPN : Hid (∀ (W : World) (t : Dk), LogAt W g gd R t L → L.p < t.n) := fun W t ht => by have := ht.fn.1; omega
  clear h hl hb hp1 hm1 hqv hhn hc h1 h2 h3
  go_enter Tryz.func156, Tryz.ntmps156
  go_wp2_with fail
  refine wp_region_noPanic ?_
  refine wp_region_held_drew (S := fun W => LC g gd L W) (by kernel_rfl) HLD0.out.lc (fun _ => ?_)
  refine wpAnyH_take (i := 0) (oi := { dst := some 6, op := Op.move (Operand.tmp 0), type := 91, pos := "log.go:81", after := #[], guard := none }) (v := ptr g) rfl (by kernel_rfl) (by kernel_rfl) (by kernel_rfl) (fun _ _ _ h => h) (Or.inl ⟨by rfl, ?_⟩) HLD0.out.lc ?_
  · intro W hSw; clear hSw; go_simp
  try simp only [Act.put, zA1, zA2, zA3]
  refine wpAnyH_take (i := 1) (oi := { dst := some 7, op := Op.nilCheck (Operand.tmp 6), type := 0, pos := "log.go:81", after := #[{ on := 0, ground := Ground.data }], guard := none }) (v := .pointer (some ⟨g, 0, none⟩)) rfl (by kernel_rfl) (by kernel_rfl) (by kernel_rfl) (fun _ _ _ h => h) (Or.inl ⟨by rfl, ?_⟩) HLD0.out.lc ?_
  · intro W hSw; clear hSw; go_simp
  try simp only [Act.put, zA1, zA2, zA3]
  refine wpAnyH_take (i := 2) (oi := { dst := some 8, op := Op.fieldAddr 133 (Operand.tmp 7) 2, type := 0, pos := "log.go:81", after := #[{ on := 1, ground := Ground.data }], guard := none }) (v := .pointer (some ⟨g, 2, none⟩)) rfl (by kernel_rfl) (by kernel_rfl) (by kernel_rfl) (fun _ _ _ h => h) (Or.inl ⟨by rfl, ?_⟩) HLD0.out.lc ?_
  · intro W hSw; clear hSw; go_simp
  try simp only [Act.put, zA1, zA2, zA3]
  refine wpAnyH_take (i := 3) (oi := { dst := some 9, op := Op.load 3 (Operand.tmp 8), type := 3, pos := "log.go:81", after := #[{ on := 2, ground := Ground.data }], guard := none }) (v := .int .i64 (L.p : Int)) rfl (by kernel_rfl) (by kernel_rfl) (by kernel_rfl) (fun _ _ _ h => h) (Or.inl ⟨by rfl, ?_⟩) HLD0.out.lc ?_
  · intro W hSw; obtain ⟨k0, k2, k3⟩ := hSw; go_simp
  try simp only [Act.put, zA1, zA2, zA3]
  refine wpAnyH_take (i := 4) (oi := { dst := some 10, op := Op.move (Operand.tmp 1), type := 42, pos := "log.go:81", after := #[], guard := none }) (v := .slice A n c) rfl (by kernel_rfl) (by kernel_rfl) (by kernel_rfl) (fun _ _ _ h => h) (Or.inl ⟨by rfl, ?_⟩) HLD0.out.lc ?_
  · intro W hSw; clear hSw; go_simp
  try simp only [Act.put, zA1, zA2, zA3]
  refine wpAnyH_take (i := 5) (oi := { dst := some 11, op := Op.call { callee := Callee.builtin Builtin.len, args := #[Operand.tmp 10], argTypes := #[42] }, type := 3, pos := "log.go:81", after := #[{ on := 4, ground := Ground.data }], guard := none }) (v := .int .i64 (n : Int)) rfl (by kernel_rfl) (by kernel_rfl) (by kernel_rfl) (fun _ _ _ h => h) (Or.inl ⟨by rfl, ?_⟩) HLD0.out.lc ?_
  · intro W hSw; clear hSw; go_simp
  try simp only [Act.put, zA1, zA2, zA3]
  refine wpAnyH_1 (i := 6) (by kernel_rfl) (wpOp_call (o := { dst := some 12, op := Op.call { callee := Callee.value (Operand.func 207), args := #[Operand.tmp 11], argTypes := #[3] }, type := 3, pos := "log.go:81", after := #[{ on := 5, ground := Ground.data }], guard := none }) (f := 207) rfl (by rfl) (by go_simp) ((size_ (Int.toNat_natCast n) (by omega) _).mono ?_))
  rintro e w' ⟨rfl, rfl⟩
  refine ⟨_, rfl, HLD0.out.lc, ?_⟩
  try simp only [Act.put, zA1, zA2, zA3]
  refine wpAnyH_take (i := 7) (oi := { dst := some 13, op := Op.binOp BinOp.add 3 (Operand.tmp 9) (Operand.tmp 12) 3, type := 3, pos := "log.go:81", after := #[{ on := 3, ground := Ground.data }, { on := 6, ground := Ground.data }], guard := none }) (v := .int .i64 (q : Int)) rfl (by kernel_rfl) (by kernel_rfl) (by kernel_rfl) (fun _ _ _ h => h) (Or.inl ⟨by rfl, ?_⟩) HLD0.out.lc ?_
  · intro W hSw; clear hSw; go_simp; exact HQV.out
  try simp only [Act.put, zA1, zA2, zA3]
  refine wpAnyH_take (i := 8) (oi := { dst := some 5, op := Op.assign (Operand.tmp 13), type := 3, pos := "log.go:81", after := #[{ on := 7, ground := Ground.data }, { on := 6, ground := Ground.chain }, { on := 0, ground := Ground.phase }, { on := 1, ground := Ground.phase }, { on := 2, ground := Ground.phase }, { on := 3, ground := Ground.phase }, { on := 4, ground := Ground.phase }, { on := 5, ground := Ground.phase }, { on := 6, ground := Ground.phase }, { on := 7, ground := Ground.phase }], guard := none }) (v := .int .i64 (q : Int)) rfl (by kernel_rfl) (by kernel_rfl) (by kernel_rfl) (fun _ _ _ h => h) (Or.inl ⟨by rfl, ?_⟩) HLD0.out.lc ?_
  · intro W hSw; clear hSw; go_simp
  try simp only [Act.put, zA1, zA2, zA3]
  refine wpAnyH_done (by kernel_rfl) ?_ _
  refine NoPanic.normal ?_
  go_wp2_with fail
  by_cases hqe : q = L.fin
  · have HT2 := Lib.hid (tail_fin (L := L) (s1 := s1) (n := b.length) (by rw [HN.out, hq]; exact hqe))
    clear hn hnx hf hx
    refine wp_region_noPanic ?_
    refine wp_region_held_drew (S := fun W => LC g gd L W) (by kernel_rfl) HLD.out.lc (fun _ => ?_)
    refine wpAnyH_take (i := 0) (oi := { dst := some 14, op := Op.move (Operand.tmp 0), type := 91, pos := "log.go:82", after := #[], guard := none }) (v := ptr g) rfl (by kernel_rfl) (by kernel_rfl) (by kernel_rfl) (fun _ _ _ h => h) (Or.inl ⟨by rfl, ?_⟩) HLD.out.lc ?_
    · intro W hSw; clear hSw; go_simp
    try simp only [Act.put, zA1, zA2, zA3]
    refine wpAnyH_take (i := 1) (oi := { dst := some 15, op := Op.nilCheck (Operand.tmp 14), type := 0, pos := "log.go:82", after := #[{ on := 0, ground := Ground.data }], guard := none }) (v := .pointer (some ⟨g, 0, none⟩)) rfl (by kernel_rfl) (by kernel_rfl) (by kernel_rfl) (fun _ _ _ h => h) (Or.inl ⟨by rfl, ?_⟩) HLD.out.lc ?_
    · intro W hSw; clear hSw; go_simp
    try simp only [Act.put, zA1, zA2, zA3]
    refine wpAnyH_take (i := 2) (oi := { dst := some 16, op := Op.fieldAddr 133 (Operand.tmp 15) 0, type := 0, pos := "log.go:82", after := #[{ on := 1, ground := Ground.data }], guard := none }) (v := .pointer (some ⟨g, 0, none⟩)) rfl (by kernel_rfl) (by kernel_rfl) (by kernel_rfl) (fun _ _ _ h => h) (Or.inl ⟨by rfl, ?_⟩) HLD.out.lc ?_
    · intro W hSw; clear hSw; go_simp
    try simp only [Act.put, zA1, zA2, zA3]
    refine wpAnyH_take (i := 3) (oi := { dst := some 17, op := Op.load 24 (Operand.tmp 16), type := 24, pos := "log.go:82", after := #[{ on := 2, ground := Ground.data }], guard := none }) (v := ptr gd) rfl (by kernel_rfl) (by kernel_rfl) (by kernel_rfl) (fun _ _ _ h => h) (Or.inl ⟨by rfl, ?_⟩) HLD.out.lc ?_
    · intro W hSw; obtain ⟨k0, k2, k3⟩ := hSw; go_simp
    try simp only [Act.put, zA1, zA2, zA3]
    refine wpAnyH_take (i := 4) (oi := { dst := some 18, op := Op.move (Operand.tmp 0), type := 91, pos := "log.go:82", after := #[], guard := none }) (v := ptr g) rfl (by kernel_rfl) (by kernel_rfl) (by kernel_rfl) (fun _ _ _ h => h) (Or.inl ⟨by rfl, ?_⟩) HLD.out.lc ?_
    · intro W hSw; clear hSw; go_simp
    try simp only [Act.put, zA1, zA2, zA3]
    refine wpAnyH_take (i := 5) (oi := { dst := some 19, op := Op.nilCheck (Operand.tmp 18), type := 0, pos := "log.go:82", after := #[{ on := 4, ground := Ground.data }], guard := none }) (v := .pointer (some ⟨g, 0, none⟩)) rfl (by kernel_rfl) (by kernel_rfl) (by kernel_rfl) (fun _ _ _ h => h) (Or.inl ⟨by rfl, ?_⟩) HLD.out.lc ?_
    · intro W hSw; clear hSw; go_simp
    try simp only [Act.put, zA1, zA2, zA3]
    refine wpAnyH_take (i := 6) (oi := { dst := some 20, op := Op.fieldAddr 133 (Operand.tmp 19) 2, type := 0, pos := "log.go:82", after := #[{ on := 5, ground := Ground.data }], guard := none }) (v := .pointer (some ⟨g, 2, none⟩)) rfl (by kernel_rfl) (by kernel_rfl) (by kernel_rfl) (fun _ _ _ h => h) (Or.inl ⟨by rfl, ?_⟩) HLD.out.lc ?_
    · intro W hSw; clear hSw; go_simp
    try simp only [Act.put, zA1, zA2, zA3]
    refine wpAnyH_take (i := 7) (oi := { dst := some 21, op := Op.load 3 (Operand.tmp 20), type := 3, pos := "log.go:82", after := #[{ on := 6, ground := Ground.data }], guard := none }) (v := .int .i64 (L.p : Int)) rfl (by kernel_rfl) (by kernel_rfl) (by kernel_rfl) (fun _ _ _ h => h) (Or.inl ⟨by rfl, ?_⟩) HLD.out.lc ?_
    · intro W hSw; obtain ⟨k0, k2, k3⟩ := hSw; go_simp
    try simp only [Act.put, zA1, zA2, zA3]
    refine wpAnyH_take (i := 8) (oi := { dst := some 22, op := Op.binOp BinOp.add 3 (Operand.tmp 21) (Operand.const (Value.int IntKind.i64 1)) 3, type := 3, pos := "log.go:82", after := #[{ on := 7, ground := Ground.data }], guard := none }) (v := .int .i64 ((L.p : Int) + 1)) rfl (by kernel_rfl) (by kernel_rfl) (by kernel_rfl) (fun _ _ _ h => h) (Or.inl ⟨by rfl, ?_⟩) HLD.out.lc ?_
    · intro W hSw; clear hSw; go_simp; exact IntWalk.i64_in _ (by omega)
    try simp only [Act.put, zA1, zA2, zA3]
    refine wpAnyH_take (i := 9) (oi := { dst := some 23, op := Op.move (Operand.tmp 1), type := 42, pos := "log.go:82", after := #[], guard := none }) (v := .slice A n c) rfl (by kernel_rfl) (by kernel_rfl) (by kernel_rfl) (fun _ _ _ h => h) (Or.inl ⟨by rfl, ?_⟩) HLD.out.lc ?_
    · intro W hSw; clear hSw; go_simp
    try simp only [Act.put, zA1, zA2, zA3]
    refine wpAnyH_1 (i := 10) (by kernel_rfl) (wpOp_call (o := { dst := some 24, op := Op.call { callee := Callee.value (Operand.func 188), args := #[Operand.tmp 17, Operand.tmp 22, Operand.tmp 23], argTypes := #[24, 3, 42] }, type := 4, pos := "log.go:82", after := #[{ on := 3, ground := Ground.data }, { on := 8, ground := Ground.data }, { on := 9, ground := Ground.data }], guard := none }) (f := 188) rfl (by rfl) (by go_simp) ((log_put HL0.out HLIM.out HB.out HN.out HC.out HX.out HP1.out).mono ?_))
    rintro e w1 ⟨rfl, hl1, hk1⟩
    have HL1 := Lib.hid hl1
    have HK1 := Lib.hid (HK0.out.trans hk1)
    clear hl1 hk1
    have hM1 := put_lim HLIM.out HOK.out HP1.out
    refine ⟨_, rfl, HL1.out.lc, ?_⟩
    try simp only [Act.put, zA1, zA2, zA3]
    cases b1
    · refine wpAnyH_take (i := 11) (oi := { dst := some 25, op := Op.move (Operand.tmp 24), type := 4, pos := "log.go:82", after := #[{ on := 10, ground := Ground.data }, { on := 10, ground := Ground.chain }], guard := none }) (v := .bool false) rfl (by kernel_rfl) (by kernel_rfl) (by kernel_rfl) (fun _ _ _ h => h) (Or.inl ⟨by rfl, ?_⟩) HL1.out.lc ?_
      · intro W hSw; clear hSw; go_simp
      try simp only [Act.put, zA1, zA2, zA3]
      refine wpAnyH_take (i := 12) (oi := { dst := some 26, op := Op.move (Operand.tmp 5), type := 3, pos := "log.go:82", after := #[{ on := 11, ground := Ground.guard }], guard := some (11, true) }) (v := undef) rfl (by kernel_rfl) (by kernel_rfl) (by kernel_rfl) (fun _ _ _ h => h) (Or.inr ⟨by rfl, rfl⟩) HL1.out.lc ?_
      try simp only [Act.put, zA1, zA2, zA3]
      refine wpAnyH_take (i := 13) (oi := { dst := some 27, op := Op.move (Operand.tmp 0), type := 91, pos := "log.go:82", after := #[{ on := 11, ground := Ground.guard }], guard := some (11, true) }) (v := undef) rfl (by kernel_rfl) (by kernel_rfl) (by kernel_rfl) (fun _ _ _ h => h) (Or.inr ⟨by rfl, rfl⟩) HL1.out.lc ?_
      try simp only [Act.put, zA1, zA2, zA3]
      refine wpAnyH_take (i := 14) (oi := { dst := some 28, op := Op.nilCheck (Operand.tmp 27), type := 0, pos := "log.go:82", after := #[{ on := 13, ground := Ground.data }, { on := 11, ground := Ground.guard }], guard := some (11, true) }) (v := undef) rfl (by kernel_rfl) (by kernel_rfl) (by kernel_rfl) (fun _ _ _ h => h) (Or.inr ⟨by rfl, rfl⟩) HL1.out.lc ?_
      try simp only [Act.put, zA1, zA2, zA3]
      refine wpAnyH_take (i := 15) (oi := { dst := some 29, op := Op.fieldAddr 133 (Operand.tmp 28) 3, type := 0, pos := "log.go:82", after := #[{ on := 14, ground := Ground.data }, { on := 11, ground := Ground.guard }], guard := some (11, true) }) (v := undef) rfl (by kernel_rfl) (by kernel_rfl) (by kernel_rfl) (fun _ _ _ h => h) (Or.inr ⟨by rfl, rfl⟩) HL1.out.lc ?_
      try simp only [Act.put, zA1, zA2, zA3]
      refine wpAnyH_take (i := 16) (oi := { dst := some 30, op := Op.load 3 (Operand.tmp 29), type := 3, pos := "log.go:82", after := #[{ on := 15, ground := Ground.data }, { on := 11, ground := Ground.guard }], guard := some (11, true) }) (v := undef) rfl (by kernel_rfl) (by kernel_rfl) (by kernel_rfl) (fun _ _ _ h => h) (Or.inr ⟨by rfl, rfl⟩) HL1.out.lc ?_
      try simp only [Act.put, zA1, zA2, zA3]
      refine wpAnyH_take (i := 17) (oi := { dst := some 31, op := Op.binOp BinOp.eql 3 (Operand.tmp 26) (Operand.tmp 30) 3, type := 4, pos := "log.go:82", after := #[{ on := 12, ground := Ground.data }, { on := 16, ground := Ground.data }, { on := 11, ground := Ground.guard }], guard := some (11, true) }) (v := undef) rfl (by kernel_rfl) (by kernel_rfl) (by kernel_rfl) (fun _ _ _ h => h) (Or.inr ⟨by rfl, rfl⟩) HL1.out.lc ?_
      try simp only [Act.put, zA1, zA2, zA3]
      refine wpAnyH_take (i := 18) (oi := { dst := some 32, op := Op.move (Operand.tmp 31), type := 4, pos := "log.go:82", after := #[{ on := 17, ground := Ground.data }, { on := 11, ground := Ground.chain }, { on := 11, ground := Ground.guard }], guard := some (11, true) }) (v := undef) rfl (by kernel_rfl) (by kernel_rfl) (by kernel_rfl) (fun _ _ _ h => h) (Or.inr ⟨by rfl, rfl⟩) HL1.out.lc ?_
      try simp only [Act.put, zA1, zA2, zA3]
      refine wpAnyH_take (i := 19) (oi := { dst := some 33, op := Op.move (Operand.tmp 0), type := 91, pos := "log.go:82", after := #[{ on := 18, ground := Ground.guard }], guard := some (18, false) }) (v := undef) rfl (by kernel_rfl) (by kernel_rfl) (by kernel_rfl) (fun _ _ _ h => h) (Or.inr ⟨by rfl, rfl⟩) HL1.out.lc ?_
      try simp only [Act.put, zA1, zA2, zA3]
      refine wpAnyH_take (i := 20) (oi := { dst := some 34, op := Op.nilCheck (Operand.tmp 33), type := 0, pos := "log.go:82", after := #[{ on := 19, ground := Ground.data }, { on := 18, ground := Ground.guard }], guard := some (18, false) }) (v := undef) rfl (by kernel_rfl) (by kernel_rfl) (by kernel_rfl) (fun _ _ _ h => h) (Or.inr ⟨by rfl, rfl⟩) HL1.out.lc ?_
      try simp only [Act.put, zA1, zA2, zA3]
      refine wpAnyH_take (i := 21) (oi := { dst := some 35, op := Op.fieldAddr 133 (Operand.tmp 34) 0, type := 0, pos := "log.go:82", after := #[{ on := 20, ground := Ground.data }, { on := 18, ground := Ground.guard }], guard := some (18, false) }) (v := undef) rfl (by kernel_rfl) (by kernel_rfl) (by kernel_rfl) (fun _ _ _ h => h) (Or.inr ⟨by rfl, rfl⟩) HL1.out.lc ?_
      try simp only [Act.put, zA1, zA2, zA3]
      refine wpAnyH_take (i := 22) (oi := { dst := some 36, op := Op.load 24 (Operand.tmp 35), type := 24, pos := "log.go:82", after := #[{ on := 21, ground := Ground.data }, { on := 18, ground := Ground.guard }], guard := some (18, false) }) (v := undef) rfl (by kernel_rfl) (by kernel_rfl) (by kernel_rfl) (fun _ _ _ h => h) (Or.inr ⟨by rfl, rfl⟩) HL1.out.lc ?_
      try simp only [Act.put, zA1, zA2, zA3]
      refine wpAnyH_take (i := 23) (oi := { dst := some 37, op := Op.move (Operand.tmp 5), type := 3, pos := "log.go:82", after := #[{ on := 18, ground := Ground.guard }], guard := some (18, false) }) (v := undef) rfl (by kernel_rfl) (by kernel_rfl) (by kernel_rfl) (fun _ _ _ h => h) (Or.inr ⟨by rfl, rfl⟩) HL1.out.lc ?_
      try simp only [Act.put, zA1, zA2, zA3]
      refine wpAnyH_take (i := 24) (oi := { dst := some 38, op := Op.makeSlice 42 (Operand.const (Value.int IntKind.i64 64)) (Operand.const (Value.int IntKind.i64 64)), type := 42, pos := "log.go:82", after := #[{ on := 18, ground := Ground.guard }], guard := some (18, false) }) (v := undef) rfl (by kernel_rfl) (by kernel_rfl) (by kernel_rfl) (fun _ _ _ h => h) (Or.inr ⟨by rfl, rfl⟩) HL1.out.lc ?_
      try simp only [Act.put, zA1, zA2, zA3]
      refine wpAnyH_take (i := 25) (oi := { dst := some 39, op := Op.call { callee := Callee.value (Operand.func 33), args := #[Operand.tmp 36, Operand.tmp 37, Operand.tmp 38], argTypes := #[24, 3, 42] }, type := 4, pos := "log.go:83", after := #[{ on := 22, ground := Ground.data }, { on := 23, ground := Ground.data }, { on := 24, ground := Ground.data }, { on := 18, ground := Ground.chain }, { on := 18, ground := Ground.guard }], guard := some (18, false) }) (v := undef) rfl (by kernel_rfl) (by kernel_rfl) (by kernel_rfl) (fun _ _ _ h => h) (Or.inr ⟨by rfl, rfl⟩) HL1.out.lc ?_
      try simp only [Act.put, zA1, zA2, zA3]
      refine wpAnyH_take (i := 26) (oi := { dst := some 40, op := Op.pick (Operand.tmp 32) (Operand.const (Value.bool true)) (Operand.tmp 39), type := 4, pos := "log.go:82", after := #[{ on := 18, ground := Ground.data }, { on := 25, ground := Ground.data }, { on := 11, ground := Ground.guard }], guard := some (11, true) }) (v := undef) rfl (by kernel_rfl) (by kernel_rfl) (by kernel_rfl) (fun _ _ _ h => h) (Or.inr ⟨by rfl, rfl⟩) HL1.out.lc ?_
      try simp only [Act.put, zA1, zA2, zA3]
      refine wpAnyH_take (i := 27) (oi := { dst := some 41, op := Op.pick (Operand.tmp 25) (Operand.tmp 40) (Operand.const (Value.bool false)), type := 4, pos := "log.go:82", after := #[{ on := 11, ground := Ground.data }, { on := 26, ground := Ground.data }], guard := none }) (v := .bool false) rfl (by kernel_rfl) (by kernel_rfl) (by kernel_rfl) (fun _ _ _ h => h) (Or.inl ⟨by rfl, ?_⟩) HL1.out.lc ?_
      · intro W hSw; clear hSw; go_simp
      try simp only [Act.put, zA1, zA2, zA3]
      refine wpAnyH_take (i := 28) (oi := { dst := some 42, op := Op.move (Operand.tmp 41), type := 4, pos := "log.go:82", after := #[{ on := 27, ground := Ground.data }, { on := 25, ground := Ground.chain }], guard := none }) (v := .bool false) rfl (by kernel_rfl) (by kernel_rfl) (by kernel_rfl) (fun _ _ _ h => h) (Or.inl ⟨by rfl, ?_⟩) HL1.out.lc ?_
      · intro W hSw; clear hSw; go_simp
      try simp only [Act.put, zA1, zA2, zA3]
      refine wpAnyH_take (i := 29) (oi := { dst := some 43, op := Op.move (Operand.tmp 0), type := 91, pos := "log.go:82", after := #[{ on := 28, ground := Ground.guard }], guard := some (28, true) }) (v := undef) rfl (by kernel_rfl) (by kernel_rfl) (by kernel_rfl) (fun _ _ _ h => h) (Or.inr ⟨by rfl, rfl⟩) HL1.out.lc ?_
      try simp only [Act.put, zA1, zA2, zA3]
      refine wpAnyH_take (i := 30) (oi := { dst := some 44, op := Op.nilCheck (Operand.tmp 43), type := 0, pos := "log.go:82", after := #[{ on := 29, ground := Ground.data }, { on := 28, ground := Ground.guard }], guard := some (28, true) }) (v := undef) rfl (by kernel_rfl) (by kernel_rfl) (by kernel_rfl) (fun _ _ _ h => h) (Or.inr ⟨by rfl, rfl⟩) HL1.out.lc ?_
      try simp only [Act.put, zA1, zA2, zA3]
      refine wpAnyH_take (i := 31) (oi := { dst := some 45, op := Op.fieldAddr 133 (Operand.tmp 44) 0, type := 0, pos := "log.go:82", after := #[{ on := 30, ground := Ground.data }, { on := 28, ground := Ground.guard }], guard := some (28, true) }) (v := undef) rfl (by kernel_rfl) (by kernel_rfl) (by kernel_rfl) (fun _ _ _ h => h) (Or.inr ⟨by rfl, rfl⟩) HL1.out.lc ?_
      try simp only [Act.put, zA1, zA2, zA3]
      refine wpAnyH_take (i := 32) (oi := { dst := some 46, op := Op.load 24 (Operand.tmp 45), type := 24, pos := "log.go:82", after := #[{ on := 31, ground := Ground.data }, { on := 28, ground := Ground.guard }], guard := some (28, true) }) (v := undef) rfl (by kernel_rfl) (by kernel_rfl) (by kernel_rfl) (fun _ _ _ h => h) (Or.inr ⟨by rfl, rfl⟩) HL1.out.lc ?_
      try simp only [Act.put, zA1, zA2, zA3]
      refine wpAnyH_take (i := 33) (oi := { dst := some 47, op := Op.call { callee := Callee.value (Operand.func 189), args := #[Operand.tmp 46], argTypes := #[24] }, type := 4, pos := "log.go:84", after := #[{ on := 32, ground := Ground.data }, { on := 28, ground := Ground.chain }, { on := 28, ground := Ground.guard }], guard := some (28, true) }) (v := undef) rfl (by kernel_rfl) (by kernel_rfl) (by kernel_rfl) (fun _ _ _ h => h) (Or.inr ⟨by rfl, rfl⟩) HL1.out.lc ?_
      try simp only [Act.put, zA1, zA2, zA3]
      refine wpAnyH_take (i := 34) (oi := { dst := some 48, op := Op.pick (Operand.tmp 42) (Operand.tmp 47) (Operand.const (Value.bool false)), type := 4, pos := "log.go:82", after := #[{ on := 28, ground := Ground.data }, { on := 33, ground := Ground.data }], guard := none }) (v := .bool false) rfl (by kernel_rfl) (by kernel_rfl) (by kernel_rfl) (fun _ _ _ h => h) (Or.inl ⟨by rfl, ?_⟩) HL1.out.lc ?_
      · intro W hSw; clear hSw; go_simp
      try simp only [Act.put, zA1, zA2, zA3]
      refine wpAnyH_take (i := 35) (oi := { dst := some 49, op := Op.move (Operand.tmp 48), type := 4, pos := "log.go:82", after := #[{ on := 34, ground := Ground.data }, { on := 33, ground := Ground.chain }], guard := none }) (v := .bool false) rfl (by kernel_rfl) (by kernel_rfl) (by kernel_rfl) (fun _ _ _ h => h) (Or.inl ⟨by rfl, ?_⟩) HL1.out.lc ?_
      · intro W hSw; clear hSw; go_simp
      try simp only [Act.put, zA1, zA2, zA3]
      refine wpAnyH_take (i := 36) (oi := { dst := some 50, op := Op.move (Operand.tmp 0), type := 91, pos := "log.go:82", after := #[{ on := 35, ground := Ground.guard }], guard := some (35, true) }) (v := undef) rfl (by kernel_rfl) (by kernel_rfl) (by kernel_rfl) (fun _ _ _ h => h) (Or.inr ⟨by rfl, rfl⟩) HL1.out.lc ?_
      try simp only [Act.put, zA1, zA2, zA3]
      refine wpAnyH_take (i := 37) (oi := { dst := some 51, op := Op.nilCheck (Operand.tmp 50), type := 0, pos := "log.go:82", after := #[{ on := 36, ground := Ground.data }, { on := 35, ground := Ground.guard }], guard := some (35, true) }) (v := undef) rfl (by kernel_rfl) (by kernel_rfl) (by kernel_rfl) (fun _ _ _ h => h) (Or.inr ⟨by rfl, rfl⟩) HL1.out.lc ?_
      try simp only [Act.put, zA1, zA2, zA3]
      refine wpAnyH_take (i := 38) (oi := { dst := some 52, op := Op.fieldAddr 133 (Operand.tmp 51) 0, type := 0, pos := "log.go:82", after := #[{ on := 37, ground := Ground.data }, { on := 35, ground := Ground.guard }], guard := some (35, true) }) (v := undef) rfl (by kernel_rfl) (by kernel_rfl) (by kernel_rfl) (fun _ _ _ h => h) (Or.inr ⟨by rfl, rfl⟩) HL1.out.lc ?_
      try simp only [Act.put, zA1, zA2, zA3]
      refine wpAnyH_take (i := 39) (oi := { dst := some 53, op := Op.load 24 (Operand.tmp 52), type := 24, pos := "log.go:82", after := #[{ on := 38, ground := Ground.data }, { on := 35, ground := Ground.guard }], guard := some (35, true) }) (v := undef) rfl (by kernel_rfl) (by kernel_rfl) (by kernel_rfl) (fun _ _ _ h => h) (Or.inr ⟨by rfl, rfl⟩) HL1.out.lc ?_
      try simp only [Act.put, zA1, zA2, zA3]
      refine wpAnyH_take (i := 40) (oi := { dst := some 54, op := Op.move (Operand.tmp 0), type := 91, pos := "log.go:82", after := #[{ on := 35, ground := Ground.guard }], guard := some (35, true) }) (v := undef) rfl (by kernel_rfl) (by kernel_rfl) (by kernel_rfl) (fun _ _ _ h => h) (Or.inr ⟨by rfl, rfl⟩) HL1.out.lc ?_
      try simp only [Act.put, zA1, zA2, zA3]
      refine wpAnyH_take (i := 41) (oi := { dst := some 55, op := Op.nilCheck (Operand.tmp 54), type := 0, pos := "log.go:82", after := #[{ on := 40, ground := Ground.data }, { on := 35, ground := Ground.guard }], guard := some (35, true) }) (v := undef) rfl (by kernel_rfl) (by kernel_rfl) (by kernel_rfl) (fun _ _ _ h => h) (Or.inr ⟨by rfl, rfl⟩) HL1.out.lc ?_
      try simp only [Act.put, zA1, zA2, zA3]
      refine wpAnyH_take (i := 42) (oi := { dst := some 56, op := Op.fieldAddr 133 (Operand.tmp 55) 2, type := 0, pos := "log.go:82", after := #[{ on := 41, ground := Ground.data }, { on := 35, ground := Ground.guard }], guard := some (35, true) }) (v := undef) rfl (by kernel_rfl) (by kernel_rfl) (by kernel_rfl) (fun _ _ _ h => h) (Or.inr ⟨by rfl, rfl⟩) HL1.out.lc ?_
      try simp only [Act.put, zA1, zA2, zA3]
      refine wpAnyH_take (i := 43) (oi := { dst := some 57, op := Op.load 3 (Operand.tmp 56), type := 3, pos := "log.go:82", after := #[{ on := 42, ground := Ground.data }, { on := 35, ground := Ground.guard }], guard := some (35, true) }) (v := undef) rfl (by kernel_rfl) (by kernel_rfl) (by kernel_rfl) (fun _ _ _ h => h) (Or.inr ⟨by rfl, rfl⟩) HL1.out.lc ?_
      try simp only [Act.put, zA1, zA2, zA3]
      refine wpAnyH_take (i := 44) (oi := { dst := some 58, op := Op.move (Operand.tmp 0), type := 91, pos := "log.go:82", after := #[{ on := 35, ground := Ground.guard }], guard := some (35, true) }) (v := undef) rfl (by kernel_rfl) (by kernel_rfl) (by kernel_rfl) (fun _ _ _ h => h) (Or.inr ⟨by rfl, rfl⟩) HL1.out.lc ?_
      try simp only [Act.put, zA1, zA2, zA3]
      refine wpAnyH_take (i := 45) (oi := { dst := some 59, op := Op.move (Operand.tmp 1), type := 42, pos := "log.go:82", after := #[{ on := 35, ground := Ground.guard }], guard := some (35, true) }) (v := undef) rfl (by kernel_rfl) (by kernel_rfl) (by kernel_rfl) (fun _ _ _ h => h) (Or.inr ⟨by rfl, rfl⟩) HL1.out.lc ?_
      try simp only [Act.put, zA1, zA2, zA3]
      refine wpAnyH_take (i := 46) (oi := { dst := some 60, op := Op.call { callee := Callee.builtin Builtin.len, args := #[Operand.tmp 59], argTypes := #[42] }, type := 3, pos := "log.go:82", after := #[{ on := 45, ground := Ground.data }, { on := 35, ground := Ground.guard }], guard := some (35, true) }) (v := undef) rfl (by kernel_rfl) (by kernel_rfl) (by kernel_rfl) (fun _ _ _ h => h) (Or.inr ⟨by rfl, rfl⟩) HL1.out.lc ?_
      try simp only [Act.put, zA1, zA2, zA3]
      refine wpAnyH_take (i := 47) (oi := { dst := some 61, op := Op.call { callee := Callee.value (Operand.func 209), args := #[Operand.tmp 58, Operand.tmp 60], argTypes := #[91, 3] }, type := 42, pos := "log.go:85", after := #[{ on := 44, ground := Ground.data }, { on := 46, ground := Ground.data }, { on := 35, ground := Ground.chain }, { on := 35, ground := Ground.guard }], guard := some (35, true) }) (v := undef) rfl (by kernel_rfl) (by kernel_rfl) (by kernel_rfl) (fun _ _ _ h => h) (Or.inr ⟨by rfl, rfl⟩) HL1.out.lc ?_
      try simp only [Act.put, zA1, zA2, zA3]
      refine wpAnyH_take (i := 48) (oi := { dst := some 62, op := Op.call { callee := Callee.value (Operand.func 33), args := #[Operand.tmp 53, Operand.tmp 57, Operand.tmp 61], argTypes := #[24, 3, 42] }, type := 4, pos := "log.go:85", after := #[{ on := 39, ground := Ground.data }, { on := 43, ground := Ground.data }, { on := 47, ground := Ground.data }, { on := 47, ground := Ground.chain }, { on := 35, ground := Ground.guard }], guard := some (35, true) }) (v := undef) rfl (by kernel_rfl) (by kernel_rfl) (by kernel_rfl) (fun _ _ _ h => h) (Or.inr ⟨by rfl, rfl⟩) HL1.out.lc ?_
      try simp only [Act.put, zA1, zA2, zA3]
      refine wpAnyH_take (i := 49) (oi := { dst := some 63, op := Op.pick (Operand.tmp 49) (Operand.tmp 62) (Operand.const (Value.bool false)), type := 4, pos := "log.go:82", after := #[{ on := 35, ground := Ground.data }, { on := 48, ground := Ground.data }], guard := none }) (v := .bool false) rfl (by kernel_rfl) (by kernel_rfl) (by kernel_rfl) (fun _ _ _ h => h) (Or.inl ⟨by rfl, ?_⟩) HL1.out.lc ?_
      · intro W hSw; clear hSw; go_simp
      try simp only [Act.put, zA1, zA2, zA3]
      refine wpAnyH_take (i := 50) (oi := { dst := some 64, op := Op.move (Operand.tmp 63), type := 4, pos := "log.go:82", after := #[{ on := 49, ground := Ground.data }, { on := 48, ground := Ground.chain }], guard := none }) (v := .bool false) rfl (by kernel_rfl) (by kernel_rfl) (by kernel_rfl) (fun _ _ _ h => h) (Or.inl ⟨by rfl, ?_⟩) HL1.out.lc ?_
      · intro W hSw; clear hSw; go_simp
      try simp only [Act.put, zA1, zA2, zA3]
      refine wpAnyH_take (i := 51) (oi := { dst := some 65, op := Op.move (Operand.tmp 0), type := 91, pos := "log.go:82", after := #[{ on := 50, ground := Ground.guard }], guard := some (50, true) }) (v := undef) rfl (by kernel_rfl) (by kernel_rfl) (by kernel_rfl) (fun _ _ _ h => h) (Or.inr ⟨by rfl, rfl⟩) HL1.out.lc ?_
      try simp only [Act.put, zA1, zA2, zA3]
      refine wpAnyH_take (i := 52) (oi := { dst := some 66, op := Op.nilCheck (Operand.tmp 65), type := 0, pos := "log.go:82", after := #[{ on := 51, ground := Ground.data }, { on := 50, ground := Ground.guard }], guard := some (50, true) }) (v := undef) rfl (by kernel_rfl) (by kernel_rfl) (by kernel_rfl) (fun _ _ _ h => h) (Or.inr ⟨by rfl, rfl⟩) HL1.out.lc ?_
      try simp only [Act.put, zA1, zA2, zA3]
      refine wpAnyH_take (i := 53) (oi := { dst := some 67, op := Op.fieldAddr 133 (Operand.tmp 66) 0, type := 0, pos := "log.go:82", after := #[{ on := 52, ground := Ground.data }, { on := 50, ground := Ground.guard }], guard := some (50, true) }) (v := undef) rfl (by kernel_rfl) (by kernel_rfl) (by kernel_rfl) (fun _ _ _ h => h) (Or.inr ⟨by rfl, rfl⟩) HL1.out.lc ?_
      try simp only [Act.put, zA1, zA2, zA3]
      refine wpAnyH_take (i := 54) (oi := { dst := some 68, op := Op.load 24 (Operand.tmp 67), type := 24, pos := "log.go:82", after := #[{ on := 53, ground := Ground.data }, { on := 50, ground := Ground.guard }], guard := some (50, true) }) (v := undef) rfl (by kernel_rfl) (by kernel_rfl) (by kernel_rfl) (fun _ _ _ h => h) (Or.inr ⟨by rfl, rfl⟩) HL1.out.lc ?_
      try simp only [Act.put, zA1, zA2, zA3]
      refine wpAnyH_take (i := 55) (oi := { dst := some 69, op := Op.call { callee := Callee.value (Operand.func 189), args := #[Operand.tmp 68], argTypes := #[24] }, type := 4, pos := "log.go:86", after := #[{ on := 54, ground := Ground.data }, { on := 50, ground := Ground.chain }, { on := 50, ground := Ground.guard }], guard := some (50, true) }) (v := undef) rfl (by kernel_rfl) (by kernel_rfl) (by kernel_rfl) (fun _ _ _ h => h) (Or.inr ⟨by rfl, rfl⟩) HL1.out.lc ?_
      try simp only [Act.put, zA1, zA2, zA3]
      refine wpAnyH_take (i := 56) (oi := { dst := some 70, op := Op.pick (Operand.tmp 64) (Operand.tmp 69) (Operand.const (Value.bool false)), type := 4, pos := "log.go:82", after := #[{ on := 50, ground := Ground.data }, { on := 55, ground := Ground.data }], guard := none }) (v := .bool false) rfl (by kernel_rfl) (by kernel_rfl) (by kernel_rfl) (fun _ _ _ h => h) (Or.inl ⟨by rfl, ?_⟩) HL1.out.lc ?_
      · intro W hSw; clear hSw; go_simp
      try simp only [Act.put, zA1, zA2, zA3]
      refine wpAnyH_take (i := 57) (oi := { dst := some 4, op := Op.assign (Operand.tmp 70), type := 4, pos := "log.go:82", after := #[{ on := 56, ground := Ground.data }, { on := 55, ground := Ground.chain }, { on := 0, ground := Ground.phase }, { on := 1, ground := Ground.phase }, { on := 2, ground := Ground.phase }, { on := 3, ground := Ground.phase }, { on := 4, ground := Ground.phase }, { on := 5, ground := Ground.phase }, { on := 6, ground := Ground.phase }, { on := 7, ground := Ground.phase }, { on := 8, ground := Ground.phase }, { on := 9, ground := Ground.phase }, { on := 10, ground := Ground.phase }, { on := 11, ground := Ground.phase }, { on := 12, ground := Ground.phase }, { on := 13, ground := Ground.phase }, { on := 14, ground := Ground.phase }, { on := 15, ground := Ground.phase }, { on := 16, ground := Ground.phase }, { on := 17, ground := Ground.phase }, { on := 18, ground := Ground.phase }, { on := 19, ground := Ground.phase }, { on := 20, ground := Ground.phase }, { on := 21, ground := Ground.phase }, { on := 22, ground := Ground.phase }, { on := 23, ground := Ground.phase }, { on := 24, ground := Ground.phase }, { on := 25, ground := Ground.phase }, { on := 26, ground := Ground.phase }, { on := 27, ground := Ground.phase }, { on := 28, ground := Ground.phase }, { on := 29, ground := Ground.phase }, { on := 30, ground := Ground.phase }, { on := 31, ground := Ground.phase }, { on := 32, ground := Ground.phase }, { on := 33, ground := Ground.phase }, { on := 34, ground := Ground.phase }, { on := 35, ground := Ground.phase }, { on := 36, ground := Ground.phase }, { on := 37, ground := Ground.phase }, { on := 38, ground := Ground.phase }, { on := 39, ground := Ground.phase }, { on := 40, ground := Ground.phase }, { on := 41, ground := Ground.phase }, { on := 42, ground := Ground.phase }, { on := 43, ground := Ground.phase }, { on := 44, ground := Ground.phase }, { on := 45, ground := Ground.phase }, { on := 46, ground := Ground.phase }, { on := 47, ground := Ground.phase }, { on := 48, ground := Ground.phase }, { on := 49, ground := Ground.phase }, { on := 50, ground := Ground.phase }, { on := 51, ground := Ground.phase }, { on := 52, ground := Ground.phase }, { on := 53, ground := Ground.phase }, { on := 54, ground := Ground.phase }, { on := 55, ground := Ground.phase }, { on := 56, ground := Ground.phase }], guard := none }) (v := .bool false) rfl (by kernel_rfl) (by kernel_rfl) (by kernel_rfl) (fun _ _ _ h => h) (Or.inl ⟨by rfl, ?_⟩) HL1.out.lc ?_
      · intro W hSw; clear hSw; go_simp
      try simp only [Act.put, zA1, zA2, zA3]
      refine wpAnyH_done (by kernel_rfl) ?_ _
      refine NoPanic.normal ?_
      go_wp2_with fail
      go_ret
      exact ⟨by rw [lay_1 HP1.out]; rfl, by rw [lay_1 HP1.out]; exact HL1.out, HK1.out⟩
    · refine wpAnyH_take (i := 11) (oi := { dst := some 25, op := Op.move (Operand.tmp 24), type := 4, pos := "log.go:82", after := #[{ on := 10, ground := Ground.data }, { on := 10, ground := Ground.chain }], guard := none }) (v := .bool true) rfl (by kernel_rfl) (by kernel_rfl) (by kernel_rfl) (fun _ _ _ h => h) (Or.inl ⟨by rfl, ?_⟩) HL1.out.lc ?_
      · intro W hSw; clear hSw; go_simp
      try simp only [Act.put, zA1, zA2, zA3]
      refine wpAnyH_take (i := 12) (oi := { dst := some 26, op := Op.move (Operand.tmp 5), type := 3, pos := "log.go:82", after := #[{ on := 11, ground := Ground.guard }], guard := some (11, true) }) (v := .int .i64 (q : Int)) rfl (by kernel_rfl) (by kernel_rfl) (by kernel_rfl) (fun _ _ _ h => h) (Or.inl ⟨by rfl, ?_⟩) HL1.out.lc ?_
      · intro W hSw; clear hSw; go_simp
      try simp only [Act.put, zA1, zA2, zA3]
      refine wpAnyH_take (i := 13) (oi := { dst := some 27, op := Op.move (Operand.tmp 0), type := 91, pos := "log.go:82", after := #[{ on := 11, ground := Ground.guard }], guard := some (11, true) }) (v := ptr g) rfl (by kernel_rfl) (by kernel_rfl) (by kernel_rfl) (fun _ _ _ h => h) (Or.inl ⟨by rfl, ?_⟩) HL1.out.lc ?_
      · intro W hSw; clear hSw; go_simp
      try simp only [Act.put, zA1, zA2, zA3]
      refine wpAnyH_take (i := 14) (oi := { dst := some 28, op := Op.nilCheck (Operand.tmp 27), type := 0, pos := "log.go:82", after := #[{ on := 13, ground := Ground.data }, { on := 11, ground := Ground.guard }], guard := some (11, true) }) (v := .pointer (some ⟨g, 0, none⟩)) rfl (by kernel_rfl) (by kernel_rfl) (by kernel_rfl) (fun _ _ _ h => h) (Or.inl ⟨by rfl, ?_⟩) HL1.out.lc ?_
      · intro W hSw; clear hSw; go_simp
      try simp only [Act.put, zA1, zA2, zA3]
      refine wpAnyH_take (i := 15) (oi := { dst := some 29, op := Op.fieldAddr 133 (Operand.tmp 28) 3, type := 0, pos := "log.go:82", after := #[{ on := 14, ground := Ground.data }, { on := 11, ground := Ground.guard }], guard := some (11, true) }) (v := .pointer (some ⟨g, 3, none⟩)) rfl (by kernel_rfl) (by kernel_rfl) (by kernel_rfl) (fun _ _ _ h => h) (Or.inl ⟨by rfl, ?_⟩) HL1.out.lc ?_
      · intro W hSw; clear hSw; go_simp
      try simp only [Act.put, zA1, zA2, zA3]
      refine wpAnyH_take (i := 16) (oi := { dst := some 30, op := Op.load 3 (Operand.tmp 29), type := 3, pos := "log.go:82", after := #[{ on := 15, ground := Ground.data }, { on := 11, ground := Ground.guard }], guard := some (11, true) }) (v := .int .i64 (L.fin : Int)) rfl (by kernel_rfl) (by kernel_rfl) (by kernel_rfl) (fun _ _ _ h => h) (Or.inl ⟨by rfl, ?_⟩) HL1.out.lc ?_
      · intro W hSw; obtain ⟨k0, k2, k3⟩ := hSw; go_simp
      try simp only [Act.put, zA1, zA2, zA3]
      refine wpAnyH_take (i := 17) (oi := { dst := some 31, op := Op.binOp BinOp.eql 3 (Operand.tmp 26) (Operand.tmp 30) 3, type := 4, pos := "log.go:82", after := #[{ on := 12, ground := Ground.data }, { on := 16, ground := Ground.data }, { on := 11, ground := Ground.guard }], guard := some (11, true) }) (v := .bool true) rfl (by kernel_rfl) (by kernel_rfl) (by kernel_rfl) (fun _ _ _ h => h) (Or.inl ⟨by rfl, ?_⟩) HL1.out.lc ?_
      · intro W hSw; clear hSw; go_simp
      try simp only [Act.put, zA1, zA2, zA3]
      refine wpAnyH_take (i := 18) (oi := { dst := some 32, op := Op.move (Operand.tmp 31), type := 4, pos := "log.go:82", after := #[{ on := 17, ground := Ground.data }, { on := 11, ground := Ground.chain }, { on := 11, ground := Ground.guard }], guard := some (11, true) }) (v := .bool true) rfl (by kernel_rfl) (by kernel_rfl) (by kernel_rfl) (fun _ _ _ h => h) (Or.inl ⟨by rfl, ?_⟩) HL1.out.lc ?_
      · intro W hSw; clear hSw; go_simp
      try simp only [Act.put, zA1, zA2, zA3]
      refine wpAnyH_take (i := 19) (oi := { dst := some 33, op := Op.move (Operand.tmp 0), type := 91, pos := "log.go:82", after := #[{ on := 18, ground := Ground.guard }], guard := some (18, false) }) (v := undef) rfl (by kernel_rfl) (by kernel_rfl) (by kernel_rfl) (fun _ _ _ h => h) (Or.inr ⟨by rfl, rfl⟩) HL1.out.lc ?_
      try simp only [Act.put, zA1, zA2, zA3]
      refine wpAnyH_take (i := 20) (oi := { dst := some 34, op := Op.nilCheck (Operand.tmp 33), type := 0, pos := "log.go:82", after := #[{ on := 19, ground := Ground.data }, { on := 18, ground := Ground.guard }], guard := some (18, false) }) (v := undef) rfl (by kernel_rfl) (by kernel_rfl) (by kernel_rfl) (fun _ _ _ h => h) (Or.inr ⟨by rfl, rfl⟩) HL1.out.lc ?_
      try simp only [Act.put, zA1, zA2, zA3]
      refine wpAnyH_take (i := 21) (oi := { dst := some 35, op := Op.fieldAddr 133 (Operand.tmp 34) 0, type := 0, pos := "log.go:82", after := #[{ on := 20, ground := Ground.data }, { on := 18, ground := Ground.guard }], guard := some (18, false) }) (v := undef) rfl (by kernel_rfl) (by kernel_rfl) (by kernel_rfl) (fun _ _ _ h => h) (Or.inr ⟨by rfl, rfl⟩) HL1.out.lc ?_
      try simp only [Act.put, zA1, zA2, zA3]
      refine wpAnyH_take (i := 22) (oi := { dst := some 36, op := Op.load 24 (Operand.tmp 35), type := 24, pos := "log.go:82", after := #[{ on := 21, ground := Ground.data }, { on := 18, ground := Ground.guard }], guard := some (18, false) }) (v := undef) rfl (by kernel_rfl) (by kernel_rfl) (by kernel_rfl) (fun _ _ _ h => h) (Or.inr ⟨by rfl, rfl⟩) HL1.out.lc ?_
      try simp only [Act.put, zA1, zA2, zA3]
      refine wpAnyH_take (i := 23) (oi := { dst := some 37, op := Op.move (Operand.tmp 5), type := 3, pos := "log.go:82", after := #[{ on := 18, ground := Ground.guard }], guard := some (18, false) }) (v := undef) rfl (by kernel_rfl) (by kernel_rfl) (by kernel_rfl) (fun _ _ _ h => h) (Or.inr ⟨by rfl, rfl⟩) HL1.out.lc ?_
      try simp only [Act.put, zA1, zA2, zA3]
      refine wpAnyH_take (i := 24) (oi := { dst := some 38, op := Op.makeSlice 42 (Operand.const (Value.int IntKind.i64 64)) (Operand.const (Value.int IntKind.i64 64)), type := 42, pos := "log.go:82", after := #[{ on := 18, ground := Ground.guard }], guard := some (18, false) }) (v := undef) rfl (by kernel_rfl) (by kernel_rfl) (by kernel_rfl) (fun _ _ _ h => h) (Or.inr ⟨by rfl, rfl⟩) HL1.out.lc ?_
      try simp only [Act.put, zA1, zA2, zA3]
      refine wpAnyH_take (i := 25) (oi := { dst := some 39, op := Op.call { callee := Callee.value (Operand.func 33), args := #[Operand.tmp 36, Operand.tmp 37, Operand.tmp 38], argTypes := #[24, 3, 42] }, type := 4, pos := "log.go:83", after := #[{ on := 22, ground := Ground.data }, { on := 23, ground := Ground.data }, { on := 24, ground := Ground.data }, { on := 18, ground := Ground.chain }, { on := 18, ground := Ground.guard }], guard := some (18, false) }) (v := undef) rfl (by kernel_rfl) (by kernel_rfl) (by kernel_rfl) (fun _ _ _ h => h) (Or.inr ⟨by rfl, rfl⟩) HL1.out.lc ?_
      try simp only [Act.put, zA1, zA2, zA3]
      refine wpAnyH_take (i := 26) (oi := { dst := some 40, op := Op.pick (Operand.tmp 32) (Operand.const (Value.bool true)) (Operand.tmp 39), type := 4, pos := "log.go:82", after := #[{ on := 18, ground := Ground.data }, { on := 25, ground := Ground.data }, { on := 11, ground := Ground.guard }], guard := some (11, true) }) (v := .bool true) rfl (by kernel_rfl) (by kernel_rfl) (by kernel_rfl) (fun _ _ _ h => h) (Or.inl ⟨by rfl, ?_⟩) HL1.out.lc ?_
      · intro W hSw; clear hSw; go_simp
      try simp only [Act.put, zA1, zA2, zA3]
      refine wpAnyH_take (i := 27) (oi := { dst := some 41, op := Op.pick (Operand.tmp 25) (Operand.tmp 40) (Operand.const (Value.bool false)), type := 4, pos := "log.go:82", after := #[{ on := 11, ground := Ground.data }, { on := 26, ground := Ground.data }], guard := none }) (v := .bool true) rfl (by kernel_rfl) (by kernel_rfl) (by kernel_rfl) (fun _ _ _ h => h) (Or.inl ⟨by rfl, ?_⟩) HL1.out.lc ?_
      · intro W hSw; clear hSw; go_simp
      try simp only [Act.put, zA1, zA2, zA3]
      refine wpAnyH_take (i := 28) (oi := { dst := some 42, op := Op.move (Operand.tmp 41), type := 4, pos := "log.go:82", after := #[{ on := 27, ground := Ground.data }, { on := 25, ground := Ground.chain }], guard := none }) (v := .bool true) rfl (by kernel_rfl) (by kernel_rfl) (by kernel_rfl) (fun _ _ _ h => h) (Or.inl ⟨by rfl, ?_⟩) HL1.out.lc ?_
      · intro W hSw; clear hSw; go_simp
      try simp only [Act.put, zA1, zA2, zA3]
      refine wpAnyH_take (i := 29) (oi := { dst := some 43, op := Op.move (Operand.tmp 0), type := 91, pos := "log.go:82", after := #[{ on := 28, ground := Ground.guard }], guard := some (28, true) }) (v := ptr g) rfl (by kernel_rfl) (by kernel_rfl) (by kernel_rfl) (fun _ _ _ h => h) (Or.inl ⟨by rfl, ?_⟩) HL1.out.lc ?_
      · intro W hSw; clear hSw; go_simp
      try simp only [Act.put, zA1, zA2, zA3]
      refine wpAnyH_take (i := 30) (oi := { dst := some 44, op := Op.nilCheck (Operand.tmp 43), type := 0, pos := "log.go:82", after := #[{ on := 29, ground := Ground.data }, { on := 28, ground := Ground.guard }], guard := some (28, true) }) (v := .pointer (some ⟨g, 0, none⟩)) rfl (by kernel_rfl) (by kernel_rfl) (by kernel_rfl) (fun _ _ _ h => h) (Or.inl ⟨by rfl, ?_⟩) HL1.out.lc ?_
      · intro W hSw; clear hSw; go_simp
      try simp only [Act.put, zA1, zA2, zA3]
      refine wpAnyH_take (i := 31) (oi := { dst := some 45, op := Op.fieldAddr 133 (Operand.tmp 44) 0, type := 0, pos := "log.go:82", after := #[{ on := 30, ground := Ground.data }, { on := 28, ground := Ground.guard }], guard := some (28, true) }) (v := .pointer (some ⟨g, 0, none⟩)) rfl (by kernel_rfl) (by kernel_rfl) (by kernel_rfl) (fun _ _ _ h => h) (Or.inl ⟨by rfl, ?_⟩) HL1.out.lc ?_
      · intro W hSw; clear hSw; go_simp
      try simp only [Act.put, zA1, zA2, zA3]
      refine wpAnyH_take (i := 32) (oi := { dst := some 46, op := Op.load 24 (Operand.tmp 45), type := 24, pos := "log.go:82", after := #[{ on := 31, ground := Ground.data }, { on := 28, ground := Ground.guard }], guard := some (28, true) }) (v := ptr gd) rfl (by kernel_rfl) (by kernel_rfl) (by kernel_rfl) (fun _ _ _ h => h) (Or.inl ⟨by rfl, ?_⟩) HL1.out.lc ?_
      · intro W hSw; obtain ⟨k0, k2, k3⟩ := hSw; go_simp
      try simp only [Act.put, zA1, zA2, zA3]
      obtain ⟨s3, b3, hP3⟩ : ∃ s3 b3, s1.tryS = (s3, b3) := ⟨_, _, rfl⟩
      have HP3 := Lib.hid hP3
      clear hP3
      refine wpAnyH_1 (i := 33) (by kernel_rfl) (wpOp_call (o := { dst := some 47, op := Op.call { callee := Callee.value (Operand.func 189), args := #[Operand.tmp 46], argTypes := #[24] }, type := 4, pos := "log.go:84", after := #[{ on := 32, ground := Ground.data }, { on := 28, ground := Ground.chain }, { on := 28, ground := Ground.guard }], guard := some (28, true) }) (f := 189) rfl (by rfl) (by go_simp) ((log_sync HL1.out HP3.out).mono ?_))
      rintro e w3 ⟨rfl, hl3, hk3⟩
      have HL3 := Lib.hid hl3
      have HK3 := Lib.hid (HK1.out.trans hk3)
      clear hl3 hk3
      have HM3 := Lib.hid (tryS_lim HM1.out.1 HP3.out)
      refine ⟨_, rfl, HL3.out.lc, ?_⟩
      try simp only [Act.put, zA1, zA2, zA3]
      cases b3
      · refine wpAnyH_take (i := 34) (oi := { dst := some 48, op := Op.pick (Operand.tmp 42) (Operand.tmp 47) (Operand.const (Value.bool false)), type := 4, pos := "log.go:82", after := #[{ on := 28, ground := Ground.data }, { on := 33, ground := Ground.data }], guard := none }) (v := .bool false) rfl (by kernel_rfl) (by kernel_rfl) (by kernel_rfl) (fun _ _ _ h => h) (Or.inl ⟨by rfl, ?_⟩) HL3.out.lc ?_
        · intro W hSw; clear hSw; go_simp
        try simp only [Act.put, zA1, zA2, zA3]
        refine wpAnyH_take (i := 35) (oi := { dst := some 49, op := Op.move (Operand.tmp 48), type := 4, pos := "log.go:82", after := #[{ on := 34, ground := Ground.data }, { on := 33, ground := Ground.chain }], guard := none }) (v := .bool false) rfl (by kernel_rfl) (by kernel_rfl) (by kernel_rfl) (fun _ _ _ h => h) (Or.inl ⟨by rfl, ?_⟩) HL3.out.lc ?_
        · intro W hSw; clear hSw; go_simp
        try simp only [Act.put, zA1, zA2, zA3]
        refine wpAnyH_take (i := 36) (oi := { dst := some 50, op := Op.move (Operand.tmp 0), type := 91, pos := "log.go:82", after := #[{ on := 35, ground := Ground.guard }], guard := some (35, true) }) (v := undef) rfl (by kernel_rfl) (by kernel_rfl) (by kernel_rfl) (fun _ _ _ h => h) (Or.inr ⟨by rfl, rfl⟩) HL3.out.lc ?_
        try simp only [Act.put, zA1, zA2, zA3]
        refine wpAnyH_take (i := 37) (oi := { dst := some 51, op := Op.nilCheck (Operand.tmp 50), type := 0, pos := "log.go:82", after := #[{ on := 36, ground := Ground.data }, { on := 35, ground := Ground.guard }], guard := some (35, true) }) (v := undef) rfl (by kernel_rfl) (by kernel_rfl) (by kernel_rfl) (fun _ _ _ h => h) (Or.inr ⟨by rfl, rfl⟩) HL3.out.lc ?_
        try simp only [Act.put, zA1, zA2, zA3]
        refine wpAnyH_take (i := 38) (oi := { dst := some 52, op := Op.fieldAddr 133 (Operand.tmp 51) 0, type := 0, pos := "log.go:82", after := #[{ on := 37, ground := Ground.data }, { on := 35, ground := Ground.guard }], guard := some (35, true) }) (v := undef) rfl (by kernel_rfl) (by kernel_rfl) (by kernel_rfl) (fun _ _ _ h => h) (Or.inr ⟨by rfl, rfl⟩) HL3.out.lc ?_
        try simp only [Act.put, zA1, zA2, zA3]
        refine wpAnyH_take (i := 39) (oi := { dst := some 53, op := Op.load 24 (Operand.tmp 52), type := 24, pos := "log.go:82", after := #[{ on := 38, ground := Ground.data }, { on := 35, ground := Ground.guard }], guard := some (35, true) }) (v := undef) rfl (by kernel_rfl) (by kernel_rfl) (by kernel_rfl) (fun _ _ _ h => h) (Or.inr ⟨by rfl, rfl⟩) HL3.out.lc ?_
        try simp only [Act.put, zA1, zA2, zA3]
        refine wpAnyH_take (i := 40) (oi := { dst := some 54, op := Op.move (Operand.tmp 0), type := 91, pos := "log.go:82", after := #[{ on := 35, ground := Ground.guard }], guard := some (35, true) }) (v := undef) rfl (by kernel_rfl) (by kernel_rfl) (by kernel_rfl) (fun _ _ _ h => h) (Or.inr ⟨by rfl, rfl⟩) HL3.out.lc ?_
        try simp only [Act.put, zA1, zA2, zA3]
        refine wpAnyH_take (i := 41) (oi := { dst := some 55, op := Op.nilCheck (Operand.tmp 54), type := 0, pos := "log.go:82", after := #[{ on := 40, ground := Ground.data }, { on := 35, ground := Ground.guard }], guard := some (35, true) }) (v := undef) rfl (by kernel_rfl) (by kernel_rfl) (by kernel_rfl) (fun _ _ _ h => h) (Or.inr ⟨by rfl, rfl⟩) HL3.out.lc ?_
        try simp only [Act.put, zA1, zA2, zA3]
        refine wpAnyH_take (i := 42) (oi := { dst := some 56, op := Op.fieldAddr 133 (Operand.tmp 55) 2, type := 0, pos := "log.go:82", after := #[{ on := 41, ground := Ground.data }, { on := 35, ground := Ground.guard }], guard := some (35, true) }) (v := undef) rfl (by kernel_rfl) (by kernel_rfl) (by kernel_rfl) (fun _ _ _ h => h) (Or.inr ⟨by rfl, rfl⟩) HL3.out.lc ?_
        try simp only [Act.put, zA1, zA2, zA3]
        refine wpAnyH_take (i := 43) (oi := { dst := some 57, op := Op.load 3 (Operand.tmp 56), type := 3, pos := "log.go:82", after := #[{ on := 42, ground := Ground.data }, { on := 35, ground := Ground.guard }], guard := some (35, true) }) (v := undef) rfl (by kernel_rfl) (by kernel_rfl) (by kernel_rfl) (fun _ _ _ h => h) (Or.inr ⟨by rfl, rfl⟩) HL3.out.lc ?_
        try simp only [Act.put, zA1, zA2, zA3]
        refine wpAnyH_take (i := 44) (oi := { dst := some 58, op := Op.move (Operand.tmp 0), type := 91, pos := "log.go:82", after := #[{ on := 35, ground := Ground.guard }], guard := some (35, true) }) (v := undef) rfl (by kernel_rfl) (by kernel_rfl) (by kernel_rfl) (fun _ _ _ h => h) (Or.inr ⟨by rfl, rfl⟩) HL3.out.lc ?_
        try simp only [Act.put, zA1, zA2, zA3]
        refine wpAnyH_take (i := 45) (oi := { dst := some 59, op := Op.move (Operand.tmp 1), type := 42, pos := "log.go:82", after := #[{ on := 35, ground := Ground.guard }], guard := some (35, true) }) (v := undef) rfl (by kernel_rfl) (by kernel_rfl) (by kernel_rfl) (fun _ _ _ h => h) (Or.inr ⟨by rfl, rfl⟩) HL3.out.lc ?_
        try simp only [Act.put, zA1, zA2, zA3]
        refine wpAnyH_take (i := 46) (oi := { dst := some 60, op := Op.call { callee := Callee.builtin Builtin.len, args := #[Operand.tmp 59], argTypes := #[42] }, type := 3, pos := "log.go:82", after := #[{ on := 45, ground := Ground.data }, { on := 35, ground := Ground.guard }], guard := some (35, true) }) (v := undef) rfl (by kernel_rfl) (by kernel_rfl) (by kernel_rfl) (fun _ _ _ h => h) (Or.inr ⟨by rfl, rfl⟩) HL3.out.lc ?_
        try simp only [Act.put, zA1, zA2, zA3]
        refine wpAnyH_take (i := 47) (oi := { dst := some 61, op := Op.call { callee := Callee.value (Operand.func 209), args := #[Operand.tmp 58, Operand.tmp 60], argTypes := #[91, 3] }, type := 42, pos := "log.go:85", after := #[{ on := 44, ground := Ground.data }, { on := 46, ground := Ground.data }, { on := 35, ground := Ground.chain }, { on := 35, ground := Ground.guard }], guard := some (35, true) }) (v := undef) rfl (by kernel_rfl) (by kernel_rfl) (by kernel_rfl) (fun _ _ _ h => h) (Or.inr ⟨by rfl, rfl⟩) HL3.out.lc ?_
        try simp only [Act.put, zA1, zA2, zA3]
        refine wpAnyH_take (i := 48) (oi := { dst := some 62, op := Op.call { callee := Callee.value (Operand.func 33), args := #[Operand.tmp 53, Operand.tmp 57, Operand.tmp 61], argTypes := #[24, 3, 42] }, type := 4, pos := "log.go:85", after := #[{ on := 39, ground := Ground.data }, { on := 43, ground := Ground.data }, { on := 47, ground := Ground.data }, { on := 47, ground := Ground.chain }, { on := 35, ground := Ground.guard }], guard := some (35, true) }) (v := undef) rfl (by kernel_rfl) (by kernel_rfl) (by kernel_rfl) (fun _ _ _ h => h) (Or.inr ⟨by rfl, rfl⟩) HL3.out.lc ?_
        try simp only [Act.put, zA1, zA2, zA3]
        refine wpAnyH_take (i := 49) (oi := { dst := some 63, op := Op.pick (Operand.tmp 49) (Operand.tmp 62) (Operand.const (Value.bool false)), type := 4, pos := "log.go:82", after := #[{ on := 35, ground := Ground.data }, { on := 48, ground := Ground.data }], guard := none }) (v := .bool false) rfl (by kernel_rfl) (by kernel_rfl) (by kernel_rfl) (fun _ _ _ h => h) (Or.inl ⟨by rfl, ?_⟩) HL3.out.lc ?_
        · intro W hSw; clear hSw; go_simp
        try simp only [Act.put, zA1, zA2, zA3]
        refine wpAnyH_take (i := 50) (oi := { dst := some 64, op := Op.move (Operand.tmp 63), type := 4, pos := "log.go:82", after := #[{ on := 49, ground := Ground.data }, { on := 48, ground := Ground.chain }], guard := none }) (v := .bool false) rfl (by kernel_rfl) (by kernel_rfl) (by kernel_rfl) (fun _ _ _ h => h) (Or.inl ⟨by rfl, ?_⟩) HL3.out.lc ?_
        · intro W hSw; clear hSw; go_simp
        try simp only [Act.put, zA1, zA2, zA3]
        refine wpAnyH_take (i := 51) (oi := { dst := some 65, op := Op.move (Operand.tmp 0), type := 91, pos := "log.go:82", after := #[{ on := 50, ground := Ground.guard }], guard := some (50, true) }) (v := undef) rfl (by kernel_rfl) (by kernel_rfl) (by kernel_rfl) (fun _ _ _ h => h) (Or.inr ⟨by rfl, rfl⟩) HL3.out.lc ?_
        try simp only [Act.put, zA1, zA2, zA3]
        refine wpAnyH_take (i := 52) (oi := { dst := some 66, op := Op.nilCheck (Operand.tmp 65), type := 0, pos := "log.go:82", after := #[{ on := 51, ground := Ground.data }, { on := 50, ground := Ground.guard }], guard := some (50, true) }) (v := undef) rfl (by kernel_rfl) (by kernel_rfl) (by kernel_rfl) (fun _ _ _ h => h) (Or.inr ⟨by rfl, rfl⟩) HL3.out.lc ?_
        try simp only [Act.put, zA1, zA2, zA3]
        refine wpAnyH_take (i := 53) (oi := { dst := some 67, op := Op.fieldAddr 133 (Operand.tmp 66) 0, type := 0, pos := "log.go:82", after := #[{ on := 52, ground := Ground.data }, { on := 50, ground := Ground.guard }], guard := some (50, true) }) (v := undef) rfl (by kernel_rfl) (by kernel_rfl) (by kernel_rfl) (fun _ _ _ h => h) (Or.inr ⟨by rfl, rfl⟩) HL3.out.lc ?_
        try simp only [Act.put, zA1, zA2, zA3]
        refine wpAnyH_take (i := 54) (oi := { dst := some 68, op := Op.load 24 (Operand.tmp 67), type := 24, pos := "log.go:82", after := #[{ on := 53, ground := Ground.data }, { on := 50, ground := Ground.guard }], guard := some (50, true) }) (v := undef) rfl (by kernel_rfl) (by kernel_rfl) (by kernel_rfl) (fun _ _ _ h => h) (Or.inr ⟨by rfl, rfl⟩) HL3.out.lc ?_
        try simp only [Act.put, zA1, zA2, zA3]
        refine wpAnyH_take (i := 55) (oi := { dst := some 69, op := Op.call { callee := Callee.value (Operand.func 189), args := #[Operand.tmp 68], argTypes := #[24] }, type := 4, pos := "log.go:86", after := #[{ on := 54, ground := Ground.data }, { on := 50, ground := Ground.chain }, { on := 50, ground := Ground.guard }], guard := some (50, true) }) (v := undef) rfl (by kernel_rfl) (by kernel_rfl) (by kernel_rfl) (fun _ _ _ h => h) (Or.inr ⟨by rfl, rfl⟩) HL3.out.lc ?_
        try simp only [Act.put, zA1, zA2, zA3]
        refine wpAnyH_take (i := 56) (oi := { dst := some 70, op := Op.pick (Operand.tmp 64) (Operand.tmp 69) (Operand.const (Value.bool false)), type := 4, pos := "log.go:82", after := #[{ on := 50, ground := Ground.data }, { on := 55, ground := Ground.data }], guard := none }) (v := .bool false) rfl (by kernel_rfl) (by kernel_rfl) (by kernel_rfl) (fun _ _ _ h => h) (Or.inl ⟨by rfl, ?_⟩) HL3.out.lc ?_
        · intro W hSw; clear hSw; go_simp
        try simp only [Act.put, zA1, zA2, zA3]
        refine wpAnyH_take (i := 57) (oi := { dst := some 4, op := Op.assign (Operand.tmp 70), type := 4, pos := "log.go:82", after := #[{ on := 56, ground := Ground.data }, { on := 55, ground := Ground.chain }, { on := 0, ground := Ground.phase }, { on := 1, ground := Ground.phase }, { on := 2, ground := Ground.phase }, { on := 3, ground := Ground.phase }, { on := 4, ground := Ground.phase }, { on := 5, ground := Ground.phase }, { on := 6, ground := Ground.phase }, { on := 7, ground := Ground.phase }, { on := 8, ground := Ground.phase }, { on := 9, ground := Ground.phase }, { on := 10, ground := Ground.phase }, { on := 11, ground := Ground.phase }, { on := 12, ground := Ground.phase }, { on := 13, ground := Ground.phase }, { on := 14, ground := Ground.phase }, { on := 15, ground := Ground.phase }, { on := 16, ground := Ground.phase }, { on := 17, ground := Ground.phase }, { on := 18, ground := Ground.phase }, { on := 19, ground := Ground.phase }, { on := 20, ground := Ground.phase }, { on := 21, ground := Ground.phase }, { on := 22, ground := Ground.phase }, { on := 23, ground := Ground.phase }, { on := 24, ground := Ground.phase }, { on := 25, ground := Ground.phase }, { on := 26, ground := Ground.phase }, { on := 27, ground := Ground.phase }, { on := 28, ground := Ground.phase }, { on := 29, ground := Ground.phase }, { on := 30, ground := Ground.phase }, { on := 31, ground := Ground.phase }, { on := 32, ground := Ground.phase }, { on := 33, ground := Ground.phase }, { on := 34, ground := Ground.phase }, { on := 35, ground := Ground.phase }, { on := 36, ground := Ground.phase }, { on := 37, ground := Ground.phase }, { on := 38, ground := Ground.phase }, { on := 39, ground := Ground.phase }, { on := 40, ground := Ground.phase }, { on := 41, ground := Ground.phase }, { on := 42, ground := Ground.phase }, { on := 43, ground := Ground.phase }, { on := 44, ground := Ground.phase }, { on := 45, ground := Ground.phase }, { on := 46, ground := Ground.phase }, { on := 47, ground := Ground.phase }, { on := 48, ground := Ground.phase }, { on := 49, ground := Ground.phase }, { on := 50, ground := Ground.phase }, { on := 51, ground := Ground.phase }, { on := 52, ground := Ground.phase }, { on := 53, ground := Ground.phase }, { on := 54, ground := Ground.phase }, { on := 55, ground := Ground.phase }, { on := 56, ground := Ground.phase }], guard := none }) (v := .bool false) rfl (by kernel_rfl) (by kernel_rfl) (by kernel_rfl) (fun _ _ _ h => h) (Or.inl ⟨by rfl, ?_⟩) HL3.out.lc ?_
        · intro W hSw; clear hSw; go_simp
        try simp only [Act.put, zA1, zA2, zA3]
        refine wpAnyH_done (by kernel_rfl) ?_ _
        refine NoPanic.normal ?_
        go_wp2_with fail
        go_ret
        exact ⟨by rw [lay_3 HP1.out HT2.out HP3.out]; rfl, by rw [lay_3 HP1.out HT2.out HP3.out]; exact HL3.out, HK3.out⟩
      · refine wpAnyH_take (i := 34) (oi := { dst := some 48, op := Op.pick (Operand.tmp 42) (Operand.tmp 47) (Operand.const (Value.bool false)), type := 4, pos := "log.go:82", after := #[{ on := 28, ground := Ground.data }, { on := 33, ground := Ground.data }], guard := none }) (v := .bool true) rfl (by kernel_rfl) (by kernel_rfl) (by kernel_rfl) (fun _ _ _ h => h) (Or.inl ⟨by rfl, ?_⟩) HL3.out.lc ?_
        · intro W hSw; clear hSw; go_simp
        try simp only [Act.put, zA1, zA2, zA3]
        refine wpAnyH_take (i := 35) (oi := { dst := some 49, op := Op.move (Operand.tmp 48), type := 4, pos := "log.go:82", after := #[{ on := 34, ground := Ground.data }, { on := 33, ground := Ground.chain }], guard := none }) (v := .bool true) rfl (by kernel_rfl) (by kernel_rfl) (by kernel_rfl) (fun _ _ _ h => h) (Or.inl ⟨by rfl, ?_⟩) HL3.out.lc ?_
        · intro W hSw; clear hSw; go_simp
        try simp only [Act.put, zA1, zA2, zA3]
        refine wpAnyH_take (i := 36) (oi := { dst := some 50, op := Op.move (Operand.tmp 0), type := 91, pos := "log.go:82", after := #[{ on := 35, ground := Ground.guard }], guard := some (35, true) }) (v := ptr g) rfl (by kernel_rfl) (by kernel_rfl) (by kernel_rfl) (fun _ _ _ h => h) (Or.inl ⟨by rfl, ?_⟩) HL3.out.lc ?_
        · intro W hSw; clear hSw; go_simp
        try simp only [Act.put, zA1, zA2, zA3]
        refine wpAnyH_take (i := 37) (oi := { dst := some 51, op := Op.nilCheck (Operand.tmp 50), type := 0, pos := "log.go:82", after := #[{ on := 36, ground := Ground.data }, { on := 35, ground := Ground.guard }], guard := some (35, true) }) (v := .pointer (some ⟨g, 0, none⟩)) rfl (by kernel_rfl) (by kernel_rfl) (by kernel_rfl) (fun _ _ _ h => h) (Or.inl ⟨by rfl, ?_⟩) HL3.out.lc ?_
        · intro W hSw; clear hSw; go_simp
        try simp only [Act.put, zA1, zA2, zA3]
        refine wpAnyH_take (i := 38) (oi := { dst := some 52, op := Op.fieldAddr 133 (Operand.tmp 51) 0, type := 0, pos := "log.go:82", after := #[{ on := 37, ground := Ground.data }, { on := 35, ground := Ground.guard }], guard := some (35, true) }) (v := .pointer (some ⟨g, 0, none⟩)) rfl (by kernel_rfl) (by kernel_rfl) (by kernel_rfl) (fun _ _ _ h => h) (Or.inl ⟨by rfl, ?_⟩) HL3.out.lc ?_
        · intro W hSw; clear hSw; go_simp
        try simp only [Act.put, zA1, zA2, zA3]
        refine wpAnyH_take (i := 39) (oi := { dst := some 53, op := Op.load 24 (Operand.tmp 52), type := 24, pos := "log.go:82", after := #[{ on := 38, ground := Ground.data }, { on := 35, ground := Ground.guard }], guard := some (35, true) }) (v := ptr gd) rfl (by kernel_rfl) (by kernel_rfl) (by kernel_rfl) (fun _ _ _ h => h) (Or.inl ⟨by rfl, ?_⟩) HL3.out.lc ?_
        · intro W hSw; obtain ⟨k0, k2, k3⟩ := hSw; go_simp
        try simp only [Act.put, zA1, zA2, zA3]
        refine wpAnyH_take (i := 40) (oi := { dst := some 54, op := Op.move (Operand.tmp 0), type := 91, pos := "log.go:82", after := #[{ on := 35, ground := Ground.guard }], guard := some (35, true) }) (v := ptr g) rfl (by kernel_rfl) (by kernel_rfl) (by kernel_rfl) (fun _ _ _ h => h) (Or.inl ⟨by rfl, ?_⟩) HL3.out.lc ?_
        · intro W hSw; clear hSw; go_simp
        try simp only [Act.put, zA1, zA2, zA3]
        refine wpAnyH_take (i := 41) (oi := { dst := some 55, op := Op.nilCheck (Operand.tmp 54), type := 0, pos := "log.go:82", after := #[{ on := 40, ground := Ground.data }, { on := 35, ground := Ground.guard }], guard := some (35, true) }) (v := .pointer (some ⟨g, 0, none⟩)) rfl (by kernel_rfl) (by kernel_rfl) (by kernel_rfl) (fun _ _ _ h => h) (Or.inl ⟨by rfl, ?_⟩) HL3.out.lc ?_
        · intro W hSw; clear hSw; go_simp
        try simp only [Act.put, zA1, zA2, zA3]
        refine wpAnyH_take (i := 42) (oi := { dst := some 56, op := Op.fieldAddr 133 (Operand.tmp 55) 2, type := 0, pos := "log.go:82", after := #[{ on := 41, ground := Ground.data }, { on := 35, ground := Ground.guard }], guard := some (35, true) }) (v := .pointer (some ⟨g, 2, none⟩)) rfl (by kernel_rfl) (by kernel_rfl) (by kernel_rfl) (fun _ _ _ h => h) (Or.inl ⟨by rfl, ?_⟩) HL3.out.lc ?_
        · intro W hSw; clear hSw; go_simp
        try simp only [Act.put, zA1, zA2, zA3]
        refine wpAnyH_take (i := 43) (oi := { dst := some 57, op := Op.load 3 (Operand.tmp 56), type := 3, pos := "log.go:82", after := #[{ on := 42, ground := Ground.data }, { on := 35, ground := Ground.guard }], guard := some (35, true) }) (v := .int .i64 (L.p : Int)) rfl (by kernel_rfl) (by kernel_rfl) (by kernel_rfl) (fun _ _ _ h => h) (Or.inl ⟨by rfl, ?_⟩) HL3.out.lc ?_
        · intro W hSw; obtain ⟨k0, k2, k3⟩ := hSw; go_simp
        try simp only [Act.put, zA1, zA2, zA3]
        refine wpAnyH_take (i := 44) (oi := { dst := some 58, op := Op.move (Operand.tmp 0), type := 91, pos := "log.go:82", after := #[{ on := 35, ground := Ground.guard }], guard := some (35, true) }) (v := ptr g) rfl (by kernel_rfl) (by kernel_rfl) (by kernel_rfl) (fun _ _ _ h => h) (Or.inl ⟨by rfl, ?_⟩) HL3.out.lc ?_
        · intro W hSw; clear hSw; go_simp
        try simp only [Act.put, zA1, zA2, zA3]
        refine wpAnyH_take (i := 45) (oi := { dst := some 59, op := Op.move (Operand.tmp 1), type := 42, pos := "log.go:82", after := #[{ on := 35, ground := Ground.guard }], guard := some (35, true) }) (v := .slice A n c) rfl (by kernel_rfl) (by kernel_rfl) (by kernel_rfl) (fun _ _ _ h => h) (Or.inl ⟨by rfl, ?_⟩) HL3.out.lc ?_
        · intro W hSw; clear hSw; go_simp
        try simp only [Act.put, zA1, zA2, zA3]
        refine wpAnyH_take (i := 46) (oi := { dst := some 60, op := Op.call { callee := Callee.builtin Builtin.len, args := #[Operand.tmp 59], argTypes := #[42] }, type := 3, pos := "log.go:82", after := #[{ on := 45, ground := Ground.data }, { on := 35, ground := Ground.guard }], guard := some (35, true) }) (v := .int .i64 (n : Int)) rfl (by kernel_rfl) (by kernel_rfl) (by kernel_rfl) (fun _ _ _ h => h) (Or.inl ⟨by rfl, ?_⟩) HL3.out.lc ?_
        · intro W hSw; clear hSw; go_simp
        try simp only [Act.put, zA1, zA2, zA3]
        refine wpAnyH_1 (i := 47) (by kernel_rfl) (wpOp_call (o := { dst := some 61, op := Op.call { callee := Callee.value (Operand.func 209), args := #[Operand.tmp 58, Operand.tmp 60], argTypes := #[91, 3] }, type := 42, pos := "log.go:85", after := #[{ on := 44, ground := Ground.data }, { on := 46, ground := Ground.data }, { on := 35, ground := Ground.chain }, { on := 35, ground := Ground.guard }], guard := some (35, true) }) (f := 209) rfl (by rfl) (by go_simp) ((head_ HL3.out HRN.out).mono ?_))
        rintro e w4 ⟨bh, rfl, _, hh4, hb4⟩
        have HH4 := Lib.hid hh4
        have HL4 := Lib.hid (HL3.out.below hb4)
        have HK4 := Lib.hid (HK3.out.trans (Keep.of_below hb4))
        clear hh4 hb4
        refine ⟨_, rfl, HL4.out.lc, ?_⟩
        try simp only [Act.put, zA1, zA2, zA3]
        obtain ⟨s5, b5, hP5⟩ : ∃ s5 b5, s3.tryW L.p (L.head (n : Int)) = (s5, b5) := ⟨_, _, rfl⟩
        have HP5 := Lib.hid hP5
        have HP5' := Lib.hid (HHN.out s3 _ _ hP5)
        clear hP5
        refine wpAnyH_1 (i := 48) (by kernel_rfl) (wpOp_call (o := { dst := some 62, op := Op.call { callee := Callee.value (Operand.func 33), args := #[Operand.tmp 53, Operand.tmp 57, Operand.tmp 61], argTypes := #[24, 3, 42] }, type := 4, pos := "log.go:85", after := #[{ on := 39, ground := Ground.data }, { on := 43, ground := Ground.data }, { on := 47, ground := Ground.data }, { on := 47, ground := Ground.chain }, { on := 35, ground := Ground.guard }], guard := some (35, true) }) (f := 33) rfl (by rfl) (by go_simp) ((log_write HL4.out (lim_mono HM3.out.1 (by omega)) (HPN.out w4 s3 HL4.out) (headB_length _ _ _) HH4.out HP5.out).mono ?_))
        rintro e w5 ⟨rfl, hl5, hk5⟩
        have HL5 := Lib.hid hl5
        have HK5 := Lib.hid (HK4.out.trans hk5)
        clear hl5 hk5
        refine ⟨_, rfl, HL5.out.lc, ?_⟩
        try simp only [Act.put, zA1, zA2, zA3]
        cases b5
        · refine wpAnyH_take (i := 49) (oi := { dst := some 63, op := Op.pick (Operand.tmp 49) (Operand.tmp 62) (Operand.const (Value.bool false)), type := 4, pos := "log.go:82", after := #[{ on := 35, ground := Ground.data }, { on := 48, ground := Ground.data }], guard := none }) (v := .bool false) rfl (by kernel_rfl) (by kernel_rfl) (by kernel_rfl) (fun _ _ _ h => h) (Or.inl ⟨by rfl, ?_⟩) HL5.out.lc ?_
          · intro W hSw; clear hSw; go_simp
          try simp only [Act.put, zA1, zA2, zA3]
          refine wpAnyH_take (i := 50) (oi := { dst := some 64, op := Op.move (Operand.tmp 63), type := 4, pos := "log.go:82", after := #[{ on := 49, ground := Ground.data }, { on := 48, ground := Ground.chain }], guard := none }) (v := .bool false) rfl (by kernel_rfl) (by kernel_rfl) (by kernel_rfl) (fun _ _ _ h => h) (Or.inl ⟨by rfl, ?_⟩) HL5.out.lc ?_
          · intro W hSw; clear hSw; go_simp
          try simp only [Act.put, zA1, zA2, zA3]
          refine wpAnyH_take (i := 51) (oi := { dst := some 65, op := Op.move (Operand.tmp 0), type := 91, pos := "log.go:82", after := #[{ on := 50, ground := Ground.guard }], guard := some (50, true) }) (v := undef) rfl (by kernel_rfl) (by kernel_rfl) (by kernel_rfl) (fun _ _ _ h => h) (Or.inr ⟨by rfl, rfl⟩) HL5.out.lc ?_
          try simp only [Act.put, zA1, zA2, zA3]
          refine wpAnyH_take (i := 52) (oi := { dst := some 66, op := Op.nilCheck (Operand.tmp 65), type := 0, pos := "log.go:82", after := #[{ on := 51, ground := Ground.data }, { on := 50, ground := Ground.guard }], guard := some (50, true) }) (v := undef) rfl (by kernel_rfl) (by kernel_rfl) (by kernel_rfl) (fun _ _ _ h => h) (Or.inr ⟨by rfl, rfl⟩) HL5.out.lc ?_
          try simp only [Act.put, zA1, zA2, zA3]
          refine wpAnyH_take (i := 53) (oi := { dst := some 67, op := Op.fieldAddr 133 (Operand.tmp 66) 0, type := 0, pos := "log.go:82", after := #[{ on := 52, ground := Ground.data }, { on := 50, ground := Ground.guard }], guard := some (50, true) }) (v := undef) rfl (by kernel_rfl) (by kernel_rfl) (by kernel_rfl) (fun _ _ _ h => h) (Or.inr ⟨by rfl, rfl⟩) HL5.out.lc ?_
          try simp only [Act.put, zA1, zA2, zA3]
          refine wpAnyH_take (i := 54) (oi := { dst := some 68, op := Op.load 24 (Operand.tmp 67), type := 24, pos := "log.go:82", after := #[{ on := 53, ground := Ground.data }, { on := 50, ground := Ground.guard }], guard := some (50, true) }) (v := undef) rfl (by kernel_rfl) (by kernel_rfl) (by kernel_rfl) (fun _ _ _ h => h) (Or.inr ⟨by rfl, rfl⟩) HL5.out.lc ?_
          try simp only [Act.put, zA1, zA2, zA3]
          refine wpAnyH_take (i := 55) (oi := { dst := some 69, op := Op.call { callee := Callee.value (Operand.func 189), args := #[Operand.tmp 68], argTypes := #[24] }, type := 4, pos := "log.go:86", after := #[{ on := 54, ground := Ground.data }, { on := 50, ground := Ground.chain }, { on := 50, ground := Ground.guard }], guard := some (50, true) }) (v := undef) rfl (by kernel_rfl) (by kernel_rfl) (by kernel_rfl) (fun _ _ _ h => h) (Or.inr ⟨by rfl, rfl⟩) HL5.out.lc ?_
          try simp only [Act.put, zA1, zA2, zA3]
          refine wpAnyH_take (i := 56) (oi := { dst := some 70, op := Op.pick (Operand.tmp 64) (Operand.tmp 69) (Operand.const (Value.bool false)), type := 4, pos := "log.go:82", after := #[{ on := 50, ground := Ground.data }, { on := 55, ground := Ground.data }], guard := none }) (v := .bool false) rfl (by kernel_rfl) (by kernel_rfl) (by kernel_rfl) (fun _ _ _ h => h) (Or.inl ⟨by rfl, ?_⟩) HL5.out.lc ?_
          · intro W hSw; clear hSw; go_simp
          try simp only [Act.put, zA1, zA2, zA3]
          refine wpAnyH_take (i := 57) (oi := { dst := some 4, op := Op.assign (Operand.tmp 70), type := 4, pos := "log.go:82", after := #[{ on := 56, ground := Ground.data }, { on := 55, ground := Ground.chain }, { on := 0, ground := Ground.phase }, { on := 1, ground := Ground.phase }, { on := 2, ground := Ground.phase }, { on := 3, ground := Ground.phase }, { on := 4, ground := Ground.phase }, { on := 5, ground := Ground.phase }, { on := 6, ground := Ground.phase }, { on := 7, ground := Ground.phase }, { on := 8, ground := Ground.phase }, { on := 9, ground := Ground.phase }, { on := 10, ground := Ground.phase }, { on := 11, ground := Ground.phase }, { on := 12, ground := Ground.phase }, { on := 13, ground := Ground.phase }, { on := 14, ground := Ground.phase }, { on := 15, ground := Ground.phase }, { on := 16, ground := Ground.phase }, { on := 17, ground := Ground.phase }, { on := 18, ground := Ground.phase }, { on := 19, ground := Ground.phase }, { on := 20, ground := Ground.phase }, { on := 21, ground := Ground.phase }, { on := 22, ground := Ground.phase }, { on := 23, ground := Ground.phase }, { on := 24, ground := Ground.phase }, { on := 25, ground := Ground.phase }, { on := 26, ground := Ground.phase }, { on := 27, ground := Ground.phase }, { on := 28, ground := Ground.phase }, { on := 29, ground := Ground.phase }, { on := 30, ground := Ground.phase }, { on := 31, ground := Ground.phase }, { on := 32, ground := Ground.phase }, { on := 33, ground := Ground.phase }, { on := 34, ground := Ground.phase }, { on := 35, ground := Ground.phase }, { on := 36, ground := Ground.phase }, { on := 37, ground := Ground.phase }, { on := 38, ground := Ground.phase }, { on := 39, ground := Ground.phase }, { on := 40, ground := Ground.phase }, { on := 41, ground := Ground.phase }, { on := 42, ground := Ground.phase }, { on := 43, ground := Ground.phase }, { on := 44, ground := Ground.phase }, { on := 45, ground := Ground.phase }, { on := 46, ground := Ground.phase }, { on := 47, ground := Ground.phase }, { on := 48, ground := Ground.phase }, { on := 49, ground := Ground.phase }, { on := 50, ground := Ground.phase }, { on := 51, ground := Ground.phase }, { on := 52, ground := Ground.phase }, { on := 53, ground := Ground.phase }, { on := 54, ground := Ground.phase }, { on := 55, ground := Ground.phase }, { on := 56, ground := Ground.phase }], guard := none }) (v := .bool false) rfl (by kernel_rfl) (by kernel_rfl) (by kernel_rfl) (fun _ _ _ h => h) (Or.inl ⟨by rfl, ?_⟩) HL5.out.lc ?_
          · intro W hSw; clear hSw; go_simp
          try simp only [Act.put, zA1, zA2, zA3]
          refine wpAnyH_done (by kernel_rfl) ?_ _
          refine NoPanic.normal ?_
          go_wp2_with fail
          go_ret
          exact ⟨by rw [lay_4 HP1.out HT2.out HP3.out HP5'.out]; rfl, by rw [lay_4 HP1.out HT2.out HP3.out HP5'.out]; exact HL5.out, HK5.out⟩
        · refine wpAnyH_take (i := 49) (oi := { dst := some 63, op := Op.pick (Operand.tmp 49) (Operand.tmp 62) (Operand.const (Value.bool false)), type := 4, pos := "log.go:82", after := #[{ on := 35, ground := Ground.data }, { on := 48, ground := Ground.data }], guard := none }) (v := .bool true) rfl (by kernel_rfl) (by kernel_rfl) (by kernel_rfl) (fun _ _ _ h => h) (Or.inl ⟨by rfl, ?_⟩) HL5.out.lc ?_
          · intro W hSw; clear hSw; go_simp
          try simp only [Act.put, zA1, zA2, zA3]
          refine wpAnyH_take (i := 50) (oi := { dst := some 64, op := Op.move (Operand.tmp 63), type := 4, pos := "log.go:82", after := #[{ on := 49, ground := Ground.data }, { on := 48, ground := Ground.chain }], guard := none }) (v := .bool true) rfl (by kernel_rfl) (by kernel_rfl) (by kernel_rfl) (fun _ _ _ h => h) (Or.inl ⟨by rfl, ?_⟩) HL5.out.lc ?_
          · intro W hSw; clear hSw; go_simp
          try simp only [Act.put, zA1, zA2, zA3]
          refine wpAnyH_take (i := 51) (oi := { dst := some 65, op := Op.move (Operand.tmp 0), type := 91, pos := "log.go:82", after := #[{ on := 50, ground := Ground.guard }], guard := some (50, true) }) (v := ptr g) rfl (by kernel_rfl) (by kernel_rfl) (by kernel_rfl) (fun _ _ _ h => h) (Or.inl ⟨by rfl, ?_⟩) HL5.out.lc ?_
          · intro W hSw; clear hSw; go_simp
          try simp only [Act.put, zA1, zA2, zA3]
          refine wpAnyH_take (i := 52) (oi := { dst := some 66, op := Op.nilCheck (Operand.tmp 65), type := 0, pos := "log.go:82", after := #[{ on := 51, ground := Ground.data }, { on := 50, ground := Ground.guard }], guard := some (50, true) }) (v := .pointer (some ⟨g, 0, none⟩)) rfl (by kernel_rfl) (by kernel_rfl) (by kernel_rfl) (fun _ _ _ h => h) (Or.inl ⟨by rfl, ?_⟩) HL5.out.lc ?_
          · intro W hSw; clear hSw; go_simp
          try simp only [Act.put, zA1, zA2, zA3]
          refine wpAnyH_take (i := 53) (oi := { dst := some 67, op := Op.fieldAddr 133 (Operand.tmp 66) 0, type := 0, pos := "log.go:82", after := #[{ on := 52, ground := Ground.data }, { on := 50, ground := Ground.guard }], guard := some (50, true) }) (v := .pointer (some ⟨g, 0, none⟩)) rfl (by kernel_rfl) (by kernel_rfl) (by kernel_rfl) (fun _ _ _ h => h) (Or.inl ⟨by rfl, ?_⟩) HL5.out.lc ?_
          · intro W hSw; clear hSw; go_simp
          try simp only [Act.put, zA1, zA2, zA3]
          refine wpAnyH_take (i := 54) (oi := { dst := some 68, op := Op.load 24 (Operand.tmp 67), type := 24, pos := "log.go:82", after := #[{ on := 53, ground := Ground.data }, { on := 50, ground := Ground.guard }], guard := some (50, true) }) (v := ptr gd) rfl (by kernel_rfl) (by kernel_rfl) (by kernel_rfl) (fun _ _ _ h => h) (Or.inl ⟨by rfl, ?_⟩) HL5.out.lc ?_
          · intro W hSw; obtain ⟨k0, k2, k3⟩ := hSw; go_simp
          try simp only [Act.put, zA1, zA2, zA3]
          obtain ⟨s6, b6, hP6⟩ : ∃ s6 b6, s5.tryS = (s6, b6) := ⟨_, _, rfl⟩
          have HP6 := Lib.hid hP6
          clear hP6
          refine wpAnyH_1 (i := 55) (by kernel_rfl) (wpOp_call (o := { dst := some 69, op := Op.call { callee := Callee.value (Operand.func 189), args := #[Operand.tmp 68], argTypes := #[24] }, type := 4, pos := "log.go:86", after := #[{ on := 54, ground := Ground.data }, { on := 50, ground := Ground.chain }, { on := 50, ground := Ground.guard }], guard := some (50, true) }) (f := 189) rfl (by rfl) (by go_simp) ((log_sync HL5.out HP6.out).mono ?_))
          rintro e w6 ⟨rfl, hl6, hk6⟩
          have HL6 := Lib.hid hl6
          have HK6 := Lib.hid (HK5.out.trans hk6)
          clear hl6 hk6
          refine ⟨_, rfl, HL6.out.lc, ?_⟩
          try simp only [Act.put, zA1, zA2, zA3]
          refine wpAnyH_take (i := 56) (oi := { dst := some 70, op := Op.pick (Operand.tmp 64) (Operand.tmp 69) (Operand.const (Value.bool false)), type := 4, pos := "log.go:82", after := #[{ on := 50, ground := Ground.data }, { on := 55, ground := Ground.data }], guard := none }) (v := .bool b6) rfl (by kernel_rfl) (by kernel_rfl) (by kernel_rfl) (fun _ _ _ h => h) (Or.inl ⟨by rfl, ?_⟩) HL6.out.lc ?_
          · intro W hSw; clear hSw; go_simp
          try simp only [Act.put, zA1, zA2, zA3]
          refine wpAnyH_take (i := 57) (oi := { dst := some 4, op := Op.assign (Operand.tmp 70), type := 4, pos := "log.go:82", after := #[{ on := 56, ground := Ground.data }, { on := 55, ground := Ground.chain }, { on := 0, ground := Ground.phase }, { on := 1, ground := Ground.phase }, { on := 2, ground := Ground.phase }, { on := 3, ground := Ground.phase }, { on := 4, ground := Ground.phase }, { on := 5, ground := Ground.phase }, { on := 6, ground := Ground.phase }, { on := 7, ground := Ground.phase }, { on := 8, ground := Ground.phase }, { on := 9, ground := Ground.phase }, { on := 10, ground := Ground.phase }, { on := 11, ground := Ground.phase }, { on := 12, ground := Ground.phase }, { on := 13, ground := Ground.phase }, { on := 14, ground := Ground.phase }, { on := 15, ground := Ground.phase }, { on := 16, ground := Ground.phase }, { on := 17, ground := Ground.phase }, { on := 18, ground := Ground.phase }, { on := 19, ground := Ground.phase }, { on := 20, ground := Ground.phase }, { on := 21, ground := Ground.phase }, { on := 22, ground := Ground.phase }, { on := 23, ground := Ground.phase }, { on := 24, ground := Ground.phase }, { on := 25, ground := Ground.phase }, { on := 26, ground := Ground.phase }, { on := 27, ground := Ground.phase }, { on := 28, ground := Ground.phase }, { on := 29, ground := Ground.phase }, { on := 30, ground := Ground.phase }, { on := 31, ground := Ground.phase }, { on := 32, ground := Ground.phase }, { on := 33, ground := Ground.phase }, { on := 34, ground := Ground.phase }, { on := 35, ground := Ground.phase }, { on := 36, ground := Ground.phase }, { on := 37, ground := Ground.phase }, { on := 38, ground := Ground.phase }, { on := 39, ground := Ground.phase }, { on := 40, ground := Ground.phase }, { on := 41, ground := Ground.phase }, { on := 42, ground := Ground.phase }, { on := 43, ground := Ground.phase }, { on := 44, ground := Ground.phase }, { on := 45, ground := Ground.phase }, { on := 46, ground := Ground.phase }, { on := 47, ground := Ground.phase }, { on := 48, ground := Ground.phase }, { on := 49, ground := Ground.phase }, { on := 50, ground := Ground.phase }, { on := 51, ground := Ground.phase }, { on := 52, ground := Ground.phase }, { on := 53, ground := Ground.phase }, { on := 54, ground := Ground.phase }, { on := 55, ground := Ground.phase }, { on := 56, ground := Ground.phase }], guard := none }) (v := .bool b6) rfl (by kernel_rfl) (by kernel_rfl) (by kernel_rfl) (fun _ _ _ h => h) (Or.inl ⟨by rfl, ?_⟩) HL6.out.lc ?_
          · intro W hSw; clear hSw; go_simp
          try simp only [Act.put, zA1, zA2, zA3]
          refine wpAnyH_done (by kernel_rfl) ?_ _
          refine NoPanic.normal ?_
          go_wp2_with fail
          go_ret
          exact ⟨by rw [lay_5 HP1.out HT2.out HP3.out HP5'.out HP6.out]; rfl, by rw [lay_5 HP1.out HT2.out HP3.out HP5'.out HP6.out]; exact HL6.out, HK6.out⟩
  · have HTL : Hid (∀ t : Dk, L.tail b.length t = t.tryW q (zeros 64)) := fun t => by rw [tail_try (by rw [hn, hq]; exact hqe), hn, hq]
    have HQN : Hid (∀ (W : World) (t : Dk), LogAt W g gd R t L → q < t.n) := fun W t ht => by have := ht.fn.1; omega
    clear hn hnx hf hx
    refine wp_region_noPanic ?_
    refine wp_region_held_drew (S := fun W => LC g gd L W) (by kernel_rfl) HLD.out.lc (fun _ => ?_)
    refine wpAnyH_take (i := 0) (oi := { dst := some 14, op := Op.move (Operand.tmp 0), type := 91, pos := "log.go:82", after := #[], guard := none }) (v := ptr g) rfl (by kernel_rfl) (by kernel_rfl) (by kernel_rfl) (fun _ _ _ h => h) (Or.inl ⟨by rfl, ?_⟩) HLD.out.lc ?_
    · intro W hSw; clear hSw; go_simp
    try simp only [Act.put, zA1, zA2, zA3]
    refine wpAnyH_take (i := 1) (oi := { dst := some 15, op := Op.nilCheck (Operand.tmp 14), type := 0, pos := "log.go:82", after := #[{ on := 0, ground := Ground.data }], guard := none }) (v := .pointer (some ⟨g, 0, none⟩)) rfl (by kernel_rfl) (by kernel_rfl) (by kernel_rfl) (fun _ _ _ h => h) (Or.inl ⟨by rfl, ?_⟩) HLD.out.lc ?_
    · intro W hSw; clear hSw; go_simp
    try simp only [Act.put, zA1, zA2, zA3]
    refine wpAnyH_take (i := 2) (oi := { dst := some 16, op := Op.fieldAddr 133 (Operand.tmp 15) 0, type := 0, pos := "log.go:82", after := #[{ on := 1, ground := Ground.data }], guard := none }) (v := .pointer (some ⟨g, 0, none⟩)) rfl (by kernel_rfl) (by kernel_rfl) (by kernel_rfl) (fun _ _ _ h => h) (Or.inl ⟨by rfl, ?_⟩) HLD.out.lc ?_
    · intro W hSw; clear hSw; go_simp
    try simp only [Act.put, zA1, zA2, zA3]
    refine wpAnyH_take (i := 3) (oi := { dst := some 17, op := Op.load 24 (Operand.tmp 16), type := 24, pos := "log.go:82", after := #[{ on := 2, ground := Ground.data }], guard := none }) (v := ptr gd) rfl (by kernel_rfl) (by kernel_rfl) (by kernel_rfl) (fun _ _ _ h => h) (Or.inl ⟨by rfl, ?_⟩) HLD.out.lc ?_
    · intro W hSw; obtain ⟨k0, k2, k3⟩ := hSw; go_simp
    try simp only [Act.put, zA1, zA2, zA3]
    refine wpAnyH_take (i := 4) (oi := { dst := some 18, op := Op.move (Operand.tmp 0), type := 91, pos := "log.go:82", after := #[], guard := none }) (v := ptr g) rfl (by kernel_rfl) (by kernel_rfl) (by kernel_rfl) (fun _ _ _ h => h) (Or.inl ⟨by rfl, ?_⟩) HLD.out.lc ?_
    · intro W hSw; clear hSw; go_simp
    try simp only [Act.put, zA1, zA2, zA3]
    refine wpAnyH_take (i := 5) (oi := { dst := some 19, op := Op.nilCheck (Operand.tmp 18), type := 0, pos := "log.go:82", after := #[{ on := 4, ground := Ground.data }], guard := none }) (v := .pointer (some ⟨g, 0, none⟩)) rfl (by kernel_rfl) (by kernel_rfl) (by kernel_rfl) (fun _ _ _ h => h) (Or.inl ⟨by rfl, ?_⟩) HLD.out.lc ?_
    · intro W hSw; clear hSw; go_simp
    try simp only [Act.put, zA1, zA2, zA3]
    refine wpAnyH_take (i := 6) (oi := { dst := some 20, op := Op.fieldAddr 133 (Operand.tmp 19) 2, type := 0, pos := "log.go:82", after := #[{ on := 5, ground := Ground.data }], guard := none }) (v := .pointer (some ⟨g, 2, none⟩)) rfl (by kernel_rfl) (by kernel_rfl) (by kernel_rfl) (fun _ _ _ h => h) (Or.inl ⟨by rfl, ?_⟩) HLD.out.lc ?_
    · intro W hSw; clear hSw; go_simp
    try simp only [Act.put, zA1, zA2, zA3]
    refine wpAnyH_take (i := 7) (oi := { dst := some 21, op := Op.load 3 (Operand.tmp 20), type := 3, pos := "log.go:82", after := #[{ on := 6, ground := Ground.data }], guard := none }) (v := .int .i64 (L.p : Int)) rfl (by kernel_rfl) (by kernel_rfl) (by kernel_rfl) (fun _ _ _ h => h) (Or.inl ⟨by rfl, ?_⟩) HLD.out.lc ?_
    · intro W hSw; obtain ⟨k0, k2, k3⟩ := hSw; go_simp
    try simp only [Act.put, zA1, zA2, zA3]
    refine wpAnyH_take (i := 8) (oi := { dst := some 22, op := Op.binOp BinOp.add 3 (Operand.tmp 21) (Operand.const (Value.int IntKind.i64 1)) 3, type := 3, pos := "log.go:82", after := #[{ on := 7, ground := Ground.data }], guard := none }) (v := .int .i64 ((L.p : Int) + 1)) rfl (by kernel_rfl) (by kernel_rfl) (by kernel_rfl) (fun _ _ _ h => h) (Or.inl ⟨by rfl, ?_⟩) HLD.out.lc ?_
    · intro W hSw; clear hSw; go_simp; exact IntWalk.i64_in _ (by omega)
    try simp only [Act.put, zA1, zA2, zA3]
    refine wpAnyH_take (i := 9) (oi := { dst := some 23, op := Op.move (Operand.tmp 1), type := 42, pos := "log.go:82", after := #[], guard := none }) (v := .slice A n c) rfl (by kernel_rfl) (by kernel_rfl) (by kernel_rfl) (fun _ _ _ h => h) (Or.inl ⟨by rfl, ?_⟩) HLD.out.lc ?_
    · intro W hSw; clear hSw; go_simp
    try simp only [Act.put, zA1, zA2, zA3]
    refine wpAnyH_1 (i := 10) (by kernel_rfl) (wpOp_call (o := { dst := some 24, op := Op.call { callee := Callee.value (Operand.func 188), args := #[Operand.tmp 17, Operand.tmp 22, Operand.tmp 23], argTypes := #[24, 3, 42] }, type := 4, pos := "log.go:82", after := #[{ on := 3, ground := Ground.data }, { on := 8, ground := Ground.data }, { on := 9, ground := Ground.data }], guard := none }) (f := 188) rfl (by rfl) (by go_simp) ((log_put HL0.out HLIM.out HB.out HN.out HC.out HX.out HP1.out).mono ?_))
    rintro e w1 ⟨rfl, hl1, hk1⟩
    have HL1 := Lib.hid hl1
    have HK1 := Lib.hid (HK0.out.trans hk1)
    clear hl1 hk1
    have hM1 := put_lim HLIM.out HOK.out HP1.out
    refine ⟨_, rfl, HL1.out.lc, ?_⟩
    try simp only [Act.put, zA1, zA2, zA3]
    cases b1
    · refine wpAnyH_take (i := 11) (oi := { dst := some 25, op := Op.move (Operand.tmp 24), type := 4, pos := "log.go:82", after := #[{ on := 10, ground := Ground.data }, { on := 10, ground := Ground.chain }], guard := none }) (v := .bool false) rfl (by kernel_rfl) (by kernel_rfl) (by kernel_rfl) (fun _ _ _ h => h) (Or.inl ⟨by rfl, ?_⟩) HL1.out.lc ?_
      · intro W hSw; clear hSw; go_simp
      try simp only [Act.put, zA1, zA2, zA3]
      refine wpAnyH_take (i := 12) (oi := { dst := some 26, op := Op.move (Operand.tmp 5), type := 3, pos := "log.go:82", after := #[{ on := 11, ground := Ground.guard }], guard := some (11, true) }) (v := undef) rfl (by kernel_rfl) (by kernel_rfl) (by kernel_rfl) (fun _ _ _ h => h) (Or.inr ⟨by rfl, rfl⟩) HL1.out.lc ?_
      try simp only [Act.put, zA1, zA2, zA3]
      refine wpAnyH_take (i := 13) (oi := { dst := some 27, op := Op.move (Operand.tmp 0), type := 91, pos := "log.go:82", after := #[{ on := 11, ground := Ground.guard }], guard := some (11, true) }) (v := undef) rfl (by kernel_rfl) (by kernel_rfl) (by kernel_rfl) (fun _ _ _ h => h) (Or.inr ⟨by rfl, rfl⟩) HL1.out.lc ?_
      try simp only [Act.put, zA1, zA2, zA3]
      refine wpAnyH_take (i := 14) (oi := { dst := some 28, op := Op.nilCheck (Operand.tmp 27), type := 0, pos := "log.go:82", after := #[{ on := 13, ground := Ground.data }, { on := 11, ground := Ground.guard }], guard := some (11, true) }) (v := undef) rfl (by kernel_rfl) (by kernel_rfl) (by kernel_rfl) (fun _ _ _ h => h) (Or.inr ⟨by rfl, rfl⟩) HL1.out.lc ?_
      try simp only [Act.put, zA1, zA2, zA3]
      refine wpAnyH_take (i := 15) (oi := { dst := some 29, op := Op.fieldAddr 133 (Operand.tmp 28) 3, type := 0, pos := "log.go:82", after := #[{ on := 14, ground := Ground.data }, { on := 11, ground := Ground.guard }], guard := some (11, true) }) (v := undef) rfl (by kernel_rfl) (by kernel_rfl) (by kernel_rfl) (fun _ _ _ h => h) (Or.inr ⟨by rfl, rfl⟩) HL1.out.lc ?_
      try simp only [Act.put, zA1, zA2, zA3]
      refine wpAnyH_take (i := 16) (oi := { dst := some 30, op := Op.load 3 (Operand.tmp 29), type := 3, pos := "log.go:82", after := #[{ on := 15, ground := Ground.data }, { on := 11, ground := Ground.guard }], guard := some (11, true) }) (v := undef) rfl (by kernel_rfl) (by kernel_rfl) (by kernel_rfl) (fun _ _ _ h => h) (Or.inr ⟨by rfl, rfl⟩) HL1.out.lc ?_
      try simp only [Act.put, zA1, zA2, zA3]
      refine wpAnyH_take (i := 17) (oi := { dst := some 31, op := Op.binOp BinOp.eql 3 (Operand.tmp 26) (Operand.tmp 30) 3, type := 4, pos := "log.go:82", after := #[{ on := 12, ground := Ground.data }, { on := 16, ground := Ground.data }, { on := 11, ground := Ground.guard }], guard := some (11, true) }) (v := undef) rfl (by kernel_rfl) (by kernel_rfl) (by kernel_rfl) (fun _ _ _ h => h) (Or.inr ⟨by rfl, rfl⟩) HL1.out.lc ?_
      try simp only [Act.put, zA1, zA2, zA3]
      refine wpAnyH_take (i := 18) (oi := { dst := some 32, op := Op.move (Operand.tmp 31), type := 4, pos := "log.go:82", after := #[{ on := 17, ground := Ground.data }, { on := 11, ground := Ground.chain }, { on := 11, ground := Ground.guard }], guard := some (11, true) }) (v := undef) rfl (by kernel_rfl) (by kernel_rfl) (by kernel_rfl) (fun _ _ _ h => h) (Or.inr ⟨by rfl, rfl⟩) HL1.out.lc ?_
      try simp only [Act.put, zA1, zA2, zA3]
      refine wpAnyH_take (i := 19) (oi := { dst := some 33, op := Op.move (Operand.tmp 0), type := 91, pos := "log.go:82", after := #[{ on := 18, ground := Ground.guard }], guard := some (18, false) }) (v := undef) rfl (by kernel_rfl) (by kernel_rfl) (by kernel_rfl) (fun _ _ _ h => h) (Or.inr ⟨by rfl, rfl⟩) HL1.out.lc ?_
      try simp only [Act.put, zA1, zA2, zA3]
      refine wpAnyH_take (i := 20) (oi := { dst := some 34, op := Op.nilCheck (Operand.tmp 33), type := 0, pos := "log.go:82", after := #[{ on := 19, ground := Ground.data }, { on := 18, ground := Ground.guard }], guard := some (18, false) }) (v := undef) rfl (by kernel_rfl) (by kernel_rfl) (by kernel_rfl) (fun _ _ _ h => h) (Or.inr ⟨by rfl, rfl⟩) HL1.out.lc ?_
      try simp only [Act.put, zA1, zA2, zA3]
      refine wpAnyH_take (i := 21) (oi := { dst := some 35, op := Op.fieldAddr 133 (Operand.tmp 34) 0, type := 0, pos := "log.go:82", after := #[{ on := 20, ground := Ground.data }, { on := 18, ground := Ground.guard }], guard := some (18, false) }) (v := undef) rfl (by kernel_rfl) (by kernel_rfl) (by kernel_rfl) (fun _ _ _ h => h) (Or.inr ⟨by rfl, rfl⟩) HL1.out.lc ?_
      try simp only [Act.put, zA1, zA2, zA3]
      refine wpAnyH_take (i := 22) (oi := { dst := some 36, op := Op.load 24 (Operand.tmp 35), type := 24, pos := "log.go:82", after := #[{ on := 21, ground := Ground.data }, { on := 18, ground := Ground.guard }], guard := some (18, false) }) (v := undef) rfl (by kernel_rfl) (by kernel_rfl) (by kernel_rfl) (fun _ _ _ h => h) (Or.inr ⟨by rfl, rfl⟩) HL1.out.lc ?_
      try simp only [Act.put, zA1, zA2, zA3]
      refine wpAnyH_take (i := 23) (oi := { dst := some 37, op := Op.move (Operand.tmp 5), type := 3, pos := "log.go:82", after := #[{ on := 18, ground := Ground.guard }], guard := some (18, false) }) (v := undef) rfl (by kernel_rfl) (by kernel_rfl) (by kernel_rfl) (fun _ _ _ h => h) (Or.inr ⟨by rfl, rfl⟩) HL1.out.lc ?_
      try simp only [Act.put, zA1, zA2, zA3]
      refine wpAnyH_take (i := 24) (oi := { dst := some 38, op := Op.makeSlice 42 (Operand.const (Value.int IntKind.i64 64)) (Operand.const (Value.int IntKind.i64 64)), type := 42, pos := "log.go:82", after := #[{ on := 18, ground := Ground.guard }], guard := some (18, false) }) (v := undef) rfl (by kernel_rfl) (by kernel_rfl) (by kernel_rfl) (fun _ _ _ h => h) (Or.inr ⟨by rfl, rfl⟩) HL1.out.lc ?_
      try simp only [Act.put, zA1, zA2, zA3]
      refine wpAnyH_take (i := 25) (oi := { dst := some 39, op := Op.call { callee := Callee.value (Operand.func 33), args := #[Operand.tmp 36, Operand.tmp 37, Operand.tmp 38], argTypes := #[24, 3, 42] }, type := 4, pos := "log.go:83", after := #[{ on := 22, ground := Ground.data }, { on := 23, ground := Ground.data }, { on := 24, ground := Ground.data }, { on := 18, ground := Ground.chain }, { on := 18, ground := Ground.guard }], guard := some (18, false) }) (v := undef) rfl (by kernel_rfl) (by kernel_rfl) (by kernel_rfl) (fun _ _ _ h => h) (Or.inr ⟨by rfl, rfl⟩) HL1.out.lc ?_
      try simp only [Act.put, zA1, zA2, zA3]
      refine wpAnyH_take (i := 26) (oi := { dst := some 40, op := Op.pick (Operand.tmp 32) (Operand.const (Value.bool true)) (Operand.tmp 39), type := 4, pos := "log.go:82", after := #[{ on := 18, ground := Ground.data }, { on := 25, ground := Ground.data }, { on := 11, ground := Ground.guard }], guard := some (11, true) }) (v := undef) rfl (by kernel_rfl) (by kernel_rfl) (by kernel_rfl) (fun _ _ _ h => h) (Or.inr ⟨by rfl, rfl⟩) HL1.out.lc ?_
      try simp only [Act.put, zA1, zA2, zA3]
      refine wpAnyH_take (i := 27) (oi := { dst := some 41, op := Op.pick (Operand.tmp 25) (Operand.tmp 40) (Operand.const (Value.bool false)), type := 4, pos := "log.go:82", after := #[{ on := 11, ground := Ground.data }, { on := 26, ground := Ground.data }], guard := none }) (v := .bool false) rfl (by kernel_rfl) (by kernel_rfl) (by kernel_rfl) (fun _ _ _ h => h) (Or.inl ⟨by rfl, ?_⟩) HL1.out.lc ?_
      · intro W hSw; clear hSw; go_simp
      try simp only [Act.put, zA1, zA2, zA3]
      refine wpAnyH_take (i := 28) (oi := { dst := some 42, op := Op.move (Operand.tmp 41), type := 4, pos := "log.go:82", after := #[{ on := 27, ground := Ground.data }, { on := 25, ground := Ground.chain }], guard := none }) (v := .bool false) rfl (by kernel_rfl) (by kernel_rfl) (by kernel_rfl) (fun _ _ _ h => h) (Or.inl ⟨by rfl, ?_⟩) HL1.out.lc ?_
      · intro W hSw; clear hSw; go_simp
      try simp only [Act.put, zA1, zA2, zA3]
      refine wpAnyH_take (i := 29) (oi := { dst := some 43, op := Op.move (Operand.tmp 0), type := 91, pos := "log.go:82", after := #[{ on := 28, ground := Ground.guard }], guard := some (28, true) }) (v := undef) rfl (by kernel_rfl) (by kernel_rfl) (by kernel_rfl) (fun _ _ _ h => h) (Or.inr ⟨by rfl, rfl⟩) HL1.out.lc ?_
      try simp only [Act.put, zA1, zA2, zA3]
      refine wpAnyH_take (i := 30) (oi := { dst := some 44, op := Op.nilCheck (Operand.tmp 43), type := 0, pos := "log.go:82", after := #[{ on := 29, ground := Ground.data }, { on := 28, ground := Ground.guard }], guard := some (28, true) }) (v := undef) rfl (by kernel_rfl) (by kernel_rfl) (by kernel_rfl) (fun _ _ _ h => h) (Or.inr ⟨by rfl, rfl⟩) HL1.out.lc ?_
      try simp only [Act.put, zA1, zA2, zA3]
      refine wpAnyH_take (i := 31) (oi := { dst := some 45, op := Op.fieldAddr 133 (Operand.tmp 44) 0, type := 0, pos := "log.go:82", after := #[{ on := 30, ground := Ground.data }, { on := 28, ground := Ground.guard }], guard := some (28, true) }) (v := undef) rfl (by kernel_rfl) (by kernel_rfl) (by kernel_rfl) (fun _ _ _ h => h) (Or.inr ⟨by rfl, rfl⟩) HL1.out.lc ?_
      try simp only [Act.put, zA1, zA2, zA3]
      refine wpAnyH_take (i := 32) (oi := { dst := some 46, op := Op.load 24 (Operand.tmp 45), type := 24, pos := "log.go:82", after := #[{ on := 31, ground := Ground.data }, { on := 28, ground := Ground.guard }], guard := some (28, true) }) (v := undef) rfl (by kernel_rfl) (by kernel_rfl) (by kernel_rfl) (fun _ _ _ h => h) (Or.inr ⟨by rfl, rfl⟩) HL1.out.lc ?_
      try simp only [Act.put, zA1, zA2, zA3]
      refine wpAnyH_take (i := 33) (oi := { dst := some 47, op := Op.call { callee := Callee.value (Operand.func 189), args := #[Operand.tmp 46], argTypes := #[24] }, type := 4, pos := "log.go:84", after := #[{ on := 32, ground := Ground.data }, { on := 28, ground := Ground.chain }, { on := 28, ground := Ground.guard }], guard := some (28, true) }) (v := undef) rfl (by kernel_rfl) (by kernel_rfl) (by kernel_rfl) (fun _ _ _ h => h) (Or.inr ⟨by rfl, rfl⟩) HL1.out.lc ?_
      try simp only [Act.put, zA1, zA2, zA3]
      refine wpAnyH_take (i := 34) (oi := { dst := some 48, op := Op.pick (Operand.tmp 42) (Operand.tmp 47) (Operand.const (Value.bool false)), type := 4, pos := "log.go:82", after := #[{ on := 28, ground := Ground.data }, { on := 33, ground := Ground.data }], guard := none }) (v := .bool false) rfl (by kernel_rfl) (by kernel_rfl) (by kernel_rfl) (fun _ _ _ h => h) (Or.inl ⟨by rfl, ?_⟩) HL1.out.lc ?_
      · intro W hSw; clear hSw; go_simp
      try simp only [Act.put, zA1, zA2, zA3]
      refine wpAnyH_take (i := 35) (oi := { dst := some 49, op := Op.move (Operand.tmp 48), type := 4, pos := "log.go:82", after := #[{ on := 34, ground := Ground.data }, { on := 33, ground := Ground.chain }], guard := none }) (v := .bool false) rfl (by kernel_rfl) (by kernel_rfl) (by kernel_rfl) (fun _ _ _ h => h) (Or.inl ⟨by rfl, ?_⟩) HL1.out.lc ?_
      · intro W hSw; clear hSw; go_simp
      try simp only [Act.put, zA1, zA2, zA3]
      refine wpAnyH_take (i := 36) (oi := { dst := some 50, op := Op.move (Operand.tmp 0), type := 91, pos := "log.go:82", after := #[{ on := 35, ground := Ground.guard }], guard := some (35, true) }) (v := undef) rfl (by kernel_rfl) (by kernel_rfl) (by kernel_rfl) (fun _ _ _ h => h) (Or.inr ⟨by rfl, rfl⟩) HL1.out.lc ?_
      try simp only [Act.put, zA1, zA2, zA3]
      refine wpAnyH_take (i := 37) (oi := { dst := some 51, op := Op.nilCheck (Operand.tmp 50), type := 0, pos := "log.go:82", after := #[{ on := 36, ground := Ground.data }, { on := 35, ground := Ground.guard }], guard := some (35, true) }) (v := undef) rfl (by kernel_rfl) (by kernel_rfl) (by kernel_rfl) (fun _ _ _ h => h) (Or.inr ⟨by rfl, rfl⟩) HL1.out.lc ?_
      try simp only [Act.put, zA1, zA2, zA3]
      refine wpAnyH_take (i := 38) (oi := { dst := some 52, op := Op.fieldAddr 133 (Operand.tmp 51) 0, type := 0, pos := "log.go:82", after := #[{ on := 37, ground := Ground.data }, { on := 35, ground := Ground.guard }], guard := some (35, true) }) (v := undef) rfl (by kernel_rfl) (by kernel_rfl) (by kernel_rfl) (fun _ _ _ h => h) (Or.inr ⟨by rfl, rfl⟩) HL1.out.lc ?_
      try simp only [Act.put, zA1, zA2, zA3]
      refine wpAnyH_take (i := 39) (oi := { dst := some 53, op := Op.load 24 (Operand.tmp 52), type := 24, pos := "log.go:82", after := #[{ on := 38, ground := Ground.data }, { on := 35, ground := Ground.guard }], guard := some (35, true) }) (v := undef) rfl (by kernel_rfl) (by kernel_rfl) (by kernel_rfl) (fun _ _ _ h => h) (Or.inr ⟨by rfl, rfl⟩) HL1.out.lc ?_
      try simp only [Act.put, zA1, zA2, zA3]
      refine wpAnyH_take (i := 40) (oi := { dst := some 54, op := Op.move (Operand.tmp 0), type := 91, pos := "log.go:82", after := #[{ on := 35, ground := Ground.guard }], guard := some (35, true) }) (v := undef) rfl (by kernel_rfl) (by kernel_rfl) (by kernel_rfl) (fun _ _ _ h => h) (Or.inr ⟨by rfl, rfl⟩) HL1.out.lc ?_
      try simp only [Act.put, zA1, zA2, zA3]
      refine wpAnyH_take (i := 41) (oi := { dst := some 55, op := Op.nilCheck (Operand.tmp 54), type := 0, pos := "log.go:82", after := #[{ on := 40, ground := Ground.data }, { on := 35, ground := Ground.guard }], guard := some (35, true) }) (v := undef) rfl (by kernel_rfl) (by kernel_rfl) (by kernel_rfl) (fun _ _ _ h => h) (Or.inr ⟨by rfl, rfl⟩) HL1.out.lc ?_
      try simp only [Act.put, zA1, zA2, zA3]
      refine wpAnyH_take (i := 42) (oi := { dst := some 56, op := Op.fieldAddr 133 (Operand.tmp 55) 2, type := 0, pos := "log.go:82", after := #[{ on := 41, ground := Ground.data }, { on := 35, ground := Ground.guard }], guard := some (35, true) }) (v := undef) rfl (by kernel_rfl) (by kernel_rfl) (by kernel_rfl) (fun _ _ _ h => h) (Or.inr ⟨by rfl, rfl⟩) HL1.out.lc ?_
      try simp only [Act.put, zA1, zA2, zA3]
      refine wpAnyH_take (i := 43) (oi := { dst := some 57, op := Op.load 3 (Operand.tmp 56), type := 3, pos := "log.go:82", after := #[{ on := 42, ground := Ground.data }, { on := 35, ground := Ground.guard }], guard := some (35, true) }) (v := undef) rfl (by kernel_rfl) (by kernel_rfl) (by kernel_rfl) (fun _ _ _ h => h) (Or.inr ⟨by rfl, rfl⟩) HL1.out.lc ?_
      try simp only [Act.put, zA1, zA2, zA3]
      refine wpAnyH_take (i := 44) (oi := { dst := some 58, op := Op.move (Operand.tmp 0), type := 91, pos := "log.go:82", after := #[{ on := 35, ground := Ground.guard }], guard := some (35, true) }) (v := undef) rfl (by kernel_rfl) (by kernel_rfl) (by kernel_rfl) (fun _ _ _ h => h) (Or.inr ⟨by rfl, rfl⟩) HL1.out.lc ?_
      try simp only [Act.put, zA1, zA2, zA3]
      refine wpAnyH_take (i := 45) (oi := { dst := some 59, op := Op.move (Operand.tmp 1), type := 42, pos := "log.go:82", after := #[{ on := 35, ground := Ground.guard }], guard := some (35, true) }) (v := undef) rfl (by kernel_rfl) (by kernel_rfl) (by kernel_rfl) (fun _ _ _ h => h) (Or.inr ⟨by rfl, rfl⟩) HL1.out.lc ?_
      try simp only [Act.put, zA1, zA2, zA3]
      refine wpAnyH_take (i := 46) (oi := { dst := some 60, op := Op.call { callee := Callee.builtin Builtin.len, args := #[Operand.tmp 59], argTypes := #[42] }, type := 3, pos := "log.go:82", after := #[{ on := 45, ground := Ground.data }, { on := 35, ground := Ground.guard }], guard := some (35, true) }) (v := undef) rfl (by kernel_rfl) (by kernel_rfl) (by kernel_rfl) (fun _ _ _ h => h) (Or.inr ⟨by rfl, rfl⟩) HL1.out.lc ?_
      try simp only [Act.put, zA1, zA2, zA3]
      refine wpAnyH_take (i := 47) (oi := { dst := some 61, op := Op.call { callee := Callee.value (Operand.func 209), args := #[Operand.tmp 58, Operand.tmp 60], argTypes := #[91, 3] }, type := 42, pos := "log.go:85", after := #[{ on := 44, ground := Ground.data }, { on := 46, ground := Ground.data }, { on := 35, ground := Ground.chain }, { on := 35, ground := Ground.guard }], guard := some (35, true) }) (v := undef) rfl (by kernel_rfl) (by kernel_rfl) (by kernel_rfl) (fun _ _ _ h => h) (Or.inr ⟨by rfl, rfl⟩) HL1.out.lc ?_
      try simp only [Act.put, zA1, zA2, zA3]
      refine wpAnyH_take (i := 48) (oi := { dst := some 62, op := Op.call { callee := Callee.value (Operand.func 33), args := #[Operand.tmp 53, Operand.tmp 57, Operand.tmp 61], argTypes := #[24, 3, 42] }, type := 4, pos := "log.go:85", after := #[{ on := 39, ground := Ground.data }, { on := 43, ground := Ground.data }, { on := 47, ground := Ground.data }, { on := 47, ground := Ground.chain }, { on := 35, ground := Ground.guard }], guard := some (35, true) }) (v := undef) rfl (by kernel_rfl) (by kernel_rfl) (by kernel_rfl) (fun _ _ _ h => h) (Or.inr ⟨by rfl, rfl⟩) HL1.out.lc ?_
      try simp only [Act.put, zA1, zA2, zA3]
      refine wpAnyH_take (i := 49) (oi := { dst := some 63, op := Op.pick (Operand.tmp 49) (Operand.tmp 62) (Operand.const (Value.bool false)), type := 4, pos := "log.go:82", after := #[{ on := 35, ground := Ground.data }, { on := 48, ground := Ground.data }], guard := none }) (v := .bool false) rfl (by kernel_rfl) (by kernel_rfl) (by kernel_rfl) (fun _ _ _ h => h) (Or.inl ⟨by rfl, ?_⟩) HL1.out.lc ?_
      · intro W hSw; clear hSw; go_simp
      try simp only [Act.put, zA1, zA2, zA3]
      refine wpAnyH_take (i := 50) (oi := { dst := some 64, op := Op.move (Operand.tmp 63), type := 4, pos := "log.go:82", after := #[{ on := 49, ground := Ground.data }, { on := 48, ground := Ground.chain }], guard := none }) (v := .bool false) rfl (by kernel_rfl) (by kernel_rfl) (by kernel_rfl) (fun _ _ _ h => h) (Or.inl ⟨by rfl, ?_⟩) HL1.out.lc ?_
      · intro W hSw; clear hSw; go_simp
      try simp only [Act.put, zA1, zA2, zA3]
      refine wpAnyH_take (i := 51) (oi := { dst := some 65, op := Op.move (Operand.tmp 0), type := 91, pos := "log.go:82", after := #[{ on := 50, ground := Ground.guard }], guard := some (50, true) }) (v := undef) rfl (by kernel_rfl) (by kernel_rfl) (by kernel_rfl) (fun _ _ _ h => h) (Or.inr ⟨by rfl, rfl⟩) HL1.out.lc ?_
      try simp only [Act.put, zA1, zA2, zA3]
      refine wpAnyH_take (i := 52) (oi := { dst := some 66, op := Op.nilCheck (Operand.tmp 65), type := 0, pos := "log.go:82", after := #[{ on := 51, ground := Ground.data }, { on := 50, ground := Ground.guard }], guard := some (50, true) }) (v := undef) rfl (by kernel_rfl) (by kernel_rfl) (by kernel_rfl) (fun _ _ _ h => h) (Or.inr ⟨by rfl, rfl⟩) HL1.out.lc ?_
      try simp only [Act.put, zA1, zA2, zA3]
      refine wpAnyH_take (i := 53) (oi := { dst := some 67, op := Op.fieldAddr 133 (Operand.tmp 66) 0, type := 0, pos := "log.go:82", after := #[{ on := 52, ground := Ground.data }, { on := 50, ground := Ground.guard }], guard := some (50, true) }) (v := undef) rfl (by kernel_rfl) (by kernel_rfl) (by kernel_rfl) (fun _ _ _ h => h) (Or.inr ⟨by rfl, rfl⟩) HL1.out.lc ?_
      try simp only [Act.put, zA1, zA2, zA3]
      refine wpAnyH_take (i := 54) (oi := { dst := some 68, op := Op.load 24 (Operand.tmp 67), type := 24, pos := "log.go:82", after := #[{ on := 53, ground := Ground.data }, { on := 50, ground := Ground.guard }], guard := some (50, true) }) (v := undef) rfl (by kernel_rfl) (by kernel_rfl) (by kernel_rfl) (fun _ _ _ h => h) (Or.inr ⟨by rfl, rfl⟩) HL1.out.lc ?_
      try simp only [Act.put, zA1, zA2, zA3]
      refine wpAnyH_take (i := 55) (oi := { dst := some 69, op := Op.call { callee := Callee.value (Operand.func 189), args := #[Operand.tmp 68], argTypes := #[24] }, type := 4, pos := "log.go:86", after := #[{ on := 54, ground := Ground.data }, { on := 50, ground := Ground.chain }, { on := 50, ground := Ground.guard }], guard := some (50, true) }) (v := undef) rfl (by kernel_rfl) (by kernel_rfl) (by kernel_rfl) (fun _ _ _ h => h) (Or.inr ⟨by rfl, rfl⟩) HL1.out.lc ?_
      try simp only [Act.put, zA1, zA2, zA3]
      refine wpAnyH_take (i := 56) (oi := { dst := some 70, op := Op.pick (Operand.tmp 64) (Operand.tmp 69) (Operand.const (Value.bool false)), type := 4, pos := "log.go:82", after := #[{ on := 50, ground := Ground.data }, { on := 55, ground := Ground.data }], guard := none }) (v := .bool false) rfl (by kernel_rfl) (by kernel_rfl) (by kernel_rfl) (fun _ _ _ h => h) (Or.inl ⟨by rfl, ?_⟩) HL1.out.lc ?_
      · intro W hSw; clear hSw; go_simp
      try simp only [Act.put, zA1, zA2, zA3]
      refine wpAnyH_take (i := 57) (oi := { dst := some 4, op := Op.assign (Operand.tmp 70), type := 4, pos := "log.go:82", after := #[{ on := 56, ground := Ground.data }, { on := 55, ground := Ground.chain }, { on := 0, ground := Ground.phase }, { on := 1, ground := Ground.phase }, { on := 2, ground := Ground.phase }, { on := 3, ground := Ground.phase }, { on := 4, ground := Ground.phase }, { on := 5, ground := Ground.phase }, { on := 6, ground := Ground.phase }, { on := 7, ground := Ground.phase }, { on := 8, ground := Ground.phase }, { on := 9, ground := Ground.phase }, { on := 10, ground := Ground.phase }, { on := 11, ground := Ground.phase }, { on := 12, ground := Ground.phase }, { on := 13, ground := Ground.phase }, { on := 14, ground := Ground.phase }, { on := 15, ground := Ground.phase }, { on := 16, ground := Ground.phase }, { on := 17, ground := Ground.phase }, { on := 18, ground := Ground.phase }, { on := 19, ground := Ground.phase }, { on := 20, ground := Ground.phase }, { on := 21, ground := Ground.phase }, { on := 22, ground := Ground.phase }, { on := 23, ground := Ground.phase }, { on := 24, ground := Ground.phase }, { on := 25, ground := Ground.phase }, { on := 26, ground := Ground.phase }, { on := 27, ground := Ground.phase }, { on := 28, ground := Ground.phase }, { on := 29, ground := Ground.phase }, { on := 30, ground := Ground.phase }, { on := 31, ground := Ground.phase }, { on := 32, ground := Ground.phase }, { on := 33, ground := Ground.phase }, { on := 34, ground := Ground.phase }, { on := 35, ground := Ground.phase }, { on := 36, ground := Ground.phase }, { on := 37, ground := Ground.phase }, { on := 38, ground := Ground.phase }, { on := 39, ground := Ground.phase }, { on := 40, ground := Ground.phase }, { on := 41, ground := Ground.phase }, { on := 42, ground := Ground.phase }, { on := 43, ground := Ground.phase }, { on := 44, ground := Ground.phase }, { on := 45, ground := Ground.phase }, { on := 46, ground := Ground.phase }, { on := 47, ground := Ground.phase }, { on := 48, ground := Ground.phase }, { on := 49, ground := Ground.phase }, { on := 50, ground := Ground.phase }, { on := 51, ground := Ground.phase }, { on := 52, ground := Ground.phase }, { on := 53, ground := Ground.phase }, { on := 54, ground := Ground.phase }, { on := 55, ground := Ground.phase }, { on := 56, ground := Ground.phase }], guard := none }) (v := .bool false) rfl (by kernel_rfl) (by kernel_rfl) (by kernel_rfl) (fun _ _ _ h => h) (Or.inl ⟨by rfl, ?_⟩) HL1.out.lc ?_
      · intro W hSw; clear hSw; go_simp
      try simp only [Act.put, zA1, zA2, zA3]
      refine wpAnyH_done (by kernel_rfl) ?_ _
      refine NoPanic.normal ?_
      go_wp2_with fail
      go_ret
      exact ⟨by rw [lay_1 HP1.out]; rfl, by rw [lay_1 HP1.out]; exact HL1.out, HK1.out⟩
    · refine wpAnyH_take (i := 11) (oi := { dst := some 25, op := Op.move (Operand.tmp 24), type := 4, pos := "log.go:82", after := #[{ on := 10, ground := Ground.data }, { on := 10, ground := Ground.chain }], guard := none }) (v := .bool true) rfl (by kernel_rfl) (by kernel_rfl) (by kernel_rfl) (fun _ _ _ h => h) (Or.inl ⟨by rfl, ?_⟩) HL1.out.lc ?_
      · intro W hSw; clear hSw; go_simp
      try simp only [Act.put, zA1, zA2, zA3]
      refine wpAnyH_take (i := 12) (oi := { dst := some 26, op := Op.move (Operand.tmp 5), type := 3, pos := "log.go:82", after := #[{ on := 11, ground := Ground.guard }], guard := some (11, true) }) (v := .int .i64 (q : Int)) rfl (by kernel_rfl) (by kernel_rfl) (by kernel_rfl) (fun _ _ _ h => h) (Or.inl ⟨by rfl, ?_⟩) HL1.out.lc ?_
      · intro W hSw; clear hSw; go_simp
      try simp only [Act.put, zA1, zA2, zA3]
      refine wpAnyH_take (i := 13) (oi := { dst := some 27, op := Op.move (Operand.tmp 0), type := 91, pos := "log.go:82", after := #[{ on := 11, ground := Ground.guard }], guard := some (11, true) }) (v := ptr g) rfl (by kernel_rfl) (by kernel_rfl) (by kernel_rfl) (fun _ _ _ h => h) (Or.inl ⟨by rfl, ?_⟩) HL1.out.lc ?_
      · intro W hSw; clear hSw; go_simp
      try simp only [Act.put, zA1, zA2, zA3]
      refine wpAnyH_take (i := 14) (oi := { dst := some 28, op := Op.nilCheck (Operand.tmp 27), type := 0, pos := "log.go:82", after := #[{ on := 13, ground := Ground.data }, { on := 11, ground := Ground.guard }], guard := some (11, true) }) (v := .pointer (some ⟨g, 0, none⟩)) rfl (by kernel_rfl) (by kernel_rfl) (by kernel_rfl) (fun _ _ _ h => h) (Or.inl ⟨by rfl, ?_⟩) HL1.out.lc ?_
      · intro W hSw; clear hSw; go_simp
      try simp only [Act.put, zA1, zA2, zA3]
      refine wpAnyH_take (i := 15) (oi := { dst := some 29, op := Op.fieldAddr 133 (Operand.tmp 28) 3, type := 0, pos := "log.go:82", after := #[{ on := 14, ground := Ground.data }, { on := 11, ground := Ground.guard }], guard := some (11, true) }) (v := .pointer (some ⟨g, 3, none⟩)) rfl (by kernel_rfl) (by kernel_rfl) (by kernel_rfl) (fun _ _ _ h => h) (Or.inl ⟨by rfl, ?_⟩) HL1.out.lc ?_
      · intro W hSw; clear hSw; go_simp
      try simp only [Act.put, zA1, zA2, zA3]
      refine wpAnyH_take (i := 16) (oi := { dst := some 30, op := Op.load 3 (Operand.tmp 29), type := 3, pos := "log.go:82", after := #[{ on := 15, ground := Ground.data }, { on := 11, ground := Ground.guard }], guard := some (11, true) }) (v := .int .i64 (L.fin : Int)) rfl (by kernel_rfl) (by kernel_rfl) (by kernel_rfl) (fun _ _ _ h => h) (Or.inl ⟨by rfl, ?_⟩) HL1.out.lc ?_
      · intro W hSw; obtain ⟨k0, k2, k3⟩ := hSw; go_simp
      try simp only [Act.put, zA1, zA2, zA3]
      refine wpAnyH_take (i := 17) (oi := { dst := some 31, op := Op.binOp BinOp.eql 3 (Operand.tmp 26) (Operand.tmp 30) 3, type := 4, pos := "log.go:82", after := #[{ on := 12, ground := Ground.data }, { on := 16, ground := Ground.data }, { on := 11, ground := Ground.guard }], guard := some (11, true) }) (v := .bool false) rfl (by kernel_rfl) (by kernel_rfl) (by kernel_rfl) (fun _ _ _ h => h) (Or.inl ⟨by rfl, ?_⟩) HL1.out.lc ?_
      · intro W hSw; clear hSw; go_simp; omega
      try simp only [Act.put, zA1, zA2, zA3]
      refine wpAnyH_take (i := 18) (oi := { dst := some 32, op := Op.move (Operand.tmp 31), type := 4, pos := "log.go:82", after := #[{ on := 17, ground := Ground.data }, { on := 11, ground := Ground.chain }, { on := 11, ground := Ground.guard }], guard := some (11, true) }) (v := .bool false) rfl (by kernel_rfl) (by kernel_rfl) (by kernel_rfl) (fun _ _ _ h => h) (Or.inl ⟨by rfl, ?_⟩) HL1.out.lc ?_
      · intro W hSw; clear hSw; go_simp
      try simp only [Act.put, zA1, zA2, zA3]
      refine wpAnyH_take (i := 19) (oi := { dst := some 33, op := Op.move (Operand.tmp 0), type := 91, pos := "log.go:82", after := #[{ on := 18, ground := Ground.guard }], guard := some (18, false) }) (v := ptr g) rfl (by kernel_rfl) (by kernel_rfl) (by kernel_rfl) (fun _ _ _ h => h) (Or.inl ⟨by rfl, ?_⟩) HL1.out.lc ?_
      · intro W hSw; clear hSw; go_simp
      try simp only [Act.put, zA1, zA2, zA3]
      refine wpAnyH_take (i := 20) (oi := { dst := some 34, op := Op.nilCheck (Operand.tmp 33), type := 0, pos := "log.go:82", after := #[{ on := 19, ground := Ground.data }, { on := 18, ground := Ground.guard }], guard := some (18, false) }) (v := .pointer (some ⟨g, 0, none⟩)) rfl (by kernel_rfl) (by kernel_rfl) (by kernel_rfl) (fun _ _ _ h => h) (Or.inl ⟨by rfl, ?_⟩) HL1.out.lc ?_
      · intro W hSw; clear hSw; go_simp
      try simp only [Act.put, zA1, zA2, zA3]
      refine wpAnyH_take (i := 21) (oi := { dst := some 35, op := Op.fieldAddr 133 (Operand.tmp 34) 0, type := 0, pos := "log.go:82", after := #[{ on := 20, ground := Ground.data }, { on := 18, ground := Ground.guard }], guard := some (18, false) }) (v := .pointer (some ⟨g, 0, none⟩)) rfl (by kernel_rfl) (by kernel_rfl) (by kernel_rfl) (fun _ _ _ h => h) (Or.inl ⟨by rfl, ?_⟩) HL1.out.lc ?_
      · intro W hSw; clear hSw; go_simp
      try simp only [Act.put, zA1, zA2, zA3]
      refine wpAnyH_take (i := 22) (oi := { dst := some 36, op := Op.load 24 (Operand.tmp 35), type := 24, pos := "log.go:82", after := #[{ on := 21, ground := Ground.data }, { on := 18, ground := Ground.guard }], guard := some (18, false) }) (v := ptr gd) rfl (by kernel_rfl) (by kernel_rfl) (by kernel_rfl) (fun _ _ _ h => h) (Or.inl ⟨by rfl, ?_⟩) HL1.out.lc ?_
      · intro W hSw; obtain ⟨k0, k2, k3⟩ := hSw; go_simp
      try simp only [Act.put, zA1, zA2, zA3]
      refine wpAnyH_take (i := 23) (oi := { dst := some 37, op := Op.move (Operand.tmp 5), type := 3, pos := "log.go:82", after := #[{ on := 18, ground := Ground.guard }], guard := some (18, false) }) (v := .int .i64 (q : Int)) rfl (by kernel_rfl) (by kernel_rfl) (by kernel_rfl) (fun _ _ _ h => h) (Or.inl ⟨by rfl, ?_⟩) HL1.out.lc ?_
      · intro W hSw; clear hSw; go_simp
      try simp only [Act.put, zA1, zA2, zA3]
      refine wpAnyH_1 (i := 24) (by kernel_rfl) (wpOp_value (o := { dst := some 38, op := Op.makeSlice 42 (Operand.const (Value.int IntKind.i64 64)) (Operand.const (Value.int IntKind.i64 64)), type := 42, pos := "log.go:82", after := #[{ on := 18, ground := Ground.guard }], guard := some (18, false) }) (v := .slice (some ⟨w1.heap.size, 0, none⟩) 64 64) (w' := w1.alloc (.cells (cellsB (zeros 64)).toArray 5)) rfl (by rfl) (exec_value rfl (make64 w1)) ?_)
      have HLM := Lib.hid (HL1.out.below (alloc_below w1 (.cells (cellsB (zeros 64)).toArray 5)))
      have HKM := Lib.hid (HK1.out.trans (Keep.of_below (alloc_below w1 (.cells (cellsB (zeros 64)).toArray 5))))
      refine ⟨HLM.out.lc, ?_⟩
      try simp only [Act.put, zA1, zA2, zA3]
      obtain ⟨s2, b2, hP2⟩ : ∃ s2 b2, s1.tryW q (zeros 64) = (s2, b2) := ⟨_, _, rfl⟩
      have HP2 := Lib.hid hP2
      have HT2 := Lib.hid ((HTL.out s1).trans hP2)
      clear hP2
      refine wpAnyH_1 (i := 25) (by kernel_rfl) (wpOp_call (o := { dst := some 39, op := Op.call { callee := Callee.value (Operand.func 33), args := #[Operand.tmp 36, Operand.tmp 37, Operand.tmp 38], argTypes := #[24, 3, 42] }, type := 4, pos := "log.go:83", after := #[{ on := 22, ground := Ground.data }, { on := 23, ground := Ground.data }, { on := 24, ground := Ground.data }, { on := 18, ground := Ground.chain }, { on := 18, ground := Ground.guard }], guard := some (18, false) }) (f := 33) rfl (by rfl) (by go_simp) ((log_write HLM.out (lim_mono HM1.out.1 (by omega)) (HQN.out w1 s1 HL1.out) (zeros_length 64) (Blk.new _ _ _) HP2.out).mono ?_))
      rintro e w2 ⟨rfl, hl2, hk2⟩
      have HL2 := Lib.hid hl2
      have HK2 := Lib.hid (HKM.out.trans hk2)
      have HM2 := Lib.hid (tryW_lim HM1.out.1 HP2.out)
      clear hl2 hk2
      refine ⟨_, rfl, HL2.out.lc, ?_⟩
      try simp only [Act.put, zA1, zA2, zA3]
      cases b2
      · refine wpAnyH_take (i := 26) (oi := { dst := some 40, op := Op.pick (Operand.tmp 32) (Operand.const (Value.bool true)) (Operand.tmp 39), type := 4, pos := "log.go:82", after := #[{ on := 18, ground := Ground.data }, { on := 25, ground := Ground.data }, { on := 11, ground := Ground.guard }], guard := some (11, true) }) (v := .bool false) rfl (by kernel_rfl) (by kernel_rfl) (by kernel_rfl) (fun _ _ _ h => h) (Or.inl ⟨by rfl, ?_⟩) HL2.out.lc ?_
        · intro W hSw; clear hSw; go_simp
        try simp only [Act.put, zA1, zA2, zA3]
        refine wpAnyH_take (i := 27) (oi := { dst := some 41, op := Op.pick (Operand.tmp 25) (Operand.tmp 40) (Operand.const (Value.bool false)), type := 4, pos := "log.go:82", after := #[{ on := 11, ground := Ground.data }, { on := 26, ground := Ground.data }], guard := none }) (v := .bool false) rfl (by kernel_rfl) (by kernel_rfl) (by kernel_rfl) (fun _ _ _ h => h) (Or.inl ⟨by rfl, ?_⟩) HL2.out.lc ?_
        · intro W hSw; clear hSw; go_simp
        try simp only [Act.put, zA1, zA2, zA3]
        refine wpAnyH_take (i := 28) (oi := { dst := some 42, op := Op.move (Operand.tmp 41), type := 4, pos := "log.go:82", after := #[{ on := 27, ground := Ground.data }, { on := 25, ground := Ground.chain }], guard := none }) (v := .bool false) rfl (by kernel_rfl) (by kernel_rfl) (by kernel_rfl) (fun _ _ _ h => h) (Or.inl ⟨by rfl, ?_⟩) HL2.out.lc ?_
        · intro W hSw; clear hSw; go_simp
        try simp only [Act.put, zA1, zA2, zA3]
        refine wpAnyH_take (i := 29) (oi := { dst := some 43, op := Op.move (Operand.tmp 0), type := 91, pos := "log.go:82", after := #[{ on := 28, ground := Ground.guard }], guard := some (28, true) }) (v := undef) rfl (by kernel_rfl) (by kernel_rfl) (by kernel_rfl) (fun _ _ _ h => h) (Or.inr ⟨by rfl, rfl⟩) HL2.out.lc ?_
        try simp only [Act.put, zA1, zA2, zA3]
        refine wpAnyH_take (i := 30) (oi := { dst := some 44, op := Op.nilCheck (Operand.tmp 43), type := 0, pos := "log.go:82", after := #[{ on := 29, ground := Ground.data }, { on := 28, ground := Ground.guard }], guard := some (28, true) }) (v := undef) rfl (by kernel_rfl) (by kernel_rfl) (by kernel_rfl) (fun _ _ _ h => h) (Or.inr ⟨by rfl, rfl⟩) HL2.out.lc ?_
        try simp only [Act.put, zA1, zA2, zA3]
        refine wpAnyH_take (i := 31) (oi := { dst := some 45, op := Op.fieldAddr 133 (Operand.tmp 44) 0, type := 0, pos := "log.go:82", after := #[{ on := 30, ground := Ground.data }, { on := 28, ground := Ground.guard }], guard := some (28, true) }) (v := undef) rfl (by kernel_rfl) (by kernel_rfl) (by kernel_rfl) (fun _ _ _ h => h) (Or.inr ⟨by rfl, rfl⟩) HL2.out.lc ?_
        try simp only [Act.put, zA1, zA2, zA3]
        refine wpAnyH_take (i := 32) (oi := { dst := some 46, op := Op.load 24 (Operand.tmp 45), type := 24, pos := "log.go:82", after := #[{ on := 31, ground := Ground.data }, { on := 28, ground := Ground.guard }], guard := some (28, true) }) (v := undef) rfl (by kernel_rfl) (by kernel_rfl) (by kernel_rfl) (fun _ _ _ h => h) (Or.inr ⟨by rfl, rfl⟩) HL2.out.lc ?_
        try simp only [Act.put, zA1, zA2, zA3]
        refine wpAnyH_take (i := 33) (oi := { dst := some 47, op := Op.call { callee := Callee.value (Operand.func 189), args := #[Operand.tmp 46], argTypes := #[24] }, type := 4, pos := "log.go:84", after := #[{ on := 32, ground := Ground.data }, { on := 28, ground := Ground.chain }, { on := 28, ground := Ground.guard }], guard := some (28, true) }) (v := undef) rfl (by kernel_rfl) (by kernel_rfl) (by kernel_rfl) (fun _ _ _ h => h) (Or.inr ⟨by rfl, rfl⟩) HL2.out.lc ?_
        try simp only [Act.put, zA1, zA2, zA3]
        refine wpAnyH_take (i := 34) (oi := { dst := some 48, op := Op.pick (Operand.tmp 42) (Operand.tmp 47) (Operand.const (Value.bool false)), type := 4, pos := "log.go:82", after := #[{ on := 28, ground := Ground.data }, { on := 33, ground := Ground.data }], guard := none }) (v := .bool false) rfl (by kernel_rfl) (by kernel_rfl) (by kernel_rfl) (fun _ _ _ h => h) (Or.inl ⟨by rfl, ?_⟩) HL2.out.lc ?_
        · intro W hSw; clear hSw; go_simp
        try simp only [Act.put, zA1, zA2, zA3]
        refine wpAnyH_take (i := 35) (oi := { dst := some 49, op := Op.move (Operand.tmp 48), type := 4, pos := "log.go:82", after := #[{ on := 34, ground := Ground.data }, { on := 33, ground := Ground.chain }], guard := none }) (v := .bool false) rfl (by kernel_rfl) (by kernel_rfl) (by kernel_rfl) (fun _ _ _ h => h) (Or.inl ⟨by rfl, ?_⟩) HL2.out.lc ?_
        · intro W hSw; clear hSw; go_simp
        try simp only [Act.put, zA1, zA2, zA3]
        refine wpAnyH_take (i := 36) (oi := { dst := some 50, op := Op.move (Operand.tmp 0), type := 91, pos := "log.go:82", after := #[{ on := 35, ground := Ground.guard }], guard := some (35, true) }) (v := undef) rfl (by kernel_rfl) (by kernel_rfl) (by kernel_rfl) (fun _ _ _ h => h) (Or.inr ⟨by rfl, rfl⟩) HL2.out.lc ?_
        try simp only [Act.put, zA1, zA2, zA3]
        refine wpAnyH_take (i := 37) (oi := { dst := some 51, op := Op.nilCheck (Operand.tmp 50), type := 0, pos := "log.go:82", after := #[{ on := 36, ground := Ground.data }, { on := 35, ground := Ground.guard }], guard := some (35, true) }) (v := undef) rfl (by kernel_rfl) (by kernel_rfl) (by kernel_rfl) (fun _ _ _ h => h) (Or.inr ⟨by rfl, rfl⟩) HL2.out.lc ?_
        try simp only [Act.put, zA1, zA2, zA3]
        refine wpAnyH_take (i := 38) (oi := { dst := some 52, op := Op.fieldAddr 133 (Operand.tmp 51) 0, type := 0, pos := "log.go:82", after := #[{ on := 37, ground := Ground.data }, { on := 35, ground := Ground.guard }], guard := some (35, true) }) (v := undef) rfl (by kernel_rfl) (by kernel_rfl) (by kernel_rfl) (fun _ _ _ h => h) (Or.inr ⟨by rfl, rfl⟩) HL2.out.lc ?_
        try simp only [Act.put, zA1, zA2, zA3]
        refine wpAnyH_take (i := 39) (oi := { dst := some 53, op := Op.load 24 (Operand.tmp 52), type := 24, pos := "log.go:82", after := #[{ on := 38, ground := Ground.data }, { on := 35, ground := Ground.guard }], guard := some (35, true) }) (v := undef) rfl (by kernel_rfl) (by kernel_rfl) (by kernel_rfl) (fun _ _ _ h => h) (Or.inr ⟨by rfl, rfl⟩) HL2.out.lc ?_
        try simp only [Act.put, zA1, zA2, zA3]
        refine wpAnyH_take (i := 40) (oi := { dst := some 54, op := Op.move (Operand.tmp 0), type := 91, pos := "log.go:82", after := #[{ on := 35, ground := Ground.guard }], guard := some (35, true) }) (v := undef) rfl (by kernel_rfl) (by kernel_rfl) (by kernel_rfl) (fun _ _ _ h => h) (Or.inr ⟨by rfl, rfl⟩) HL2.out.lc ?_
        try simp only [Act.put, zA1, zA2, zA3]
        refine wpAnyH_take (i := 41) (oi := { dst := some 55, op := Op.nilCheck (Operand.tmp 54), type := 0, pos := "log.go:82", after := #[{ on := 40, ground := Ground.data }, { on := 35, ground := Ground.guard }], guard := some (35, true) }) (v := undef) rfl (by kernel_rfl) (by kernel_rfl) (by kernel_rfl) (fun _ _ _ h => h) (Or.inr ⟨by rfl, rfl⟩) HL2.out.lc ?_
        try simp only [Act.put, zA1, zA2, zA3]
        refine wpAnyH_take (i := 42) (oi := { dst := some 56, op := Op.fieldAddr 133 (Operand.tmp 55) 2, type := 0, pos := "log.go:82", after := #[{ on := 41, ground := Ground.data }, { on := 35, ground := Ground.guard }], guard := some (35, true) }) (v := undef) rfl (by kernel_rfl) (by kernel_rfl) (by kernel_rfl) (fun _ _ _ h => h) (Or.inr ⟨by rfl, rfl⟩) HL2.out.lc ?_
        try simp only [Act.put, zA1, zA2, zA3]
        refine wpAnyH_take (i := 43) (oi := { dst := some 57, op := Op.load 3 (Operand.tmp 56), type := 3, pos := "log.go:82", after := #[{ on := 42, ground := Ground.data }, { on := 35, ground := Ground.guard }], guard := some (35, true) }) (v := undef) rfl (by kernel_rfl) (by kernel_rfl) (by kernel_rfl) (fun _ _ _ h => h) (Or.inr ⟨by rfl, rfl⟩) HL2.out.lc ?_
        try simp only [Act.put, zA1, zA2, zA3]
        refine wpAnyH_take (i := 44) (oi := { dst := some 58, op := Op.move (Operand.tmp 0), type := 91, pos := "log.go:82", after := #[{ on := 35, ground := Ground.guard }], guard := some (35, true) }) (v := undef) rfl (by kernel_rfl) (by kernel_rfl) (by kernel_rfl) (fun _ _ _ h => h) (Or.inr ⟨by rfl, rfl⟩) HL2.out.lc ?_
        try simp only [Act.put, zA1, zA2, zA3]
        refine wpAnyH_take (i := 45) (oi := { dst := some 59, op := Op.move (Operand.tmp 1), type := 42, pos := "log.go:82", after := #[{ on := 35, ground := Ground.guard }], guard := some (35, true) }) (v := undef) rfl (by kernel_rfl) (by kernel_rfl) (by kernel_rfl) (fun _ _ _ h => h) (Or.inr ⟨by rfl, rfl⟩) HL2.out.lc ?_
        try simp only [Act.put, zA1, zA2, zA3]
        refine wpAnyH_take (i := 46) (oi := { dst := some 60, op := Op.call { callee := Callee.builtin Builtin.len, args := #[Operand.tmp 59], argTypes := #[42] }, type := 3, pos := "log.go:82", after := #[{ on := 45, ground := Ground.data }, { on := 35, ground := Ground.guard }], guard := some (35, true) }) (v := undef) rfl (by kernel_rfl) (by kernel_rfl) (by kernel_rfl) (fun _ _ _ h => h) (Or.inr ⟨by rfl, rfl⟩) HL2.out.lc ?_
        try simp only [Act.put, zA1, zA2, zA3]
        refine wpAnyH_take (i := 47) (oi := { dst := some 61, op := Op.call { callee := Callee.value (Operand.func 209), args := #[Operand.tmp 58, Operand.tmp 60], argTypes := #[91, 3] }, type := 42, pos := "log.go:85", after := #[{ on := 44, ground := Ground.data }, { on := 46, ground := Ground.data }, { on := 35, ground := Ground.chain }, { on := 35, ground := Ground.guard }], guard := some (35, true) }) (v := undef) rfl (by kernel_rfl) (by kernel_rfl) (by kernel_rfl) (fun _ _ _ h => h) (Or.inr ⟨by rfl, rfl⟩) HL2.out.lc ?_
        try simp only [Act.put, zA1, zA2, zA3]
        refine wpAnyH_take (i := 48) (oi := { dst := some 62, op := Op.call { callee := Callee.value (Operand.func 33), args := #[Operand.tmp 53, Operand.tmp 57, Operand.tmp 61], argTypes := #[24, 3, 42] }, type := 4, pos := "log.go:85", after := #[{ on := 39, ground := Ground.data }, { on := 43, ground := Ground.data }, { on := 47, ground := Ground.data }, { on := 47, ground := Ground.chain }, { on := 35, ground := Ground.guard }], guard := some (35, true) }) (v := undef) rfl (by kernel_rfl) (by kernel_rfl) (by kernel_rfl) (fun _ _ _ h => h) (Or.inr ⟨by rfl, rfl⟩) HL2.out.lc ?_
        try simp only [Act.put, zA1, zA2, zA3]
        refine wpAnyH_take (i := 49) (oi := { dst := some 63, op := Op.pick (Operand.tmp 49) (Operand.tmp 62) (Operand.const (Value.bool false)), type := 4, pos := "log.go:82", after := #[{ on := 35, ground := Ground.data }, { on := 48, ground := Ground.data }], guard := none }) (v := .bool false) rfl (by kernel_rfl) (by kernel_rfl) (by kernel_rfl) (fun _ _ _ h => h) (Or.inl ⟨by rfl, ?_⟩) HL2.out.lc ?_
        · intro W hSw; clear hSw; go_simp
        try simp only [Act.put, zA1, zA2, zA3]
        refine wpAnyH_take (i := 50) (oi := { dst := some 64, op := Op.move (Operand.tmp 63), type := 4, pos := "log.go:82", after := #[{ on := 49, ground := Ground.data }, { on := 48, ground := Ground.chain }], guard := none }) (v := .bool false) rfl (by kernel_rfl) (by kernel_rfl) (by kernel_rfl) (fun _ _ _ h => h) (Or.inl ⟨by rfl, ?_⟩) HL2.out.lc ?_
        · intro W hSw; clear hSw; go_simp
        try simp only [Act.put, zA1, zA2, zA3]
        refine wpAnyH_take (i := 51) (oi := { dst := some 65, op := Op.move (Operand.tmp 0), type := 91, pos := "log.go:82", after := #[{ on := 50, ground := Ground.guard }], guard := some (50, true) }) (v := undef) rfl (by kernel_rfl) (by kernel_rfl) (by kernel_rfl) (fun _ _ _ h => h) (Or.inr ⟨by rfl, rfl⟩) HL2.out.lc ?_
        try simp only [Act.put, zA1, zA2, zA3]
        refine wpAnyH_take (i := 52) (oi := { dst := some 66, op := Op.nilCheck (Operand.tmp 65), type := 0, pos := "log.go:82", after := #[{ on := 51, ground := Ground.data }, { on := 50, ground := Ground.guard }], guard := some (50, true) }) (v := undef) rfl (by kernel_rfl) (by kernel_rfl) (by kernel_rfl) (fun _ _ _ h => h) (Or.inr ⟨by rfl, rfl⟩) HL2.out.lc ?_
        try simp only [Act.put, zA1, zA2, zA3]
        refine wpAnyH_take (i := 53) (oi := { dst := some 67, op := Op.fieldAddr 133 (Operand.tmp 66) 0, type := 0, pos := "log.go:82", after := #[{ on := 52, ground := Ground.data }, { on := 50, ground := Ground.guard }], guard := some (50, true) }) (v := undef) rfl (by kernel_rfl) (by kernel_rfl) (by kernel_rfl) (fun _ _ _ h => h) (Or.inr ⟨by rfl, rfl⟩) HL2.out.lc ?_
        try simp only [Act.put, zA1, zA2, zA3]
        refine wpAnyH_take (i := 54) (oi := { dst := some 68, op := Op.load 24 (Operand.tmp 67), type := 24, pos := "log.go:82", after := #[{ on := 53, ground := Ground.data }, { on := 50, ground := Ground.guard }], guard := some (50, true) }) (v := undef) rfl (by kernel_rfl) (by kernel_rfl) (by kernel_rfl) (fun _ _ _ h => h) (Or.inr ⟨by rfl, rfl⟩) HL2.out.lc ?_
        try simp only [Act.put, zA1, zA2, zA3]
        refine wpAnyH_take (i := 55) (oi := { dst := some 69, op := Op.call { callee := Callee.value (Operand.func 189), args := #[Operand.tmp 68], argTypes := #[24] }, type := 4, pos := "log.go:86", after := #[{ on := 54, ground := Ground.data }, { on := 50, ground := Ground.chain }, { on := 50, ground := Ground.guard }], guard := some (50, true) }) (v := undef) rfl (by kernel_rfl) (by kernel_rfl) (by kernel_rfl) (fun _ _ _ h => h) (Or.inr ⟨by rfl, rfl⟩) HL2.out.lc ?_
        try simp only [Act.put, zA1, zA2, zA3]
        refine wpAnyH_take (i := 56) (oi := { dst := some 70, op := Op.pick (Operand.tmp 64) (Operand.tmp 69) (Operand.const (Value.bool false)), type := 4, pos := "log.go:82", after := #[{ on := 50, ground := Ground.data }, { on := 55, ground := Ground.data }], guard := none }) (v := .bool false) rfl (by kernel_rfl) (by kernel_rfl) (by kernel_rfl) (fun _ _ _ h => h) (Or.inl ⟨by rfl, ?_⟩) HL2.out.lc ?_
        · intro W hSw; clear hSw; go_simp
        try simp only [Act.put, zA1, zA2, zA3]
        refine wpAnyH_take (i := 57) (oi := { dst := some 4, op := Op.assign (Operand.tmp 70), type := 4, pos := "log.go:82", after := #[{ on := 56, ground := Ground.data }, { on := 55, ground := Ground.chain }, { on := 0, ground := Ground.phase }, { on := 1, ground := Ground.phase }, { on := 2, ground := Ground.phase }, { on := 3, ground := Ground.phase }, { on := 4, ground := Ground.phase }, { on := 5, ground := Ground.phase }, { on := 6, ground := Ground.phase }, { on := 7, ground := Ground.phase }, { on := 8, ground := Ground.phase }, { on := 9, ground := Ground.phase }, { on := 10, ground := Ground.phase }, { on := 11, ground := Ground.phase }, { on := 12, ground := Ground.phase }, { on := 13, ground := Ground.phase }, { on := 14, ground := Ground.phase }, { on := 15, ground := Ground.phase }, { on := 16, ground := Ground.phase }, { on := 17, ground := Ground.phase }, { on := 18, ground := Ground.phase }, { on := 19, ground := Ground.phase }, { on := 20, ground := Ground.phase }, { on := 21, ground := Ground.phase }, { on := 22, ground := Ground.phase }, { on := 23, ground := Ground.phase }, { on := 24, ground := Ground.phase }, { on := 25, ground := Ground.phase }, { on := 26, ground := Ground.phase }, { on := 27, ground := Ground.phase }, { on := 28, ground := Ground.phase }, { on := 29, ground := Ground.phase }, { on := 30, ground := Ground.phase }, { on := 31, ground := Ground.phase }, { on := 32, ground := Ground.phase }, { on := 33, ground := Ground.phase }, { on := 34, ground := Ground.phase }, { on := 35, ground := Ground.phase }, { on := 36, ground := Ground.phase }, { on := 37, ground := Ground.phase }, { on := 38, ground := Ground.phase }, { on := 39, ground := Ground.phase }, { on := 40, ground := Ground.phase }, { on := 41, ground := Ground.phase }, { on := 42, ground := Ground.phase }, { on := 43, ground := Ground.phase }, { on := 44, ground := Ground.phase }, { on := 45, ground := Ground.phase }, { on := 46, ground := Ground.phase }, { on := 47, ground := Ground.phase }, { on := 48, ground := Ground.phase }, { on := 49, ground := Ground.phase }, { on := 50, ground := Ground.phase }, { on := 51, ground := Ground.phase }, { on := 52, ground := Ground.phase }, { on := 53, ground := Ground.phase }, { on := 54, ground := Ground.phase }, { on := 55, ground := Ground.phase }, { on := 56, ground := Ground.phase }], guard := none }) (v := .bool false) rfl (by kernel_rfl) (by kernel_rfl) (by kernel_rfl) (fun _ _ _ h => h) (Or.inl ⟨by rfl, ?_⟩) HL2.out.lc ?_
        · intro W hSw; clear hSw; go_simp
        try simp only [Act.put, zA1, zA2, zA3]
        refine wpAnyH_done (by kernel_rfl) ?_ _
        refine NoPanic.normal ?_
        go_wp2_with fail
        go_ret
        exact ⟨by rw [lay_2 HP1.out HT2.out]; rfl, by rw [lay_2 HP1.out HT2.out]; exact HL2.out, HK2.out⟩
      · refine wpAnyH_take (i := 26) (oi := { dst := some 40, op := Op.pick (Operand.tmp 32) (Operand.const (Value.bool true)) (Operand.tmp 39), type := 4, pos := "log.go:82", after := #[{ on := 18, ground := Ground.data }, { on := 25, ground := Ground.data }, { on := 11, ground := Ground.guard }], guard := some (11, true) }) (v := .bool true) rfl (by kernel_rfl) (by kernel_rfl) (by kernel_rfl) (fun _ _ _ h => h) (Or.inl ⟨by rfl, ?_⟩) HL2.out.lc ?_
        · intro W hSw; clear hSw; go_simp
        try simp only [Act.put, zA1, zA2, zA3]
        refine wpAnyH_take (i := 27) (oi := { dst := some 41, op := Op.pick (Operand.tmp 25) (Operand.tmp 40) (Operand.const (Value.bool false)), type := 4, pos := "log.go:82", after := #[{ on := 11, ground := Ground.data }, { on := 26, ground := Ground.data }], guard := none }) (v := .bool true) rfl (by kernel_rfl) (by kernel_rfl) (by kernel_rfl) (fun _ _ _ h => h) (Or.inl ⟨by rfl, ?_⟩) HL2.out.lc ?_
        · intro W hSw; clear hSw; go_simp
        try simp only [Act.put, zA1, zA2, zA3]
        refine wpAnyH_take (i := 28) (oi := { dst := some 42, op := Op.move (Operand.tmp 41), type := 4, pos := "log.go:82", after := #[{ on := 27, ground := Ground.data }, { on := 25, ground := Ground.chain }], guard := none }) (v := .bool true) rfl (by kernel_rfl) (by kernel_rfl) (by kernel_rfl) (fun _ _ _ h => h) (Or.inl ⟨by rfl, ?_⟩) HL2.out.lc ?_
        · intro W hSw; clear hSw; go_simp
        try simp only [Act.put, zA1, zA2, zA3]
        refine wpAnyH_take (i := 29) (oi := { dst := some 43, op := Op.move (Operand.tmp 0), type := 91, pos := "log.go:82", after := #[{ on := 28, ground := Ground.guard }], guard := some (28, true) }) (v := ptr g) rfl (by kernel_rfl) (by kernel_rfl) (by kernel_rfl) (fun _ _ _ h => h) (Or.inl ⟨by rfl, ?_⟩) HL2.out.lc ?_
        · intro W hSw; clear hSw; go_simp
        try simp only [Act.put, zA1, zA2, zA3]
        refine wpAnyH_take (i := 30) (oi := { dst := some 44, op := Op.nilCheck (Operand.tmp 43), type := 0, pos := "log.go:82", after := #[{ on := 29, ground := Ground.data }, { on := 28, ground := Ground.guard }], guard := some (28, true) }) (v := .pointer (some ⟨g, 0, none⟩)) rfl (by kernel_rfl) (by kernel_rfl) (by kernel_rfl) (fun _ _ _ h => h) (Or.inl ⟨by rfl, ?_⟩) HL2.out.lc ?_
        · intro W hSw; clear hSw; go_simp
        try simp only [Act.put, zA1, zA2, zA3]
        refine wpAnyH_take (i := 31) (oi := { dst := some 45, op := Op.fieldAddr 133 (Operand.tmp 44) 0, type := 0, pos := "log.go:82", after := #[{ on := 30, ground := Ground.data }, { on := 28, ground := Ground.guard }], guard := some (28, true) }) (v := .pointer (some ⟨g, 0, none⟩)) rfl (by kernel_rfl) (by kernel_rfl) (by kernel_rfl) (fun _ _ _ h => h) (Or.inl ⟨by rfl, ?_⟩) HL2.out.lc ?_
        · intro W hSw; clear hSw; go_simp
        try simp only [Act.put, zA1, zA2, zA3]
        refine wpAnyH_take (i := 32) (oi := { dst := some 46, op := Op.load 24 (Operand.tmp 45), type := 24, pos := "log.go:82", after := #[{ on := 31, ground := Ground.data }, { on := 28, ground := Ground.guard }], guard := some (28, true) }) (v := ptr gd) rfl (by kernel_rfl) (by kernel_rfl) (by kernel_rfl) (fun _ _ _ h => h) (Or.inl ⟨by rfl, ?_⟩) HL2.out.lc ?_
        · intro W hSw; obtain ⟨k0, k2, k3⟩ := hSw; go_simp
        try simp only [Act.put, zA1, zA2, zA3]
        obtain ⟨s3, b3, hP3⟩ : ∃ s3 b3, s2.tryS = (s3, b3) := ⟨_, _, rfl⟩
        have HP3 := Lib.hid hP3
        clear hP3
        refine wpAnyH_1 (i := 33) (by kernel_rfl) (wpOp_call (o := { dst := some 47, op := Op.call { callee := Callee.value (Operand.func 189), args := #[Operand.tmp 46], argTypes := #[24] }, type := 4, pos := "log.go:84", after := #[{ on := 32, ground := Ground.data }, { on := 28, ground := Ground.chain }, { on := 28, ground := Ground.guard }], guard := some (28, true) }) (f := 189) rfl (by rfl) (by go_simp) ((log_sync HL2.out HP3.out).mono ?_))
        rintro e w3 ⟨rfl, hl3, hk3⟩
        have HL3 := Lib.hid hl3
        have HK3 := Lib.hid (HK2.out.trans hk3)
        clear hl3 hk3
        have HM3 := Lib.hid (tryS_lim HM2.out.1 HP3.out)
        refine ⟨_, rfl, HL3.out.lc, ?_⟩
        try simp only [Act.put, zA1, zA2, zA3]
        cases b3
        · refine wpAnyH_take (i := 34) (oi := { dst := some 48, op := Op.pick (Operand.tmp 42) (Operand.tmp 47) (Operand.const (Value.bool false)), type := 4, pos := "log.go:82", after := #[{ on := 28, ground := Ground.data }, { on := 33, ground := Ground.data }], guard := none }) (v := .bool false) rfl (by kernel_rfl) (by kernel_rfl) (by kernel_rfl) (fun _ _ _ h => h) (Or.inl ⟨by rfl, ?_⟩) HL3.out.lc ?_
          · intro W hSw; clear hSw; go_simp
          try simp only [Act.put, zA1, zA2, zA3]
          refine wpAnyH_take (i := 35) (oi := { dst := some 49, op := Op.move (Operand.tmp 48), type := 4, pos := "log.go:82", after := #[{ on := 34, ground := Ground.data }, { on := 33, ground := Ground.chain }], guard := none }) (v := .bool false) rfl (by kernel_rfl) (by kernel_rfl) (by kernel_rfl) (fun _ _ _ h => h) (Or.inl ⟨by rfl, ?_⟩) HL3.out.lc ?_
          · intro W hSw; clear hSw; go_simp
          try simp only [Act.put, zA1, zA2, zA3]
          refine wpAnyH_take (i := 36) (oi := { dst := some 50, op := Op.move (Operand.tmp 0), type := 91, pos := "log.go:82", after := #[{ on := 35, ground := Ground.guard }], guard := some (35, true) }) (v := undef) rfl (by kernel_rfl) (by kernel_rfl) (by kernel_rfl) (fun _ _ _ h => h) (Or.inr ⟨by rfl, rfl⟩) HL3.out.lc ?_
          try simp only [Act.put, zA1, zA2, zA3]
          refine wpAnyH_take (i := 37) (oi := { dst := some 51, op := Op.nilCheck (Operand.tmp 50), type := 0, pos := "log.go:82", after := #[{ on := 36, ground := Ground.data }, { on := 35, ground := Ground.guard }], guard := some (35, true) }) (v := undef) rfl (by kernel_rfl) (by kernel_rfl) (by kernel_rfl) (fun _ _ _ h => h) (Or.inr ⟨by rfl, rfl⟩) HL3.out.lc ?_
          try simp only [Act.put, zA1, zA2, zA3]
          refine wpAnyH_take (i := 38) (oi := { dst := some 52, op := Op.fieldAddr 133 (Operand.tmp 51) 0, type := 0, pos := "log.go:82", after := #[{ on := 37, ground := Ground.data }, { on := 35, ground := Ground.guard }], guard := some (35, true) }) (v := undef) rfl (by kernel_rfl) (by kernel_rfl) (by kernel_rfl) (fun _ _ _ h => h) (Or.inr ⟨by rfl, rfl⟩) HL3.out.lc ?_
          try simp only [Act.put, zA1, zA2, zA3]
          refine wpAnyH_take (i := 39) (oi := { dst := some 53, op := Op.load 24 (Operand.tmp 52), type := 24, pos := "log.go:82", after := #[{ on := 38, ground := Ground.data }, { on := 35, ground := Ground.guard }], guard := some (35, true) }) (v := undef) rfl (by kernel_rfl) (by kernel_rfl) (by kernel_rfl) (fun _ _ _ h => h) (Or.inr ⟨by rfl, rfl⟩) HL3.out.lc ?_
          try simp only [Act.put, zA1, zA2, zA3]
          refine wpAnyH_take (i := 40) (oi := { dst := some 54, op := Op.move (Operand.tmp 0), type := 91, pos := "log.go:82", after := #[{ on := 35, ground := Ground.guard }], guard := some (35, true) }) (v := undef) rfl (by kernel_rfl) (by kernel_rfl) (by kernel_rfl) (fun _ _ _ h => h) (Or.inr ⟨by rfl, rfl⟩) HL3.out.lc ?_
          try simp only [Act.put, zA1, zA2, zA3]
          refine wpAnyH_take (i := 41) (oi := { dst := some 55, op := Op.nilCheck (Operand.tmp 54), type := 0, pos := "log.go:82", after := #[{ on := 40, ground := Ground.data }, { on := 35, ground := Ground.guard }], guard := some (35, true) }) (v := undef) rfl (by kernel_rfl) (by kernel_rfl) (by kernel_rfl) (fun _ _ _ h => h) (Or.inr ⟨by rfl, rfl⟩) HL3.out.lc ?_
          try simp only [Act.put, zA1, zA2, zA3]
          refine wpAnyH_take (i := 42) (oi := { dst := some 56, op := Op.fieldAddr 133 (Operand.tmp 55) 2, type := 0, pos := "log.go:82", after := #[{ on := 41, ground := Ground.data }, { on := 35, ground := Ground.guard }], guard := some (35, true) }) (v := undef) rfl (by kernel_rfl) (by kernel_rfl) (by kernel_rfl) (fun _ _ _ h => h) (Or.inr ⟨by rfl, rfl⟩) HL3.out.lc ?_
          try simp only [Act.put, zA1, zA2, zA3]
          refine wpAnyH_take (i := 43) (oi := { dst := some 57, op := Op.load 3 (Operand.tmp 56), type := 3, pos := "log.go:82", after := #[{ on := 42, ground := Ground.data }, { on := 35, ground := Ground.guard }], guard := some (35, true) }) (v := undef) rfl (by kernel_rfl) (by kernel_rfl) (by kernel_rfl) (fun _ _ _ h => h) (Or.inr ⟨by rfl, rfl⟩) HL3.out.lc ?_
          try simp only [Act.put, zA1, zA2, zA3]
          refine wpAnyH_take (i := 44) (oi := { dst := some 58, op := Op.move (Operand.tmp 0), type := 91, pos := "log.go:82", after := #[{ on := 35, ground := Ground.guard }], guard := some (35, true) }) (v := undef) rfl (by kernel_rfl) (by kernel_rfl) (by kernel_rfl) (fun _ _ _ h => h) (Or.inr ⟨by rfl, rfl⟩) HL3.out.lc ?_
          try simp only [Act.put, zA1, zA2, zA3]
          refine wpAnyH_take (i := 45) (oi := { dst := some 59, op := Op.move (Operand.tmp 1), type := 42, pos := "log.go:82", after := #[{ on := 35, ground := Ground.guard }], guard := some (35, true) }) (v := undef) rfl (by kernel_rfl) (by kernel_rfl) (by kernel_rfl) (fun _ _ _ h => h) (Or.inr ⟨by rfl, rfl⟩) HL3.out.lc ?_
          try simp only [Act.put, zA1, zA2, zA3]
          refine wpAnyH_take (i := 46) (oi := { dst := some 60, op := Op.call { callee := Callee.builtin Builtin.len, args := #[Operand.tmp 59], argTypes := #[42] }, type := 3, pos := "log.go:82", after := #[{ on := 45, ground := Ground.data }, { on := 35, ground := Ground.guard }], guard := some (35, true) }) (v := undef) rfl (by kernel_rfl) (by kernel_rfl) (by kernel_rfl) (fun _ _ _ h => h) (Or.inr ⟨by rfl, rfl⟩) HL3.out.lc ?_
          try simp only [Act.put, zA1, zA2, zA3]
          refine wpAnyH_take (i := 47) (oi := { dst := some 61, op := Op.call { callee := Callee.value (Operand.func 209), args := #[Operand.tmp 58, Operand.tmp 60], argTypes := #[91, 3] }, type := 42, pos := "log.go:85", after := #[{ on := 44, ground := Ground.data }, { on := 46, ground := Ground.data }, { on := 35, ground := Ground.chain }, { on := 35, ground := Ground.guard }], guard := some (35, true) }) (v := undef) rfl (by kernel_rfl) (by kernel_rfl) (by kernel_rfl) (fun _ _ _ h => h) (Or.inr ⟨by rfl, rfl⟩) HL3.out.lc ?_
          try simp only [Act.put, zA1, zA2, zA3]
          refine wpAnyH_take (i := 48) (oi := { dst := some 62, op := Op.call { callee := Callee.value (Operand.func 33), args := #[Operand.tmp 53, Operand.tmp 57, Operand.tmp 61], argTypes := #[24, 3, 42] }, type := 4, pos := "log.go:85", after := #[{ on := 39, ground := Ground.data }, { on := 43, ground := Ground.data }, { on := 47, ground := Ground.data }, { on := 47, ground := Ground.chain }, { on := 35, ground := Ground.guard }], guard := some (35, true) }) (v := undef) rfl (by kernel_rfl) (by kernel_rfl) (by kernel_rfl) (fun _ _ _ h => h) (Or.inr ⟨by rfl, rfl⟩) HL3.out.lc ?_
          try simp only [Act.put, zA1, zA2, zA3]
          refine wpAnyH_take (i := 49) (oi := { dst := some 63, op := Op.pick (Operand.tmp 49) (Operand.tmp 62) (Operand.const (Value.bool false)), type := 4, pos := "log.go:82", after := #[{ on := 35, ground := Ground.data }, { on := 48, ground := Ground.data }], guard := none }) (v := .bool false) rfl (by kernel_rfl) (by kernel_rfl) (by kernel_rfl) (fun _ _ _ h => h) (Or.inl ⟨by rfl, ?_⟩) HL3.out.lc ?_
          · intro W hSw; clear hSw; go_simp
          try simp only [Act.put, zA1, zA2, zA3]
          refine wpAnyH_take (i := 50) (oi := { dst := some 64, op := Op.move (Operand.tmp 63), type := 4, pos := "log.go:82", after := #[{ on := 49, ground := Ground.data }, { on := 48, ground := Ground.chain }], guard := none }) (v := .bool false) rfl (by kernel_rfl) (by kernel_rfl) (by kernel_rfl) (fun _ _ _ h => h) (Or.inl ⟨by rfl, ?_⟩) HL3.out.lc ?_
          · intro W hSw; clear hSw; go_simp
          try simp only [Act.put, zA1, zA2, zA3]
          refine wpAnyH_take (i := 51) (oi := { dst := some 65, op := Op.move (Operand.tmp 0), type := 91, pos := "log.go:82", after := #[{ on := 50, ground := Ground.guard }], guard := some (50, true) }) (v := undef) rfl (by kernel_rfl) (by kernel_rfl) (by kernel_rfl) (fun _ _ _ h => h) (Or.inr ⟨by rfl, rfl⟩) HL3.out.lc ?_
          try simp only [Act.put, zA1, zA2, zA3]
          refine wpAnyH_take (i := 52) (oi := { dst := some 66, op := Op.nilCheck (Operand.tmp 65), type := 0, pos := "log.go:82", after := #[{ on := 51, ground := Ground.data }, { on := 50, ground := Ground.guard }], guard := some (50, true) }) (v := undef) rfl (by kernel_rfl) (by kernel_rfl) (by kernel_rfl) (fun _ _ _ h => h) (Or.inr ⟨by rfl, rfl⟩) HL3.out.lc ?_
          try simp only [Act.put, zA1, zA2, zA3]
          refine wpAnyH_take (i := 53) (oi := { dst := some 67, op := Op.fieldAddr 133 (Operand.tmp 66) 0, type := 0, pos := "log.go:82", after := #[{ on := 52, ground := Ground.data }, { on := 50, ground := Ground.guard }], guard := some (50, true) }) (v := undef) rfl (by kernel_rfl) (by kernel_rfl) (by kernel_rfl) (fun _ _ _ h => h) (Or.inr ⟨by rfl, rfl⟩) HL3.out.lc ?_
          try simp only [Act.put, zA1, zA2, zA3]
          refine wpAnyH_take (i := 54) (oi := { dst := some 68, op := Op.load 24 (Operand.tmp 67), type := 24, pos := "log.go:82", after := #[{ on := 53, ground := Ground.data }, { on := 50, ground := Ground.guard }], guard := some (50, true) }) (v := undef) rfl (by kernel_rfl) (by kernel_rfl) (by kernel_rfl) (fun _ _ _ h => h) (Or.inr ⟨by rfl, rfl⟩) HL3.out.lc ?_
          try simp only [Act.put, zA1, zA2, zA3]
          refine wpAnyH_take (i := 55) (oi := { dst := some 69, op := Op.call { callee := Callee.value (Operand.func 189), args := #[Operand.tmp 68], argTypes := #[24] }, type := 4, pos := "log.go:86", after := #[{ on := 54, ground := Ground.data }, { on := 50, ground := Ground.chain }, { on := 50, ground := Ground.guard }], guard := some (50, true) }) (v := undef) rfl (by kernel_rfl) (by kernel_rfl) (by kernel_rfl) (fun _ _ _ h => h) (Or.inr ⟨by rfl, rfl⟩) HL3.out.lc ?_
          try simp only [Act.put, zA1, zA2, zA3]
          refine wpAnyH_take (i := 56) (oi := { dst := some 70, op := Op.pick (Operand.tmp 64) (Operand.tmp 69) (Operand.const (Value.bool false)), type := 4, pos := "log.go:82", after := #[{ on := 50, ground := Ground.data }, { on := 55, ground := Ground.data }], guard := none }) (v := .bool false) rfl (by kernel_rfl) (by kernel_rfl) (by kernel_rfl) (fun _ _ _ h => h) (Or.inl ⟨by rfl, ?_⟩) HL3.out.lc ?_
          · intro W hSw; clear hSw; go_simp
          try simp only [Act.put, zA1, zA2, zA3]
          refine wpAnyH_take (i := 57) (oi := { dst := some 4, op := Op.assign (Operand.tmp 70), type := 4, pos := "log.go:82", after := #[{ on := 56, ground := Ground.data }, { on := 55, ground := Ground.chain }, { on := 0, ground := Ground.phase }, { on := 1, ground := Ground.phase }, { on := 2, ground := Ground.phase }, { on := 3, ground := Ground.phase }, { on := 4, ground := Ground.phase }, { on := 5, ground := Ground.phase }, { on := 6, ground := Ground.phase }, { on := 7, ground := Ground.phase }, { on := 8, ground := Ground.phase }, { on := 9, ground := Ground.phase }, { on := 10, ground := Ground.phase }, { on := 11, ground := Ground.phase }, { on := 12, ground := Ground.phase }, { on := 13, ground := Ground.phase }, { on := 14, ground := Ground.phase }, { on := 15, ground := Ground.phase }, { on := 16, ground := Ground.phase }, { on := 17, ground := Ground.phase }, { on := 18, ground := Ground.phase }, { on := 19, ground := Ground.phase }, { on := 20, ground := Ground.phase }, { on := 21, ground := Ground.phase }, { on := 22, ground := Ground.phase }, { on := 23, ground := Ground.phase }, { on := 24, ground := Ground.phase }, { on := 25, ground := Ground.phase }, { on := 26, ground := Ground.phase }, { on := 27, ground := Ground.phase }, { on := 28, ground := Ground.phase }, { on := 29, ground := Ground.phase }, { on := 30, ground := Ground.phase }, { on := 31, ground := Ground.phase }, { on := 32, ground := Ground.phase }, { on := 33, ground := Ground.phase }, { on := 34, ground := Ground.phase }, { on := 35, ground := Ground.phase }, { on := 36, ground := Ground.phase }, { on := 37, ground := Ground.phase }, { on := 38, ground := Ground.phase }, { on := 39, ground := Ground.phase }, { on := 40, ground := Ground.phase }, { on := 41, ground := Ground.phase }, { on := 42, ground := Ground.phase }, { on := 43, ground := Ground.phase }, { on := 44, ground := Ground.phase }, { on := 45, ground := Ground.phase }, { on := 46, ground := Ground.phase }, { on := 47, ground := Ground.phase }, { on := 48, ground := Ground.phase }, { on := 49, ground := Ground.phase }, { on := 50, ground := Ground.phase }, { on := 51, ground := Ground.phase }, { on := 52, ground := Ground.phase }, { on := 53, ground := Ground.phase }, { on := 54, ground := Ground.phase }, { on := 55, ground := Ground.phase }, { on := 56, ground := Ground.phase }], guard := none }) (v := .bool false) rfl (by kernel_rfl) (by kernel_rfl) (by kernel_rfl) (fun _ _ _ h => h) (Or.inl ⟨by rfl, ?_⟩) HL3.out.lc ?_
          · intro W hSw; clear hSw; go_simp
          try simp only [Act.put, zA1, zA2, zA3]
          refine wpAnyH_done (by kernel_rfl) ?_ _
          refine NoPanic.normal ?_
          go_wp2_with fail
          go_ret
          exact ⟨by rw [lay_3 HP1.out HT2.out HP3.out]; rfl, by rw [lay_3 HP1.out HT2.out HP3.out]; exact HL3.out, HK3.out⟩
        · refine wpAnyH_take (i := 34) (oi := { dst := some 48, op := Op.pick (Operand.tmp 42) (Operand.tmp 47) (Operand.const (Value.bool false)), type := 4, pos := "log.go:82", after := #[{ on := 28, ground := Ground.data }, { on := 33, ground := Ground.data }], guard := none }) (v := .bool true) rfl (by kernel_rfl) (by kernel_rfl) (by kernel_rfl) (fun _ _ _ h => h) (Or.inl ⟨by rfl, ?_⟩) HL3.out.lc ?_
          · intro W hSw; clear hSw; go_simp
          try simp only [Act.put, zA1, zA2, zA3]
          refine wpAnyH_take (i := 35) (oi := { dst := some 49, op := Op.move (Operand.tmp 48), type := 4, pos := "log.go:82", after := #[{ on := 34, ground := Ground.data }, { on := 33, ground := Ground.chain }], guard := none }) (v := .bool true) rfl (by kernel_rfl) (by kernel_rfl) (by kernel_rfl) (fun _ _ _ h => h) (Or.inl ⟨by rfl, ?_⟩) HL3.out.lc ?_
          · intro W hSw; clear hSw; go_simp
          try simp only [Act.put, zA1, zA2, zA3]
          refine wpAnyH_take (i := 36) (oi := { dst := some 50, op := Op.move (Operand.tmp 0), type := 91, pos := "log.go:82", after := #[{ on := 35, ground := Ground.guard }], guard := some (35, true) }) (v := ptr g) rfl (by kernel_rfl) (by kernel_rfl) (by kernel_rfl) (fun _ _ _ h => h) (Or.inl ⟨by rfl, ?_⟩) HL3.out.lc ?_
          · intro W hSw; clear hSw; go_simp
          try simp only [Act.put, zA1, zA2, zA3]
          refine wpAnyH_take (i := 37) (oi := { dst := some 51, op := Op.nilCheck (Operand.tmp 50), type := 0, pos := "log.go:82", after := #[{ on := 36, ground := Ground.data }, { on := 35, ground := Ground.guard }], guard := some (35, true) }) (v := .pointer (some ⟨g, 0, none⟩)) rfl (by kernel_rfl) (by kernel_rfl) (by kernel_rfl) (fun _ _ _ h => h) (Or.inl ⟨by rfl, ?_⟩) HL3.out.lc ?_
          · intro W hSw; clear hSw; go_simp
          try simp only [Act.put, zA1, zA2, zA3]
          refine wpAnyH_take (i := 38) (oi := { dst := some 52, op := Op.fieldAddr 133 (Operand.tmp 51) 0, type := 0, pos := "log.go:82", after := #[{ on := 37, ground := Ground.data }, { on := 35, ground := Ground.guard }], guard := some (35, true) }) (v := .pointer (some ⟨g, 0, none⟩)) rfl (by kernel_rfl) (by kernel_rfl) (by kernel_rfl) (fun _ _ _ h => h) (Or.inl ⟨by rfl, ?_⟩) HL3.out.lc ?_
          · intro W hSw; clear hSw; go_simp
          try simp only [Act.put, zA1, zA2, zA3]
          refine wpAnyH_take (i := 39) (oi := { dst := some 53, op := Op.load 24 (Operand.tmp 52), type := 24, pos := "log.go:82", after := #[{ on := 38, ground := Ground.data }, { on := 35, ground := Ground.guard }], guard := some (35, true) }) (v := ptr gd) rfl (by kernel_rfl) (by kernel_rfl) (by kernel_rfl) (fun _ _ _ h => h) (Or.inl ⟨by rfl, ?_⟩) HL3.out.lc ?_
          · intro W hSw; obtain ⟨k0, k2, k3⟩ := hSw; go_simp
          try simp only [Act.put, zA1, zA2, zA3]
          refine wpAnyH_take (i := 40) (oi := { dst := some 54, op := Op.move (Operand.tmp 0), type := 91, pos := "log.go:82", after := #[{ on := 35, ground := Ground.guard }], guard := some (35, true) }) (v := ptr g) rfl (by kernel_rfl) (by kernel_rfl) (by kernel_rfl) (fun _ _ _ h => h) (Or.inl ⟨by rfl, ?_⟩) HL3.out.lc ?_
          · intro W hSw; clear hSw; go_simp
          try simp only [Act.put, zA1, zA2, zA3]
          refine wpAnyH_take (i := 41) (oi := { dst := some 55, op := Op.nilCheck (Operand.tmp 54), type := 0, pos := "log.go:82", after := #[{ on := 40, ground := Ground.data }, { on := 35, ground := Ground.guard }], guard := some (35, true) }) (v := .pointer (some ⟨g, 0, none⟩)) rfl (by kernel_rfl) (by kernel_rfl) (by kernel_rfl) (fun _ _ _ h => h) (Or.inl ⟨by rfl, ?_⟩) HL3.out.lc ?_
          · intro W hSw; clear hSw; go_simp
          try simp only [Act.put, zA1, zA2, zA3]
          refine wpAnyH_take (i := 42) (oi := { dst := some 56, op := Op.fieldAddr 133 (Operand.tmp 55) 2, type := 0, pos := "log.go:82", after := #[{ on := 41, ground := Ground.data }, { on := 35, ground := Ground.guard }], guard := some (35, true) }) (v := .pointer (some ⟨g, 2, none⟩)) rfl (by kernel_rfl) (by kernel_rfl) (by kernel_rfl) (fun _ _ _ h => h) (Or.inl ⟨by rfl, ?_⟩) HL3.out.lc ?_
          · intro W hSw; clear hSw; go_simp
          try simp only [Act.put, zA1, zA2, zA3]
          refine wpAnyH_take (i := 43) (oi := { dst := some 57, op := Op.load 3 (Operand.tmp 56), type := 3, pos := "log.go:82", after := #[{ on := 42, ground := Ground.data }, { on := 35, ground := Ground.guard }], guard := some (35, true) }) (v := .int .i64 (L.p : Int)) rfl (by kernel_rfl) (by kernel_rfl) (by kernel_rfl) (fun _ _ _ h => h) (Or.inl ⟨by rfl, ?_⟩) HL3.out.lc ?_
          · intro W hSw; obtain ⟨k0, k2, k3⟩ := hSw; go_simp
          try simp only [Act.put, zA1, zA2, zA3]
          refine wpAnyH_take (i := 44) (oi := { dst := some 58, op := Op.move (Operand.tmp 0), type := 91, pos := "log.go:82", after := #[{ on := 35, ground := Ground.guard }], guard := some (35, true) }) (v := ptr g) rfl (by kernel_rfl) (by kernel_rfl) (by kernel_rfl) (fun _ _ _ h => h) (Or.inl ⟨by rfl, ?_⟩) HL3.out.lc ?_
          · intro W hSw; clear hSw; go_simp
          try simp only [Act.put, zA1, zA2, zA3]
          refine wpAnyH_take (i := 45) (oi := { dst := some 59, op := Op.move (Operand.tmp 1), type := 42, pos := "log.go:82", after := #[{ on := 35, ground := Ground.guard }], guard := some (35, true) }) (v := .slice A n c) rfl (by kernel_rfl) (by kernel_rfl) (by kernel_rfl) (fun _ _ _ h => h) (Or.inl ⟨by rfl, ?_⟩) HL3.out.lc ?_
          · intro W hSw; clear hSw; go_simp
          try simp only [Act.put, zA1, zA2, zA3]
          refine wpAnyH_take (i := 46) (oi := { dst := some 60, op := Op.call { callee := Callee.builtin Builtin.len, args := #[Operand.tmp 59], argTypes := #[42] }, type := 3, pos := "log.go:82", after := #[{ on := 45, ground := Ground.data }, { on := 35, ground := Ground.guard }], guard := some (35, true) }) (v := .int .i64 (n : Int)) rfl (by kernel_rfl) (by kernel_rfl) (by kernel_rfl) (fun _ _ _ h => h) (Or.inl ⟨by rfl, ?_⟩) HL3.out.lc ?_
          · intro W hSw; clear hSw; go_simp
          try simp only [Act.put, zA1, zA2, zA3]
          refine wpAnyH_1 (i := 47) (by kernel_rfl) (wpOp_call (o := { dst := some 61, op := Op.call { callee := Callee.value (Operand.func 209), args := #[Operand.tmp 58, Operand.tmp 60], argTypes := #[91, 3] }, type := 42, pos := "log.go:85", after := #[{ on := 44, ground := Ground.data }, { on := 46, ground := Ground.data }, { on := 35, ground := Ground.chain }, { on := 35, ground := Ground.guard }], guard := some (35, true) }) (f := 209) rfl (by rfl) (by go_simp) ((head_ HL3.out HRN.out).mono ?_))
          rintro e w4 ⟨bh, rfl, _, hh4, hb4⟩
          have HH4 := Lib.hid hh4
          have HL4 := Lib.hid (HL3.out.below hb4)
          have HK4 := Lib.hid (HK3.out.trans (Keep.of_below hb4))
          clear hh4 hb4
          refine ⟨_, rfl, HL4.out.lc, ?_⟩
          try simp only [Act.put, zA1, zA2, zA3]
          obtain ⟨s5, b5, hP5⟩ : ∃ s5 b5, s3.tryW L.p (L.head (n : Int)) = (s5, b5) := ⟨_, _, rfl⟩
          have HP5 := Lib.hid hP5
          have HP5' := Lib.hid (HHN.out s3 _ _ hP5)
          clear hP5
          refine wpAnyH_1 (i := 48) (by kernel_rfl) (wpOp_call (o := { dst := some 62, op := Op.call { callee := Callee.value (Operand.func 33), args := #[Operand.tmp 53, Operand.tmp 57, Operand.tmp 61], argTypes := #[24, 3, 42] }, type := 4, pos := "log.go:85", after := #[{ on := 39, ground := Ground.data }, { on := 43, ground := Ground.data }, { on := 47, ground := Ground.data }, { on := 47, ground := Ground.chain }, { on := 35, ground := Ground.guard }], guard := some (35, true) }) (f := 33) rfl (by rfl) (by go_simp) ((log_write HL4.out (lim_mono HM3.out.1 (by omega)) (HPN.out w4 s3 HL4.out) (headB_length _ _ _) HH4.out HP5.out).mono ?_))
          rintro e w5 ⟨rfl, hl5, hk5⟩
          have HL5 := Lib.hid hl5
          have HK5 := Lib.hid (HK4.out.trans hk5)
          clear hl5 hk5
          refine ⟨_, rfl, HL5.out.lc, ?_⟩
          try simp only [Act.put, zA1, zA2, zA3]
          cases b5
          · refine wpAnyH_take (i := 49) (oi := { dst := some 63, op := Op.pick (Operand.tmp 49) (Operand.tmp 62) (Operand.const (Value.bool false)), type := 4, pos := "log.go:82", after := #[{ on := 35, ground := Ground.data }, { on := 48, ground := Ground.data }], guard := none }) (v := .bool false) rfl (by kernel_rfl) (by kernel_rfl) (by kernel_rfl) (fun _ _ _ h => h) (Or.inl ⟨by rfl, ?_⟩) HL5.out.lc ?_
            · intro W hSw; clear hSw; go_simp
            try simp only [Act.put, zA1, zA2, zA3]
            refine wpAnyH_take (i := 50) (oi := { dst := some 64, op := Op.move (Operand.tmp 63), type := 4, pos := "log.go:82", after := #[{ on := 49, ground := Ground.data }, { on := 48, ground := Ground.chain }], guard := none }) (v := .bool false) rfl (by kernel_rfl) (by kernel_rfl) (by kernel_rfl) (fun _ _ _ h => h) (Or.inl ⟨by rfl, ?_⟩) HL5.out.lc ?_
            · intro W hSw; clear hSw; go_simp
            try simp only [Act.put, zA1, zA2, zA3]
            refine wpAnyH_take (i := 51) (oi := { dst := some 65, op := Op.move (Operand.tmp 0), type := 91, pos := "log.go:82", after := #[{ on := 50, ground := Ground.guard }], guard := some (50, true) }) (v := undef) rfl (by kernel_rfl) (by kernel_rfl) (by kernel_rfl) (fun _ _ _ h => h) (Or.inr ⟨by rfl, rfl⟩) HL5.out.lc ?_
            try simp only [Act.put, zA1, zA2, zA3]
            refine wpAnyH_take (i := 52) (oi := { dst := some 66, op := Op.nilCheck (Operand.tmp 65), type := 0, pos := "log.go:82", after := #[{ on := 51, ground := Ground.data }, { on := 50, ground := Ground.guard }], guard := some (50, true) }) (v := undef) rfl (by kernel_rfl) (by kernel_rfl) (by kernel_rfl) (fun _ _ _ h => h) (Or.inr ⟨by rfl, rfl⟩) HL5.out.lc ?_
            try simp only [Act.put, zA1, zA2, zA3]
            refine wpAnyH_take (i := 53) (oi := { dst := some 67, op := Op.fieldAddr 133 (Operand.tmp 66) 0, type := 0, pos := "log.go:82", after := #[{ on := 52, ground := Ground.data }, { on := 50, ground := Ground.guard }], guard := some (50, true) }) (v := undef) rfl (by kernel_rfl) (by kernel_rfl) (by kernel_rfl) (fun _ _ _ h => h) (Or.inr ⟨by rfl, rfl⟩) HL5.out.lc ?_
            try simp only [Act.put, zA1, zA2, zA3]
            refine wpAnyH_take (i := 54) (oi := { dst := some 68, op := Op.load 24 (Operand.tmp 67), type := 24, pos := "log.go:82", after := #[{ on := 53, ground := Ground.data }, { on := 50, ground := Ground.guard }], guard := some (50, true) }) (v := undef) rfl (by kernel_rfl) (by kernel_rfl) (by kernel_rfl) (fun _ _ _ h => h) (Or.inr ⟨by rfl, rfl⟩) HL5.out.lc ?_
            try simp only [Act.put, zA1, zA2, zA3]
            refine wpAnyH_take (i := 55) (oi := { dst := some 69, op := Op.call { callee := Callee.value (Operand.func 189), args := #[Operand.tmp 68], argTypes := #[24] }, type := 4, pos := "log.go:86", after := #[{ on := 54, ground := Ground.data }, { on := 50, ground := Ground.chain }, { on := 50, ground := Ground.guard }], guard := some (50, true) }) (v := undef) rfl (by kernel_rfl) (by kernel_rfl) (by kernel_rfl) (fun _ _ _ h => h) (Or.inr ⟨by rfl, rfl⟩) HL5.out.lc ?_
            try simp only [Act.put, zA1, zA2, zA3]
            refine wpAnyH_take (i := 56) (oi := { dst := some 70, op := Op.pick (Operand.tmp 64) (Operand.tmp 69) (Operand.const (Value.bool false)), type := 4, pos := "log.go:82", after := #[{ on := 50, ground := Ground.data }, { on := 55, ground := Ground.data }], guard := none }) (v := .bool false) rfl (by kernel_rfl) (by kernel_rfl) (by kernel_rfl) (fun _ _ _ h => h) (Or.inl ⟨by rfl, ?_⟩) HL5.out.lc ?_
            · intro W hSw; clear hSw; go_simp
            try simp only [Act.put, zA1, zA2, zA3]
            refine wpAnyH_take (i := 57) (oi := { dst := some 4, op := Op.assign (Operand.tmp 70), type := 4, pos := "log.go:82", after := #[{ on := 56, ground := Ground.data }, { on := 55, ground := Ground.chain }, { on := 0, ground := Ground.phase }, { on := 1, ground := Ground.phase }, { on := 2, ground := Ground.phase }, { on := 3, ground := Ground.phase }, { on := 4, ground := Ground.phase }, { on := 5, ground := Ground.phase }, { on := 6, ground := Ground.phase }, { on := 7, ground := Ground.phase }, { on := 8, ground := Ground.phase }, { on := 9, ground := Ground.phase }, { on := 10, ground := Ground.phase }, { on := 11, ground := Ground.phase }, { on := 12, ground := Ground.phase }, { on := 13, ground := Ground.phase }, { on := 14, ground := Ground.phase }, { on := 15, ground := Ground.phase }, { on := 16, ground := Ground.phase }, { on := 17, ground := Ground.phase }, { on := 18, ground := Ground.phase }, { on := 19, ground := Ground.phase }, { on := 20, ground := Ground.phase }, { on := 21, ground := Ground.phase }, { on := 22, ground := Ground.phase }, { on := 23, ground := Ground.phase }, { on := 24, ground := Ground.phase }, { on := 25, ground := Ground.phase }, { on := 26, ground := Ground.phase }, { on := 27, ground := Ground.phase }, { on := 28, ground := Ground.phase }, { on := 29, ground := Ground.phase }, { on := 30, ground := Ground.phase }, { on := 31, ground := Ground.phase }, { on := 32, ground := Ground.phase }, { on := 33, ground := Ground.phase }, { on := 34, ground := Ground.phase }, { on := 35, ground := Ground.phase }, { on := 36, ground := Ground.phase }, { on := 37, ground := Ground.phase }, { on := 38, ground := Ground.phase }, { on := 39, ground := Ground.phase }, { on := 40, ground := Ground.phase }, { on := 41, ground := Ground.phase }, { on := 42, ground := Ground.phase }, { on := 43, ground := Ground.phase }, { on := 44, ground := Ground.phase }, { on := 45, ground := Ground.phase }, { on := 46, ground := Ground.phase }, { on := 47, ground := Ground.phase }, { on := 48, ground := Ground.phase }, { on := 49, ground := Ground.phase }, { on := 50, ground := Ground.phase }, { on := 51, ground := Ground.phase }, { on := 52, ground := Ground.phase }, { on := 53, ground := Ground.phase }, { on := 54, ground := Ground.phase }, { on := 55, ground := Ground.phase }, { on := 56, ground := Ground.phase }], guard := none }) (v := .bool false) rfl (by kernel_rfl) (by kernel_rfl) (by kernel_rfl) (fun _ _ _ h => h) (Or.inl ⟨by rfl, ?_⟩) HL5.out.lc ?_
            · intro W hSw; clear hSw; go_simp
            try simp only [Act.put, zA1, zA2, zA3]
            refine wpAnyH_done (by kernel_rfl) ?_ _
            refine NoPanic.normal ?_
            go_wp2_with fail
            go_ret
            exact ⟨by rw [lay_4 HP1.out HT2.out HP3.out HP5'.out]; rfl, by rw [lay_4 HP1.out HT2.out HP3.out HP5'.out]; exact HL5.out, HK5.out⟩
          · refine wpAnyH_take (i := 49) (oi := { dst := some 63, op := Op.pick (Operand.tmp 49) (Operand.tmp 62) (Operand.const (Value.bool false)), type := 4, pos := "log.go:82", after := #[{ on := 35, ground := Ground.data }, { on := 48, ground := Ground.data }], guard := none }) (v := .bool true) rfl (by kernel_rfl) (by kernel_rfl) (by kernel_rfl) (fun _ _ _ h => h) (Or.inl ⟨by rfl, ?_⟩) HL5.out.lc ?_
            · intro W hSw; clear hSw; go_simp
            try simp only [Act.put, zA1, zA2, zA3]
            refine wpAnyH_take (i := 50) (oi := { dst := some 64, op := Op.move (Operand.tmp 63), type := 4, pos := "log.go:82", after := #[{ on := 49, ground := Ground.data }, { on := 48, ground := Ground.chain }], guard := none }) (v := .bool true) rfl (by kernel_rfl) (by kernel_rfl) (by kernel_rfl) (fun _ _ _ h => h) (Or.inl ⟨by rfl, ?_⟩) HL5.out.lc ?_
            · intro W hSw; clear hSw; go_simp
            try simp only [Act.put, zA1, zA2, zA3]
            refine wpAnyH_take (i := 51) (oi := { dst := some 65, op := Op.move (Operand.tmp 0), type := 91, pos := "log.go:82", after := #[{ on := 50, ground := Ground.guard }], guard := some (50, true) }) (v := ptr g) rfl (by kernel_rfl) (by kernel_rfl) (by kernel_rfl) (fun _ _ _ h => h) (Or.inl ⟨by rfl, ?_⟩) HL5.out.lc ?_
            · intro W hSw; clear hSw; go_simp
            try simp only [Act.put, zA1, zA2, zA3]
            refine wpAnyH_take (i := 52) (oi := { dst := some 66, op := Op.nilCheck (Operand.tmp 65), type := 0, pos := "log.go:82", after := #[{ on := 51, ground := Ground.data }, { on := 50, ground := Ground.guard }], guard := some (50, true) }) (v := .pointer (some ⟨g, 0, none⟩)) rfl (by kernel_rfl) (by kernel_rfl) (by kernel_rfl) (fun _ _ _ h => h) (Or.inl ⟨by rfl, ?_⟩) HL5.out.lc ?_
            · intro W hSw; clear hSw; go_simp
            try simp only [Act.put, zA1, zA2, zA3]
            refine wpAnyH_take (i := 53) (oi := { dst := some 67, op := Op.fieldAddr 133 (Operand.tmp 66) 0, type := 0, pos := "log.go:82", after := #[{ on := 52, ground := Ground.data }, { on := 50, ground := Ground.guard }], guard := some (50, true) }) (v := .pointer (some ⟨g, 0, none⟩)) rfl (by kernel_rfl) (by kernel_rfl) (by kernel_rfl) (fun _ _ _ h => h) (Or.inl ⟨by rfl, ?_⟩) HL5.out.lc ?_
            · intro W hSw; clear hSw; go_simp
            try simp only [Act.put, zA1, zA2, zA3]
            refine wpAnyH_take (i := 54) (oi := { dst := some 68, op := Op.load 24 (Operand.tmp 67), type := 24, pos := "log.go:82", after := #[{ on := 53, ground := Ground.data }, { on := 50, ground := Ground.guard }], guard := some (50, true) }) (v := ptr gd) rfl (by kernel_rfl) (by kernel_rfl) (by kernel_rfl) (fun _ _ _ h => h) (Or.inl ⟨by rfl, ?_⟩) HL5.out.lc ?_
            · intro W hSw; obtain ⟨k0, k2, k3⟩ := hSw; go_simp
            try simp only [Act.put, zA1, zA2, zA3]
            obtain ⟨s6, b6, hP6⟩ : ∃ s6 b6, s5.tryS = (s6, b6) := ⟨_, _, rfl⟩
            have HP6 := Lib.hid hP6
            clear hP6
            refine wpAnyH_1 (i := 55) (by kernel_rfl) (wpOp_call (o := { dst := some 69, op := Op.call { callee := Callee.value (Operand.func 189), args := #[Operand.tmp 68], argTypes := #[24] }, type := 4, pos := "log.go:86", after := #[{ on := 54, ground := Ground.data }, { on := 50, ground := Ground.chain }, { on := 50, ground := Ground.guard }], guard := some (50, true) }) (f := 189) rfl (by rfl) (by go_simp) ((log_sync HL5.out HP6.out).mono ?_))
            rintro e w6 ⟨rfl, hl6, hk6⟩
            have HL6 := Lib.hid hl6
            have HK6 := Lib.hid (HK5.out.trans hk6)
            clear hl6 hk6
            refine ⟨_, rfl, HL6.out.lc, ?_⟩
            try simp only [Act.put, zA1, zA2, zA3]
            refine wpAnyH_take (i := 56) (oi := { dst := some 70, op := Op.pick (Operand.tmp 64) (Operand.tmp 69) (Operand.const (Value.bool false)), type := 4, pos := "log.go:82", after := #[{ on := 50, ground := Ground.data }, { on := 55, ground := Ground.data }], guard := none }) (v := .bool b6) rfl (by kernel_rfl) (by kernel_rfl) (by kernel_rfl) (fun _ _ _ h => h) (Or.inl ⟨by rfl, ?_⟩) HL6.out.lc ?_
            · intro W hSw; clear hSw; go_simp
            try simp only [Act.put, zA1, zA2, zA3]
            refine wpAnyH_take (i := 57) (oi := { dst := some 4, op := Op.assign (Operand.tmp 70), type := 4, pos := "log.go:82", after := #[{ on := 56, ground := Ground.data }, { on := 55, ground := Ground.chain }, { on := 0, ground := Ground.phase }, { on := 1, ground := Ground.phase }, { on := 2, ground := Ground.phase }, { on := 3, ground := Ground.phase }, { on := 4, ground := Ground.phase }, { on := 5, ground := Ground.phase }, { on := 6, ground := Ground.phase }, { on := 7, ground := Ground.phase }, { on := 8, ground := Ground.phase }, { on := 9, ground := Ground.phase }, { on := 10, ground := Ground.phase }, { on := 11, ground := Ground.phase }, { on := 12, ground := Ground.phase }, { on := 13, ground := Ground.phase }, { on := 14, ground := Ground.phase }, { on := 15, ground := Ground.phase }, { on := 16, ground := Ground.phase }, { on := 17, ground := Ground.phase }, { on := 18, ground := Ground.phase }, { on := 19, ground := Ground.phase }, { on := 20, ground := Ground.phase }, { on := 21, ground := Ground.phase }, { on := 22, ground := Ground.phase }, { on := 23, ground := Ground.phase }, { on := 24, ground := Ground.phase }, { on := 25, ground := Ground.phase }, { on := 26, ground := Ground.phase }, { on := 27, ground := Ground.phase }, { on := 28, ground := Ground.phase }, { on := 29, ground := Ground.phase }, { on := 30, ground := Ground.phase }, { on := 31, ground := Ground.phase }, { on := 32, ground := Ground.phase }, { on := 33, ground := Ground.phase }, { on := 34, ground := Ground.phase }, { on := 35, ground := Ground.phase }, { on := 36, ground := Ground.phase }, { on := 37, ground := Ground.phase }, { on := 38, ground := Ground.phase }, { on := 39, ground := Ground.phase }, { on := 40, ground := Ground.phase }, { on := 41, ground := Ground.phase }, { on := 42, ground := Ground.phase }, { on := 43, ground := Ground.phase }, { on := 44, ground := Ground.phase }, { on := 45, ground := Ground.phase }, { on := 46, ground := Ground.phase }, { on := 47, ground := Ground.phase }, { on := 48, ground := Ground.phase }, { on := 49, ground := Ground.phase }, { on := 50, ground := Ground.phase }, { on := 51, ground := Ground.phase }, { on := 52, ground := Ground.phase }, { on := 53, ground := Ground.phase }, { on := 54, ground := Ground.phase }, { on := 55, ground := Ground.phase }, { on := 56, ground := Ground.phase }], guard := none }) (v := .bool b6) rfl (by kernel_rfl) (by kernel_rfl) (by kernel_rfl) (fun _ _ _ h => h) (Or.inl ⟨by rfl, ?_⟩) HL6.out.lc ?_
            · intro W hSw; clear hSw; go_simp
            try simp only [Act.put, zA1, zA2, zA3]
            refine wpAnyH_done (by kernel_rfl) ?_ _
            refine NoPanic.normal ?_
            go_wp2_with fail
            go_ret
            exact ⟨by rw [lay_5 HP1.out HT2.out HP3.out HP5'.out HP6.out]; rfl, by rw [lay_5 HP1.out HT2.out HP3.out HP5'.out HP6.out]; exact HL6.out, HK6.out⟩
end Go.Proofs.YtjfoflbaoceemaaGreat
