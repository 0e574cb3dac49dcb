/- What a log finds where its next record would be. -/
import Derived.Test.YtmpkgnmijnjddaaLogE
import Derived.Test.YtmpkgnmijnjddaaOrderH
namespace Go.Proofs.Ytmpkgnmijnjddaa
open Go.RowKit
theorem read_any {w : World} {gd : Nat} {O : Nat → Prop} {s : St} (h : DiskAt w gd O s) (p : Nat) : Calls Try.prog 30 #[ptr gd, .int .i64 (p : Int)] w (GetC w (s.at_ p)) := by
  have hok : s.ok := by obtain ⟨_, _, h⟩ := h; exact h.ok
  rcases Nat.lt_or_ge p s.n with hp | hp
  · refine (read_ h p hp).mono ?_
    rintro e w' ⟨rfl, hb, hbel, _⟩
    have hl : (s.at_ p).length = 64 := secs_getD hok.now (by rw [St.now_length]; exact hp)
    exact ⟨_, 64, by rw [hl], Has.of_blk hb ⟨Nat.le_refl _, _, hb⟩, hbel, by rw [hl]; exact Nat.le_refl _, by omega, fun h => by cases h⟩
  · refine (read_no h p (.inr (by omega))).mono ?_
    rintro e w' ⟨rfl, rfl⟩
    have hl : s.at_ p = [] := by
      unfold St.at_
      rw [List.getD_eq_getElem?_getD, List.getElem?_eq_none (by rw [St.now_length]; exact hp)]; rfl
    rw [hl]
    exact ⟨none, 0, rfl, Has.nil _ _ _, Below.refl _ _, Nat.le_refl _, by omega, fun _ => rfl⟩
theorem at_length {s : St} (hok : s.ok) (p : Nat) : (s.at_ p).length ≤ 64 := by
  rcases Nat.lt_or_ge p s.n with hp | hp
  · have := secs_getD hok.now (i := p) (by rw [St.now_length]; exact hp)
    unfold St.at_; omega
  · unfold St.at_
    rw [List.getD_eq_getElem?_getD, List.getElem?_eq_none (by rw [St.now_length]; exact hp)]; simp
def FindP (w : World) (r : Option (List UInt8)) (e : Ending) (w' : World) : Prop :=
  Below w.heap.size w w' ∧ match r with
  | none => e = .returned (.tuple #[.slice none 0 0, .bool false])
  | some b => ∃ A c, e = .returned (.tuple #[.slice A b.length c, .bool true]) ∧ Has w' (fun i => w.heap.size ≤ i ∧ Ty5 w' i) A b ∧ b.length ≤ c ∧ c ≤ 262144 ∧ (A = none → c = 0)
theorem Has.newer {w : World} {a b : Nat} {A : Option Addr} {xs : List UInt8} (h : Has w (fun i => a ≤ i ∧ Ty5 w i) A xs) (hb : b ≤ a) : Has w (fun i => b ≤ i ∧ Ty5 w i) A xs := h.more fun _ _ hi => ⟨Nat.le_trans hb hi.1, hi.2⟩
set_option maxHeartbeats 1000000 in
theorem find_ {w : World} {g gd : Nat} {R : Nat → Prop} {s : St} {L : Lg} (h : LogAt w g gd R s L) : Calls Try.prog 20 #[ptr g] w (FindP w (L.find s)) := by
  obtain ⟨A0, c0, k0, k1, k2, k3, k4, k5, kf, hc0, hp, hf, hl, hlt⟩ := h.cells
  obtain ⟨O, hd, -, -⟩ := h.diskR
  have hok := h.ok
  have hal := at_length hok L.p
  have hrg := lenIn_range (s.at_ L.p)
  obtain ⟨had, hhad⟩ : ∃ x, s.at_ L.p = x := ⟨_, rfl⟩
  obtain ⟨n, hn⟩ : ∃ n, lenIn had = n := ⟨_, rfl⟩
  have hrd := fun w' (k : Below w.heap.size w w') => read_any (hd.below k) L.p
  have hgt := fun w' (k : Below w.heap.size w w') (hn : i64r n) => getC_ (hd.below k) ((L.p : Int) + 1) n hn.1 hn.2
  rw [hhad] at hal hrg hrd
  rw [hn] at hrg
  obtain ⟨m, hm⟩ : ∃ m, had.length = m := ⟨_, rfl⟩
  rw [hm] at hal
  have HM := Lib.hid hm
  have HRD := Lib.hid hrd
  have HGT := Lib.hid hgt
  have HHAD := Lib.hid hhad
  have HN := Lib.hid hn
  have HL := Lib.hid h
  have HRG := Lib.hid hrg
  clear h hd hok hhad hn hrd hgt k1 k3 k4 k5 kf hrg hm
  have hw0 : Below w.heap.size w w.drew := (Below.refl _ _).drew
  have HW0 := Lib.hid hw0
  clear hw0
  go_enter Try.func20, Try.ntmps20
  go_wp2_with fail
  refine wp_region_noPanic ?_
  refine wp_region_held_drew (S := fun W => Below w.heap.size w W) (by kernel_rfl) HW0.out (fun _ => ?_)
  refine wpAnyH_take (i := 0) (oi := { dst := some 6, op := Op.move (Operand.tmp 0), type := 27, pos := "log.go:92", after := #[], guard := none }) (v := ptr g) rfl (by kernel_rfl) (by kernel_rfl) (by kernel_rfl) (fun _ _ _ h => h) (Or.inl ⟨by rfl, ?_⟩) HW0.out ?_
  · intro W hSw; clear hSw; go_simp
  try simp only [Act.put, List.setIfInBounds_toArray, List.set_cons_zero, List.set_cons_succ]
  refine wpAnyH_take (i := 1) (oi := { dst := some 7, op := Op.nilCheck (Operand.tmp 6), type := 0, pos := "log.go:92", after := #[{ on := 0, ground := Ground.data }], guard := none }) (v := .pointer (some ⟨g, 0, none⟩)) rfl (by kernel_rfl) (by kernel_rfl) (by kernel_rfl) (fun _ _ _ h => h) (Or.inl ⟨by rfl, ?_⟩) HW0.out ?_
  · intro W hSw; clear hSw; go_simp
  try simp only [Act.put, List.setIfInBounds_toArray, List.set_cons_zero, List.set_cons_succ]
  refine wpAnyH_take (i := 2) (oi := { dst := some 8, op := Op.fieldAddr 53 (Operand.tmp 7) 0, type := 0, pos := "log.go:92", after := #[{ on := 1, ground := Ground.data }], guard := none }) (v := .pointer (some ⟨g, 0, none⟩)) rfl (by kernel_rfl) (by kernel_rfl) (by kernel_rfl) (fun _ _ _ h => h) (Or.inl ⟨by rfl, ?_⟩) HW0.out ?_
  · intro W hSw; clear hSw; go_simp
  try simp only [Act.put, List.setIfInBounds_toArray, List.set_cons_zero, List.set_cons_succ]
  refine wpAnyH_take (i := 3) (oi := { dst := some 9, op := Op.load 25 (Operand.tmp 8), type := 25, pos := "log.go:92", after := #[{ on := 2, ground := Ground.data }], guard := none }) (v := ptr gd) rfl (by kernel_rfl) (by kernel_rfl) (by kernel_rfl) (fun _ _ _ h => h) (Or.inl ⟨by rfl, ?_⟩) HW0.out ?_
  · intro W hSw; have hk := (hSw.cell (p := ⟨g, 0, none⟩) hlt).trans k0; clear hSw; go_simp
  try simp only [Act.put, List.setIfInBounds_toArray, List.set_cons_zero, List.set_cons_succ]
  refine wpAnyH_take (i := 4) (oi := { dst := some 10, op := Op.move (Operand.tmp 0), type := 27, pos := "log.go:92", after := #[], guard := none }) (v := ptr g) rfl (by kernel_rfl) (by kernel_rfl) (by kernel_rfl) (fun _ _ _ h => h) (Or.inl ⟨by rfl, ?_⟩) HW0.out ?_
  · intro W hSw; clear hSw; go_simp
  try simp only [Act.put, List.setIfInBounds_toArray, List.set_cons_zero, List.set_cons_succ]
  refine wpAnyH_take (i := 5) (oi := { dst := some 11, op := Op.nilCheck (Operand.tmp 10), type := 0, pos := "log.go:92", after := #[{ on := 4, ground := Ground.data }], guard := none }) (v := .pointer (some ⟨g, 0, none⟩)) rfl (by kernel_rfl) (by kernel_rfl) (by kernel_rfl) (fun _ _ _ h => h) (Or.inl ⟨by rfl, ?_⟩) HW0.out ?_
  · intro W hSw; clear hSw; go_simp
  try simp only [Act.put, List.setIfInBounds_toArray, List.set_cons_zero, List.set_cons_succ]
  refine wpAnyH_take (i := 6) (oi := { dst := some 12, op := Op.fieldAddr 53 (Operand.tmp 11) 2, type := 0, pos := "log.go:92", after := #[{ on := 5, ground := Ground.data }], guard := none }) (v := .pointer (some ⟨g, 2, none⟩)) rfl (by kernel_rfl) (by kernel_rfl) (by kernel_rfl) (fun _ _ _ h => h) (Or.inl ⟨by rfl, ?_⟩) HW0.out ?_
  · intro W hSw; clear hSw; go_simp
  try simp only [Act.put, List.setIfInBounds_toArray, List.set_cons_zero, List.set_cons_succ]
  refine wpAnyH_take (i := 7) (oi := { dst := some 13, op := Op.load 3 (Operand.tmp 12), type := 3, pos := "log.go:92", after := #[{ on := 6, ground := Ground.data }], guard := none }) (v := .int .i64 (L.p : Int)) rfl (by kernel_rfl) (by kernel_rfl) (by kernel_rfl) (fun _ _ _ h => h) (Or.inl ⟨by rfl, ?_⟩) HW0.out ?_
  · intro W hSw; have hk := (hSw.cell (p := ⟨g, 2, none⟩) hlt).trans k2; clear hSw; go_simp
  try simp only [Act.put, List.setIfInBounds_toArray, List.set_cons_zero, List.set_cons_succ]
  refine wpAnyH_1 (i := 8) (by kernel_rfl) (wpOp_call (o := { dst := some 14, op := Op.call { callee := Callee.value (Operand.func 30), args := #[Operand.tmp 9, Operand.tmp 13], argTypes := #[25, 3] }, type := 30, pos := "log.go:92", after := #[{ on := 3, ground := Ground.data }, { on := 7, ground := Ground.data }], guard := none }) (f := 30) rfl (by rfl) (by go_simp) ((HRD.out _ HW0.out).mono ?_))
  rintro e w1 ⟨A1, c1, rfl, hh1, hb1, _, _, hA1⟩
  rw [HM.out]
  have HH1 := Lib.hid hh1
  have HB1 := Lib.hid (HW0.out.trans (hb1.mono HW0.out.size))
  have HA1 := Lib.hid hA1
  clear hh1 hb1 hA1
  refine ⟨_, rfl, HB1.out, ?_⟩
  try simp only [Act.put, List.setIfInBounds_toArray, List.set_cons_zero, List.set_cons_succ]
  refine wpAnyH_take (i := 9) (oi := { dst := some 4, op := Op.assign (Operand.tmp 14), type := 30, pos := "log.go:92", after := #[{ on := 8, ground := Ground.data }, { on := 8, ground := Ground.chain }, { on := 0, ground := Ground.phase }, { on := 1, ground := Ground.phase }, { on := 2, ground := Ground.phase }, { on := 3, ground := Ground.phase }, { on := 4, ground := Ground.phase }, { on := 5, ground := Ground.phase }, { on := 6, ground := Ground.phase }, { on := 7, ground := Ground.phase }, { on := 8, ground := Ground.phase }], guard := none }) (v := .slice A1 m c1) rfl (by kernel_rfl) (by kernel_rfl) (by kernel_rfl) (fun _ _ _ h => h) (Or.inl ⟨by rfl, ?_⟩) HB1.out ?_
  · intro W hSw; clear hSw; go_simp
  try simp only [Act.put, List.setIfInBounds_toArray, List.set_cons_zero, List.set_cons_succ]
  refine wpAnyH_done (by kernel_rfl) ?_ _
  refine NoPanic.normal ?_
  have hln := lengthIn_ (n := m) HH1.out HM.out (by omega) HA1.out
  rw [HN.out] at hln
  have HLN := Lib.hid hln
  clear hln
  go_wp2_with fail
  refine HLN.out.mono ?_
  rintro e w2 ⟨rfl, hb2⟩
  have HB2 := Lib.hid (HB1.out.trans (hb2.mono HB1.out.size))
  have HH2 := Lib.hid (HH1.out.below hb2)
  clear hb2
  go_wp2_with fail
  refine (fits_ (HL.out.below HB2.out) HRG.out).mono ?_
  rintro e w3 ⟨rfl, hb3⟩
  have HB3 := Lib.hid (HB2.out.trans (hb3.mono HB2.out.size))
  have HH3 := Lib.hid (HH2.out.below hb3)
  clear hb3
  obtain ⟨f, hf⟩ : ∃ f, L.fits n = f := ⟨_, rfl⟩
  have HF := Lib.hid hf
  rw [hf]
  clear hf
  cases f
  · have hres : L.find s = none := by unfold Lg.find Lg.found; rw [HHAD.out, HN.out, HF.out]; rfl
    have HRES := Lib.hid hres
    clear hres
    go_wp2_with fail
    go_ret2
    exact ⟨HB3.out, by rw [HRES.out]; rfl⟩
  · go_wp2_with fail
    refine (head_ (HL.out.below HB3.out) HRG.out).mono ?_
    rintro e w4 ⟨b4, rfl, hz4, hh4, hb4⟩
    have HB4 := Lib.hid (HB3.out.trans (hb4.mono HB3.out.size))
    have HH4 := Lib.hid (HH3.out.below hb4)
    have HD4 := Lib.hid (Has.of_blk (K := fun _ => True) hh4 trivial)
    have hhl : (L.head n).length = 64 := headB_length _ _ _
    have HHL := Lib.hid hhl
    clear hb4 hh4 hz4 hhl
    go_wp2_with fail
    refine (equal_ HH4.out HD4.out HM.out HHL.out (by omega)).mono ?_
    rintro e w5 ⟨rfl, hb5⟩
    have HB5 := Lib.hid (HB4.out.trans (hb5.mono HB4.out.size))
    clear hb5
    by_cases heq : had = L.head n
    · have hd : decide (had = L.head n) = true := decide_eq_true heq
      have hres : L.find s = some (s.get ((L.p : Int) + 1) n) := by unfold Lg.find Lg.found; rw [HHAD.out, HN.out, HF.out, hd]; rfl
      have HRES := Lib.hid hres
      rw [hd]
      clear hres heq hd
      have HB5' := Lib.hid (HB5.out.drew)
      go_wp2_with fail
      refine wp_region_noPanic ?_
      refine wp_region_held_drew (S := fun W => Below w.heap.size w W) (by kernel_rfl) HB5'.out (fun _ => ?_)
      refine wpAnyH_take (i := 0) (oi := { dst := some 29, op := Op.move (Operand.tmp 0), type := 27, pos := "log.go:97", after := #[], guard := none }) (v := ptr g) rfl (by kernel_rfl) (by kernel_rfl) (by kernel_rfl) (fun _ _ _ h => h) (Or.inl ⟨by rfl, ?_⟩) HB5'.out ?_
      · intro W hSw; clear hSw; go_simp
      try simp only [Act.put, List.setIfInBounds_toArray, List.set_cons_zero, List.set_cons_succ]
      refine wpAnyH_take (i := 1) (oi := { dst := some 30, op := Op.nilCheck (Operand.tmp 29), type := 0, pos := "log.go:97", after := #[{ on := 0, ground := Ground.data }], guard := none }) (v := .pointer (some ⟨g, 0, none⟩)) rfl (by kernel_rfl) (by kernel_rfl) (by kernel_rfl) (fun _ _ _ h => h) (Or.inl ⟨by rfl, ?_⟩) HB5'.out ?_
      · intro W hSw; clear hSw; go_simp
      try simp only [Act.put, List.setIfInBounds_toArray, List.set_cons_zero, List.set_cons_succ]
      refine wpAnyH_take (i := 2) (oi := { dst := some 31, op := Op.fieldAddr 53 (Operand.tmp 30) 0, type := 0, pos := "log.go:97", after := #[{ on := 1, ground := Ground.data }], guard := none }) (v := .pointer (some ⟨g, 0, none⟩)) rfl (by kernel_rfl) (by kernel_rfl) (by kernel_rfl) (fun _ _ _ h => h) (Or.inl ⟨by rfl, ?_⟩) HB5'.out ?_
      · intro W hSw; clear hSw; go_simp
      try simp only [Act.put, List.setIfInBounds_toArray, List.set_cons_zero, List.set_cons_succ]
      refine wpAnyH_take (i := 3) (oi := { dst := some 32, op := Op.load 25 (Operand.tmp 31), type := 25, pos := "log.go:97", after := #[{ on := 2, ground := Ground.data }], guard := none }) (v := ptr gd) rfl (by kernel_rfl) (by kernel_rfl) (by kernel_rfl) (fun _ _ _ h => h) (Or.inl ⟨by rfl, ?_⟩) HB5'.out ?_
      · intro W hSw; have hk := (hSw.cell (p := ⟨g, 0, none⟩) hlt).trans k0; clear hSw; go_simp
      try simp only [Act.put, List.setIfInBounds_toArray, List.set_cons_zero, List.set_cons_succ]
      refine wpAnyH_take (i := 4) (oi := { dst := some 33, op := Op.move (Operand.tmp 0), type := 27, pos := "log.go:97", after := #[], guard := none }) (v := ptr g) rfl (by kernel_rfl) (by kernel_rfl) (by kernel_rfl) (fun _ _ _ h => h) (Or.inl ⟨by rfl, ?_⟩) HB5'.out ?_
      · intro W hSw; clear hSw; go_simp
      try simp only [Act.put, List.setIfInBounds_toArray, List.set_cons_zero, List.set_cons_succ]
      refine wpAnyH_take (i := 5) (oi := { dst := some 34, op := Op.nilCheck (Operand.tmp 33), type := 0, pos := "log.go:97", after := #[{ on := 4, ground := Ground.data }], guard := none }) (v := .pointer (some ⟨g, 0, none⟩)) rfl (by kernel_rfl) (by kernel_rfl) (by kernel_rfl) (fun _ _ _ h => h) (Or.inl ⟨by rfl, ?_⟩) HB5'.out ?_
      · intro W hSw; clear hSw; go_simp
      try simp only [Act.put, List.setIfInBounds_toArray, List.set_cons_zero, List.set_cons_succ]
      refine wpAnyH_take (i := 6) (oi := { dst := some 35, op := Op.fieldAddr 53 (Operand.tmp 34) 2, type := 0, pos := "log.go:97", after := #[{ on := 5, ground := Ground.data }], guard := none }) (v := .pointer (some ⟨g, 2, none⟩)) rfl (by kernel_rfl) (by kernel_rfl) (by kernel_rfl) (fun _ _ _ h => h) (Or.inl ⟨by rfl, ?_⟩) HB5'.out ?_
      · intro W hSw; clear hSw; go_simp
      try simp only [Act.put, List.setIfInBounds_toArray, List.set_cons_zero, List.set_cons_succ]
      refine wpAnyH_take (i := 7) (oi := { dst := some 36, op := Op.load 3 (Operand.tmp 35), type := 3, pos := "log.go:97", after := #[{ on := 6, ground := Ground.data }], guard := none }) (v := .int .i64 (L.p : Int)) rfl (by kernel_rfl) (by kernel_rfl) (by kernel_rfl) (fun _ _ _ h => h) (Or.inl ⟨by rfl, ?_⟩) HB5'.out ?_
      · intro W hSw; have hk := (hSw.cell (p := ⟨g, 2, none⟩) hlt).trans k2; clear hSw; go_simp
      try simp only [Act.put, List.setIfInBounds_toArray, List.set_cons_zero, List.set_cons_succ]
      refine wpAnyH_take (i := 8) (oi := { dst := some 37, op := Op.binOp BinOp.add 3 (Operand.tmp 36) (Operand.const (Value.int IntKind.i64 1)) 3, type := 3, pos := "log.go:97", after := #[{ on := 7, ground := Ground.data }], guard := none }) (v := .int .i64 ((L.p : Int) + 1)) rfl (by kernel_rfl) (by kernel_rfl) (by kernel_rfl) (fun _ _ _ h => h) (Or.inl ⟨by rfl, ?_⟩) HB5'.out ?_
      · intro W hSw; clear hSw; go_simp; exact IntWalk.i64_in _ (by omega)
      try simp only [Act.put, List.setIfInBounds_toArray, List.set_cons_zero, List.set_cons_succ]
      refine wpAnyH_take (i := 9) (oi := { dst := some 38, op := Op.move (Operand.tmp 5), type := 3, pos := "log.go:97", after := #[], guard := none }) (v := .int .i64 n) rfl (by kernel_rfl) (by kernel_rfl) (by kernel_rfl) (fun _ _ _ h => h) (Or.inl ⟨by rfl, ?_⟩) HB5'.out ?_
      · intro W hSw; clear hSw; go_simp
      try simp only [Act.put, List.setIfInBounds_toArray, List.set_cons_zero, List.set_cons_succ]
      refine wpAnyH_1 (i := 10) (by kernel_rfl) (wpOp_call (o := { dst := some 39, op := Op.call { callee := Callee.value (Operand.func 34), args := #[Operand.tmp 32, Operand.tmp 37, Operand.tmp 38], argTypes := #[25, 3, 3] }, type := 30, pos := "log.go:97", after := #[{ on := 3, ground := Ground.data }, { on := 8, ground := Ground.data }, { on := 9, ground := Ground.data }], guard := none }) (f := 34) rfl (by rfl) (by go_simp) ((HGT.out _ HB5'.out HRG.out).mono ?_))
      rintro e w6 ⟨A6, c6, rfl, hh6, hb6, hc6, hd6, hA6⟩
      have HH6 := Lib.hid hh6
      have HB6 := Lib.hid (HB5'.out.trans (hb6.mono HB5'.out.size))
      have HC6 := Lib.hid (And.intro hc6 (And.intro hd6 hA6))
      clear hh6 hb6 hc6 hd6 hA6
      refine ⟨_, rfl, HB6.out, ?_⟩
      try simp only [Act.put, List.setIfInBounds_toArray, List.set_cons_zero, List.set_cons_succ]
      refine wpAnyH_take (i := 11) (oi := { dst := some 2, op := Op.assign (Operand.tmp 39), type := 30, pos := "log.go:97", after := #[{ on := 10, ground := Ground.data }, { on := 10, ground := Ground.chain }, { on := 0, ground := Ground.phase }, { on := 1, ground := Ground.phase }, { on := 2, ground := Ground.phase }, { on := 3, ground := Ground.phase }, { on := 4, ground := Ground.phase }, { on := 5, ground := Ground.phase }, { on := 6, ground := Ground.phase }, { on := 7, ground := Ground.phase }, { on := 8, ground := Ground.phase }, { on := 9, ground := Ground.phase }, { on := 10, ground := Ground.phase }], guard := none }) (v := .slice A6 (s.get ((L.p : Int) + 1) n).length c6) rfl (by kernel_rfl) (by kernel_rfl) (by kernel_rfl) (fun _ _ _ h => h) (Or.inl ⟨by rfl, ?_⟩) HB6.out ?_
      · intro W hSw; clear hSw; go_simp
      try simp only [Act.put, List.setIfInBounds_toArray, List.set_cons_zero, List.set_cons_succ]
      refine wpAnyH_take (i := 12) (oi := { dst := some 3, op := Op.assign (Operand.const (Value.bool true)), type := 4, pos := "log.go:97", after := #[{ on := 11, ground := Ground.chain }, { on := 0, ground := Ground.phase }, { on := 1, ground := Ground.phase }, { on := 2, ground := Ground.phase }, { on := 3, ground := Ground.phase }, { on := 4, ground := Ground.phase }, { on := 5, ground := Ground.phase }, { on := 6, ground := Ground.phase }, { on := 7, ground := Ground.phase }, { on := 8, ground := Ground.phase }, { on := 9, ground := Ground.phase }, { on := 10, ground := Ground.phase }, { on := 11, ground := Ground.phase }], guard := none }) (v := .bool true) rfl (by kernel_rfl) (by kernel_rfl) (by kernel_rfl) (fun _ _ _ h => h) (Or.inl ⟨by rfl, ?_⟩) HB6.out ?_
      · intro W hSw; clear hSw; go_simp
      try simp only [Act.put, List.setIfInBounds_toArray, List.set_cons_zero, List.set_cons_succ]
      refine wpAnyH_done (by kernel_rfl) ?_ _
      refine NoPanic.normal ?_
      go_wp2
      go_ret2
      refine ⟨HB6.out, ?_⟩
      rw [HRES.out]
      exact ⟨A6, c6, rfl, HH6.out.newer HB5'.out.size, HC6.out⟩
    · have hd : decide (had = L.head n) = false := decide_eq_false heq
      have hres : L.find s = none := by unfold Lg.find Lg.found; rw [HHAD.out, HN.out, HF.out, hd]; rfl
      have HRES := Lib.hid hres
      rw [hd]
      clear hres heq hd
      go_wp2_with fail
      go_ret2
      exact ⟨HB5.out, by rw [HRES.out]; rfl⟩
end Go.Proofs.Ytmpkgnmijnjddaa
