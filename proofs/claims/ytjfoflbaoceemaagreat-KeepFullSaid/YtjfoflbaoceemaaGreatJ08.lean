/- . . . . -/
import Derived.Test.YtjfoflbaoceemaaGreatJ07
import Derived.Test.YtjfoflbaoceemaaGreatJ03
set_option maxRecDepth 4000
namespace Go.Proofs.YtjfoflbaoceemaaGreat
open Go.RowKit
section
variable {w : World} {g gd : Nat} {R : Nat → Prop} {s : Dk} {L : Lg}
theorem lengthIn_ {K : Nat → Prop} {A : Option Addr} {n c : Nat} {xs : List UInt8} (h : Has w K A xs) (hl : xs.length = n) (hn : n ≤ 1000000) (hA : A = none → c = 0) :
    Calls Tryz.prog 212 #[.slice A n c] w fun e w' => e = .returned (.int .i64 (lenIn xs)) ∧ Below w.heap.size w w' := by
  have hr := has_rb h hl
  clear h
  go_enter Tryz.func212, Tryz.ntmps212
  go_wp2_with fail
  refine (newReader w A n c xs hr hn hA).mono ?_
  rintro e w1 ⟨q, rfl, hq, hR1, hb1⟩
  have HR1 := Lib.hid hR1
  have HB1 := Lib.hid hb1
  clear hR1 hb1 hr
  go_wp2_with fail
  refine (rdText w1 q q _ HR1.out).mono ?_
  rintro e w2 ⟨rfl, hR2, hk2⟩
  have HR2 := Lib.hid hR2
  have HB2 := Lib.hid (but_below HB1.out hk2 hq)
  clear hR2 hk2
  go_wp2_with fail
  refine (rdInt w2 q q _ HR2.out).mono ?_
  rintro e w3 ⟨rfl, hR3, hk3⟩
  have HR3 := Lib.hid hR3
  have HB3 := Lib.hid (but_below HB2.out hk3 hq)
  clear hR3 hk3
  go_wp2_with fail
  refine (rdInt w3 q q _ HR3.out).mono ?_
  rintro e w4 ⟨rfl, hR4, hk4⟩
  have HR4 := Lib.hid hR4
  have HB4 := Lib.hid (but_below HB3.out hk4 hq)
  clear hR4 hk4
  go_wp2_with fail
  refine (rdInt w4 q q _ HR4.out).mono ?_
  rintro e w5 ⟨rfl, _, hk5⟩
  have HB5 := Lib.hid (but_below HB4.out hk5 hq)
  clear hk5
  go_wp2
  go_ret
  exact ⟨rfl, HB5.out⟩
theorem head_blk {W : World} {b : Nat} {ys : List UInt8} (h : Blk W b 5 (cellsB (zeros 64)).toArray) (hy : ys.length = 29) : Blk (W.setCells b 0 (cellsB ys)) b 5 (cellsB (ys ++ zeros 35)).toArray := by
  have := blk_setCells (g := b) (t := 5) (cellsB ys) [] (cellsB (zeros 29)) (cellsB (zeros 35)) W (by rw [cellsB_length, cellsB_length, zeros_length, hy]) (by
    rw [List.nil_append, ← cellsB_append]
    have e : zeros 29 ++ zeros 35 = zeros 64 := by unfold zeros; rw [List.replicate_append_replicate]
    rw [e]; exact h)
  rw [List.nil_append, ← cellsB_append] at this
  exact this
theorem head_ {n : Int} (h : LogAt w g gd R s L) (hn : i64r n) :
    Calls Tryz.prog 209 #[ptr g, .int .i64 n] w fun e w' => ∃ b, e = .returned (.slice (some ⟨b, 0, none⟩) 64 64) ∧ w.heap.size ≤ b ∧ Blk w' b 5 (cellsB (L.head n)).toArray ∧ Below w.heap.size w w' := by
  obtain ⟨A, c, _, c1, _, _, c4, _, _, hc, _, _, hl, hlt⟩ := h.cells
  have hmk := fun W => make64 W
  have hw0 : WriterAt (w.alloc (.cells #[.pointer none, .int .i64 0] 151)) w.heap.size [] := ⟨[], .pointer none, Blk.new w _ _, rfl, rfl⟩
  have HW0 := Lib.hid hw0
  have HB0 := Lib.hid (alloc_below w (.cells #[.pointer none, .int .i64 0] 151))
  clear h hw0
  obtain ⟨hn1, hn2⟩ := hn
  go_enter Tryz.func209, Tryz.ntmps209
  go_wp2_with fail
  refine (wText _ _ _ ⟨#[114, 101, 99]⟩ HW0.out (by simp) (by decide)).mono ?_
  rintro e w1 ⟨rfl, hw1, hk1⟩
  have HW1 := Lib.hid hw1
  have HB1 := Lib.hid (but_below HB0.out hk1 (Nat.le_refl _))
  clear hw1 hk1
  have c1' := (HB1.out.cell (p := ⟨g, 1, none⟩) hlt).trans c1
  go_wp2_with fail
  refine (wInt _ _ _ L.e HW1.out (by decide)).mono ?_
  rintro e w2 ⟨rfl, hw2, hk2⟩
  have HW2 := Lib.hid hw2
  have HB2 := Lib.hid (but_below HB1.out hk2 (Nat.le_refl _))
  clear hw2 hk2
  have c4' := (HB2.out.cell (p := ⟨g, 4, none⟩) hlt).trans c4
  go_wp2_with fail
  refine (wInt _ _ _ ((L.ls.length : Int) + 1) HW2.out (by simp [encText_len, encInt_len])).mono ?_
  rintro e w3 ⟨rfl, hw3, hk3⟩
  have HW3 := Lib.hid hw3
  have HB3 := Lib.hid (but_below HB2.out hk3 (Nat.le_refl _))
  clear hw3 hk3
  go_wp2_with fail
  refine (wInt _ _ _ n HW3.out (by simp [encText_len, encInt_len])).mono ?_
  rintro e w4 ⟨rfl, hw4, hk4⟩
  have HW4 := Lib.hid hw4
  have HB4 := Lib.hid (but_below HB3.out hk4 (Nat.le_refl _))
  have HS4 := Lib.hid (Blk.new w4 5 (cellsB (zeros 64)).toArray)
  clear hw4 hk4
  go_wp2_with fail
  refine (wBytes _ _ _ (writer_below HW4.out (alloc_below w4 (.cells (cellsB (zeros 64)).toArray 5))) (by simp [encText_len, encInt_len])).mono ?_
  rintro e w5 ⟨rfl, hb5, hbel5⟩
  have hq : ([] ++ encText (ByteArray.mk #[114, 101, 99]).data.toList ++ encInt L.e ++ encInt ((L.ls.length : Int) + 1) ++ encInt n).length = 29 := by simp [encText_len, encInt_len]
  have he : [] ++ encText (ByteArray.mk #[114, 101, 99]).data.toList ++ encInt L.e ++ encInt ((L.ls.length : Int) + 1) ++ encInt n ++ zeros 35 = L.head n := by rw [List.nil_append]; exact headB_written _ _ _
  generalize [] ++ encText (ByteArray.mk #[114, 101, 99]).data.toList ++ encInt L.e ++ encInt ((L.ls.length : Int) + 1) ++ encInt n = ys at *
  have HE := Lib.hid he
  have HQ := Lib.hid hq
  have hs5 := HS4.out.below hbel5 (by simp)
  have ht := blk_there hs5
  rw [cellsB_length, zeros_length] at ht
  have hcp := copy_some (W := w5) (b := w4.heap.size) (o := 0) (n := 64) (dc := 64) (m := ys.length) (c := ys.length) (a := ⟨(w4.alloc (.cells (cellsB (zeros 64)).toArray 5)).heap.size, 0, none⟩) (xs := ys) (ys := ys) rfl (fun j u hu => by rw [Addr.add_mid, hb5.cell, Nat.zero_add, List.getElem?_toArray]; exact hu) ht (List.take_of_length_le (by omega))
  simp only [World.size_alloc] at hcp
  have HS5 := Lib.hid hs5
  have HB5 := Lib.hid ((HB4.out.alloc HB4.out.size (.cells (cellsB (zeros 64)).toArray 5)).trans (hbel5.mono (by simp; exact Nat.le_succ_of_le HB4.out.size)))
  have HZ := Lib.hid HB4.out.size
  clear he hq hs5 ht hb5 hbel5
  go_wp2
  go_ret
  exact ⟨w4.heap.size, rfl, HZ.out, by rw [← HE.out]; exact head_blk HS5.out HQ.out, below_setCells HZ.out _ _ _ HB5.out⟩
end
end Go.Proofs.YtjfoflbaoceemaaGreat
namespace Go.Proofs.YtjfoflbaoceemaaGreat
open Go
section
variable {P : Program} {ops : Array Oper} {Q : Exit → Act → World → Prop} {md : Region.Mode} {S : World → Prop}
theorem wpOp_value {K : Act → World → Prop} {i : Nat} {o : Oper} {a : Act} {w : World} (ho : ops[i]? = some o) (hw : Region.wanted o (yielded ops a.tmps) = true) {v : Value} {w' : World}
    (he : (execOp a.eval o).run P w = .ok (.value v) w') (h : K (a.put o.dst v) w') : wpOp P ops Q i K a w := by
  unfold wpOp
  simp only [ho, hw, if_true, Oper.wp, he, Oper.upon]
  exact .inl h
theorem wpOp_call {K : Act → World → Prop} {i : Nat} {o : Oper} {a : Act} {w : World} (ho : ops[i]? = some o) (hw : Region.wanted o (yielded ops a.tmps) = true) {f : Nat} {args : Array Value}
    (he : (execOp a.eval o).run P w = .ok (.enter f args) w) (h : Calls P f args w fun e w' => ∃ u, e = .returned u ∧ K (a.put o.dst u) w') : wpOp P ops Q i K a w := by
  unfold wpOp
  simp only [ho, hw, if_true, Oper.wp, he, Oper.upon]
  refine .inl (h.mono fun e w' ⟨u, hu, hk⟩ => ?_)
  subst hu
  exact hk
theorem wpAnyH_1 {i : Nat} {fuel : Nat} {listed : Array Bool} {a : Act} {w : World} (hr : Region.ready md ops listed = [i])
    (h : wpOp P ops Q i (fun a' w' => S w' ∧ wpAnyH P md ops Q S fuel (listed.setIfInBounds i true) a' w') a w) : wpAnyH P md ops Q S (fuel + 1) listed a w :=
  wpAnyH_all hr (by simp) fun j hj => by obtain rfl := List.mem_singleton.1 hj; exact h
end
end Go.Proofs.YtjfoflbaoceemaaGreat
namespace Go.Proofs.YtjfoflbaoceemaaGreat
open Go.RowKit
def FindP (w : World) (r : Option (List UInt8)) (e : Ending) (w' : World) : Prop :=
  Below w.heap.size w w' ∧ match r with
  | none => e = .returned (.tuple #[.slice none 0 0, .bool false])
  | some b => ∃ A c, e = .returned (.tuple #[.slice A b.length c, .bool true]) ∧ Has w' (fun i => w.heap.size ≤ i ∧ Ty5 w' i) A b ∧ b.length ≤ c ∧ c ≤ 262144 ∧ (A = none → c = 0)
set_option maxHeartbeats 1000000 in
theorem lfind_ {w : World} {g gd : Nat} {R : Nat → Prop} {s : Dk} {L : Lg} (h : LogAt w g gd R s L) : Calls Tryz.prog 183 #[ptr g] w (FindP w (L.find s)) := by
  obtain ⟨A0, c0, k0, k1, k2, k3, k4, k5, kf, hc0, hp, hf, hl, hlt⟩ := h.cells
  obtain ⟨O, hd, -, -⟩ := h.diskR
  have hok := h.ok
  have hal := at_length hok L.p
  have hrg := lenIn_range (s.at_ L.p)
  obtain ⟨had, hhad⟩ : ∃ x, s.at_ L.p = x := ⟨_, rfl⟩
  obtain ⟨n, hn⟩ : ∃ n, lenIn had = n := ⟨_, rfl⟩
  have hrd := fun w' (k : Below w.heap.size w w') => read_any (hd.below k) L.p
  have hgt := fun w' (k : Below w.heap.size w w') (hn : i64r n) => getC_ (hd.below k) ((L.p : Int) + 1) n hn.1 hn.2
  rw [hhad] at hal hrg hrd
  rw [hn] at hrg
  obtain ⟨m, hm⟩ : ∃ m, had.length = m := ⟨_, rfl⟩
  rw [hm] at hal
  have HM := Lib.hid hm
  have HRD := Lib.hid hrd
  have HGT := Lib.hid hgt
  have HHAD := Lib.hid hhad
  have HN := Lib.hid hn
  have HL := Lib.hid h
  have HRG := Lib.hid hrg
  clear h hd hok hhad hn hrd hgt k1 k3 k4 k5 kf hrg hm
  have hw0 : Below w.heap.size w w.drew := (Below.refl _ _).drew
  have HW0 := Lib.hid hw0
  clear hw0
  go_enter Tryz.func183, Tryz.ntmps183
  go_wp2_with fail
  refine wp_region_noPanic ?_
  refine wp_region_held_drew (S := fun W => Below w.heap.size w W) (by kernel_rfl) HW0.out (fun _ => ?_)
  refine wpAnyH_take (i := 0) (oi := { dst := some 6, op := Op.move (Operand.tmp 0), type := 91, pos := "log.go:92", after := #[], guard := none }) (v := ptr g) rfl (by kernel_rfl) (by kernel_rfl) (by kernel_rfl) (fun _ _ _ h => h) (Or.inl ⟨by rfl, ?_⟩) HW0.out ?_
  · intro W hSw; clear hSw; go_simp
  try simp only [Act.put, zA1, zA2, zA3]
  refine wpAnyH_take (i := 1) (oi := { dst := some 7, op := Op.nilCheck (Operand.tmp 6), type := 0, pos := "log.go:92", after := #[{ on := 0, ground := Ground.data }], guard := none }) (v := .pointer (some ⟨g, 0, none⟩)) rfl (by kernel_rfl) (by kernel_rfl) (by kernel_rfl) (fun _ _ _ h => h) (Or.inl ⟨by rfl, ?_⟩) HW0.out ?_
  · intro W hSw; clear hSw; go_simp
  try simp only [Act.put, zA1, zA2, zA3]
  refine wpAnyH_take (i := 2) (oi := { dst := some 8, op := Op.fieldAddr 133 (Operand.tmp 7) 0, type := 0, pos := "log.go:92", after := #[{ on := 1, ground := Ground.data }], guard := none }) (v := .pointer (some ⟨g, 0, none⟩)) rfl (by kernel_rfl) (by kernel_rfl) (by kernel_rfl) (fun _ _ _ h => h) (Or.inl ⟨by rfl, ?_⟩) HW0.out ?_
  · intro W hSw; clear hSw; go_simp
  try simp only [Act.put, zA1, zA2, zA3]
  refine wpAnyH_take (i := 3) (oi := { dst := some 9, op := Op.load 24 (Operand.tmp 8), type := 24, pos := "log.go:92", after := #[{ on := 2, ground := Ground.data }], guard := none }) (v := ptr gd) rfl (by kernel_rfl) (by kernel_rfl) (by kernel_rfl) (fun _ _ _ h => h) (Or.inl ⟨by rfl, ?_⟩) HW0.out ?_
  · intro W hSw; have hk := (hSw.cell (p := ⟨g, 0, none⟩) hlt).trans k0; clear hSw; go_simp
  try simp only [Act.put, zA1, zA2, zA3]
  refine wpAnyH_take (i := 4) (oi := { dst := some 10, op := Op.move (Operand.tmp 0), type := 91, pos := "log.go:92", after := #[], guard := none }) (v := ptr g) rfl (by kernel_rfl) (by kernel_rfl) (by kernel_rfl) (fun _ _ _ h => h) (Or.inl ⟨by rfl, ?_⟩) HW0.out ?_
  · intro W hSw; clear hSw; go_simp
  try simp only [Act.put, zA1, zA2, zA3]
  refine wpAnyH_take (i := 5) (oi := { dst := some 11, op := Op.nilCheck (Operand.tmp 10), type := 0, pos := "log.go:92", after := #[{ on := 4, ground := Ground.data }], guard := none }) (v := .pointer (some ⟨g, 0, none⟩)) rfl (by kernel_rfl) (by kernel_rfl) (by kernel_rfl) (fun _ _ _ h => h) (Or.inl ⟨by rfl, ?_⟩) HW0.out ?_
  · intro W hSw; clear hSw; go_simp
  try simp only [Act.put, zA1, zA2, zA3]
  refine wpAnyH_take (i := 6) (oi := { dst := some 12, op := Op.fieldAddr 133 (Operand.tmp 11) 2, type := 0, pos := "log.go:92", after := #[{ on := 5, ground := Ground.data }], guard := none }) (v := .pointer (some ⟨g, 2, none⟩)) rfl (by kernel_rfl) (by kernel_rfl) (by kernel_rfl) (fun _ _ _ h => h) (Or.inl ⟨by rfl, ?_⟩) HW0.out ?_
  · intro W hSw; clear hSw; go_simp
  try simp only [Act.put, zA1, zA2, zA3]
  refine wpAnyH_take (i := 7) (oi := { dst := some 13, op := Op.load 3 (Operand.tmp 12), type := 3, pos := "log.go:92", after := #[{ on := 6, ground := Ground.data }], guard := none }) (v := .int .i64 (L.p : Int)) rfl (by kernel_rfl) (by kernel_rfl) (by kernel_rfl) (fun _ _ _ h => h) (Or.inl ⟨by rfl, ?_⟩) HW0.out ?_
  · intro W hSw; have hk := (hSw.cell (p := ⟨g, 2, none⟩) hlt).trans k2; clear hSw; go_simp
  try simp only [Act.put, zA1, zA2, zA3]
  refine wpAnyH_1 (i := 8) (by kernel_rfl) (wpOp_call (o := { dst := some 14, op := Op.call { callee := Callee.value (Operand.func 29), args := #[Operand.tmp 9, Operand.tmp 13], argTypes := #[24, 3] }, type := 42, pos := "log.go:92", after := #[{ on := 3, ground := Ground.data }, { on := 7, ground := Ground.data }], guard := none }) (f := 29) rfl (by rfl) (by go_simp) ((HRD.out _ HW0.out).mono ?_))
  rintro e w1 ⟨A1, c1, rfl, hh1, hb1, _, _, hA1⟩
  rw [HM.out]
  have HH1 := Lib.hid hh1
  have HB1 := Lib.hid (HW0.out.trans (hb1.mono HW0.out.size))
  have HA1 := Lib.hid hA1
  clear hh1 hb1 hA1
  refine ⟨_, rfl, HB1.out, ?_⟩
  try simp only [Act.put, zA1, zA2, zA3]
  refine wpAnyH_take (i := 9) (oi := { dst := some 4, op := Op.assign (Operand.tmp 14), type := 42, pos := "log.go:92", after := #[{ on := 8, ground := Ground.data }, { on := 8, ground := Ground.chain }, { on := 0, ground := Ground.phase }, { on := 1, ground := Ground.phase }, { on := 2, ground := Ground.phase }, { on := 3, ground := Ground.phase }, { on := 4, ground := Ground.phase }, { on := 5, ground := Ground.phase }, { on := 6, ground := Ground.phase }, { on := 7, ground := Ground.phase }, { on := 8, ground := Ground.phase }], guard := none }) (v := .slice A1 m c1) rfl (by kernel_rfl) (by kernel_rfl) (by kernel_rfl) (fun _ _ _ h => h) (Or.inl ⟨by rfl, ?_⟩) HB1.out ?_
  · intro W hSw; clear hSw; go_simp
  try simp only [Act.put, zA1, zA2, zA3]
  refine wpAnyH_done (by kernel_rfl) ?_ _
  refine NoPanic.normal ?_
  have hln := lengthIn_ (n := m) HH1.out HM.out (by omega) HA1.out
  rw [HN.out] at hln
  have HLN := Lib.hid hln
  clear hln
  go_wp2_with fail
  refine HLN.out.mono ?_
  rintro e w2 ⟨rfl, hb2⟩
  have HB2 := Lib.hid (HB1.out.trans (hb2.mono HB1.out.size))
  have HH2 := Lib.hid (HH1.out.below hb2)
  clear hb2
  go_wp2_with fail
  refine (lfits_ (HL.out.below HB2.out) HRG.out).mono ?_
  rintro e w3 ⟨rfl, hb3⟩
  have HB3 := Lib.hid (HB2.out.trans (hb3.mono HB2.out.size))
  have HH3 := Lib.hid (HH2.out.below hb3)
  clear hb3
  obtain ⟨f, hf⟩ : ∃ f, L.fits n = f := ⟨_, rfl⟩
  have HF := Lib.hid hf
  rw [hf]
  clear hf
  cases f
  · have hres : L.find s = none := by unfold Lg.find Lg.found; rw [HHAD.out, HN.out, HF.out]; rfl
    have HRES := Lib.hid hres
    clear hres
    go_wp2_with fail
    go_ret2
    exact ⟨HB3.out, by rw [HRES.out]; rfl⟩
  · go_wp2_with fail
    refine (head_ (HL.out.below HB3.out) HRG.out).mono ?_
    rintro e w4 ⟨b4, rfl, hz4, hh4, hb4⟩
    have HB4 := Lib.hid (HB3.out.trans (hb4.mono HB3.out.size))
    have HH4 := Lib.hid (HH3.out.below hb4)
    have HD4 := Lib.hid (Has.of_blk (K := fun _ => True) hh4 trivial)
    have hhl : (L.head n).length = 64 := headB_length _ _ _
    have HHL := Lib.hid hhl
    clear hb4 hh4 hz4 hhl
    go_wp2_with fail
    refine (equal_ HH4.out HD4.out HM.out HHL.out (by omega)).mono ?_
    rintro e w5 ⟨rfl, hb5⟩
    have HB5 := Lib.hid (HB4.out.trans (hb5.mono HB4.out.size))
    clear hb5
    by_cases heq : had = L.head n
    · have hd : decide (had = L.head n) = true := decide_eq_true heq
      have hres : L.find s = some (s.get ((L.p : Int) + 1) n) := by unfold Lg.find Lg.found; rw [HHAD.out, HN.out, HF.out, hd]; rfl
      have HRES := Lib.hid hres
      rw [hd]
      clear hres heq hd
      have HB5' := Lib.hid (HB5.out.drew)
      go_wp2_with fail
      refine wp_region_noPanic ?_
      refine wp_region_held_drew (S := fun W => Below w.heap.size w W) (by kernel_rfl) HB5'.out (fun _ => ?_)
      refine wpAnyH_take (i := 0) (oi := { dst := some 29, op := Op.move (Operand.tmp 0), type := 91, pos := "log.go:97", after := #[], guard := none }) (v := ptr g) rfl (by kernel_rfl) (by kernel_rfl) (by kernel_rfl) (fun _ _ _ h => h) (Or.inl ⟨by rfl, ?_⟩) HB5'.out ?_
      · intro W hSw; clear hSw; go_simp
      try simp only [Act.put, zA1, zA2, zA3]
      refine wpAnyH_take (i := 1) (oi := { dst := some 30, op := Op.nilCheck (Operand.tmp 29), type := 0, pos := "log.go:97", after := #[{ on := 0, ground := Ground.data }], guard := none }) (v := .pointer (some ⟨g, 0, none⟩)) rfl (by kernel_rfl) (by kernel_rfl) (by kernel_rfl) (fun _ _ _ h => h) (Or.inl ⟨by rfl, ?_⟩) HB5'.out ?_
      · intro W hSw; clear hSw; go_simp
      try simp only [Act.put, zA1, zA2, zA3]
      refine wpAnyH_take (i := 2) (oi := { dst := some 31, op := Op.fieldAddr 133 (Operand.tmp 30) 0, type := 0, pos := "log.go:97", after := #[{ on := 1, ground := Ground.data }], guard := none }) (v := .pointer (some ⟨g, 0, none⟩)) rfl (by kernel_rfl) (by kernel_rfl) (by kernel_rfl) (fun _ _ _ h => h) (Or.inl ⟨by rfl, ?_⟩) HB5'.out ?_
      · intro W hSw; clear hSw; go_simp
      try simp only [Act.put, zA1, zA2, zA3]
      refine wpAnyH_take (i := 3) (oi := { dst := some 32, op := Op.load 24 (Operand.tmp 31), type := 24, pos := "log.go:97", after := #[{ on := 2, ground := Ground.data }], guard := none }) (v := ptr gd) rfl (by kernel_rfl) (by kernel_rfl) (by kernel_rfl) (fun _ _ _ h => h) (Or.inl ⟨by rfl, ?_⟩) HB5'.out ?_
      · intro W hSw; have hk := (hSw.cell (p := ⟨g, 0, none⟩) hlt).trans k0; clear hSw; go_simp
      try simp only [Act.put, zA1, zA2, zA3]
      refine wpAnyH_take (i := 4) (oi := { dst := some 33, op := Op.move (Operand.tmp 0), type := 91, pos := "log.go:97", after := #[], guard := none }) (v := ptr g) rfl (by kernel_rfl) (by kernel_rfl) (by kernel_rfl) (fun _ _ _ h => h) (Or.inl ⟨by rfl, ?_⟩) HB5'.out ?_
      · intro W hSw; clear hSw; go_simp
      try simp only [Act.put, zA1, zA2, zA3]
      refine wpAnyH_take (i := 5) (oi := { dst := some 34, op := Op.nilCheck (Operand.tmp 33), type := 0, pos := "log.go:97", after := #[{ on := 4, ground := Ground.data }], guard := none }) (v := .pointer (some ⟨g, 0, none⟩)) rfl (by kernel_rfl) (by kernel_rfl) (by kernel_rfl) (fun _ _ _ h => h) (Or.inl ⟨by rfl, ?_⟩) HB5'.out ?_
      · intro W hSw; clear hSw; go_simp
      try simp only [Act.put, zA1, zA2, zA3]
      refine wpAnyH_take (i := 6) (oi := { dst := some 35, op := Op.fieldAddr 133 (Operand.tmp 34) 2, type := 0, pos := "log.go:97", after := #[{ on := 5, ground := Ground.data }], guard := none }) (v := .pointer (some ⟨g, 2, none⟩)) rfl (by kernel_rfl) (by kernel_rfl) (by kernel_rfl) (fun _ _ _ h => h) (Or.inl ⟨by rfl, ?_⟩) HB5'.out ?_
      · intro W hSw; clear hSw; go_simp
      try simp only [Act.put, zA1, zA2, zA3]
      refine wpAnyH_take (i := 7) (oi := { dst := some 36, op := Op.load 3 (Operand.tmp 35), type := 3, pos := "log.go:97", after := #[{ on := 6, ground := Ground.data }], guard := none }) (v := .int .i64 (L.p : Int)) rfl (by kernel_rfl) (by kernel_rfl) (by kernel_rfl) (fun _ _ _ h => h) (Or.inl ⟨by rfl, ?_⟩) HB5'.out ?_
      · intro W hSw; have hk := (hSw.cell (p := ⟨g, 2, none⟩) hlt).trans k2; clear hSw; go_simp
      try simp only [Act.put, zA1, zA2, zA3]
      refine wpAnyH_take (i := 8) (oi := { dst := some 37, op := Op.binOp BinOp.add 3 (Operand.tmp 36) (Operand.const (Value.int IntKind.i64 1)) 3, type := 3, pos := "log.go:97", after := #[{ on := 7, ground := Ground.data }], guard := none }) (v := .int .i64 ((L.p : Int) + 1)) rfl (by kernel_rfl) (by kernel_rfl) (by kernel_rfl) (fun _ _ _ h => h) (Or.inl ⟨by rfl, ?_⟩) HB5'.out ?_
      · intro W hSw; clear hSw; go_simp; exact IntWalk.i64_in _ (by omega)
      try simp only [Act.put, zA1, zA2, zA3]
      refine wpAnyH_take (i := 9) (oi := { dst := some 38, op := Op.move (Operand.tmp 5), type := 3, pos := "log.go:97", after := #[], guard := none }) (v := .int .i64 n) rfl (by kernel_rfl) (by kernel_rfl) (by kernel_rfl) (fun _ _ _ h => h) (Or.inl ⟨by rfl, ?_⟩) HB5'.out ?_
      · intro W hSw; clear hSw; go_simp
      try simp only [Act.put, zA1, zA2, zA3]
      refine wpAnyH_1 (i := 10) (by kernel_rfl) (wpOp_call (o := { dst := some 39, op := Op.call { callee := Callee.value (Operand.func 123), args := #[Operand.tmp 32, Operand.tmp 37, Operand.tmp 38], argTypes := #[24, 3, 3] }, type := 42, pos := "log.go:97", after := #[{ on := 3, ground := Ground.data }, { on := 8, ground := Ground.data }, { on := 9, ground := Ground.data }], guard := none }) (f := 123) rfl (by rfl) (by go_simp) ((HGT.out _ HB5'.out HRG.out).mono ?_))
      rintro e w6 ⟨A6, c6, rfl, hh6, hb6, hc6, hd6, hA6⟩
      have HH6 := Lib.hid hh6
      have HB6 := Lib.hid (HB5'.out.trans (hb6.mono HB5'.out.size))
      have HC6 := Lib.hid (And.intro hc6 (And.intro hd6 hA6))
      clear hh6 hb6 hc6 hd6 hA6
      refine ⟨_, rfl, HB6.out, ?_⟩
      try simp only [Act.put, zA1, zA2, zA3]
      refine wpAnyH_take (i := 11) (oi := { dst := some 2, op := Op.assign (Operand.tmp 39), type := 42, pos := "log.go:97", after := #[{ on := 10, ground := Ground.data }, { on := 10, ground := Ground.chain }, { on := 0, ground := Ground.phase }, { on := 1, ground := Ground.phase }, { on := 2, ground := Ground.phase }, { on := 3, ground := Ground.phase }, { on := 4, ground := Ground.phase }, { on := 5, ground := Ground.phase }, { on := 6, ground := Ground.phase }, { on := 7, ground := Ground.phase }, { on := 8, ground := Ground.phase }, { on := 9, ground := Ground.phase }, { on := 10, ground := Ground.phase }], guard := none }) (v := .slice A6 (s.get ((L.p : Int) + 1) n).length c6) rfl (by kernel_rfl) (by kernel_rfl) (by kernel_rfl) (fun _ _ _ h => h) (Or.inl ⟨by rfl, ?_⟩) HB6.out ?_
      · intro W hSw; clear hSw; go_simp
      try simp only [Act.put, zA1, zA2, zA3]
      refine wpAnyH_take (i := 12) (oi := { dst := some 3, op := Op.assign (Operand.const (Value.bool true)), type := 4, pos := "log.go:97", after := #[{ on := 11, ground := Ground.chain }, { on := 0, ground := Ground.phase }, { on := 1, ground := Ground.phase }, { on := 2, ground := Ground.phase }, { on := 3, ground := Ground.phase }, { on := 4, ground := Ground.phase }, { on := 5, ground := Ground.phase }, { on := 6, ground := Ground.phase }, { on := 7, ground := Ground.phase }, { on := 8, ground := Ground.phase }, { on := 9, ground := Ground.phase }, { on := 10, ground := Ground.phase }, { on := 11, ground := Ground.phase }], guard := none }) (v := .bool true) rfl (by kernel_rfl) (by kernel_rfl) (by kernel_rfl) (fun _ _ _ h => h) (Or.inl ⟨by rfl, ?_⟩) HB6.out ?_
      · intro W hSw; clear hSw; go_simp
      try simp only [Act.put, zA1, zA2, zA3]
      refine wpAnyH_done (by kernel_rfl) ?_ _
      refine NoPanic.normal ?_
      go_wp2
      go_ret2
      refine ⟨HB6.out, ?_⟩
      rw [HRES.out]
      exact ⟨A6, c6, rfl, HH6.out.newer HB5'.out.size, HC6.out⟩
    · have hd : decide (had = L.head n) = false := decide_eq_false heq
      have hres : L.find s = none := by unfold Lg.find Lg.found; rw [HHAD.out, HN.out, HF.out, hd]; rfl
      have HRES := Lib.hid hres
      rw [hd]
      clear hres heq hd
      go_wp2_with fail
      go_ret2
      exact ⟨HB5.out, by rw [HRES.out]; rfl⟩
end Go.Proofs.YtjfoflbaoceemaaGreat
namespace Go.Proofs.YtjfoflbaoceemaaGreat
open Go.RowKit
theorem info30 : (Tryz.prog.info? 42).map (fun i => (i.zero, i.size, i.bytes)) = some (some (.slice none 0 0), 1, 24) := by kernel_rfl
theorem row_append {w : World} {vr : Value} {n : Nat} {vs : List Value} (h : w.ownsRow 0 42 1 vr n vs) (A : Option Addr) (l c : Nat) (hn : n ≤ 100000) :
    ∃ A' c' W', (Builtin.append_ #[84, 84] 84 #[vr, .slice (some ⟨w.heap.size, 0, none⟩) 1 1]).run Tryz.prog (w.alloc (.cells #[.slice A l c] 42)) = .ok (.slice A' (n + 1) c') W' ∧
      W'.ownsRow 0 42 1 (.slice A' (n + 1) c') (n + 1) (vs ++ [.slice A l c]) ∧ w.heap.size ≤ W'.heap.size ∧ Keep (fun i _ => vr.ownBlock ≠ some i) w W' ∧
      (∀ k, (Value.slice A' (n + 1) c').ownBlock = some k → vr.ownBlock = some k ∨ w.heap.size ≤ k) := by
  obtain ⟨i0, hi, hz0, hz1, hz2⟩ := info_parts info30
  have hb := alloc_below w (.cells #[.slice A l c] 42)
  have hB := Blk.new w 42 #[.slice A l c]
  have ho : (w.alloc (.cells #[.slice A l c] 42)).ownsRow 0 42 1 vr n vs := by
    refine ⟨h.1, ?_⟩
    rcases h.2 with hn | ⟨q, cap, cur, h1, h2, h3, h4⟩
    · exact .inl hn
    · exact .inr ⟨q, cap, cur, h1, h2, (hb.block q (lt_of_some h3)).trans h3, h4⟩
  obtain ⟨v', W', hrun, h2, h3, _, h5⟩ := run_append_own_at (P := Tryz.prog) (w.alloc (.cells #[.slice A l c] 42)) 0 84 84 42 i0 _ 1 24 Tryz.underlying84 hi hz0 hz1 hz2 rfl (by omega) vr n vs ho ⟨w.heap.size, 0, none⟩ 1 1 [.slice A l c] rfl (fun j u hu => by
    rw [Addr.add_mid, hB.cell, Nat.zero_add]
    exact (List.getElem?_toArray (xs := [Value.slice A l c])).trans hu) (fun u hu => by simp at hu; subst hu; rfl) (by unfold maxLen; omega) (by omega) (by omega)
  have hv : ∃ A' c', v' = .slice A' (n + 1) c' := by
    rcases h2.2 with ⟨_, h0⟩ | ⟨q, cap, cur, rfl, _⟩
    · omega
    · exact ⟨_, cap, rfl⟩
  obtain ⟨A', c', rfl⟩ := hv
  refine ⟨A', c', W', hrun, h2, Nat.le_trans hb.size h3.size, (Keep.of_below hb).grown h3 (fun q o hq _ hk => hk hq), fun k hk => ?_⟩
  rcases h5 with h5 | h5
  · exact .inl (by rw [← h5]; exact hk)
  · rw [hk] at h5
    injection h5 with h5
    right
    rw [h5]
    simp
theorem rec_post {w W1 : World} {g gd : Nat} {O R : Nat → Prop} {vr : Value} {vs : List Value} {s : Dk} {L : Lg} (h : LogM w g gd O R vr vs s L) {A : Option Addr} {c : Nat} {b : List UInt8} (hb : Has w (fun i => R i ∧ Ty5 w i) A b) (hc : b.length ≤ c) (hm : c ≤ maxLen) (hA : A = none → c = 0) (hl : b.length ≤ 262144) (hf : L.p + (1 + need b.length) ≤ L.fin)
    {A1 : Option Addr} {c1 : Nat} (ho : W1.ownsRow 0 42 1 (.slice A1 (L.ls.length + 1) c1) (L.ls.length + 1) (vs ++ [.slice A b.length c])) (hk : Keep (fun i _ => vr.ownBlock ≠ some i) w W1)
    (hv : ∀ k, (Value.slice A1 (L.ls.length + 1) c1).ownBlock = some k → vr.ownBlock = some k ∨ w.heap.size ≤ k) (hgr : vr.ownBlock ≠ some g) (z : Int) (hz : z = (L.p : Int) + (1 + (need b.length : Int))) :
    LogAt (((W1.setCell ⟨g, 4, none⟩ (.slice A1 (L.ls.length + 1) c1)).setCell ⟨g, 2, none⟩ (.int .i64 z)).drew) g gd R s (L.add b) ∧ Keep (fun i _ => R i) w (((W1.setCell ⟨g, 4, none⟩ (.slice A1 (L.ls.length + 1) c1)).setCell ⟨g, 2, none⟩ (.int .i64 z)).drew) := by
  have hg1 : Keep (fun i _ => i ≠ g) W1 (((W1.setCell ⟨g, 4, none⟩ (.slice A1 (L.ls.length + 1) c1)).setCell ⟨g, 2, none⟩ (.int .i64 z)).drew) :=
    ((((Keep.refl W1).setCell (fun _ _ hk => hk rfl) _).setCell (fun _ _ hk => hk rfl) _).drew)
  have hk2 : Keep (fun i _ => vr.ownBlock ≠ some i ∧ i ≠ g) w (((W1.setCell ⟨g, 4, none⟩ (.slice A1 (L.ls.length + 1) c1)).setCell ⟨g, 2, none⟩ (.int .i64 z)).drew) :=
    (hk.mono fun i _ _ hi => hi.1).trans (hg1.mono fun i _ _ hi => hi.2)
  have h1 : Blk W1 g 133 #[ptr gd, .int .i64 L.e, .int .i64 (L.p : Int), .int .i64 (L.fin : Int), vr, .bool L.dead] := h.head.keep hk hgr
  have hkR : Keep (fun i _ => R i) w (((W1.setCell ⟨g, 4, none⟩ (.slice A1 (L.ls.length + 1) c1)).setCell ⟨g, 2, none⟩ (.int .i64 z)).drew) := hk2.mono fun i _ _ hi => ⟨(h.rO i hi).2.2.2, (h.rO i hi).2.2.1⟩
  refine ⟨⟨O, .slice A1 (L.ls.length + 1) c1, vs ++ [.slice A b.length c], h.disk.keep (K := fun i _ => vr.ownBlock ≠ some i ∧ i ≠ g) hk2 (fun i _ ho => ⟨fun e => h.orr i e ho, fun e => h.og (e ▸ ho)⟩), fun i hi => Nat.lt_of_lt_of_le (h.hi i hi) hk2.size, ?_, h.og, ?_, ?_, ?_, ?_, ?_, h.fn, ?_, ?_⟩, hkR⟩
  · have := ((h1.set_ 4 (.slice A1 (L.ls.length + 1) c1)).set_ 2 (.int .i64 z)).drew
    have ez : ((L.add b).p : Int) = z := by rw [hz]; simp [Lg.add]
    have el : (L.add b).ls.length = L.ls.length + 1 := by simp [Lg.add]
    rw [ez]
    simpa [Lg.add] using this
  · have el : (L.add b).ls.length = L.ls.length + 1 := by simp [Lg.add]
    rw [el]
    exact ownsRow_keep (K := fun i _ => i ≠ g) ho hg1 fun i _ hi e => by
      subst e
      rcases ho.2 with ⟨hv, _⟩ | ⟨q, cap, cur, hv, _, hq, _⟩
      · rw [hv] at hi; cases hi
      · rw [hv] at hi
        simp [Value.ownBlock] at hi
        subst hi
        exact ne_of_types h1 hq (by decide) rfl
  · intro k hk ho
    rcases hv k hk with e | e
    · exact h.orr k e ho
    · have := h.hi k ho; omega
  · exact (h.held.snoc hb hc hm hA).keep5 (hkR.mono fun _ _ _ hi => hi.1)
  · intro i hi
    obtain ⟨r1, r2, r3, r4⟩ := h.rO i hi
    refine ⟨Nat.lt_of_lt_of_le r1 hk2.size, r2, r3, fun e => ?_⟩
    rcases hv i e with e | e
    · exact r4 e
    · omega
  · exact hf
  · have := h.nl
    simp only [Lg.add, List.length_append, List.length_singleton]; omega
  · intro x hx
    rcases List.mem_append.1 hx with hx | hx
    · exact h.long x hx
    · rw [List.mem_singleton.1 hx]; exact hl
set_option maxHeartbeats 1000000 in
theorem add_rec {w : World} {g gd : Nat} {R : Nat → Prop} {s : Dk} {L : Lg} (h : LogAt w g gd R s L) {A : Option Addr} {n c : Nat} {b : List UInt8} (hb : Has w (fun i => R i ∧ Ty5 w i) A b) (hn : b.length = n) (hc : n ≤ c) (hm : c ≤ maxLen) (hA : A = none → c = 0) (hl : n ≤ 262144) (hf : L.p + (1 + need n) ≤ L.fin) :
    Calls Tryz.prog 157 #[ptr g, .slice A n c] w fun e w' => e = .returned (.tuple #[]) ∧ LogAt w' g gd R s (L.add b) ∧ Keep (fun i _ => R i) w w' := by
  subst hn
  obtain ⟨O, vr, vs, h⟩ := h
  obtain ⟨A1, c1, W1, hap, ho1, hs1, hk1, hv1⟩ := row_append h.rows A b.length c (by have := h.nl; have := h.pf; have := h.fn; have := h.ok.many; unfold Dk.n at *; omega)
  have c4 := h.head.cell 4
  have c2 := h.head.cell 2
  have f4 := h.head.frozen 4
  have f2 := h.head.frozen 2
  simp at c4 c2
  have hgr : vr.ownBlock ≠ some g := fun e => by
    rcases h.rows.2 with ⟨rfl, _⟩ | ⟨q, cap, cur, rfl, _, hq, _⟩
    · cases e
    · simp [Value.ownBlock] at e
      subst e
      exact ne_of_types h.head hq (by decide) rfl
  have HP := Lib.hid (rec_post h hb hc hm hA hl hf ho1 hk1 hv1 hgr)
  have h1 : Blk W1 g 133 #[ptr gd, .int .i64 L.e, .int .i64 (L.p : Int), .int .i64 (L.fin : Int), vr, .bool L.dead] := h.head.keep hk1 hgr
  have d4 := h1.frozen 4
  have d4c := h1.cell 4
  simp at d4c
  have h2 := h1.set_ 4 (.slice A1 (L.ls.length + 1) c1)
  have e2 := h2.cell 2
  have e2f := h2.frozen 2
  simp at e2
  have hpl : L.p ≤ 4096 := by have := h.pf; have := h.fn; have := h.ok.many; unfold Dk.n at *; omega
  have hnb : need b.length ≤ 262144 := by unfold need; omega
  clear h h1 h2 ho1 hk1 hv1 hs1 hb hgr hA
  go_enter Tryz.func157, Tryz.ntmps157
  go_wp2_with (at_builtin; refine wpList_append_run rfl (.tmp 8) (.tmp 10) 84 84 rfl _ _ rfl rfl hap ?_)
  obtain ⟨W2, hW2⟩ : ∃ W2, W1.setCell ⟨g, 4, none⟩ (.slice A1 (L.ls.length + 1) c1) = W2 := ⟨_, rfl⟩
  have HW2 := Lib.hid hW2
  rw [hW2] at e2 e2f ⊢
  clear hW2
  go_region_with (go_at_call 207; refine (size_ (Int.toNat_natCast b.length) (by omega) _).mono ?_; rintro e w' ⟨rfl, rfl⟩)
  all_goals
    go_end0
    have hw2 := HW2.out
    subst hw2
    exact ⟨rfl, HP.out _ (IntWalk.i64_in _ (by omega))⟩
end Go.Proofs.YtjfoflbaoceemaaGreat
