/- . -/
import Derived.Test.YtjfoflbaoceemaaGreatJ40
import Derived.Test.YtjfoflbaoceemaaGreatJ41
import Derived.Test.YtjfoflbaoceemaaGreatJ45
set_option maxRecDepth 4000
namespace Go.Proofs.YtjfoflbaoceemaaGreat
open Go.RowKit
def MildB : St → List (List UInt8) → Prop
  | s, [] => BearK s
  | s, b :: r => BearK s ∧ ∀ t, stepK s b = some t → MildB t r
theorem MildB.head {s : St} {r : List (List UInt8)} (h : MildB s r) : BearK s := by
  cases r with
  | nil => exact h
  | cons b r => exact h.1
theorem reads_len {b : List UInt8} {l : List Ef} (h : readsE b = some l) : l.length ≤ 10000 := by
  by_cases h0 : 0 ≤ (⟨b, false⟩ : Rd).int.1 ∧ (⟨b, false⟩ : Rd).int.1 ≤ 10000
  · rw [reads_end h0.1 h0.2] at h
    split at h
    · have := Option.some.inj h
      rw [← this, efs_len]
      omega
    · cases h
  · rw [reads_none_out h0] at h
    cases h
section
variable {w w' : World} {b g gd : Nat} {R R' Q Q' : Nat → Prop} {sv : Sv} {xs : List Oc} {d : Dk} {K : Ks} {s : St} {e : Nat}
structure PreM (w : World) (b gd : Nat) (R Q : Nat → Prop) (sv : Sv) (xs : List Oc) (d : Dk) (s : St) (e : Nat) : Prop where
  disk : DiskR w gd Q d
  box : Blk w b 93 #[.pointer none, .int .i64 s.next, .slice sv.a sv.n sv.c, .int .i64 (e : Int), .bool false]
  qb : Q b
  qr : ∀ i, R i → Q i ∧ i ≠ b
  obs : ObsAt w (fun i => Q i ∧ i ≠ b) sv xs
  eq : obsOf xs = s.objs
theorem PreM.log (h : PreM w b gd R Q sv xs d s e) {g5 : Nat} {Q5 : Nat → Prop} {L : Lg} (hQ : ∀ i, Q i → Q5 i) (hl : LogAt w' g5 gd Q5 d L) (hk : Keep (fun i _ => Q i) w w') :
    KsM (w'.setCell ⟨b, 0, none⟩ (ptr g5)) b g5 gd R Q5 sv xs d ⟨L, s, e, false⟩ ∧ Keep (fun i _ => R i) w (w'.setCell ⟨b, 0, none⟩ (ptr g5)) := by
  have hbox := h.box.keep hk h.qb
  have k : Keep (fun i _ => i ≠ b) w' (w'.setCell ⟨b, 0, none⟩ (ptr g5)) := (Keep.refl w').setCell (p := ⟨b, 0, none⟩) (fun _ _ hk => hk rfl) _
  refine ⟨⟨hl.beside k (hQ b h.qb) hbox (by decide), ?_, hQ b h.qb, fun i hi => ⟨hQ i (h.qr i hi).1, (h.qr i hi).2⟩, ((h.obs.keep hk fun _ _ _ hi => hi.1).keep k fun _ _ _ hi => hi.2).more fun i _ hi => ⟨hQ i hi.1, hi.2⟩, h.eq⟩, (hk.mono fun i _ _ hi => (h.qr i hi).1).trans (k.mono fun i _ _ hi => (h.qr i hi).2)⟩
  have := hbox.set_ 0 (ptr g5)
  simpa [kCells] using this
theorem KsAt.disk (h : KsAt w b gd R d K) (hR : ∀ i, R' i → R i) : DiskR w gd R' d := by
  obtain ⟨g, Q, sv, xs, h⟩ := h
  exact h.log.diskR.keep fun i hi => (h.qr i (hR i hi)).1
def FouP (w : World) (gd : Nat) (R : Nat → Prop) (d : Dk) (o : Option Ks) (x : Ending) (w' : World) : Prop :=
  Keep (fun i _ => R i) w w' ∧ ((o = none ∧ x = .returned (.tuple #[.pointer none, .bool false]) ∧ DiskR w' gd R d) ∨ ∃ K b, o = some K ∧ x = .returned (.tuple #[ptr b, .bool true]) ∧ KsAt w' b gd R d K)
theorem fouP_no {o : Option Ks} {x : Ending} (ho : o = none) (hx : x = .returned (.tuple #[.pointer none, .bool false])) (hd : DiskR w' gd R d) (hk : Keep (fun i _ => R i) w w') : FouP w gd R d o x w' := ⟨hk, .inl ⟨ho, hx, hd⟩⟩
theorem fouP_yes {o : Option Ks} {x : Ending} (ho : o = some K) (hx : x = .returned (.tuple #[ptr b, .bool true])) (hd : KsAt w' b gd R d K) (hk : Keep (fun i _ => R i) w w') : FouP w gd R d o x w' := ⟨hk, .inr ⟨K, b, ho, hx, hd⟩⟩
def FouR (w : World) (gd : Nat) (R R1 : Nat → Prop) (d : Dk) (E : Nat) (s0 : St) (ls : List (List UInt8)) (A : Option Addr) (c n : Nat) (k : Nat) (i : Value) (wr : World) : Prop :=
  ∃ j st, j + k = ls.length ∧ i = .int .i64 (j : Int) ∧ KsAt wr w.heap.size gd R1 d ⟨opK d E, st, E, false⟩ ∧ Lists wr R1 (.slice A n c) ls ∧ runK s0 ls = runK st (ls.drop j) ∧ MildB st (ls.drop j) ∧ Keep (fun i _ => R i) w wr
theorem read_pos {p : Pl} {d : Dk} {e : Int} {bs : List UInt8} (har : p.ar ≤ 1000) (h : p.read d = some (e, bs)) : 0 ≤ e ∧ e ≤ 9223372036854775807 := by
  unfold Pl.read at h
  split at h
  · cases h
  · have := Option.some.inj h
    obtain ⟨rfl, _⟩ := Prod.mk.inj this
    have := best_range p d har
    omega
theorem PreM.turn (h : PreM w b gd R Q sv xs d s e) {s2 : Sv} {ys : List Oc} (ho : ObsAt w (fun i => Q i ∧ i ≠ b) s2 ys) (t : St) (he : obsOf ys = t.objs) (E : Nat) :
    PreM (((w.setCell ⟨b, 1, none⟩ (.int .i64 t.next)).setCell ⟨b, 2, none⟩ (.slice s2.a s2.n s2.c)).setCell ⟨b, 3, none⟩ (.int .i64 (E : Int))) b gd R Q s2 ys d t E ∧ Keep (fun i _ => R i) w (((w.setCell ⟨b, 1, none⟩ (.int .i64 t.next)).setCell ⟨b, 2, none⟩ (.slice s2.a s2.n s2.c)).setCell ⟨b, 3, none⟩ (.int .i64 (E : Int))) := by
  have k : Keep (fun i _ => i ≠ b) w (((w.setCell ⟨b, 1, none⟩ (.int .i64 t.next)).setCell ⟨b, 2, none⟩ (.slice s2.a s2.n s2.c)).setCell ⟨b, 3, none⟩ (.int .i64 (E : Int))) := (((Keep.refl w).setCell (p := ⟨b, 1, none⟩) (fun _ _ hk => hk rfl) _).setCell (p := ⟨b, 2, none⟩) (fun _ _ hk => hk rfl) _).setCell (p := ⟨b, 3, none⟩) (fun _ _ hk => hk rfl) _
  obtain ⟨O, h1, h2, h3⟩ := h.disk
  refine ⟨⟨⟨O, h1.keep k fun i _ hi e => (h3 b h.qb).2 (e ▸ hi), fun i hi => Nat.lt_of_lt_of_le (h2 i hi) k.size, fun i hi => ⟨Nat.lt_of_lt_of_le (h3 i hi).1 k.size, (h3 i hi).2⟩⟩, ?_, h.qb, h.qr, ho.keep k fun _ _ _ hi => hi.2, he⟩, k.mono fun i _ _ hi => (h.qr i hi).2⟩
  have := ((h.box.set_ 1 (.int .i64 t.next)).set_ 2 (.slice s2.a s2.n s2.c)).set_ 3 (.int .i64 (E : Int))
  simpa using this
theorem PreM.below (h : PreM w b gd R Q sv xs d s e) (k : Below w.heap.size w w') : PreM w' b gd R Q sv xs d s e := ⟨h.disk.below k, h.box.below k h.box.lt, h.qb, h.qr, h.obs.below k, h.eq⟩
theorem PreM.grow (h : PreM w b gd R Q sv xs d s e) (k : Below w.heap.size w w') : PreM w' b gd R (fun i => Q i ∨ w.heap.size ≤ i ∧ i < w'.heap.size) sv xs d s e :=
  ⟨h.disk.grow k, h.box.below k h.box.lt, .inl h.qb, fun i hi => ⟨.inl (h.qr i hi).1, (h.qr i hi).2⟩, (h.obs.more fun _ _ hi => ⟨.inl hi.1, hi.2⟩).below k, h.eq⟩
theorem pre_new (h : DiskR w gd R d) : PreM (w.alloc (.cells #[.pointer none, .int .i64 1, .slice none 0 0, .int .i64 0, .bool false] 93)) w.heap.size gd R (fun i => R i ∨ w.heap.size ≤ i ∧ i < (w.alloc (.cells #[.pointer none, .int .i64 1, .slice none 0 0, .int .i64 0, .bool false] 93)).heap.size) ⟨none, 0, 0⟩ [] d ⟨1, []⟩ 0 :=
  ⟨h.grow (alloc_below w _), Blk.new w _ _, .inr ⟨Nat.le_refl _, by simp⟩, fun i hi => ⟨.inl hi, by have := h.hi i hi; omega⟩, ⟨SlK.none_ _ _ _, fun x hx => by cases hx⟩, rfl⟩
set_option maxHeartbeats 8000000 in
theorem found_ (h : DiskR w gd R d) (hn : 354 ≤ d.n) (hI : ∀ e bs, keepP.read d = some (e, bs) → (objsR ⟨bs, false⟩).done = true → ∀ o ∈ objsV ⟨bs, false⟩, o.short 450 ∧ o.fits) (hM : ∀ s e, baseK d = some (s, e) → MildB s (opK d e).ls) :
    Calls Tryz.prog 41 #[ptr gd] w (FouP w gd R d (foundK d)) := by
  have k1 := alloc_below w (.cells #[.pointer none, .int .i64 1, .slice none 0 0, .int .i64 0, .bool false] 93)
  have hp1 := pre_new h
  have hrd := rread_ (h.below k1) 0 96 (by omega)
  rw [show cutR 96 = 96 from rfl, show (⟨0, 96⟩ : Pl) = keepP from rfl] at hrd
  have HRD := ShutK.mk hrd
  have HP1 := ShutK.mk hp1
  have K1 := ShutK.mk k1
  have HN := ShutK.mk hn
  have HI := ShutK.mk hI
  have HMB := ShutK.mk hM
  clear h k1 hp1 hrd hn hI hM
  go_enter Tryz.func41, Tryz.ntmps41
  go_wp2_with fail
  refine HRD.out.mono ?_
  intro x w2 hr
  rcases hkr : keepP.read d with _ | ⟨e, bs⟩
  · obtain ⟨rfl, hb2⟩ := rdP_none hr hkr
    obtain ⟨E, hE⟩ : ∃ E : Nat, E = 0 := ⟨_, rfl⟩
    obtain ⟨s0, hs0⟩ : ∃ s : St, s = ⟨1, []⟩ := ⟨_, rfl⟩
    have hp4 := HP1.out.below hb2
    rw [← hE, ← hs0] at hp4
    have HP4 := ShutK.mk hp4
    have HK4 := ShutK.mk (Keep.of_below (K := fun i _ => R i) (K1.out.trans (hb2.mono K1.out.size)))
    have HBASE : ShutK (baseK d = some (s0, E)) := ⟨by rw [hE, hs0]; exact baseK_new hkr⟩
    clear hr hb2 hkr hE hs0 hp4 HP1 K1 HRD HI
    have hol := openLog_ HP4.out.disk HN.out E
    have q3 : w2.cell? ⟨w.heap.size, 3, none⟩ = some (.int .i64 (E : Int)) := HP4.out.box.cell 3
    have qlt := HP4.out.box.lt
    have HOL := ShutK.mk hol
    clear hol
    go_wp2_with fail
    refine HOL.out.mono ?_
    rintro x w5 ⟨g5, Q5, rfl, hq5, hl5, hk5⟩
    have hbox5 := HP4.out.box.keep hk5 HP4.out.qb
    have f0 := hbox5.frozen 0
    have u0 : w5.cell? ⟨w.heap.size, 0, none⟩ = some (.pointer none) := hbox5.cell 0
    have hm5 := HP4.out.log hq5 hl5 hk5
    have HM5 := ShutK.mk hm5.1
    have HK5 := ShutK.mk (HK4.out.trans hm5.2)
    have d0 := hm5.1.cells.1
    clear hbox5 hm5 hq5 hl5 hk5 q3 qlt HOL
    go_wp2_with fail
    clear u0 f0
    generalize w5.setCell ⟨w.heap.size, 0, none⟩ (ptr g5) = w6 at *
    refine (records_ HM5.out.log).mono ?_
    rintro x w7 ⟨v7, rfl, hl7, hb7⟩
    obtain ⟨A7, c7, hA7⟩ := hl7.slice
    subst hA7
    have hlong := HM5.out.log.lists
    have hm7 := HM5.out.grow hb7
    have HM7 := ShutK.mk hm7
    have HL7 := ShutK.mk (hl7.more (K' := fun i => R i ∨ w6.heap.size ≤ i ∧ i < w7.heap.size) fun i h1 h2 => .inr ⟨h2, h1⟩)
    have HK7 := ShutK.mk (HK5.out.trans (Keep.of_below (K := fun i _ => R i) hb7))
    have HLONG : ShutK (∀ x ∈ (opK d E).ls, x.length ≤ 262144) := ⟨by obtain ⟨_, _, _, _, h, _⟩ := hlong; exact h⟩
    have hlen : (opK d E).ls.length ≤ 4096 := by obtain ⟨_, _, _, _, _, h⟩ := hlong; exact h
    have hMB := HMB.out _ _ HBASE.out
    obtain ⟨ls, hls⟩ : ∃ ls, (opK d E).ls = ls := ⟨_, rfl⟩
    rw [hls] at hlen hMB
    rw [hls] at HL7 HLONG
    rw [hls]
    have HLS := ShutK.mk hls
    obtain ⟨n, hn⟩ : ∃ n, ls.length = n := ⟨_, rfl⟩
    rw [hn] at hlen
    rw [hn] at HL7
    rw [hn]
    have HN7 := ShutK.mk hn
    have HMB2 := ShutK.mk hMB
    clear hl7 hb7 hlong hm7 hls hn hMB d0 HM5 HK5
    go_wp2_with fail
    generalize w6.heap.size = B6 at *
    clear HP4
    go_loopg [54] n (fun k i wr => FouR w gd R (fun i => R i ∨ B6 ≤ i ∧ i < w7.heap.size) d E s0 ls A7 c7 n k i wr)
    case atStart => exact ⟨0, s0, by rw [HN7.out]; omega, rfl, ⟨_, _, _, _, HM7.out⟩, HL7.out, by rw [List.drop_zero], by rw [List.drop_zero]; exact HMB2.out, HK7.out⟩
    case round =>
      obtain ⟨j, st, hj, rfl, hst, hli, hrun, hmb, hkp⟩ := hrel
      have HJ := ShutK.mk hj
      have HST := ShutK.mk hst
      have HLI := ShutK.mk hli
      have HRUN := ShutK.mk hrun
      have HMBJ := ShutK.mk hmb
      have HKP := ShutK.mk hkp
      clear hj hst hli hrun hmb hkp HM7 HL7 HK7
      by_cases hlt : j < n
      · have hx0 : j < ls.length := by rw [HN7.out]; exact hlt
        obtain ⟨bs, hx⟩ : ∃ bs, ls[j]? = some bs := ⟨_, List.getElem?_eq_getElem hx0⟩
        have hdr : ls.drop j = bs :: ls.drop (j + 1) := by
          rw [List.drop_eq_getElem_cons hx0]
          rw [List.getElem?_eq_getElem hx0] at hx
          rw [Option.some.inj hx]
        obtain ⟨rb, ro, A8, c8, rfl, hcell, hHas, hA8⟩ := HLI.out.at_ hx
        have hbl : bs.length ≤ 262144 := HLONG.out bs (List.mem_of_getElem? hx)
        have hrbs := fun W (k : Below wr.heap.size wr W) => readE_ W A8 bs.length c8 bs (has_rb (hHas.keep (Keep.of_below k)) rfl) (by omega) hA8
        have HRB := ShutK.mk hrbs
        have HDR := ShutK.mk hdr
        have hjn : (j : Int) < (n : Int) := by omega
        clear hx hdr hHas hA8 hrbs hx0
        obtain ⟨bl, hbln⟩ : ∃ m, bs.length = m := ⟨_, rfl⟩
        rw [hbln] at hcell HRB hbl
        clear hbln
        go_wp2_with fail
        refine (HRB.out wr (Below.refl _ _)).mono ?_
        rintro x w9 ⟨v9, rfl, ho9, hb9⟩
        obtain ⟨r9, e9⟩ : ∃ r, readsE bs = r := ⟨_, rfl⟩
        rcases r9 with _ | l9
        · obtain ⟨_, e10⟩ := readL_none e9
          rw [e10]
          have hno : runK st (ls.drop j) = none := by rw [HDR.out]; exact runK_none (stepK_none e9)
          have HNO := ShutK.mk (foundK_no HBASE.out (by rw [HLS.out, HRUN.out]; exact hno))
          have HB9 := ShutK.mk hb9
          clear e9 e10 hno ho9 hb9
          go_wp2_with fail
          go_ret2
          exact fouP_no HNO.out rfl ((HST.out.below HB9.out).disk (fun i hi => .inl hi)) (HKP.out.trans (Keep.of_below HB9.out))
        · obtain ⟨e10, e11⟩ := readL_some e9
          rw [e11]
          rw [e10] at ho9
          obtain ⟨c, s, ha⟩ : ∃ c s, applyS st l9 = (c, s) := ⟨_, _, rfl⟩
          obtain ⟨⟨A9, n9, k9⟩, rfl, hk9⟩ := ho9.k
          obtain ⟨g9, Q9, sv9, xs9, hm9⟩ := (HST.out.below hb9)
          have hnl : l9.length ≤ 50000 := by
            have := reads_len e9
            omega
          have htn := kturn_ hm9 (K := ⟨opK d E, st, E, false⟩) (MildB.head HMBJ.out) (c2 := k9) hk9.lst hk9.len.symm (by rw [hk9.len]; exact hnl) ha
          have HTN := ShutK.mk htn
          have HLI9 := ShutK.mk (HLI.out.below hb9)
          have HKP9 := ShutK.mk (HKP.out.trans (Keep.of_below (K := fun i _ => R i) hb9))
          have HE9 := ShutK.mk e9
          have HA9 := ShutK.mk ha
          clear e9 e10 e11 ho9 hk9 hm9 hnl htn hb9 ha HRB
          go_wp2_with fail
          refine HTN.out.mono ?_
          rintro x w10 ⟨rfl, hy, hnn, hk10⟩
          have HY := ShutK.mk hy
          have HNN := ShutK.mk hnn
          have HLI10 := ShutK.mk (HLI9.out.keep hk10)
          have HKP10 := ShutK.mk (HKP9.out.trans (hk10.mono fun i _ _ hi => .inl hi))
          clear hy hnn hk10 HTN
          by_cases hc : c = 0
          · subst hc
            have hst2 := stepK_some HE9.out HA9.out
            have hrun2 : runK s0 ls = runK s (ls.drop (j + 1)) := by rw [HRUN.out, HDR.out]; exact runK_some hst2
            have hmb2 : MildB s (ls.drop (j + 1)) := by
              have := HMBJ.out
              rw [HDR.out] at this
              exact this.2 s hst2
            have HRUN2 := ShutK.mk hrun2
            have HMB3 := ShutK.mk hmb2
            clear hst2 hrun2 hmb2
            rw [decide_eq_true rfl]
            go_wp2_with fail
            go_roundg (n - (j + 1))
            case measure => have := HJ.out; have := HN7.out; omega
            case rel => exact ⟨j + 1, s, by have := HJ.out; have := HN7.out; omega, by go_num, HY.out (by simp), HLI10.out, HRUN2.out, HMB3.out, HKP10.out⟩
          · have hno : runK st (ls.drop j) = none := by rw [HDR.out]; exact runK_none (stepK_no HE9.out (by rw [HA9.out]; exact hc))
            have HNO := ShutK.mk (foundK_no HBASE.out (by rw [HLS.out, HRUN.out]; exact hno))
            have HC := ShutK.mk hc
            rw [decide_eq_false hc]
            clear hno hc
            go_wp2_with fail
            go_ret2
            exact fouP_no HNO.out rfl ((HNN.out HC.out).disk (fun i hi => .inl hi)) HKP10.out
      · have he : j = ls.length := by have := HJ.out; have := HN7.out; omega
        have hrun2 : runK s0 ls = some st := by rw [HRUN.out, he, List.drop_length]; rfl
        have HYES := ShutK.mk (foundK_yes HBASE.out (by rw [HLS.out]; exact hrun2))
        have hjn : ¬ (j : Int) < (n : Int) := by omega
        clear he hrun2
        go_wp2_with fail
        go_ret2
        exact fouP_yes HYES.out rfl (HST.out.mono fun i hi => .inl hi) HKP.out
  · obtain ⟨A2, c2, rfl, hh2, hb2, hc2, hc3, hA2⟩ := rdP_more hr hkr
    obtain ⟨e0, e1⟩ := read_pos (p := keepP) (by decide) hkr
    obtain ⟨E, rfl⟩ : ∃ E : Nat, e = (E : Int) := ⟨e.toNat, by omega⟩
    have hrn := read_n w2 w2.heap.size bs.length c2 A2 bs (has_rb hh2 rfl) (Nat.le_refl _) (by omega) (HI.out _ _ hkr) hA2 hc2 (by unfold maxLen; omega)
    have HRN := ShutK.mk hrn
    have HKR := ShutK.mk hkr
    have HP2 := ShutK.mk (HP1.out.below hb2)
    have HB2 := ShutK.mk (K1.out.trans (hb2.mono K1.out.size))
    clear hr hkr hh2 hb2 hA2 e0 hrn HP1 K1 HRD HI
    obtain ⟨bl, hbl⟩ : ∃ m, bs.length = m := ⟨_, rfl⟩
    rw [hbl] at hc2 HRN
    rw [hbl]
    clear hbl
    go_wp2_with fail
    refine HRN.out.mono ?_
    rintro x w3 ⟨⟨nx, ⟨a3, n3, k3⟩, ys, no, rfl, hob, h11, h0⟩, hb3⟩
    have k4 := alloc_below w3 (.cells #[.int .i64 nx, .slice a3 n3 k3] 54)
    have HP4a := ShutK.mk ((HP2.out.grow hb3).below k4)
    have HB4 := ShutK.mk ((HB2.out.trans (hb3.mono HB2.out.size)).trans (k4.mono (Nat.le_trans HB2.out.size hb3.size)))
    have hw2 : w.heap.size < w2.heap.size := HP2.out.box.lt
    have HO4 := ShutK.mk ((hob.more (K2 := fun i => ((R i ∨ w.heap.size ≤ i ∧ i < (w.alloc (.cells #[.pointer none, .int .i64 1, .slice none 0 0, .int .i64 0, .bool false] 93)).heap.size) ∨ w2.heap.size ≤ i ∧ i < w3.heap.size) ∧ i ≠ w.heap.size) fun i h1 h2 => ⟨.inr ⟨h2, h1⟩, by omega⟩).below k4)
    have H11 := ShutK.mk h11
    have H00 := ShutK.mk h0
    have HX4 := ShutK.mk (Blk.new w3 54 #[.int .i64 nx, .slice a3 n3 k3])
    clear hob hb3 h11 h0 k4 hw2 HRN
    rcases hri : readI bs with _ | ⟨nq, lq⟩
    · obtain rfl := H11.out hri
      have HNO := ShutK.mk (foundK_bad (baseK_bad HKR.out hri))
      clear hri
      go_wp2_with fail
      go_ret2
      exact fouP_no HNO.out rfl (HP4a.out.disk.keep fun i hi => .inl (.inl hi)) (Keep.of_below HB4.out)
    · obtain ⟨rfl, e5, e6⟩ := H00.out _ hri
      simp only at e5 e6
      subst e5
      have hbase := baseK_img HKR.out hri
      rw [nat_cast] at hbase
      have HBASE0 := ShutK.mk hbase
      have HE6 := ShutK.mk e6
      clear hri hbase e6 H11 H00
      have f1 := HP4a.out.box.frozen 1
      have f2 := HP4a.out.box.frozen 2
      have f3 := HP4a.out.box.frozen 3
      have ult := HP4a.out.box.lt
      have u1 : (w3.alloc (.cells #[.int .i64 nx, .slice a3 n3 k3] 54)).cell? ⟨w.heap.size, 1, none⟩ = some (.int .i64 1) := HP4a.out.box.cell 1
      have u2 : (w3.alloc (.cells #[.int .i64 nx, .slice a3 n3 k3] 54)).cell? ⟨w.heap.size, 2, none⟩ = some (.slice none 0 0) := HP4a.out.box.cell 2
      have u3 : (w3.alloc (.cells #[.int .i64 nx, .slice a3 n3 k3] 54)).cell? ⟨w.heap.size, 3, none⟩ = some (.int .i64 0) := HP4a.out.box.cell 3
      have htu := HP4a.out.turn HO4.out ⟨nx, lq⟩ HE6.out E
      have HP4 := ShutK.mk htu.1
      have HK4 := ShutK.mk ((Keep.of_below (K := fun i _ => R i) HB4.out).trans htu.2)
      obtain ⟨q0, q1⟩ := blk_two HX4.out
      have qlt := HX4.out.lt
      clear htu HP4a HO4 HE6
      go_upto_region 8 with fail
      clear f1 f2 f3 u1 u2 u3 ult q0 q1 qlt HX4
      obtain ⟨s0, hs0⟩ : ∃ s : St, s = ⟨nx, lq⟩ := ⟨_, rfl⟩
      have hbs2 := HBASE0.out
      have hp4 := HP4.out
      rw [← hs0] at hbs2 hp4
      have HBASE := ShutK.mk hbs2
      have hnx : nx = s0.next := by rw [hs0]
      clear HP4 HBASE0 hbs2
      have HP4 := ShutK.mk hp4
      clear hp4 hs0
      subst hnx
      generalize ((((w3.alloc (.cells #[.int .i64 s0.next, .slice a3 n3 k3] 54)).setCell ⟨w.heap.size, 1, none⟩ (.int .i64 s0.next)).setCell ⟨w.heap.size, 2, none⟩ (.slice a3 n3 k3)).setCell ⟨w.heap.size, 3, none⟩ (.int .i64 (E : Int))) = w4 at *
      have hol := openLog_ HP4.out.disk HN.out E
      have q3 : w4.cell? ⟨w.heap.size, 3, none⟩ = some (.int .i64 (E : Int)) := HP4.out.box.cell 3
      have qlt := HP4.out.box.lt
      have HOL := ShutK.mk hol
      clear hol
      go_wp2_with fail
      refine HOL.out.mono ?_
      rintro x w5 ⟨g5, Q5, rfl, hq5, hl5, hk5⟩
      have hbox5 := HP4.out.box.keep hk5 HP4.out.qb
      have f0 := hbox5.frozen 0
      have u0 : w5.cell? ⟨w.heap.size, 0, none⟩ = some (.pointer none) := hbox5.cell 0
      have hm5 := HP4.out.log hq5 hl5 hk5
      have HM5 := ShutK.mk hm5.1
      have HK5 := ShutK.mk (HK4.out.trans hm5.2)
      have d0 := hm5.1.cells.1
      clear hbox5 hm5 hq5 hl5 hk5 q3 qlt HOL
      go_wp2_with fail
      clear u0 f0
      generalize w5.setCell ⟨w.heap.size, 0, none⟩ (ptr g5) = w6 at *
      refine (records_ HM5.out.log).mono ?_
      rintro x w7 ⟨v7, rfl, hl7, hb7⟩
      obtain ⟨A7, c7, hA7⟩ := hl7.slice
      subst hA7
      have hlong := HM5.out.log.lists
      have hm7 := HM5.out.grow hb7
      have HM7 := ShutK.mk hm7
      have HL7 := ShutK.mk (hl7.more (K' := fun i => R i ∨ w6.heap.size ≤ i ∧ i < w7.heap.size) fun i h1 h2 => .inr ⟨h2, h1⟩)
      have HK7 := ShutK.mk (HK5.out.trans (Keep.of_below (K := fun i _ => R i) hb7))
      have HLONG : ShutK (∀ x ∈ (opK d E).ls, x.length ≤ 262144) := ⟨by obtain ⟨_, _, _, _, h, _⟩ := hlong; exact h⟩
      have hlen : (opK d E).ls.length ≤ 4096 := by obtain ⟨_, _, _, _, _, h⟩ := hlong; exact h
      have hMB := HMB.out _ _ HBASE.out
      obtain ⟨ls, hls⟩ : ∃ ls, (opK d E).ls = ls := ⟨_, rfl⟩
      rw [hls] at hlen hMB
      rw [hls] at HL7 HLONG
      rw [hls]
      have HLS := ShutK.mk hls
      obtain ⟨n, hn⟩ : ∃ n, ls.length = n := ⟨_, rfl⟩
      rw [hn] at hlen
      rw [hn] at HL7
      rw [hn]
      have HN7 := ShutK.mk hn
      have HMB2 := ShutK.mk hMB
      clear hl7 hb7 hlong hm7 hls hn hMB d0 HM5 HK5
      go_wp2_with fail
      generalize w6.heap.size = B6 at *
      clear HP4
      go_loopg [54] n (fun k i wr => FouR w gd R (fun i => R i ∨ B6 ≤ i ∧ i < w7.heap.size) d E s0 ls A7 c7 n k i wr)
      case atStart => exact ⟨0, s0, by rw [HN7.out]; omega, rfl, ⟨_, _, _, _, HM7.out⟩, HL7.out, by rw [List.drop_zero], by rw [List.drop_zero]; exact HMB2.out, HK7.out⟩
      case round =>
        obtain ⟨j, st, hj, rfl, hst, hli, hrun, hmb, hkp⟩ := hrel
        have HJ := ShutK.mk hj
        have HST := ShutK.mk hst
        have HLI := ShutK.mk hli
        have HRUN := ShutK.mk hrun
        have HMBJ := ShutK.mk hmb
        have HKP := ShutK.mk hkp
        clear hj hst hli hrun hmb hkp HM7 HL7 HK7
        by_cases hlt : j < n
        · have hx0 : j < ls.length := by rw [HN7.out]; exact hlt
          obtain ⟨bs, hx⟩ : ∃ bs, ls[j]? = some bs := ⟨_, List.getElem?_eq_getElem hx0⟩
          have hdr : ls.drop j = bs :: ls.drop (j + 1) := by
            rw [List.drop_eq_getElem_cons hx0]
            rw [List.getElem?_eq_getElem hx0] at hx
            rw [Option.some.inj hx]
          obtain ⟨rb, ro, A8, c8, rfl, hcell, hHas, hA8⟩ := HLI.out.at_ hx
          have hbl : bs.length ≤ 262144 := HLONG.out bs (List.mem_of_getElem? hx)
          have hrbs := fun W (k : Below wr.heap.size wr W) => readE_ W A8 bs.length c8 bs (has_rb (hHas.keep (Keep.of_below k)) rfl) (by omega) hA8
          have HRB := ShutK.mk hrbs
          have HDR := ShutK.mk hdr
          have hjn : (j : Int) < (n : Int) := by omega
          clear hx hdr hHas hA8 hrbs hx0
          obtain ⟨bl, hbln⟩ : ∃ m, bs.length = m := ⟨_, rfl⟩
          rw [hbln] at hcell HRB hbl
          clear hbln
          go_wp2_with fail
          refine (HRB.out wr (Below.refl _ _)).mono ?_
          rintro x w9 ⟨v9, rfl, ho9, hb9⟩
          obtain ⟨r9, e9⟩ : ∃ r, readsE bs = r := ⟨_, rfl⟩
          rcases r9 with _ | l9
          · obtain ⟨_, e10⟩ := readL_none e9
            rw [e10]
            have hno : runK st (ls.drop j) = none := by rw [HDR.out]; exact runK_none (stepK_none e9)
            have HNO := ShutK.mk (foundK_no HBASE.out (by rw [HLS.out, HRUN.out]; exact hno))
            have HB9 := ShutK.mk hb9
            clear e9 e10 hno ho9 hb9
            go_wp2_with fail
            go_ret2
            exact fouP_no HNO.out rfl ((HST.out.below HB9.out).disk (fun i hi => .inl hi)) (HKP.out.trans (Keep.of_below HB9.out))
          · obtain ⟨e10, e11⟩ := readL_some e9
            rw [e11]
            rw [e10] at ho9
            obtain ⟨c, s, ha⟩ : ∃ c s, applyS st l9 = (c, s) := ⟨_, _, rfl⟩
            obtain ⟨⟨A9, n9, k9⟩, rfl, hk9⟩ := ho9.k
            obtain ⟨g9, Q9, sv9, xs9, hm9⟩ := (HST.out.below hb9)
            have hnl : l9.length ≤ 50000 := by
              have := reads_len e9
              omega
            have htn := kturn_ hm9 (K := ⟨opK d E, st, E, false⟩) (MildB.head HMBJ.out) (c2 := k9) hk9.lst hk9.len.symm (by rw [hk9.len]; exact hnl) ha
            have HTN := ShutK.mk htn
            have HLI9 := ShutK.mk (HLI.out.below hb9)
            have HKP9 := ShutK.mk (HKP.out.trans (Keep.of_below (K := fun i _ => R i) hb9))
            have HE9 := ShutK.mk e9
            have HA9 := ShutK.mk ha
            clear e9 e10 e11 ho9 hk9 hm9 hnl htn hb9 ha HRB
            go_wp2_with fail
            refine HTN.out.mono ?_
            rintro x w10 ⟨rfl, hy, hnn, hk10⟩
            have HY := ShutK.mk hy
            have HNN := ShutK.mk hnn
            have HLI10 := ShutK.mk (HLI9.out.keep hk10)
            have HKP10 := ShutK.mk (HKP9.out.trans (hk10.mono fun i _ _ hi => .inl hi))
            clear hy hnn hk10 HTN
            by_cases hc : c = 0
            · subst hc
              have hst2 := stepK_some HE9.out HA9.out
              have hrun2 : runK s0 ls = runK s (ls.drop (j + 1)) := by rw [HRUN.out, HDR.out]; exact runK_some hst2
              have hmb2 : MildB s (ls.drop (j + 1)) := by
                have := HMBJ.out
                rw [HDR.out] at this
                exact this.2 s hst2
              have HRUN2 := ShutK.mk hrun2
              have HMB3 := ShutK.mk hmb2
              clear hst2 hrun2 hmb2
              rw [decide_eq_true rfl]
              go_wp2_with fail
              go_roundg (n - (j + 1))
              case measure => have := HJ.out; have := HN7.out; omega
              case rel => exact ⟨j + 1, s, by have := HJ.out; have := HN7.out; omega, by go_num, HY.out (by simp), HLI10.out, HRUN2.out, HMB3.out, HKP10.out⟩
            · have hno : runK st (ls.drop j) = none := by rw [HDR.out]; exact runK_none (stepK_no HE9.out (by rw [HA9.out]; exact hc))
              have HNO := ShutK.mk (foundK_no HBASE.out (by rw [HLS.out, HRUN.out]; exact hno))
              have HC := ShutK.mk hc
              rw [decide_eq_false hc]
              clear hno hc
              go_wp2_with fail
              go_ret2
              exact fouP_no HNO.out rfl ((HNN.out HC.out).disk (fun i hi => .inl hi)) HKP10.out
        · have he : j = ls.length := by have := HJ.out; have := HN7.out; omega
          have hrun2 : runK s0 ls = some st := by rw [HRUN.out, he, List.drop_length]; rfl
          have HYES := ShutK.mk (foundK_yes HBASE.out (by rw [HLS.out]; exact hrun2))
          have hjn : ¬ (j : Int) < (n : Int) := by omega
          clear he hrun2
          go_wp2_with fail
          go_ret2
          exact fouP_yes HYES.out rfl (HST.out.mono fun i hi => .inl hi) HKP.out
end
end Go.Proofs.YtjfoflbaoceemaaGreat
