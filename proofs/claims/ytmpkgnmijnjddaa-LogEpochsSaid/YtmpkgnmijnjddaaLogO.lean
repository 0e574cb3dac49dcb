/- What Open finds. -/
import Derived.Test.YtmpkgnmijnjddaaLogR
namespace Go.Proofs.Ytmpkgnmijnjddaa
open Go.RowKit
def lg0 (e : Int) (a n : Nat) : Lg := ⟨e, a, a + n, [], false⟩
theorem log_new {w : World} {gd : Nat} {R : Nat → Prop} {s : St} (h : DiskR w gd R s) (e : Int) (a n : Nat) (hn : a + n ≤ s.n) :
    LogAt (w.alloc (.cells #[ptr gd, .int .i64 e, .int .i64 (a : Int), .int .i64 ((a + n : Nat) : Int), .slice none 0 0, .bool false] 53)) w.heap.size gd R s (lg0 e a n) := by
  obtain ⟨O, h1, h2, h3⟩ := h
  have hb := alloc_below w (.cells #[ptr gd, .int .i64 e, .int .i64 (a : Int), .int .i64 ((a + n : Nat) : Int), .slice none 0 0, .bool false] 53)
  refine ⟨O, .slice none 0 0, [], h1.below hb, fun i hi => Nat.lt_of_lt_of_le (h2 i hi) hb.size, Blk.new w _ _, fun ho => by have := h2 _ ho; omega, World.ownsRow_nil _ _ _ _, fun k hk => by (cases hk), Holds.nil _ _, fun i hi => ⟨Nat.lt_of_lt_of_le (h3 i hi).1 hb.size, (h3 i hi).2, fun e => by have := (h3 i hi).1; omega, fun e => by cases e⟩, Nat.le_add_right _ _, hn, Nat.zero_le _, fun x hx => by simp [lg0] at hx⟩
theorem findP_none {w w' : World} {r : Option (List UInt8)} {e : Ending} (h : FindP w r e w') (hr : r = none) : e = .returned (.tuple #[.slice none 0 0, .bool false]) := by
  subst hr; exact h.2
theorem findP_some {w w' : World} {r : Option (List UInt8)} {b : List UInt8} {e : Ending} (h : FindP w r e w') (hr : r = some b) : ∃ A c, e = .returned (.tuple #[.slice A b.length c, .bool true]) ∧ Has w' (fun i => w.heap.size ≤ i ∧ Ty5 w' i) A b ∧ b.length ≤ c ∧ c ≤ 262144 ∧ (A = none → c = 0) := by
  subst hr; exact h.2
/-- the log that is being opened -/
def OpRel (w : World) (g gd : Nat) (R : Nat → Prop) (s : St) (L0 : Lg) (k : Nat) (wr : World) : Prop :=
  ∃ (R2 : Nat → Prop) (L : Lg), LogAt wr g gd R2 s L ∧ (∀ i, R i → R2 i) ∧ (∀ L', Opens s L L' → Opens s L0 L') ∧ L.left = k ∧ Keep (fun i _ => R i) w wr
def OpenP (w : World) (gd : Nat) (R : Nat → Prop) (s : St) (L0 : Lg) (x : Ending) (w' : World) : Prop :=
  ∃ (g : Nat) (R' : Nat → Prop) (L' : Lg), x = .returned (ptr g) ∧ (∀ i, R i → R' i) ∧ LogAt w' g gd R' s L' ∧ Opens s L0 L' ∧ Keep (fun i _ => R i) w w'
set_option maxHeartbeats 1000000 in
theorem open_ {w : World} {gd : Nat} {R : Nat → Prop} {s : St} (h : DiskR w gd R s) (a n : Nat) (ha : a < s.n) (hn : a + n ≤ s.n) (e : Int) :
    Calls Try.prog 8 #[ptr gd, .int .i64 (a : Int), .int .i64 (n : Int), .int .i64 e] w (OpenP w gd R s (lg0 e a n)) := by
  have hm := h.ok.many
  have hlg := log_new h e a n hn
  have hth := there_ h.choose_spec.1 a n ha hn
  have HTH := Lib.hid hth
  have HLG := Lib.hid hlg
  have hsum : (((a + n : Nat) : Int)) = (a : Int) + (n : Int) := by omega
  rw [hsum] at hlg
  have HLG := Lib.hid hlg
  have HK := Lib.hid (Keep.of_below (K := fun i _ => R i) (alloc_below w (.cells #[ptr gd, .int .i64 e, .int .i64 (a : Int), .int .i64 ((a : Int) + (n : Int)), .slice none 0 0, .bool false] 53)))
  have ha4 : a ≤ 4096 := by unfold St.n at ha; omega
  have hn4 : n ≤ 4096 := by unfold St.n at hn; omega
  clear h hlg hth hsum
  go_enter Try.func8, Try.ntmps8
  go_wp2_with fail
  refine HTH.out.mono ?_
  rintro x w1 ⟨rfl, rfl⟩
  go_wp2_with fail
  go_loopg [11] n (fun k _ wr => OpRel w w.heap.size gd R s (lg0 e a n) k wr)
  case atStart => exact ⟨R, lg0 e a n, HLG.out, fun _ h => h, fun _ h => h, by simp [Lg.left, lg0], HK.out⟩
  case round =>
    obtain ⟨R2, L, hl, hR, hO, hk, hkp⟩ := hrel
    have HL := Lib.hid hl
    have HR := Lib.hid hR
    have HO := Lib.hid hO
    have HKP := Lib.hid hkp
    have HLF := Lib.hid hk
    clear hl hR hO hkp hk
    go_wp2_with fail
    refine (find_ HL.out).mono ?_
    rintro x w2 hfp
    have HB2 := Lib.hid hfp.1
    rcases hfd : L.find s with _ | b
    · have HF := Lib.hid hfd
      obtain rfl := findP_none hfp hfd
      clear hfd hfp
      go_wp2_with fail
      go_ret
      exact ⟨w.heap.size, R2, L, rfl, HR.out, HL.out.below HB2.out, HO.out _ (.stop HF.out), HKP.out.trans (Keep.of_below HB2.out)⟩
    · obtain ⟨A, c, rfl, hh, hc, hcm, hA⟩ := findP_some hfp hfd
      have HF := Lib.hid hfd
      have HG := Lib.hid (HL.out.grow HB2.out)
      have HH := Lib.hid (hh.more (K' := fun i => (R2 i ∨ wr.heap.size ≤ i ∧ i < w2.heap.size) ∧ Ty5 w2 i) fun _ hi h => ⟨.inr ⟨h.1, hi⟩, h.2⟩)
      have HA := Lib.hid hA
      have hft := (find_len HL.out.ok HL.out.fn.1 hfd).2.1
      have hbl := (find_len HL.out.ok HL.out.fn.1 hfd).2.2
      have hnx : L.p + (1 + need b.length) ≤ L.fin := by have := HL.out.fn.2.1; unfold Lg.left at hft; omega
      clear hfd hh hA hfp
      go_wp2_with fail
      refine (add_rec HG.out HH.out rfl hc (by unfold maxLen; omega) HA.out hbl hnx).mono ?_
      rintro x w3 ⟨rfl, hl3, hk3⟩
      have HL3 := Lib.hid hl3
      have HK3 := Lib.hid ((HKP.out.trans (Keep.of_below HB2.out)).trans (hk3.mono fun i _ _ hi => .inl (HR.out i hi)))
      clear hl3 hk3
      go_wp2
      go_roundg (gk - (1 + need b.length))
      case measure => have := HLF.out; omega
      case rel => exact ⟨_, L.add b, HL3.out, fun i hi => .inl (HR.out i hi), fun L' h' => HO.out _ (.step HF.out h'), by have := HLF.out; unfold Lg.left at *; simp only [Lg.add]; omega, HK3.out⟩
end Go.Proofs.Ytmpkgnmijnjddaa
