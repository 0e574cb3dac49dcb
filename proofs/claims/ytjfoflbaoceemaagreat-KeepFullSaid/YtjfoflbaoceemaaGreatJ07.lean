/- . . . . . -/
import Derived.Test.YtjfoflbaoceemaaGreatJ02
import Derived.Test.YtjfoflbaoceemaaGreatJ05
import Derived.Test.YtjfoflbaoceemaaGreatJ06
import Derived.Test.YtjfoflbaoceemaaGreatJ03
import Derived.Test.YtjfoflbaoceemaaGreatJ04
import Derived.Deep.LoopGhost
import Derived.Deep.WholeRow
set_option maxRecDepth 4000
namespace Go.Proofs.YtjfoflbaoceemaaGreat
open Go.RowKit
theorem Has.keep5 {w w' : World} {R : Nat → Prop} {A : Option Addr} {xs : List UInt8} (h : Has w (fun i => R i ∧ Ty5 w i) A xs) (k : Keep (fun i _ => R i ∧ Ty5 w i) w w') : Has w' (fun i => R i ∧ Ty5 w' i) A xs := fun h0 => by
  obtain ⟨b, o, e, ⟨h1, cs, h2⟩, _, _⟩ := h h0
  obtain ⟨b', o', e', _, hb', hc'⟩ := h.keep k h0
  rw [e] at e'
  cases e'
  exact ⟨b, o, e, ⟨h1, cs, h2.keep k ⟨h1, cs, h2⟩⟩, hb', hc'⟩
theorem has_rb {w : World} {K : Nat → Prop} {A : Option Addr} {n : Nat} {xs : List UInt8} (h : Has w K A xs) (hn : xs.length = n) : RB w w.heap.size A n xs := ⟨hn, fun h0 => by
  obtain ⟨b, o, e, _, hb, hc⟩ := h (by omega)
  exact ⟨b, o, e, hb, fun j x hx => hc j _ (by rw [cellsB_get, hx]; rfl)⟩⟩
def DiskR (w : World) (gd : Nat) (R : Nat → Prop) (s : Dk) : Prop := ∃ O, DiskAt w gd O s ∧ (∀ i, O i → i < w.heap.size) ∧ ∀ i, R i → i < w.heap.size ∧ ¬ O i
section
variable {w w' : World} {gd : Nat} {O R R' : Nat → Prop} {s s' : Dk}
theorem DiskR.ok (h : DiskR w gd R s) : s.ok := by obtain ⟨_, ⟨_, _, h⟩, _⟩ := h; exact h.ok
theorem DiskR.below (h : DiskR w gd R s) (k : Below w.heap.size w w') : DiskR w' gd R s := by
  obtain ⟨O, h1, h2, h3⟩ := h
  exact ⟨O, h1.below k, fun i hi => Nat.lt_of_lt_of_le (h2 i hi) k.size, fun i hi => ⟨Nat.lt_of_lt_of_le (h3 i hi).1 k.size, (h3 i hi).2⟩⟩
theorem DiskR.grow (h : DiskR w gd R s) (k : Below w.heap.size w w') : DiskR w' gd (fun i => R i ∨ w.heap.size ≤ i ∧ i < w'.heap.size) s := by
  obtain ⟨O, h1, h2, h3⟩ := h
  refine ⟨O, h1.below k, fun i hi => Nat.lt_of_lt_of_le (h2 i hi) k.size, fun i hi => ?_⟩
  rcases hi with hi | ⟨h4, h5⟩
  · exact ⟨Nat.lt_of_lt_of_le (h3 i hi).1 k.size, (h3 i hi).2⟩
  · exact ⟨h5, fun ho => by have := h2 i ho; omega⟩
theorem diskR_new {n : Nat} (h : DiskAt w' (w.heap.size + 1) (fun i => w.heap.size ≤ i) (Dk.new n)) (hb : Below w.heap.size w w') : DiskR w' (w.heap.size + 1) (fun i => i < w.heap.size) (Dk.new n) :=
  ⟨_, h.cut, fun i hi => hi.2, fun i hi => ⟨Nat.lt_of_lt_of_le hi hb.size, fun ho => by have := ho.1; omega⟩⟩
theorem DiskR.keep (h : DiskR w gd R s) (hR : ∀ i, R' i → R i) : DiskR w gd R' s := by
  obtain ⟨O, h1, h2, h3⟩ := h
  exact ⟨O, h1, h2, fun i hi => h3 i (hR i hi)⟩
theorem DiskR.hi (h : DiskR w gd R s) : ∀ i, R i → i < w.heap.size := by
  obtain ⟨O, h1, h2, h3⟩ := h
  exact fun i hi => (h3 i hi).1
theorem diskR_turn (h3 : ∀ i, R i → i < w.heap.size ∧ ¬ O i) (hd : DiskAt w' gd (fun i => O i ∨ w.heap.size ≤ i) s') (k : Keep (Out O) w w') : DiskR w' gd R s' ∧ Keep (fun i _ => R i) w w' :=
  ⟨⟨_, hd.cut, fun i hi => hi.2, fun i hi => ⟨Nat.lt_of_lt_of_le (h3 i hi).1 k.size, fun ho => by
    rcases ho.1 with h | h
    · exact (h3 i hi).2 h
    · have := (h3 i hi).1; omega⟩⟩, k.mono fun i _ _ hi => (h3 i hi).2⟩
def DTurn (w : World) (gd : Nat) (R : Nat → Prop) (s1 : Dk) (v : Value) (e : Ending) (w' : World) : Prop := e = .returned v ∧ DiskR w' gd R s1 ∧ Keep (fun i _ => R i) w w'
end
theorem retBd {a b : Bool} (h : a = b) : Ending.returned (.bool a) = .returned (.bool b) := by rw [h]
theorem but_below {b : Nat} {w0 w w' : World} (h : Below w0.heap.size w0 w) (k : Keep (But b) w w') (hb : w0.heap.size ≤ b) : Below w0.heap.size w0 w' :=
  h.trans (k.below h.size fun i _ hi => by simp only [But]; omega)
section
variable {w : World} {gd : Nat} {R : Nat → Prop} {s s1 : Dk} {b1 : Bool}
theorem d_len (h : DiskR w gd R s) : Calls Tryz.prog 40 #[ptr gd] w fun e w' => e = .returned (.int .i64 (s.n : Int)) ∧ w = w' := by
  obtain ⟨O, h, _, _⟩ := h
  exact len_ h
theorem d_put (h : DiskR w gd R s) (hl : s.lim 500000) {A : Option Addr} {n c : Nat} {b : List UInt8} (hb : Has w R A b) (hn : b.length = n) (hc : n ≤ c) (hx : n ≤ 262144) {a : Int} (hp : s.put a b = (s1, b1)) :
    Calls Tryz.prog 188 #[ptr gd, .int .i64 a, .slice A n c] w (DTurn w gd R s1 (.bool b1)) := by
  subst hn
  have hnd : need b.length ≤ 4096 := by unfold need; omega
  obtain ⟨O, h, h2, h3⟩ := h
  refine (put_ h a A c b (hb.more fun i _ hi => (h3 i hi).2) hc (by have := hl.1; omega) (by have := hl.2.1; omega) hl.2.2 (by omega)).mono ?_
  rintro e w' ⟨rfl, hd, hk⟩
  rw [hp] at hd ⊢
  exact ⟨rfl, diskR_turn h3 hd hk⟩
theorem d_write (h : DiskR w gd R s) (hl : s.lim 900000) {i : Nat} (hi : i < s.n) {b : Nat} {x : List UInt8} (hx : x.length = 64) (hb : Blk w b 5 (cellsB x).toArray) (hp : s.tryW i x = (s1, b1)) :
    Calls Tryz.prog 33 #[ptr gd, .int .i64 (i : Int), .slice (some ⟨b, 0, none⟩) 64 64] w (DTurn w gd R s1 (.bool b1)) := by
  unfold Dk.tryW at hp
  obtain ⟨O, h, h2, h3⟩ := h
  cases hbr : s.broken
  · rw [hbr] at hp
    cases hp
    refine (write_ h hbr (by have := hl.1; omega) (by have := hl.2.1; omega) hl.2.2 i hi b 0 64 x hx (Src.of_blk hb)).mono ?_
    rintro e w' ⟨rfl, hd, hk⟩
    exact ⟨rfl, diskR_turn h3 hd hk⟩
  · rw [hbr] at hp
    cases hp
    refine (write_no h i _ 64 (.inr hbr)).mono ?_
    rintro e w' ⟨rfl, rfl⟩
    exact ⟨rfl, ⟨O, h, h2, h3⟩, Keep.refl _⟩
theorem d_sync (h : DiskR w gd R s) (hp : s.tryS = (s1, b1)) : Calls Tryz.prog 189 #[ptr gd] w (DTurn w gd R s1 (.bool b1)) := by
  unfold Dk.tryS at hp
  obtain ⟨O, h, h2, h3⟩ := h
  cases hbr : s.broken
  · rw [hbr] at hp
    cases hp
    refine (sync_ h hbr).mono ?_
    rintro e w' ⟨rfl, hd, hk⟩
    exact ⟨rfl, diskR_turn h3 (hd.more fun _ hi => .inl hi) hk⟩
  · rw [hbr] at hp
    cases hp
    refine (sync_no h hbr).mono ?_
    rintro e w' ⟨rfl, rfl⟩
    exact ⟨rfl, ⟨O, h, h2, h3⟩, Keep.refl _⟩
end
theorem read_any {w : World} {gd : Nat} {O : Nat → Prop} {s : Dk} (h : DiskAt w gd O s) (p : Nat) : Calls Tryz.prog 29 #[ptr gd, .int .i64 (p : Int)] w (GetC w (s.at_ p)) := by
  have hok : s.ok := by obtain ⟨_, _, h⟩ := h; exact h.ok
  rcases Nat.lt_or_ge p s.n with hp | hp
  · refine (read_ h p hp).mono ?_
    rintro e w' ⟨rfl, hb, hbel, _⟩
    have hl : (s.at_ p).length = 64 := secs_getD hok.now (by rw [Dk.now_length]; exact hp)
    exact ⟨_, 64, by rw [hl], Has.of_blk hb ⟨Nat.le_refl _, _, hb⟩, hbel, by rw [hl]; exact Nat.le_refl _, by omega, fun h => by cases h⟩
  · refine (read_no h p (.inr (by omega))).mono ?_
    rintro e w' ⟨rfl, rfl⟩
    have hl : s.at_ p = [] := by
      unfold Dk.at_
      rw [List.getD_eq_getElem?_getD, List.getElem?_eq_none (by rw [Dk.now_length]; exact hp)]; rfl
    rw [hl]
    exact ⟨none, 0, rfl, Has.nil _ _ _, Below.refl _ _, Nat.le_refl _, by omega, fun _ => rfl⟩
theorem at_length {s : Dk} (hok : s.ok) (p : Nat) : (s.at_ p).length ≤ 64 := by
  rcases Nat.lt_or_ge p s.n with hp | hp
  · have := secs_getD hok.now (i := p) (by rw [Dk.now_length]; exact hp)
    unfold Dk.at_; omega
  · unfold Dk.at_
    rw [List.getD_eq_getElem?_getD, List.getElem?_eq_none (by rw [Dk.now_length]; exact hp)]; simp
theorem Has.newer {w : World} {a b : Nat} {A : Option Addr} {xs : List UInt8} (h : Has w (fun i => a ≤ i ∧ Ty5 w i) A xs) (hb : b ≤ a) : Has w (fun i => b ≤ i ∧ Ty5 w i) A xs := h.more fun _ _ hi => ⟨Nat.le_trans hb hi.1, hi.2⟩
theorem d_read {w : World} {gd : Nat} {R : Nat → Prop} {s : Dk} (h : DiskR w gd R s) (p : Nat) : Calls Tryz.prog 29 #[ptr gd, .int .i64 (p : Int)] w (GetC w (s.at_ p)) := by
  obtain ⟨O, h, _, _⟩ := h
  exact read_any h p
theorem d_get {w : World} {gd : Nat} {R : Nat → Prop} {s : Dk} (h : DiskR w gd R s) (a n : Int) (hn : i64r n) : Calls Tryz.prog 123 #[ptr gd, .int .i64 a, .int .i64 n] w (GetC w (s.get a n)) := by
  obtain ⟨O, h, _, _⟩ := h
  exact getC_ h a n hn.1 hn.2
end Go.Proofs.YtjfoflbaoceemaaGreat
namespace Go.Proofs.YtjfoflbaoceemaaGreat
open Go.RowKit
def EqRel (w : World) (xs ys : List UInt8) (k : Nat) (i : Value) (wr : World) : Prop := ∃ j, j + k = xs.length ∧ i = .int .i64 (j : Int) ∧ xs.take j = ys.take j ∧ Below w.heap.size w wr
theorem u8_eq (a b : UInt8) : ((a.toNat : Int) = (b.toNat : Int)) ↔ a = b := by
  rw [Int.ofNat_inj, UInt8.toNat_inj]
theorem Has.at_ {w w' : World} {K : Nat → Prop} {A : Option Addr} {xs : List UInt8} (h : Has w K A xs) (k : Below w.heap.size w w') {j : Nat} (hj : j < xs.length) :
    ∃ b o, A = some ⟨b, o, none⟩ ∧ w'.cell? ⟨b, o + j, none⟩ = some (.int .u8 ((xs[j]'hj).toNat : Int)) := by
  obtain ⟨b, o, e, _, hb, hc⟩ := (h.below k) (by omega)
  exact ⟨b, o, e, hc j _ (by rw [cellsB_get, List.getElem?_eq_getElem hj]; rfl)⟩
set_option maxHeartbeats 400000 in
theorem equal_ {w : World} {K K2 : Nat → Prop} {A A2 : Option Addr} {n n2 c c2 : Nat} {xs ys : List UInt8} (h : Has w K A xs) (h2 : Has w K2 A2 ys) (hn : xs.length = n) (hn2 : ys.length = n2) (hm : n ≤ 1000000) :
    Calls Tryz.prog 170 #[.slice A n c, .slice A2 n2 c2] w fun e w' => e = .returned (.bool (decide (xs = ys))) ∧ Below w.heap.size w w' := by
  have H := Lib.hid h
  have H2 := Lib.hid h2
  have HN := Lib.hid hn
  have HN2 := Lib.hid hn2
  by_cases hl : n = n2
  · subst hl
    clear h h2 hn hn2
    go_enter Tryz.func170, Tryz.ntmps170
    go_wp2
    go_loopg [13] n (fun k i wr => EqRel w xs ys k i wr)
    case atStart => exact ⟨0, by rw [HN.out]; omega, rfl, rfl, Below.refl _ _⟩
    case round =>
      obtain ⟨j, hj, rfl, ht, hb⟩ := hrel
      have HT := Lib.hid ht
      have HB := Lib.hid hb
      have HJ := Lib.hid hj
      clear ht hb hj
      by_cases hlt : j < n
      · have hx : j < xs.length := by rw [HN.out]; exact hlt
        have hy : j < ys.length := by rw [HN2.out]; exact hlt
        obtain ⟨b, o, rfl, hc⟩ := H.out.at_ HB.out hx
        obtain ⟨b2, o2, rfl, hc2⟩ := H2.out.at_ HB.out hy
        by_cases he : xs[j] = ys[j]
        · have he2 : ((xs[j].toNat : Int) = (ys[j].toNat : Int)) := (u8_eq _ _).2 he
          have hst : xs.take (j + 1) = ys.take (j + 1) := by
            rw [List.take_succ_eq_append_getElem hx, List.take_succ_eq_append_getElem hy, HT.out, he]
          have HST := Lib.hid hst
          clear hst he
          go_wp2
          go_region
          go_wp2
          go_roundg (n - (j + 1))
          case measure => have := HJ.out; have := HN.out; omega
          case rel => exact ⟨j + 1, by have := HN.out; omega, by go_num, HST.out, HB.out.drew⟩
        · have he2 : ¬ ((xs[j].toNat : Int) = (ys[j].toNat : Int)) := fun e => he ((u8_eq _ _).1 e)
          have hne : xs ≠ ys := fun e => he (by subst e; rfl)
          have HNE := Lib.hid hne
          clear hne he
          go_wp2
          go_region
          go_wp2
          go_ret
          exact ⟨by rw [decide_eq_false HNE.out]; rfl, HB.out.drew⟩
      · have e : xs = ys := by
          have h1 := HT.out
          have h2 := HN.out
          have h3 := HN2.out
          rwa [List.take_of_length_le (by omega), List.take_of_length_le (by omega)] at h1
        have E := Lib.hid e
        clear e
        go_wp2
        go_ret
        exact ⟨by rw [decide_eq_true E.out]; rfl, HB.out⟩
  · have hne : xs ≠ ys := fun e => by subst e; omega
    have HNE := Lib.hid hne
    clear h h2 hn hn2 hne
    go_enter Tryz.func170, Tryz.ntmps170
    go_wp2
    go_ret
    exact ⟨by rw [decide_eq_false HNE.out]; rfl, Below.refl _ _⟩
end Go.Proofs.YtjfoflbaoceemaaGreat
namespace Go.Proofs.YtjfoflbaoceemaaGreat
def recT : List UInt8 := [114, 101, 99]
def lheadB (e k n : Int) : List UInt8 := encText recT ++ (encInt e ++ (encInt k ++ (encInt n ++ zeros 35)))
theorem headB_length (e k n : Int) : (lheadB e k n).length = 64 := by
  simp only [lheadB, List.length_append, encInt_len, encText_len, zeros_length]; rfl
theorem headB_written (e k n : Int) : encText recT ++ encInt e ++ encInt k ++ encInt n ++ zeros 35 = lheadB e k n := by simp [lheadB]
def lenIn (xs : List UInt8) : Int := (⟨xs, false⟩ : Rd).text.2.int.2.int.2.int.1
theorem lenIn_range (xs : List UInt8) : i64r (lenIn xs) := i64of_range _
theorem lenIn_head {e k n : Int} (h : i64r n) : lenIn (lheadB e k n) = n := by
  unfold lenIn lheadB
  rw [text_front]
  simp only
  rw [int_front2, int_front2, int_front n _ h.1 h.2]
theorem headB_epoch {e k n e' k' n' : Int} (h1 : i64r e) (h2 : i64r e') (h : lheadB e k n = lheadB e' k' n') : e = e' := by
  have := congrArg (fun xs => (⟨xs, false⟩ : Rd).text.2.int.1) h
  simp only [lheadB] at this
  rw [text_front, text_front] at this
  simp only at this
  rwa [int_front e _ h1.1 h1.2, int_front e' _ h2.1 h2.2] at this
theorem headB_zero {e k n : Int} : lheadB e k n ≠ zeros 64 := fun h => by
  have := congrArg (fun xs => xs[0]?) h
  simp [lheadB, encText, recT, leN, zeros] at this

structure Lg where
  e : Int
  p : Nat
  fin : Nat
  ls : List (List UInt8)
  dead : Bool
def Lg.left (L : Lg) : Nat := L.fin - L.p
def Lg.fits (L : Lg) (n : Int) : Bool := decide (0 ≤ n) && decide (1 + need n.toNat ≤ L.left)
def Lg.head (L : Lg) (n : Int) : List UInt8 := lheadB L.e ((L.ls.length : Nat) + 1 : Int) n
def Lg.add (L : Lg) (b : List UInt8) : Lg := { L with p := L.p + (1 + need b.length), ls := L.ls ++ [b] }
def Lg.found (L : Lg) (had : Sec) (n : Int) : Bool := L.fits n && decide (had = L.head n)
theorem found_iff {L : Lg} {had : Sec} {n : Int} : L.found had n = true ↔ L.fits n = true ∧ had = L.head n := by simp [Lg.found]
def Lg.find (L : Lg) (s : Dk) : Option (List UInt8) :=
  if L.found (s.at_ L.p) (lenIn (s.at_ L.p)) then some (s.get ((L.p : Int) + 1) (lenIn (s.at_ L.p))) else none
inductive Opens (s : Dk) : Lg → Lg → Prop
  | stop {L : Lg} : L.find s = none → Opens s L L
  | step {L L' : Lg} {b : List UInt8} : L.find s = some b → Opens s (L.add b) L' → Opens s L L'
theorem fits_iff {L : Lg} {n : Int} : L.fits n = true ↔ 0 ≤ n ∧ 1 + need n.toNat ≤ L.left := by simp [Lg.fits]
theorem Opens.det {s : Dk} {L L1 : Lg} (h : Opens s L L1) : ∀ {L2 : Lg}, Opens s L L2 → L1 = L2 := by
  induction h with
  | stop h => intro L2 k; cases k with
    | stop => rfl
    | step h' => rw [h] at h'; cases h'
  | step h _ ih => intro L2 k; cases k with
    | stop h' => rw [h] at h'; cases h'
    | step h' k =>
      have e := Option.some.inj (h.symm.trans h')
      subst e; exact ih k
theorem find_none {L : Lg} {s : Dk} (h : ∀ n : Int, L.fits n = true → s.at_ L.p ≠ L.head n) : L.find s = none := by
  unfold Lg.find
  split
  · rename_i hh
    exact absurd (found_iff.1 hh).2 (h _ (found_iff.1 hh).1)
  · rfl
theorem find_end {L : Lg} {s : Dk} (h : L.fin ≤ L.p) : L.find s = none := find_none fun n hn => by
  have := (fits_iff.1 hn).2
  unfold Lg.left at this; omega
theorem find_some {L : Lg} {s : Dk} {b : List UInt8} (hn : L.fin ≤ s.n) (hm : s.n ≤ 4096) (hf : 1 + need b.length ≤ L.left) (hh : s.at_ L.p = L.head b.length) (hb : ∀ j, j < need b.length → s.at_ (L.p + 1 + j) = chunk b j) : L.find s = some b := by
  have hl : b.length ≤ 262144 := by have := need_ge b.length; unfold Lg.left at hf; omega
  have e : lenIn (s.at_ L.p) = (b.length : Int) := by rw [hh]; exact lenIn_head ⟨by omega, by omega⟩
  unfold Lg.find
  rw [e, if_pos (found_iff.2 ⟨fits_iff.2 ⟨by omega, by rw [Int.toNat_natCast]; exact hf⟩, hh⟩)]
  exact congrArg some (get_put (s := s) (at_ := L.p + 1) hl (by unfold Lg.left at hf; omega) hb)
theorem lfind_len {L : Lg} {s : Dk} {b : List UInt8} (hok : s.ok) (hn : L.fin ≤ s.n) (h : L.find s = some b) : (b.length : Int) = lenIn (s.at_ L.p) ∧ 1 + need b.length ≤ L.left ∧ b.length ≤ 262144 := by
  unfold Lg.find at h
  split at h
  · rename_i hh
    have h := Option.some.inj h
    obtain ⟨h0, h1⟩ := fits_iff.1 (found_iff.1 hh).1
    have hm := hok.many
    obtain ⟨m, hm2⟩ := Int.eq_ofNat_of_zero_le h0
    rw [hm2, Int.toNat_natCast] at h1
    have hm3 : m ≤ 262144 := by have := need_ge m; unfold Lg.left at h1; unfold Dk.n at hn; omega
    have hl : b.length = m := by
      rw [← h, hm2]
      unfold Dk.get
      rw [cutG_nat hm3, if_pos (Dk.fits_iff.2 ⟨by omega, by unfold Lg.left at h1; omega⟩)]
      have h64 : ∀ x ∈ (s.now.drop ((L.p : Int) + 1).toNat).take (need m), x.length = 64 := fun x hx => hok.now x (List.mem_of_mem_drop (List.mem_of_mem_take hx))
      have hd : (s.now.drop ((L.p : Int) + 1).toNat).length = s.n - (L.p + 1) := by rw [List.length_drop, Dk.now_length]; omega
      rw [List.length_take, show ((s.now.drop ((L.p : Int) + 1).toNat).take (need m)).flatten.length = need m * 64 from by
        have : ∀ (ls : List Sec), (∀ x ∈ ls, x.length = 64) → ls.flatten.length = ls.length * 64 := by
          intro ls; induction ls with
          | nil => intro _; rfl
          | cons y r ih => intro hy; rw [List.flatten_cons, List.length_append, hy y (by simp), ih fun z hz => hy z (by simp [hz]), List.length_cons]; omega
        rw [this _ h64, List.length_take, hd, Nat.min_eq_left (by unfold Lg.left at h1; omega)]]
      have := need_ge m
      omega
    exact ⟨by rw [hl, hm2], by rw [hl]; exact h1, by omega⟩
  · cases h

/-! an Append -/
def Lg.next (L : Lg) (n : Nat) : Nat := L.p + (1 + need n)
def Lg.tail (L : Lg) (n : Nat) (s : Dk) : Dk × Bool := if L.next n = L.fin then (s, true) else s.tryW (L.next n) (zeros 64)
def Lg.lay (L : Lg) (s : Dk) (b : List UInt8) : Dk × Bool :=
  thenDo (thenDo (thenDo (thenDo (s.put ((L.p : Int) + 1) b) (L.tail b.length)) Dk.tryS) (fun t => t.tryW L.p (L.head b.length))) Dk.tryS
def Lg.append (L : Lg) (s : Dk) (b : List UInt8) : Dk × Lg × Nat :=
  if L.dead then (s, L, 12) else if L.fits b.length then (if (L.lay s b).2 then ((L.lay s b).1, L.add b, 0) else ((L.lay s b).1, { L with dead := true }, 12)) else (s, L, 6)
end Go.Proofs.YtjfoflbaoceemaaGreat
namespace Go.Proofs.YtjfoflbaoceemaaGreat
open Go.RowKit
def Holds (w : World) (K : Nat → Prop) (vs : List Value) (ls : List (List UInt8)) : Prop :=
  vs.length = ls.length ∧ ∀ (i : Nat) (xs : List UInt8), ls[i]? = some xs → ∃ A c, vs[i]? = some (Value.slice A xs.length c) ∧ Has w K A xs ∧ xs.length ≤ c ∧ c ≤ maxLen ∧ (A = none → c = 0)
section
variable {w w' : World} {K K' : Nat → Prop} {vs : List Value} {ls : List (List UInt8)}
theorem Holds.keep (h : Holds w K vs ls) (k : Keep (fun i _ => K i) w w') : Holds w' K vs ls := ⟨h.1, fun i xs hx => by
  obtain ⟨A, c, e, hh, r⟩ := h.2 i xs hx
  exact ⟨A, c, e, hh.keep k, r⟩⟩
theorem Holds.below (h : Holds w K vs ls) (k : Below w.heap.size w w') : Holds w' K vs ls := h.keep (Keep.of_below k)
theorem Holds.more (h : Holds w K vs ls) (hk : ∀ i, i < w.heap.size → K i → K' i) : Holds w K' vs ls := ⟨h.1, fun i xs hx => by
  obtain ⟨A, c, e, hh, r⟩ := h.2 i xs hx
  exact ⟨A, c, e, hh.more hk, r⟩⟩
theorem Holds.nil (w : World) (K : Nat → Prop) : Holds w K [] [] := ⟨rfl, fun i xs hx => by simp at hx⟩
theorem Holds.snoc (h : Holds w K vs ls) {A : Option Addr} {c : Nat} {xs : List UInt8} (hx : Has w K A xs) (hc : xs.length ≤ c) (hm : c ≤ maxLen) (hA : A = none → c = 0) : Holds w K (vs ++ [Value.slice A xs.length c]) (ls ++ [xs]) :=
  ⟨by simp [h.1], fun i ys hy => by
    rw [List.getElem?_append] at hy ⊢
    rw [h.1]
    split at hy
    · rename_i hlt
      rw [if_pos hlt]
      exact h.2 i ys hy
    · rename_i hlt
      rw [if_neg hlt]
      obtain ⟨hi, e⟩ := List.getElem?_eq_some_iff.1 hy
      have hi0 : i - ls.length = 0 := by simp at hi; omega
      rw [hi0] at hy ⊢
      simp at hy
      subst hy
      exact ⟨A, c, rfl, hx, hc, hm, hA⟩⟩
end
theorem Holds.keep5 {w w' : World} {R : Nat → Prop} {vs : List Value} {ls : List (List UInt8)} (h : Holds w (fun i => R i ∧ Ty5 w i) vs ls) (k : Keep (fun i _ => R i ∧ Ty5 w i) w w') : Holds w' (fun i => R i ∧ Ty5 w' i) vs ls := ⟨h.1, fun i xs hx => by
  obtain ⟨A, c, e, hh, r⟩ := h.2 i xs hx
  exact ⟨A, c, e, hh.keep5 k, r⟩⟩
structure LogM (w : World) (g gd : Nat) (O R : Nat → Prop) (vr : Value) (vs : List Value) (s : Dk) (L : Lg) : Prop where
  disk : DiskAt w gd O s
  hi : ∀ i, O i → i < w.heap.size
  head : Blk w g 133 #[ptr gd, .int .i64 L.e, .int .i64 (L.p : Int), .int .i64 (L.fin : Int), vr, .bool L.dead]
  og : ¬ O g
  rows : w.ownsRow 0 42 1 vr L.ls.length vs
  orr : ∀ k, vr.ownBlock = some k → ¬ O k
  held : Holds w (fun i => R i ∧ Ty5 w i) vs L.ls
  rO : ∀ i, R i → i < w.heap.size ∧ ¬ O i ∧ i ≠ g ∧ vr.ownBlock ≠ some i
  pf : L.p ≤ L.fin
  fn : L.fin ≤ s.n
  nl : L.ls.length ≤ L.p
  long : ∀ x ∈ L.ls, x.length ≤ 262144
def LogAt (w : World) (g gd : Nat) (R : Nat → Prop) (s : Dk) (L : Lg) : Prop := ∃ O vr vs, LogM w g gd O R vr vs s L
section
variable {w w' : World} {g gd : Nat} {O R R' : Nat → Prop} {vr : Value} {vs : List Value} {s s' : Dk} {L : Lg}
theorem LogM.ok (h : LogM w g gd O R vr vs s L) : s.ok := by obtain ⟨_, _, h⟩ := h.disk; exact h.ok
theorem LogAt.ok (h : LogAt w g gd R s L) : s.ok := by obtain ⟨_, _, _, h⟩ := h; exact h.ok
theorem rows_lt {e size n : Nat} {xs : List Value} (h : w.ownsRow 0 e size vr n xs) : ∀ k, vr.ownBlock = some k → k < w.heap.size := fun k hk => (h.lt k hk).2
theorem LogM.below (h : LogM w g gd O R vr vs s L) (k : Below w.heap.size w w') : LogM w' g gd O R vr vs s L :=
  ⟨h.disk.below k, fun i hi => Nat.lt_of_lt_of_le (h.hi i hi) k.size, h.head.below k h.head.lt, h.og, ownsRow_keep h.rows (K := fun _ _ => True) (Keep.of_below k) (fun _ _ _ => trivial), h.orr, h.held.keep5 (Keep.of_below k),
    fun i hi => ⟨Nat.lt_of_lt_of_le (h.rO i hi).1 k.size, (h.rO i hi).2⟩, h.pf, h.fn, h.nl, h.long⟩
theorem LogAt.below (h : LogAt w g gd R s L) (k : Below w.heap.size w w') : LogAt w' g gd R s L := by
  obtain ⟨O, vr, vs, h⟩ := h
  exact ⟨O, vr, vs, h.below k⟩
theorem LogAt.drew (h : LogAt w g gd R s L) : LogAt w.drew g gd R s L := h.below (Below.refl _ _).drew
theorem LogM.grow (h : LogM w g gd O R vr vs s L) (k : Below w.heap.size w w') : LogM w' g gd O (fun i => R i ∨ w.heap.size ≤ i ∧ i < w'.heap.size) vr vs s L := by
  have h' := h.below k
  refine ⟨h'.disk, h'.hi, h'.head, h'.og, h'.rows, h'.orr, h'.held.more fun _ _ hi => ⟨.inl hi.1, hi.2⟩, fun i hi => ?_, h'.pf, h'.fn, h'.nl, h'.long⟩
  rcases hi with hi | ⟨h1, h2⟩
  · exact h'.rO i hi
  · exact ⟨h2, fun ho => by have := h.hi i ho; omega, fun e => by have := h.head.lt; omega, fun e => by have := rows_lt h.rows i e; omega⟩
theorem LogAt.grow (h : LogAt w g gd R s L) (k : Below w.heap.size w w') : LogAt w' g gd (fun i => R i ∨ w.heap.size ≤ i ∧ i < w'.heap.size) s L := by
  obtain ⟨O, vr, vs, h⟩ := h
  exact ⟨O, vr, vs, h.grow k⟩
theorem LogM.turn (h : LogM w g gd O R vr vs s L) (hd : DiskAt w' gd (fun i => O i ∨ w.heap.size ≤ i) s') (k : Keep (Out O) w w') (hn : s'.n = s.n) :
    LogM w' g gd (fun i => (O i ∨ w.heap.size ≤ i) ∧ i < w'.heap.size) R vr vs s' L := by
  refine ⟨hd.cut, fun i hi => hi.2, h.head.keep k h.og, ?_, ownsRow_keep h.rows k (fun i _ hi => h.orr i hi), ?_, h.held.keep5 (k.mono fun i _ _ hi => (h.rO i hi.1).2.1), fun i hi => ?_, h.pf, by rw [hn]; exact h.fn, h.nl, h.long⟩
  · rintro ⟨ho | ho, _⟩
    · exact h.og ho
    · have := h.head.lt; omega
  · rintro i hi ⟨ho | ho, _⟩
    · exact h.orr i hi ho
    · have := rows_lt h.rows i hi; omega
  · obtain ⟨h1, h2, h3⟩ := h.rO i hi
    refine ⟨Nat.lt_of_lt_of_le h1 k.size, ?_, h3⟩
    rintro ⟨ho | ho, _⟩
    · exact h2 ho
    · omega
theorem LogM.keepR (h : LogM w g gd O R vr vs s L) (k : Keep (Out O) w w') : Keep (fun i _ => R i) w w' := k.mono fun i _ _ hi => (h.rO i hi).2.1
theorem LogM.diskR (h : LogM w g gd O R vr vs s L) : DiskR w gd R s := ⟨O, h.disk, h.hi, fun i hi => ⟨(h.rO i hi).1, (h.rO i hi).2.1⟩⟩
theorem LogAt.diskR (h : LogAt w g gd R s L) : DiskR w gd R s := by
  obtain ⟨O, vr, vs, h⟩ := h
  exact h.diskR
theorem LogAt.cells (h : LogAt w g gd R s L) : ∃ A c, w.cell? ⟨g, 0, none⟩ = some (ptr gd) ∧ w.cell? ⟨g, 1, none⟩ = some (.int .i64 L.e) ∧ w.cell? ⟨g, 2, none⟩ = some (.int .i64 (L.p : Int)) ∧ w.cell? ⟨g, 3, none⟩ = some (.int .i64 (L.fin : Int)) ∧
    w.cell? ⟨g, 4, none⟩ = some (.slice A L.ls.length c) ∧ w.cell? ⟨g, 5, none⟩ = some (.bool L.dead) ∧ (∀ i, w.frozen? ⟨g, i, none⟩ = false) ∧ L.ls.length ≤ c ∧ L.p ≤ L.fin ∧ L.fin ≤ 4096 ∧ L.ls.length ≤ 4096 ∧ g < w.heap.size := by
  have hok := h.ok
  obtain ⟨O, vr, vs, h⟩ := h
  have hm := hok.many
  have h1 := h.fn
  have h2 := h.nl
  have h3 := h.pf
  have hA : ∃ A c, vr = .slice A L.ls.length c ∧ L.ls.length ≤ c := by
    rcases h.rows.2 with ⟨rfl, h0⟩ | ⟨q, cap, cur, rfl, _, _, hc, _⟩
    · exact ⟨none, 0, by rw [h0], by omega⟩
    · exact ⟨_, cap, rfl, hc⟩
  obtain ⟨A, c, rfl, hc⟩ := hA
  unfold Dk.n at h1
  exact ⟨A, c, by rw [h.head.cell]; rfl, by rw [h.head.cell]; rfl, by rw [h.head.cell]; rfl, by rw [h.head.cell]; rfl, by rw [h.head.cell]; rfl, by rw [h.head.cell]; rfl, h.head.frozen, hc, h3, by omega, by omega, h.head.lt⟩
end
end Go.Proofs.YtjfoflbaoceemaaGreat
namespace Go.Proofs.YtjfoflbaoceemaaGreat
open Go.RowKit
section
variable {w : World} {g gd : Nat} {R : Nat → Prop} {s : Dk} {L : Lg}
theorem size_ {n : Int} {m : Nat} (h : n.toNat = m) (hn : n ≤ 9223372036854775807) (w : World) : Calls Tryz.prog 207 #[.int .i64 n] w fun e w' => e = .returned (.int .i64 ((1 + need m : Nat) : Int)) ∧ w = w' := by
  have hb : need m ≤ 1000000000000000000 := by unfold need; omega
  go_enter Tryz.func207, Tryz.ntmps207
  go_wp2_with (go_at_call 172; refine (need_of h hn _).mono ?_; rintro e w' ⟨rfl, rfl⟩)
  go_ret
  exact ⟨by simp, rfl⟩
theorem left_ (h : LogAt w g gd R s L) : Calls Tryz.prog 208 #[ptr g] w fun e w' => e = .returned (.int .i64 (L.left : Int)) ∧ w.drew = w' := by
  obtain ⟨A, c, _, _, c2, c3, _, _, _, _, h1, h2, _, _⟩ := h.cells
  clear h
  go_enter Tryz.func208, Tryz.ntmps208
  go_wp2
  go_region
  go_wp2
  go_ret
  exact ⟨retU (by unfold Lg.left; omega), rfl⟩
theorem left_lt (h : LogAt w g gd R s L) : L.left ≤ 4096 := by
  obtain ⟨A, c, _, _, c2, c3, _, _, _, _, h1, h2, _, _⟩ := h.cells
  unfold Lg.left; omega
theorem lfits_ {n : Int} (h : LogAt w g gd R s L) (hn : i64r n) : Calls Tryz.prog 155 #[ptr g, .int .i64 n] w fun e w' => e = .returned (.bool (L.fits n)) ∧ Below w.heap.size w w' := by
  have hll := left_lt h
  have H := Lib.hid h
  clear h
  rcases Int.lt_or_le n 0 with h0 | h0
  · have e : L.fits n = false := by simp [Lg.fits]; omega
    rw [e]
    clear e
    obtain ⟨hn1, hn2⟩ := hn
    go_enter Tryz.func155, Tryz.ntmps155
    go_wp2
    go_ret
    exact ⟨rfl, Below.refl _ _⟩
  · have e : L.fits n = decide (1 + need n.toNat ≤ L.left) := by simp [Lg.fits, h0]
    rw [e]
    clear e
    obtain ⟨hn1, hn2⟩ := hn
    go_enter Tryz.func155, Tryz.ntmps155
    go_wp2_with (first | (go_at_call 207; refine (size_ (n := n) rfl (by assumption) _).mono ?_; rintro e w' ⟨rfl, rfl⟩) | (go_at_call 208; refine (left_ H.out).mono ?_; rintro e w' ⟨rfl, rfl⟩))
    go_ret
    exact ⟨retBd (by rw [Bool.eq_iff_iff]; simp; omega), (Below.refl _ _).drew⟩
theorem lthere_ {O : Nat → Prop} (h : DiskAt w gd O s) (a n : Nat) (ha : a < s.n) (hn : a + n ≤ s.n) : Calls Tryz.prog 182 #[ptr gd, .int .i64 (a : Int), .int .i64 (n : Int)] w fun e w' => e = .returned (.int .i64 (n : Int)) ∧ w = w' := by
  have hm : s.n ≤ 4096 := by obtain ⟨_, _, h⟩ := h; exact h.ok.many
  have H := Lib.hid h
  clear h
  go_enter Tryz.func182, Tryz.ntmps182
  go_wp2_with (go_at_call 40; refine (len_ H.out).mono ?_; rintro e w' ⟨rfl, rfl⟩)
  go_ret
  exact ⟨retU (by omega), rfl⟩
end
end Go.Proofs.YtjfoflbaoceemaaGreat
