/- . . . . . -/
import Derived.Test.YtjfoflbaoceemaaGreatJ40
import Derived.Test.YtjfoflbaoceemaaGreatJ19
import Derived.Test.YtjfoflbaoceemaaGreatJ24
import Derived.Deep.LoopGhost
import Derived.Test.YtjfoflbaoceemaaGreatJ36
import Derived.Test.YtjfoflbaoceemaaGreatJ16
import Derived.Deep.RegionHeld3
import Derived.Deep.RegionWith
set_option maxRecDepth 4000
namespace Go.Proofs.YtjfoflbaoceemaaGreat
open Go.RowKit
theorem append_one {W : World} {base : Nat} {v : Value} {ys : List Ef} (ho : OwnE W base v ys) (hb : base ≤ W.heap.size) (hl : ys.length ≤ 100000) (e : Ef) :
    ∃ A n c W', (Builtin.append_ #[37, 37] 37 #[v, .slice (some ⟨W.heap.size, 0, none⟩) 1 1]).run Tryz.prog (W.alloc (.cells e.cells 46)) = .ok (.slice A n c) W' ∧ OwnE W' base (.slice A n c) (ys ++ [e]) ∧ Below base W W' := by
  have ha := alloc_below W (.cells e.cells 46)
  have hone := one_lst eEf W 46 e (cs := e.cells) rfl
  have ho2 := own_belowE ho ha
  have hbl : Below base W (W.alloc (.cells e.cells 46)) := ha.mono hb
  generalize W.alloc (.cells e.cells 46) = W2 at *
  obtain ⟨v', W', hap, ho', hg, _⟩ := append_own tyEf ho2 hone rfl 1 (by show ys.length + 1 ≤ _; omega) (Nat.le_trans hb hbl.size)
  obtain ⟨A, c, rfl, _⟩ := own_lst ho'
  exact ⟨A, _, c, W', hap, ho', hbl.grown hg (Nat.le_trans hb hbl.size) fun g hg => (own_blk ho2 hg).1⟩
structure RdRow (T : TypeId) (w : World) (g B b0 : Nat) (r : Rd) (v : Value) (l : List Ef) (wk : World) : Prop where
  bel : Below w.heap.size w wk
  rd : ReaderAt T wk g B r
  own : OwnE wk b0 v l
  gb : g < b0
  b0s : b0 ≤ wk.heap.size
  wg : w.heap.size ≤ g
section
variable {T : TypeId} {w wk w' : World} {g B b0 : Nat} {r r' : Rd} {v v' : Value} {l l' : List Ef}
theorem RdRow.read (h : RdRow T w g B b0 r v l wk) (hr : ReaderAt T w' g B r') (k : Keep (But g) wk w') : RdRow T w g B b0 r' v l w' :=
  ⟨h.bel.trans (k.below h.bel.size fun i _ hi => by have := h.wg; simp only [But]; omega), hr, own_keep h.own fun q hq => by
    obtain ⟨hb, _, cur, hcur⟩ := own_blk h.own hq
    have hne : q ≠ g := by have := h.gb; omega
    rw [hcur]
    exact k.block q _ hcur hne, h.gb, Nat.le_trans h.b0s k.size, h.wg⟩
theorem RdRow.next (h : RdRow T w g B b0 r v l wk) (k : Below wk.heap.size wk w') : RdRow T w g B b0 r v l w' :=
  ⟨h.bel.trans (k.mono h.bel.size), h.rd.belowR k, own_belowE h.own k, h.gb, Nat.le_trans h.b0s k.size, h.wg⟩
theorem RdRow.grow (h : RdRow T w g B b0 r v l wk) (ho : OwnE w' b0 v' l') (k : Below b0 wk w') : RdRow T w g B b0 r v' l' w' := by
  obtain ⟨A, n, c, hb, h1, h2, hr, hB⟩ := h.rd
  have hg := h.gb
  have hw : w.heap.size ≤ b0 := Nat.le_trans h.wg (Nat.le_of_lt hg)
  exact ⟨h.bel.trans (k.mono hw), ⟨A, n, c, hb.below k hg, h1, h2, hr.below (k.mono (by omega)), hB⟩, ho, hg, Nat.le_trans h.b0s k.size, h.wg⟩
end
theorem retT {v : Value} {a b : Int} (h : b = a) : Ending.returned (.tuple #[v, .int .i64 a]) = .returned (.tuple #[v, .int .i64 b]) := by rw [h]
theorem in_no {c : Int} (h : ¬ (0 ≤ c ∧ c ≤ 10000)) : (decide (0 ≤ c) && decide (c ≤ 10000)) = false := by
  rw [← Bool.decide_and]; exact decide_eq_false h
def ReadRel (w : World) (g b0 : Nat) (r : Rd) (N k : Nat) (v i : Value) (wr : World) : Prop :=
  ∃ j, j + k = N ∧ i = .int .i64 (j : Int) ∧ RdRow 227 w g g b0 (r.efs j).2 v (r.efs j).1 wr ∧ (r.efs j).1.all Ef.right = true
set_option maxHeartbeats 2000000 in
theorem readE_ (w : World) (A : Option Addr) (n c : Nat) (xs : List UInt8) (h : RB w w.heap.size A n xs) (hn : n ≤ 1000000) (hA : A = none → c = 0) :
    Calls Tryz.prog 72 #[.slice A n c] w fun e w' => ∃ v, e = .returned (.tuple #[v, .int .i64 (readN xs)]) ∧ OwnE w' w.heap.size v (readL xs) ∧ Below w.heap.size w w' := by
  obtain ⟨cn, r1, hc⟩ := pair_ex (⟨xs, false⟩ : Rd).int
  have h1 : (⟨xs, false⟩ : Rd).int.1 = cn := by rw [hc]
  have h2 : (⟨xs, false⟩ : Rd).int.2 = r1 := by rw [hc]
  have hNW : ∀ i, i < cn.toNat → (r1.efs i).2.efV.right = false → readsE xs = none := fun i hi hw => reads_none_wrong (by rw [h1]; exact hi) (by rw [h2]; exact hw)
  have hOut : ¬ (0 ≤ cn ∧ cn ≤ 10000) → readsE xs = none := fun hx => reads_none_out (by rw [h1]; exact hx)
  have hEnd : 0 ≤ cn → cn ≤ 10000 → readsE xs = if ((r1.efs cn.toNat).1.all Ef.right && (r1.efs cn.toNat).2.done) = true then some (r1.efs cn.toNat).1 else none := fun a b => by
    have := reads_end (xs := xs) (by rw [h1]; exact a) (by rw [h1]; exact b)
    rw [h1, h2] at this
    exact this
  have HNW := Lib.hid hNW
  have HOUT := Lib.hid hOut
  have HEND := Lib.hid hEnd
  have HC := Lib.hid hc
  clear h1 h2 hNW hOut hEnd hc
  go_enter Tryz.func72, Tryz.ntmps72
  go_wp2_with fail
  refine (newReader w A n c xs h hn hA).mono ?_
  rintro e w1 ⟨g, rfl, hg1, hr1, hb1⟩
  have HR1 := Lib.hid hr1
  have HB1 := Lib.hid hb1
  clear hr1 hb1 h hA hn
  go_wp2_with fail
  refine (rdInt _ _ _ _ HR1.out).mono ?_
  rintro e w2 ⟨rfl, hr2, hk2⟩
  rw [HC.out] at hr2 ⊢
  have H2 : Hid (RdRow 227 w g g w2.heap.size r1 (.slice none 0 0) [] w2) :=
    ⟨HB1.out.trans (hk2.below HB1.out.size fun i _ hi => by simp only [But]; omega), hr2, own_nil _ _, hr2.lt, Nat.le_refl _, hg1⟩
  clear hr2 hk2 HC HR1 HB1
  go_wp2_with fail
  refine (withinE cn 0 10000 _).mono ?_
  rintro e w3 ⟨rfl, rfl⟩
  by_cases hin : 0 ≤ cn ∧ cn ≤ 10000
  rotate_left
  · have hb : (decide (0 ≤ cn) && decide (cn ≤ 10000)) = false := in_no hin
    have he := readL_none (HOUT.out hin)
    have HE := Lib.hid he
    rw [hb]
    clear hb he hin
    go_wp2_with fail
    go_ret2
    exact ⟨_, retT HE.out.2, by rw [HE.out.1]; exact own_nil _ _, H2.out.bel⟩
  obtain ⟨hc0, hc1⟩ := hin
  have hb : (decide (0 ≤ cn) && decide (cn ≤ 10000)) = true := by rw [decide_eq_true hc0, decide_eq_true hc1]; rfl
  rw [hb]
  clear hb HOUT
  obtain ⟨N, rfl⟩ := Int.eq_ofNat_of_zero_le hc0
  rw [Int.toNat_natCast] at HNW HEND
  have hN : N ≤ 10000 := by omega
  generalize w2.heap.size = b0 at *
  go_wp2_with fail
  go_loopg [6, 16] N (fun k v i wr => ReadRel w g b0 r1 N k v i wr)
  case atStart => exact ⟨0, by omega, rfl, H2.out, rfl⟩
  case round =>
    obtain ⟨j, hj, rfl, hrow, hall⟩ := hrel
    have HJ := Lib.hid hj
    have HR := Lib.hid hrow
    have HA := Lib.hid hall
    clear hj hrow hall H2
    by_cases hlt : j < N
    · have hst : r1.efs (j + 1) = ((r1.efs j).1 ++ [(r1.efs j).2.efV], (r1.efs j).2.efR) := rfl
      have hlen := efs_len r1 j
      have hnw := HNW.out j hlt
      have hst1 : (r1.efs (j + 1)).1 = (r1.efs j).1 ++ [(r1.efs j).2.efV] := rfl
      have hst2 : (r1.efs (j + 1)).2 = (r1.efs j).2.efR := rfl
      generalize hl : (r1.efs j).1 = l at *
      generalize hr : (r1.efs j).2 = r at *
      have hnx := fun (w : World) (g B : Nat) (h : ReaderAt 227 w g B r) => nextE h
      generalize r.efV = e at *
      generalize r.efR = r' at *
      have HNX := Lib.hid hnx
      have HRI := Lib.hid (rightE_ e)
      have HST1 := Lib.hid hst1
      have HST2 := Lib.hid hst2
      have HNWJ := Lib.hid hnw
      have HLEN := Lib.hid hlen
      generalize hz : e.right = z at *
      have HZ := Lib.hid hz
      clear hst hst1 hst2 hnx hnw hl hr hlen hz
      obtain ⟨k, o, ky, v, n', l', t, ⟨i, p, y, cl, cr, bd⟩⟩ := e
      go_wp2_with fail
      refine (HNX.out _ _ _ HR.out.rd).mono ?_
      rintro e w4 ⟨rfl, hr4, hk4⟩
      have HR4 := Lib.hid (HR.out.read hr4 hk4)
      have HX4 := Lib.hid (Blk.new w4 46 (Ef.cells ⟨k, o, ky, v, n', l', t, ⟨i, p, y, cl, cr, bd⟩⟩))
      have HAL := Lib.hid (alloc_below w4 (.cells (Ef.cells ⟨k, o, ky, v, n', l', t, ⟨i, p, y, cl, cr, bd⟩⟩) 46))
      clear hr4 hk4 HR HNX
      go_wp2_with fail
      refine (HRI.out _).mono ?_
      rintro e w5 ⟨rfl, hb5⟩
      have HR5 := Lib.hid ((HR4.out.next HAL.out).next hb5)
      have hx5 := HX4.out.below hb5 HX4.out.lt
      clear hb5 HR4 HX4 HAL HRI
      cases z
      · have he := readL_none (HNWJ.out rfl)
        have HE := Lib.hid he
        clear he hx5
        go_wp2_with fail
        go_ret2
        exact ⟨_, retT HE.out.2, by rw [HE.out.1]; exact own_nil _ _, HR5.out.bel⟩
      obtain ⟨q0, q1, q2, q3, q4, q5, q6, q7, q8, q9, q10, q11, q12⟩ := thir_of hx5
      simp only at q0 q1 q2 q3 q4 q5 q6 q7 q8 q9 q10 q11 q12
      obtain ⟨A6, n6, c6, w6, hap, ho6, hb6⟩ := append_one HR5.out.own HR5.out.b0s (by have := HLEN.out; omega) ⟨k, o, ky, v, n', l', t, ⟨i, p, y, cl, cr, bd⟩⟩
      have HR6 := Lib.hid (HR5.out.grow ho6 hb6)
      clear hx5 ho6 hb6 HR5
      go_wp2_with (at_builtin; refine wpList_append_run rfl (.tmp 23) (.tmp 25) 37 37 rfl _ _ rfl rfl hap ?_)
      go_roundg (N - (j + 1))
      case measure => have := HJ.out; omega
      case rel => exact ⟨j + 1, by omega, by go_num, by rw [HST1.out, HST2.out]; exact HR6.out, by rw [HST1.out, List.all_append, HA.out]; simp [HZ.out]⟩
    · obtain rfl : j = N := by have := HJ.out; omega
      have hend := HEND.out (by omega) (by omega)
      rw [HA.out, Bool.true_and] at hend
      generalize (r1.efs j).1 = l at *
      generalize (r1.efs j).2 = r at *
      have HE := Lib.hid hend
      clear hend
      go_wp2_with fail
      refine (rdDone _ _ _ _ HR.out.rd).mono ?_
      rintro e w6 ⟨rfl, rfl⟩
      generalize r.done = d at *
      cases d
      · have he := readL_none (xs := xs) (by rw [HE.out]; rfl)
        have HE2 := Lib.hid he
        clear he
        go_wp2_with fail
        go_ret2
        exact ⟨_, retT HE2.out.2, by rw [HE2.out.1]; exact own_nil _ _, HR.out.bel⟩
      · have he := readL_some (xs := xs) (l := l) (by rw [HE.out]; rfl)
        have HE2 := Lib.hid he
        clear he
        go_wp2_with fail
        go_ret2
        exact ⟨_, retT HE2.out.2, by rw [HE2.out.1]; exact own_base HR.out.own (Nat.le_trans HR.out.wg (Nat.le_of_lt HR.out.gb)), HR.out.bel⟩
end Go.Proofs.YtjfoflbaoceemaaGreat
namespace Go.Proofs.YtjfoflbaoceemaaGreat
def Sim (low : Bool) (r' r : Rd) : Prop := (low = false ∧ r' = r) ∨ (r.bad = true ∧ (low = true ∨ r'.bad = true))
theorem Sim.refl (r : Rd) : Sim false r r := .inl ⟨rfl, rfl⟩
theorem Sim.map {s : Rd → Rd} (hs : ∀ r : Rd, r.bad = true → (s r).bad = true) {low : Bool} {r' r : Rd} (h : Sim low r' r) : Sim low (s r') (s r) := by
  rcases h with ⟨rfl, rfl⟩ | ⟨hb, h⟩
  · exact .inl ⟨rfl, rfl⟩
  · exact .inr ⟨hs _ hb, h.imp id (hs _)⟩
theorem Sim.eq {low : Bool} {r' r : Rd} (h : Sim low r' r) (hb : r.bad = false) : low = false ∧ r' = r := by
  rcases h with h | ⟨h, _⟩
  · exact h
  · rw [hb] at h; cases h
theorem Sim.dead {low : Bool} {r' r : Rd} (h : Sim low r' r) (hb : r.bad = true) : low = true ∨ r'.bad = true := by
  rcases h with ⟨_, rfl⟩ | ⟨_, h⟩
  · exact .inr hb
  · exact h
theorem Sim.bad {low : Bool} {r' r : Rd} (h : Sim low r' r) (hb : r'.bad = true) : r.bad = true := by
  rcases h with ⟨_, rfl⟩ | ⟨h, _⟩
  · exact hb
  · exact h
structure Got (a b : Rd) (k : Nat) : Prop where
  le : b.rest.length ≤ a.rest.length
  ok : b.bad = false → a.bad = false ∧ b.rest.length + k ≤ a.rest.length
theorem Got.trans {a b c : Rd} {k m : Nat} (h : Got a b k) (g : Got b c m) : Got a c (k + m) :=
  ⟨Nat.le_trans g.le h.le, fun hc => by
    obtain ⟨h1, h2⟩ := g.ok hc
    obtain ⟨h3, h4⟩ := h.ok h1
    exact ⟨h3, by omega⟩⟩
theorem Got.weak {a b : Rd} {k m : Nat} (h : Got a b k) (hm : m ≤ k) : Got a b m := ⟨h.le, fun hb => by
  obtain ⟨h1, h2⟩ := h.ok hb
  exact ⟨h1, by omega⟩⟩
theorem got_take (r : Rd) (n : Nat) : Got r (r.take n).2 n := by
  unfold Rd.take
  by_cases h1 : r.bad = true
  · rw [if_pos h1]
    exact ⟨Nat.le_refl _, fun h => by rw [h1] at h; cases h⟩
  · rw [if_neg h1]
    by_cases h2 : r.rest.length < n
    · rw [if_pos h2]
      exact ⟨Nat.le_refl _, fun h => by cases h⟩
    · rw [if_neg h2]
      refine ⟨by simp, fun _ => ⟨by simpa using h1, ?_⟩⟩
      simp only [List.length_drop]
      omega
theorem got_int (r : Rd) : Got r r.int.2 8 := got_take r 8
theorem got_text (r : Rd) : Got r r.text.2 2 := ((got_take r 2).trans (got_take (r.take 2).2 _)).weak (by omega)
theorem got_flag (r : Rd) : Got r r.flag.2 1 := by
  unfold Rd.flag
  have h := got_take r 1
  dsimp only
  split
  · exact ⟨h.le, fun e => by cases e⟩
  · exact h
theorem got_msg (r : Rd) : Got r r.msgR 1 := (((((((got_int r).trans (got_int _)).trans (got_int _)).trans (got_flag _)).trans (got_text _)).trans (got_text _))).weak (by omega)
theorem got_row (r : Rd) : Got r (rowR r) 1 := ((got_text r).trans (got_text _)).weak (by omega)
theorem got_head (r : Rd) : Got r (headR r) 1 := (((got_text r).trans (got_int _)).trans (got_int _)).weak (by omega)
section
variable {α : Type} {v : Rd → α} {s : Rd → Rd}
theorem list_low {low : Bool} {r' r : Rd} (hl : RdLaw v s) (h0 : Sim low r' r) (hc : r'.int.1 < 0) : Sim true r'.int.2 (cntR s r) ∧ (cntR s r).bad = true := by
  have hb : (cntR s r).bad = true := by
    rcases h0 with ⟨_, rfl⟩ | ⟨hb, _⟩
    · exact cnt_neg hc
    · exact hl.cnt.sticky r hb
  exact ⟨.inr ⟨hb, .inl rfl⟩, hb⟩
theorem list_end {β : Type} {f : β → α} (hl : RdLaw v s) {low0 low : Bool} {r' r rj : Rd} {ys : List β} {j : Nat} (h0 : Sim low0 r' r) (hc : ¬ r'.int.1 < 0) (hj : Sim low rj (manyR s r.int.2 j)) (hle : j ≤ r'.int.1.toNat) (he : j = r'.int.1.toNat ∨ rj.bad = true)
    (hv : (manyR s r.int.2 j).bad = false → ys.map f = manyL v s r.int.2 j) : Sim low rj (cntR s r) ∧ ((cntR s r).bad = false → ys.map f = cntL v s r) := by
  rcases h0 with ⟨_, rfl⟩ | ⟨hb, _⟩
  · rcases he with he | he
    · rw [cntR_of hc, cntL_of hc, ← he]
      exact ⟨hj, hv⟩
    · have hb := hl.manyS r'.int.2 j (hj.bad he) r'.int.1.toNat hle
      rw [← cntR_of hc] at hb
      exact ⟨.inr ⟨hb, .inr he⟩, fun h => by rw [hb] at h; cases h⟩
  · have hb2 := hl.cnt.sticky r hb
    refine ⟨.inr ⟨hb2, hj.dead (hl.many0 r.int.2 (int_sticky r hb) j)⟩, fun h => by rw [hb2] at h; cases h⟩
theorem sim_next {low : Bool} {r1 r2 : Rd} {j : Nat} (h : Sim low r2 (s (manyR s r1 j))) : Sim low r2 (manyR s r1 (j + 1)) := h
theorem list_next {β : Type} {f : β → α} (hl : RdLaw v s) {r1 : Rd} {ys : List β} {b : β} {j : Nat} (hv : (manyR s r1 j).bad = false → ys.map f = manyL v s r1 j) (hb : (s (manyR s r1 j)).bad = false → f b = v (manyR s r1 j)) :
    (manyR s r1 (j + 1)).bad = false → (ys ++ [b]).map f = manyL v s r1 (j + 1) := fun h => by
  have h' : (s (manyR s r1 j)).bad = false := h
  rw [List.map_append, hv (hl.ok h')]
  show _ = manyL v s r1 j ++ [v (manyR s r1 j)]
  rw [← hb h']
  rfl
end
theorem int_hi (r : Rd) : r.int.1 ≤ 9223372036854775807 := by unfold Rd.int i64of; dsimp only; omega
end Go.Proofs.YtjfoflbaoceemaaGreat
namespace Go.Proofs.YtjfoflbaoceemaaGreat
open Go.RowKit
structure MemOf {β : Type} (M : World → (Nat → Prop) → β → Prop) : Prop where
  keep : ∀ {w w' : World} {K : Nat → Prop} {Q : Nat → Obj → Prop} {b : β}, M w K b → Keep Q w w' → (∀ i o, w.heap[i]? = some o → K i → Q i o) → M w' K b
  more : ∀ {w : World} {K K' : Nat → Prop} {b : β}, M w K b → (∀ i, i < w.heap.size → K i → K' i) → M w K' b
def NoM {β : Type} : World → (Nat → Prop) → β → Prop := fun _ _ _ => True
theorem noM {β : Type} : MemOf (NoM (β := β)) := ⟨fun _ _ _ => trivial, fun _ _ => trivial⟩
theorem ocM : MemOf OcK := ⟨fun h k hq => h.keep k hq, fun h hk => h.more hk⟩
structure LsO {β : Type} (E : Enc β) (T : TypeId) (M : World → (Nat → Prop) → β → Prop) (w : World) (v : Value) (ys : List β) (wk : World) : Prop where
  bel : Below w.heap.size w wk
  own : Own wk w.heap.size E T v ys
  mem : ∀ b ∈ ys, M wk (fun i => w.heap.size ≤ i ∧ v.ownBlock ≠ some i) b
section
variable {β : Type} {E : Enc β} {T S : TypeId} {M : World → (Nat → Prop) → β → Prop} {w wk w' : World} {v : Value} {ys : List β}
end
end Go.Proofs.YtjfoflbaoceemaaGreat
namespace Go.Proofs.YtjfoflbaoceemaaGreat
open Go.RowKit
structure ShutL2 (p : Prop) : Prop where out : p
abbrev But2 (g G : Nat) : Nat → Obj → Prop := fun i _ => i ≠ g ∧ i ≠ G
structure RX (w : World) (G g B : Nat) (low : Bool) (r : Rd) : Prop where
  box : Blk w G 184 #[.pointer (some ⟨g, 0, none⟩), .bool low]
  rd : ReaderAt 227 w g B r
  lt : g < G
  few : r.rest.length ≤ 500000
theorem Keep.but2 {w w' : World} {g G : Nat} (h : Keep (But g) w w') : Keep (But2 g G) w w' := h.mono fun _ _ _ hi => hi.1
section
variable {w w' : World} {G g B : Nat} {low : Bool} {r r2 : Rd}
theorem RX.glt (h : RX w G g B low r) : G < w.heap.size := h.box.lt
theorem RX.Ble (h : RX w G g B low r) : B ≤ g := by obtain ⟨_, _, _, _, _, _, _, hB⟩ := h.rd; exact hB
theorem RX.read (h : RX w G g B low r) (hr : ReaderAt 227 w' g B r2) (hk : Keep (But g) w w') (hg : r2.rest.length ≤ r.rest.length) : RX w' G g B low r2 :=
  ⟨h.box.keep hk (by have := h.lt; simp only [But]; omega), hr, h.lt, Nat.le_trans hg h.few⟩
theorem RX.keep (h : RX w G g B low r) {Q : Nat → Obj → Prop} (k : Keep Q w w') (hq : ∀ i o, i ≤ G → Q i o) : RX w' G g B low r :=
  ⟨h.box.keep k (hq _ _ (Nat.le_refl _)), h.rd.keep k (fun i o hi => hq i o (by have := h.lt; have := h.Ble; omega)), h.lt, h.few⟩
theorem RX.below (h : RX w G g B low r) (k : Below w.heap.size w w') : RX w' G g B low r :=
  h.keep (Q := fun _ _ => True) (Keep.of_below k) fun _ _ _ => trivial
theorem RX.cells (h : RX w G g B low r) : w.cell? ⟨G, 0, none⟩ = some (.pointer (some ⟨g, 0, none⟩)) ∧ w.cell? ⟨G, 1, none⟩ = some (.bool low) ∧ w.frozen? ⟨G, 1, none⟩ = false := ⟨h.box.cell 0, h.box.cell 1, h.box.frozen 1⟩
theorem RX.set (h : RX w G g B low r) : RX (w.setCell ⟨G, 1, none⟩ (.bool true)) G g B true r ∧ Keep (But2 g G) w (w.setCell ⟨G, 1, none⟩ (.bool true)) := by
  have hk : Keep (But G) w (w.setCell ⟨G, 1, none⟩ (.bool true)) := (Keep.refl w).setCell (fun o _ hn => hn rfl) _
  refine ⟨⟨?_, h.rd.keep hk (fun i o hi => by have := h.lt; have := h.Ble; simp only [But]; omega), h.lt, h.few⟩, hk.mono fun _ _ _ hi => hi.2⟩
  have := h.box.set_ 1 (.bool true)
  simpa using this
end
def ElemP {α β : Type} (val : β → Value) (f : β → α) (M : World → (Nat → Prop) → β → Prop) (v : Rd → α) (s : Rd → Rd) (G g B : Nat) (r' r : Rd) (W : World) (e : Ending) (w' : World) : Prop :=
  ∃ b low2 r2, e = .returned (val b) ∧ RX w' G g B low2 r2 ∧ Sim low2 r2 (s r) ∧ ((s r).bad = false → f b = v r) ∧ M w' (fun i => W.heap.size ≤ i) b ∧ Keep (But2 g G) W w' ∧ Got r' r2 1
def ElemOk (fn : Nat) {α β : Type} (val : β → Value) (f : β → α) (M : World → (Nat → Prop) → β → Prop) (v : Rd → α) (s : Rd → Rd) : Prop :=
  ∀ (W : World) (G g B : Nat) (low : Bool) (r' r : Rd), RX W G g B low r' → Sim low r' r → Calls Tryz.prog fn #[.pointer (some ⟨G, 0, none⟩)] W (ElemP val f M v s G g B r' r W)
def ListP {α β : Type} (E : Enc β) (f : β → α) (M : World → (Nat → Prop) → β → Prop) (v : Rd → α) (s : Rd → Rd) (G g B : Nat) (r' r : Rd) (W : World) (e : Ending) (w' : World) : Prop :=
  ∃ (sl : Sv) (ys : List β) (low2 : Bool) (r2 : Rd), e = .returned (.slice sl.a sl.n sl.c) ∧ SlK w' (fun i => W.heap.size ≤ i) E sl ys ∧ (∀ b ∈ ys, M w' (fun i => W.heap.size ≤ i) b) ∧ RX w' G g B low2 r2 ∧ Sim low2 r2 (cntR s r) ∧ ((cntR s r).bad = false → ys.map f = cntL v s r) ∧ Keep (But2 g G) W w' ∧ Got r' r2 0
structure LsJ {β : Type} (E : Enc β) (T : TypeId) (M : World → (Nat → Prop) → β → Prop) (w : World) (G g B : Nat) (v : Value) (ys : List β) (low : Bool) (r' : Rd) (wk : World) : Prop where
  kp : Keep (But2 g G) w wk
  rx : RX wk G g B low r'
  own : Own wk w.heap.size E T v ys
  mem : ∀ b ∈ ys, M wk (fun i => w.heap.size ≤ i ∧ v.ownBlock ≠ some i) b
  lt : G < w.heap.size
section
variable {β : Type} {E : Enc β} {T S : TypeId} {M : World → (Nat → Prop) → β → Prop} {w wk w' : World} {G g B : Nat} {v : Value} {ys : List β} {low low2 : Bool} {r' r2 : Rd}
theorem LsJ.first (hk : Keep (But2 g G) w wk) (h : RX wk G g B low r') (hl : G < w.heap.size) : LsJ E T M w G g B (.slice none 0 0) [] low r' wk :=
  ⟨hk, h, own_nil _ _, fun b hb => absurd hb (by simp), hl⟩
theorem LsJ.call (hM : MemOf M) (h : LsJ E T M w G g B v ys low r' wk) (k : Keep (But2 g G) wk w') (hx : RX w' G g B low2 r2) : LsJ E T M w G g B v ys low2 r2 w' :=
  ⟨h.kp.trans k, hx, own_keep h.own fun q hq => by
    obtain ⟨hb, _, cur, hcur⟩ := own_blk h.own hq
    have h1 := h.lt
    have h2 := hx.lt
    rw [hcur]
    exact k.block q _ hcur ⟨by omega, by omega⟩, fun b hb => hM.keep (h.mem b hb) k fun i o _ hi => by
      have h1 := h.lt
      have h2 := hx.lt
      exact ⟨by omega, by omega⟩, h.lt⟩
theorem LsJ.grow (t : RowTy E T S) (hM : MemOf M) (h : LsJ E T M w G g B v ys low r' wk) {b : β} (hb : M wk (fun i => w.heap.size ≤ i ∧ v.ownBlock ≠ some i) b) (hl : ys.length ≤ 900000) {cs : Array Value} (hcs : cs.toList = E.enc b) :
    ∃ A n c W, (Builtin.append_ #[S, S] S #[v, .slice (some ⟨wk.heap.size, 0, none⟩) 1 1]).run Tryz.prog (wk.alloc (.cells cs T)) = .ok (.slice A n c) W ∧ LsJ E T M w G g B (.slice A n c) (ys ++ [b]) low r' W := by
  have ha := alloc_below wk (.cells cs T)
  have hone := one_lst E wk T b hcs
  have ho2 := own_belowE h.own ha
  have hsz : w.heap.size ≤ (wk.alloc (.cells cs T)).heap.size := Nat.le_trans h.kp.size ha.size
  have hrx := h.rx.below ha
  have hkp := h.kp.trans (Keep.of_below ha)
  have hmem : ∀ x ∈ ys ++ [b], M (wk.alloc (.cells cs T)) (fun i => w.heap.size ≤ i ∧ v.ownBlock ≠ some i) x := fun x hx => by
    refine hM.keep (Q := fun _ _ => True) ?_ (Keep.of_below ha) fun _ _ _ _ => trivial
    rcases List.mem_append.1 hx with hx | hx
    · exact h.mem x hx
    · obtain rfl := List.mem_singleton.1 hx
      exact hb
  have hlt := h.lt
  have hgG := h.rx.lt
  generalize wk.alloc (.cells cs T) = W2 at *
  obtain ⟨v', W', hap, ho', hg, hor⟩ := append_own t ho2 hone rfl 1 (by show ys.length + 1 ≤ _; omega) hsz
  obtain ⟨A, c, rfl, _⟩ := own_lst ho'
  have hkeep : Keep (fun i _ => v.ownBlock ≠ some i) W2 W' := (Keep.refl W2).grown hg fun q o e _ hn => hn e
  refine ⟨A, _, c, W', hap, ?_, ?_, ho', fun x hx => ?_, hlt⟩
  · refine hkp.grown hg fun q o e hq _ => ?_
    have h1 := (own_blk ho2 e).1
    have h2 := lt_of_some hq
    omega
  · refine hrx.keep hkeep fun i o hi e => ?_
    have h1 := (own_blk ho2 e).1
    omega
  · have h1 := hM.more (K' := fun i => (w.heap.size ≤ i ∧ v.ownBlock ≠ some i) ∧ Value.ownBlock (.slice A (ys ++ [b]).length c) ≠ some i) (hmem x hx) fun i hi hK => ⟨hK, by
      rcases hor with e | e
      · rw [e]; exact hK.2
      · rw [e]
        intro e2
        injection e2 with e2
        omega⟩
    exact hM.more (hM.keep h1 hkeep fun i o _ hK => hK.1.2) fun i _ hK => ⟨hK.1.1, hK.2⟩
theorem LsJ.done (hM : MemOf M) (h : LsJ E T M w G g B v ys low r' wk) : ∃ sl : Sv, v = sl.val ∧ SlK wk (fun i => w.heap.size ≤ i) E sl ys ∧ ∀ b ∈ ys, M wk (fun i => w.heap.size ≤ i) b := by
  obtain ⟨sl, e, hs⟩ := h.own.k
  exact ⟨sl, e, hs, fun b hb => hM.more (h.mem b hb) fun _ _ hK => hK.1⟩
theorem LsJ.ownlt (h : LsJ E T M w G g B v ys low r' wk) {i : Nat} (hi : wk.heap.size ≤ i) : v.ownBlock ≠ some i := fun e => by
  have := (own_blk h.own e).2.1
  omega
end
abbrev valR (r : Rw) : Value := .agg #[.string r.1, .string r.2]
def LsRel {α β : Type} (E : Enc β) (T : TypeId) (f : β → α) (M : World → (Nat → Prop) → β → Prop) (v : Rd → α) (s : Rd → Rd) (w : World) (G g B : Nat) (r0 r1 : Rd) (N k : Nat) (u i : Value) (wr : World) : Prop :=
  ∃ j ys low rj, j + k = N ∧ i = .int .i64 (j : Int) ∧ LsJ E T M w G g B u ys low rj wr ∧ Sim low rj (manyR s r1 j) ∧ ((manyR s r1 j).bad = false → ys.map f = manyL v s r1 j) ∧ ys.length = j ∧ Got r0 rj j ∧ j ≤ 500001
end Go.Proofs.YtjfoflbaoceemaaGreat
namespace Go.Proofs.YtjfoflbaoceemaaGreat
open Go.RowKit
abbrev put2 (w : World) (g : Nat) (a b : Value) : World := (w.setCell ⟨g, 0, none⟩ a).setCell ⟨g, 1, none⟩ b
structure RY (w : World) (T : TypeId) (cs : Array Value) (G g B : Nat) (low : Bool) (r : Rd) (wk : World) : Prop where
  kp : Keep (But2 g G) w wk
  res : Blk wk w.heap.size T cs
  rx : RX wk G g B low r
  lt : G < w.heap.size
section
variable {w wk w' : World} {T : TypeId} {cs cs' : Array Value} {G g B : Nat} {low low2 : Bool} {r r2 : Rd}
theorem RY.first (h : RX w G g B low r) (T : TypeId) (cs : Array Value) : RY w T cs G g B low r (w.alloc (.cells cs T)) :=
  ⟨Keep.of_below (alloc_below w _), Blk.new w T cs, h.below (alloc_below w _), h.glt⟩
theorem RY.call (h : RY w T cs G g B low r wk) (k : Keep (But2 g G) wk w') (hx : RX w' G g B low2 r2) : RY w T cs G g B low2 r2 w' :=
  ⟨h.kp.trans k, h.res.keep k (by have := h.lt; have := hx.lt; exact ⟨by omega, by omega⟩), hx, h.lt⟩
theorem RY.read (h : RY w T cs G g B low r wk) (hr : ReaderAt 227 w' g B r2) (k : Keep (But g) wk w') (hg : r2.rest.length ≤ r.rest.length) : RY w T cs G g B low r2 w' :=
  h.call k.but2 (h.rx.read hr k hg)
theorem RY.done (h : RY w T cs G g B low r wk) (hW : Below w.heap.size wk w') : RX w' G g B low r ∧ Keep (But2 g G) w w' :=
  ⟨h.rx.keep (Q := fun i _ => i < w.heap.size) ⟨hW.os, hW.tape, hW.output, hW.size, fun i o ho hi => (hW.block i hi).trans ho⟩ fun i o hi => by have := h.lt; show i < w.heap.size; omega,
    ⟨hW.os.trans h.kp.os, hW.tape.trans h.kp.tape, hW.output.trans h.kp.output, Nat.le_trans h.kp.size hW.size, fun i o ho hi => (hW.block i (lt_of_some ho)).trans (h.kp.block i o ho hi)⟩⟩
end
set_option maxHeartbeats 2000000 in
theorem msg_ok : ElemOk 181 Mg.val (id : Mg → Mg) NoM Rd.msg Rd.msgR := by
  intro W G g B low r' r h hs
  have H0 := ShutL2.mk (RY.first h 44 Mg.zero.cells)
  have HS := ShutL2.mk (hs.map (s := Rd.msgR) msg_sticky)
  have HEQ := ShutL2.mk fun (hb : r.msgR.bad = false) => (hs.eq (msg_law.ok hb)).2
  obtain ⟨c0, -, -⟩ := (RY.first h 44 Mg.zero.cells).rx.cells
  clear h hs
  simp only [Mg.zero] at H0 c0
  go_enter Tryz.func181, Tryz.ntmps181
  go_wp2_with fail
  refine (readM_ H0.out.rx.rd).mono ?_
  rintro e w1 ⟨rfl, hr1, hk1⟩
  have H1 := ShutL2.mk (H0.out.read hr1 hk1 (got_msg r').le)
  have HV := ShutL2.mk fun (hb : r.msgR.bad = false) => (congrArg Rd.msg (HEQ.out hb) : r'.msg = r.msg)
  have HG := ShutL2.mk (got_msg r')
  clear hr1 hk1 H0 c0 HEQ
  generalize r'.msgR = r2 at *
  generalize r'.msg = m at *
  obtain ⟨a0, a1, a2, a3, a4, a5⟩ := m
  have hres := H1.out.res
  have f0 := hres.frozen 0
  have f1 := hres.frozen 1
  have f2 := hres.frozen 2
  have f3 := hres.frozen 3
  have f4 := hres.frozen 4
  have f5 := hres.frozen 5
  have q0 := hres.cell 0
  have q1 := hres.cell 1
  have q2 := hres.cell 2
  have q3 := hres.cell 3
  have q4 := hres.cell 4
  have q5 := hres.cell 5
  simp only [List.getElem?_toArray, List.getElem?_cons_zero, List.getElem?_cons_succ] at q0 q1 q2 q3 q4 q5
  have hs := blk_store6 (a' := .int .i64 a0) (b' := .int .i64 a1) (c' := .int .i64 a2) (d' := .bool a3) (e' := .string a4) (f' := .string a5) hres
  have t0 := hs.cell 0
  have t1 := hs.cell 1
  have t2 := hs.cell 2
  have t3 := hs.cell 3
  have t4 := hs.cell 4
  have t5 := hs.cell 5
  have hd := H1.out.done (below_six (Below.refl _ _) (Nat.le_refl _) (.int .i64 a0) (.int .i64 a1) (.int .i64 a2) (.bool a3) (.string a4) (.string a5))
  have HD := ShutL2.mk hd
  clear hs hd hres H1
  go_wp2_with fail
  refine bodyPost_ret (v := .agg #[.int .i64 a0, .int .i64 a1, .int .i64 a2, .bool a3, .string a4, .string a5]) (by simp [results, Tryz.results181, go_sem, t0, t1, t2, t3, t4, t5]) rfl ?_
  exact ⟨⟨a0, a1, a2, a3, a4, a5⟩, low, r2, rfl, HD.out.1, HS.out, HV.out, trivial, HD.out.2, HG.out⟩
theorem RX.drew {w : World} {G g B : Nat} {low : Bool} {r : Rd} (h : RX w G g B low r) : RX w.drew G g B low r := ⟨h.box, h.rd, h.lt, h.few⟩
theorem RY.drew {w wk : World} {T : TypeId} {cs : Array Value} {G g B : Nat} {low : Bool} {r : Rd} (h : RY w T cs G g B low r wk) : RY w T cs G g B low r wk.drew := ⟨h.kp.drew, h.res, h.rx.drew, h.lt⟩
abbrev CG (G g : Nat) (W : World) : Prop := W.cell? ⟨G, 0, none⟩ = some (.pointer (some ⟨g, 0, none⟩))
theorem below_two {B : Nat} {w w1 : World} (h : Below B w w1) {g : Nat} (hg : B ≤ g) (a b : Value) : Below B w (put2 w1 g a b) := (h.setCell hg a).setCell hg b
theorem blk_store2 {w : World} {g : Nat} {T : TypeId} {a b : Value} (h : Blk w g T #[a, b]) (a' b' : Value) : Blk (put2 w g a' b') g T #[a', b'] := by
  have := (h.set_ 0 a').set_ 1 b'
  simpa using this
set_option maxHeartbeats 4000000 in
theorem row_ok : ElemOk 179 valR (id : Rw → Rw) NoM rowV rowR := by
  intro W G g B low r' r h hs
  have H0 := ShutL2.mk (RY.first h 143 #[.string ⟨#[]⟩, .string ⟨#[]⟩]).drew
  have HS := ShutL2.mk (hs.map (s := rowR) row_law.sticky)
  have HEQ := ShutL2.mk fun (hb : (rowR r).bad = false) => (congrArg rowV (hs.eq (row_law.ok hb)).2 : rowV r' = rowV r)
  have HG := ShutL2.mk (got_row r')
  have hS0 : ShutL2 (CG G g (W.alloc (.cells #[.string ⟨#[]⟩, .string ⟨#[]⟩] 143)).drew) := ⟨H0.out.rx.cells.1⟩
  clear h hs
  go_enter Tryz.func179, Tryz.ntmps179
  go_wp2_with fail
  go_region_held3 (fun W : World => CG G g W)
    (first | with_reducible exact hS3.out | with_reducible exact hS2.out | with_reducible exact hS1.out | with_reducible exact hS0.out)
    (first | (go_at_call 177; refine (rdText _ _ _ _ H1.out.rx.rd).mono ?_; rintro e w2 ⟨rfl, hr2, hk2⟩; have H2 := ShutL2.mk (H1.out.read hr2 hk2 (got_text _).le); have hS2 : ShutL2 (CG G g w2) := ⟨H2.out.rx.cells.1⟩; have f0 := H2.out.res.frozen 0; have f1 := H2.out.res.frozen 1; have q0 := H2.out.res.cell 0; have q1 := H2.out.res.cell 1; have hS3 : ShutL2 (CG G g (put2 w2 W.heap.size (.string ⟨r'.text.1.toArray⟩) (.string ⟨r'.text.2.text.1.toArray⟩))) := ⟨(H2.out.done (below_two (Below.refl _ _) (Nat.le_refl _) _ _)).1.cells.1⟩; clear hr2 hk2) | (go_at_call 177; refine (rdText _ _ _ _ H0.out.rx.rd).mono ?_; rintro e w1 ⟨rfl, hr1, hk1⟩; have H1 := ShutL2.mk (H0.out.read hr1 hk1 (got_text _).le); have hS1 : ShutL2 (CG G g w1) := ⟨H1.out.rx.cells.1⟩; clear hr1 hk1))
  go_wp2_with fail
  have hb2 := blk_store2 H2.out.res (.string ⟨r'.text.1.toArray⟩) (.string ⟨r'.text.2.text.1.toArray⟩)
  have t0 := hb2.cell 0
  have t1 := hb2.cell 1
  have hd := H2.out.done (below_two (Below.refl _ _) (Nat.le_refl _) (.string ⟨r'.text.1.toArray⟩) (.string ⟨r'.text.2.text.1.toArray⟩))
  have HD := ShutL2.mk hd
  clear hb2 hd
  refine bodyPost_ret (v := .agg #[.string ⟨r'.text.1.toArray⟩, .string ⟨r'.text.2.text.1.toArray⟩]) (by simp [results, Tryz.results179, go_sem, t0, t1]) rfl ?_
  exact ⟨rowV r', low, rowR r', rfl, HD.out.1, HS.out, HEQ.out, trivial, HD.out.2, HG.out⟩
end Go.Proofs.YtjfoflbaoceemaaGreat
