/- . . . . . . . -/
import Derived.Test.YtjfoflbaoceemaaGreatJ41
import Derived.Deep.LoopGhost
import Derived.Test.YtjfoflbaoceemaaGreatJ06
import Derived.Test.YtjfoflbaoceemaaGreatJ36
import Derived.Test.YtjfoflbaoceemaaGreatJ08
import Derived.Test.YtjfoflbaoceemaaGreatJ21
import Derived.Deep.RegionWith
import Derived.Deep.RegionHeld3
import Derived.Deep.DeepCutAuto
import Derived.Test.YtjfoflbaoceemaaGreatJ19
import Derived.Lib.AppendStr
set_option maxRecDepth 4000
namespace Go.Proofs.YtjfoflbaoceemaaGreat
open Go.RowKit
theorem enters_o : ∀ args w, (callFunc 128 args).run Tryz.prog w = .ok (.enter 128 args) w := enters_of Tryz.func128 (by kernel_rfl) rfl
set_option maxHeartbeats 2000000 in
theorem list_o_neg {W : World} {G g B : Nat} {low : Bool} {r' r : Rd} (h : RX W G g B low r') (hs : Sim low r' r) (hc : r'.int.1 < 0) :
    Calls Tryz.prog 127 #[.pointer (some ⟨G, 0, none⟩), .func (.func 128) #[.pointer (some ⟨G, 0, none⟩)] #[]] W (ListP eO Oc.o OcK obV deadR G g B r' r W) := by
  have H := ShutL2.mk h
  obtain ⟨hlow1, hlow2⟩ := list_low (v := obV) (s := deadR) ob_law hs hc
  have HL := ShutL2.mk hlow1
  have HL2 := ShutL2.mk hlow2
  obtain ⟨c0, -, -⟩ := h.cells
  clear h hs hlow1 hlow2
  go_enter Tryz.func127, Tryz.ntmps127
  go_wp2_with fail
  refine (rdInt _ _ _ _ H.out.rd).mono ?_
  rintro e w1 ⟨rfl, hr1, hk1⟩
  have H1 := ShutL2.mk (H.out.read hr1 hk1 (got_int r').le)
  have K1 := ShutL2.mk (hk1.but2 (G := G))
  obtain ⟨d0, d1, d2⟩ := H1.out.cells
  obtain ⟨c, hcc⟩ : ∃ c, r'.int.1 = c := ⟨_, rfl⟩
  rw [hcc] at hc ⊢
  have H2 := ShutL2.mk H1.out.set
  clear hr1 hk1 hcc c0
  go_wp2_with fail
  generalize w1.setCell ⟨G, 1, none⟩ (.bool true) = w2 at *
  go_loopg [6, 7] 0 (fun k v i wr => v = .slice none 0 0 ∧ i = .int .i64 0 ∧ wr = w2)
  case atStart => exact ⟨rfl, rfl, rfl⟩
  case round =>
    obtain ⟨rfl, rfl, rfl⟩ := hrel
    go_wp2_with fail
    go_ret
    exact ⟨⟨none, 0, 0⟩, [], true, r'.int.2, rfl, SlK.none_ _ _ _, fun b hb => absurd hb (by simp), H2.out.1, HL.out, (fun hb => by rw [HL2.out] at hb; cases hb), K1.out.trans H2.out.2, (got_int r').weak (by omega)⟩
set_option maxHeartbeats 4000000 in
theorem list_o_pos (hE : ElemOk 128 Oc.val Oc.o OcK obV deadR) {W : World} {G g B : Nat} {low : Bool} {r' r : Rd} (h : RX W G g B low r') (hs : Sim low r' r) (hc : 0 ≤ r'.int.1) :
    Calls Tryz.prog 127 #[.pointer (some ⟨G, 0, none⟩), .func (.func 128) #[.pointer (some ⟨G, 0, none⟩)] #[]] W (ListP eO Oc.o OcK obV deadR G g B r' r W) := by
  have H := ShutL2.mk h
  have HS := ShutL2.mk hs
  have HC := ShutL2.mk hc
  have HS1 := ShutL2.mk (hs.map (s := fun r => r.int.2) int_sticky)
  have HEL := ShutL2.mk hE
  have hfew := h.few
  have HFEW := ShutL2.mk hfew
  obtain ⟨c0, -, -⟩ := h.cells
  have eg := enters_o
  clear h hs hE hfew
  go_enter Tryz.func127, Tryz.ntmps127
  go_wp2_with fail
  refine (rdInt _ _ _ _ H.out.rd).mono ?_
  rintro e w1 ⟨rfl, hr1, hk1⟩
  have hlj : LsJ eO 77 OcK W G g B (.slice none 0 0) [] low r'.int.2 w1 := LsJ.first (hk1.but2 (G := G)) (H.out.read hr1 hk1 (got_int r').le) H.out.glt
  have HLJ := ShutL2.mk hlj
  have HHI := ShutL2.mk (int_hi r')
  have HGI := ShutL2.mk ((got_int r').weak (m := 0) (by omega))
  have HEND := ShutL2.mk fun (low2 : Bool) (rj : Rd) (ys : List Oc) (j : Nat) (hj : Sim low2 rj (manyR deadR r.int.2 j)) (hle : j ≤ r'.int.1.toNat) (he : j = r'.int.1.toNat ∨ rj.bad = true) (hv : (manyR deadR r.int.2 j).bad = false → ys.map Oc.o = manyL obV deadR r.int.2 j) =>
    list_end (f := Oc.o) ob_law HS.out (Int.not_lt.2 HC.out) hj hle he hv
  have hcc := HC.out
  clear hr1 hk1 hlj c0 H HS HC hc
  generalize r'.int.2 = r1' at *
  generalize r.int.2 = r1 at *
  generalize r'.int.1 = c at *
  obtain ⟨N, rfl⟩ := Int.eq_ofNat_of_zero_le hcc
  rw [Int.toNat_natCast] at HEND
  have hNN : N ≤ 9223372036854775807 := by have := HHI.out; omega
  go_wp2_with fail
  go_loopg [6, 7] N (fun k v i wr => LsRel eO 77 Oc.o OcK obV deadR W G g B r' r1 N k v i wr)
  case atStart => exact ⟨0, [], low, r1', by omega, rfl, HLJ.out, HS1.out, fun _ => rfl, rfl, HGI.out, by omega⟩
  case round =>
    obtain ⟨j, ys, lw, rj, hj, rfl, hls, hsim, hv, hln, hgot, hjb⟩ := hrel
    have HJ := ShutL2.mk hj
    have HLS := ShutL2.mk hls
    have HSIM := ShutL2.mk hsim
    have HV := ShutL2.mk hv
    have HLN := ShutL2.mk hln
    have HGOT := ShutL2.mk hgot
    obtain ⟨d0, -, -⟩ := hls.rx.cells
    clear hj hls hsim hv hln hgot HLJ
    by_cases hlt : j < N
    · go_wp2_with fail
      refine (rdFailed _ _ _ _ HLS.out.rx.rd).mono ?_
      rintro e w5 ⟨rfl, rfl⟩
      cases hbad : rj.bad
      · have hg2 := HGOT.out.ok hbad
        have hj5 : j ≤ 500000 := by have := HFEW.out; omega
        have hcall := HEL.out _ G g B lw rj (manyR deadR r1 j) HLS.out.rx HSIM.out
        have HCALL := ShutL2.mk hcall
        clear hcall hg2 hbad
        go_wp2_with fail
        go_at_fn 128
        refine HCALL.out.mono ?_
        rintro e w6 ⟨b, lw2, r2, rfl, hx6, hs6, hv6, hm6, hk6, hg6⟩
        have hls6 := HLS.out.call ocM hk6 hx6
        obtain ⟨A7, n7, c7, w7, hap, hls7⟩ := hls6.grow tyO ocM (b := b) (cs := b.cells) (ocM.more hm6 fun i _ hi => ⟨Nat.le_trans HLS.out.kp.size hi, HLS.out.ownlt hi⟩) (by have := HLN.out; omega) rfl
        have HLS7 := ShutL2.mk hls7
        have HS6 := ShutL2.mk (sim_next (s := deadR) hs6)
        have HV7 := ShutL2.mk (list_next ob_law HV.out hv6)
        have HG7 := ShutL2.mk (HGOT.out.trans hg6)
        clear hx6 hs6 hv6 hm6 hk6 hg6 hls6 hls7 HCALL HLS HSIM HV HGOT d0
        obtain ⟨⟨b0, b1, b2, b3, b4, b5⟩, ⟨rA, rn, rc⟩, ⟨mA, mn, mc⟩, ⟨dA, dn, dc⟩⟩ := b
        go_wp2_with (at_builtin; refine wpList_append_run rfl (.tmp 31) (.tmp 34) 52 52 rfl _ _ rfl rfl hap ?_)
        go_roundg (N - (j + 1))
        case measure => have := HJ.out; omega
        case rel => exact ⟨j + 1, ys ++ [⟨⟨b0, b1, b2, b3, b4, b5⟩, ⟨rA, rn, rc⟩, ⟨mA, mn, mc⟩, ⟨dA, dn, dc⟩⟩], lw2, r2, by omega, by go_num, HLS7.out, HS6.out, HV7.out, by rw [List.length_append, HLN.out]; rfl, HG7.out, by omega⟩
      · obtain ⟨e1, e2⟩ := HEND.out lw rj ys j HSIM.out (by omega) (.inr hbad) HV.out
        obtain ⟨sl, rfl, hsl, hmm⟩ := HLS.out.done ocM
        have HE1 := ShutL2.mk e1
        have HE2 := ShutL2.mk e2
        have HSL := ShutL2.mk hsl
        have HMM := ShutL2.mk hmm
        clear e1 e2 hsl hmm
        go_wp2_with fail
        go_ret
        exact ⟨sl, ys, lw, rj, rfl, HSL.out, HMM.out, HLS.out.rx, HE1.out, HE2.out, HLS.out.kp, HGOT.out.weak (by omega)⟩
    · obtain ⟨e1, e2⟩ := HEND.out lw rj ys j HSIM.out (by have := HJ.out; omega) (.inl (by have := HJ.out; omega)) HV.out
      obtain ⟨sl, rfl, hsl, hmm⟩ := HLS.out.done ocM
      have HE1 := ShutL2.mk e1
      have HE2 := ShutL2.mk e2
      have HSL := ShutL2.mk hsl
      have HMM := ShutL2.mk hmm
      clear e1 e2 hsl hmm
      go_wp2_with fail
      go_ret
      exact ⟨sl, ys, lw, rj, rfl, HSL.out, HMM.out, HLS.out.rx, HE1.out, HE2.out, HLS.out.kp, HGOT.out.weak (by omega)⟩
theorem list_o (hE : ElemOk 128 Oc.val Oc.o OcK obV deadR) {W : World} {G g B : Nat} {low : Bool} {r' r : Rd} (h : RX W G g B low r') (hs : Sim low r' r) :
    Calls Tryz.prog 127 #[.pointer (some ⟨G, 0, none⟩), .func (.func 128) #[.pointer (some ⟨G, 0, none⟩)] #[]] W (ListP eO Oc.o OcK obV deadR G g B r' r W) := by
  by_cases hc : r'.int.1 < 0
  · exact list_o_neg h hs hc
  · exact list_o_pos hE h hs (Int.not_lt.1 hc)
end Go.Proofs.YtjfoflbaoceemaaGreat
namespace Go.Proofs.YtjfoflbaoceemaaGreat
open Go.RowKit
theorem blk_rb {w : World} {g B : Nat} {xs : List UInt8} (h : Blk w g 5 (cellsB xs).toArray) (hB : g < B) : RB w B (some ⟨g, 0, none⟩) xs.length xs :=
  ⟨rfl, fun _ => ⟨g, 0, rfl, hB, fun j x hx => by rw [h.cell]; simp [cellsB, hx]⟩⟩
abbrev Lo (N : Nat) : Nat → Obj → Prop := fun i _ => i < N
end Go.Proofs.YtjfoflbaoceemaaGreat
namespace Go.Proofs.YtjfoflbaoceemaaGreat
open Go.RowKit
abbrev OwnBy (w : World) (base : Nat) (v : Value) (bs : List UInt8) : Prop := w.ownsRow base 5 1 v bs.length (cellsB bs)
theorem ownBy_lt {w : World} {base g : Nat} {v : Value} {bs : List UInt8} (h : OwnBy w base v bs) (hg : v.ownBlock = some g) : base ≤ g ∧ g < w.heap.size := by
  rcases h.2 with ⟨rfl, _⟩ | ⟨g', cap, cur, rfl, hb, hh, _⟩
  · cases hg
  · simp only [Value.ownBlock, Option.some.injEq] at hg
    subst hg
    exact ⟨hb, lt_of_some hh⟩
theorem ownBy_below {w w' : World} {base : Nat} {v : Value} {bs : List UInt8} (h : OwnBy w base v bs) (k : Below w.heap.size w w') : OwnBy w' base v bs := by
  refine ⟨h.1, ?_⟩
  rcases h.2 with h0 | ⟨g, cap, cur, e, hb, hh, hr⟩
  · exact .inl h0
  · exact .inr ⟨g, cap, cur, e, hb, (k.block g (lt_of_some hh)).trans hh, hr⟩
theorem ownBy_blk {w : World} {base g : Nat} {bs : List UInt8} (h : Blk w g 5 (cellsB bs).toArray) (hb : base ≤ g) (hm : bs.length ≤ maxLen) : OwnBy w base (.slice (some ⟨g, 0, none⟩) bs.length bs.length) bs := by
  refine ⟨by rw [cellsB_length, Nat.mul_one], .inr ⟨g, bs.length, (cellsB bs).toArray, rfl, hb, h, Nat.le_refl _, hm, ?_, ?_⟩⟩
  · simp [cellsB]
  · rw [List.take_of_length_le (by simp [cellsB])]
theorem append_by {w w1 : World} {base : Nat} {v : Value} {ys xs : List UInt8} {g : Nat} (ho : OwnBy w base v ys) (hb : base ≤ w.heap.size) (k : Below w.heap.size w w1) (hx : Blk w1 g 5 (cellsB xs).toArray) (hl : ys.length + xs.length ≤ 1000000) :
    ∃ A n c W, (Builtin.append_ #[42, 42] 42 #[v, .slice (some ⟨g, 0, none⟩) xs.length xs.length]).run Tryz.prog w1 = .ok (.slice A n c) W ∧ OwnBy W base (.slice A n c) (ys ++ xs) ∧ Below base w W ∧
      (∀ i, w.heap.size ≤ i → i < w1.heap.size → W.heap[i]? = w1.heap[i]?) := by
  have ho1 := ownBy_below ho k
  obtain ⟨v', W, hap, ho', hg, _⟩ := append_rb ho1 (blk_rb hx hx.lt) xs.length hl (Nat.le_trans hb k.size)
  rw [← List.length_append] at ho'
  obtain ⟨A, c, rfl, _⟩ := own_rb ho'
  refine ⟨A, _, c, W, hap, ho', (k.mono hb).grown hg (Nat.le_trans hb k.size) fun g hg => (ownBy_lt ho1 hg).1, fun i h1 h2 => ?_⟩
  refine hg.block i h2 fun e => ?_
  have := (ownBy_lt ho e.symm).2
  omega
theorem ownBy_slice {w : World} {base : Nat} {v : Value} {bs : List UInt8} (h : OwnBy w base v bs) : ∃ A c, v = .slice A bs.length c ∧ RB w w.heap.size A bs.length bs ∧ bs.length ≤ c ∧ c ≤ maxLen ∧ (A = none → c = 0) := by
  obtain ⟨A, c, rfl, h1, h2, h3⟩ := own_rb h
  refine ⟨A, c, rfl, h1, h2, h3, fun e => ?_⟩
  subst e
  rcases h.2 with ⟨e, _⟩ | ⟨g, cap, cur, e, _⟩
  · injection e
  · injection e with e; cases e
end Go.Proofs.YtjfoflbaoceemaaGreat
namespace Go.Proofs.YtjfoflbaoceemaaGreat
open Go.RowKit
def BytesN : Prop := ∀ (w : World) (K : Nat → Prop) (s : Sv) (xs : List Oc), ObsAt w K s xs → (∀ x ∈ xs, x.o.short 450) → (∀ x ∈ xs, x.o.fits) → (∀ x ∈ xs, ∀ r ∈ x.o.rows, r.1.size ≤ maxLen) → ∀ next : Int, (RightD next (obsOf xs) → (imageB next (obsOf xs)).length ≤ 500000) →
  Calls Tryz.prog 75 #[.agg #[.int .i64 next, .slice s.a s.n s.c]] w fun e w' => (∃ v, e = .returned v ∧ OwnBy w' w.heap.size v (imgS next (obsOf xs))) ∧ Below w.heap.size w w'
def ReadPN (w : World) (p : Option (Int × List Ob)) (e : Ending) (w' : World) : Prop :=
  ∃ (next : Int) (s : Sv) (xs : List Oc) (no : Int), e = .returned (.tuple #[.agg #[.int .i64 next, .slice s.a s.n s.c], .int .i64 no]) ∧ ObsAt w' (fun i => w.heap.size ≤ i) s xs ∧ (p = none → no = 11) ∧ (∀ q, p = some q → no = 0 ∧ next = q.1 ∧ obsOf xs = q.2)
def ReadN : Prop := ∀ (w : World) (B n c : Nat) (A : Option Addr) (bs : List UInt8), RB w B A n bs → B ≤ w.heap.size → n ≤ 500000 → ((objsR ⟨bs, false⟩).done = true → ∀ o ∈ objsV ⟨bs, false⟩, o.short 450 ∧ o.fits) → (A = none → c = 0) → n ≤ c → c ≤ maxLen →
  Calls Tryz.prog 69 #[.slice A n c] w fun e w' => ReadPN w (readI bs) e w' ∧ Below w.heap.size w w'
end Go.Proofs.YtjfoflbaoceemaaGreat
namespace Go.Proofs.YtjfoflbaoceemaaGreat
open Go.RowKit
set_option maxHeartbeats 400000 in
theorem wFlag (w : World) (g : Nat) (bs : List UInt8) (b : Bool) (hw : WriterAt w g bs) (hn : bs.length ≤ 900000) :
    Calls Tryz.prog 154 #[.pointer (some ⟨g, 0, none⟩), .bool b] w fun e w' => e = .returned (.tuple #[]) ∧ WriterAt w' g (bs ++ encFlag b) ∧ Keep (But g) w w' := by
  cases b
  all_goals
    go_enter Tryz.func154, Tryz.ntmps154
    go_wp2_with fail
    refine (add_ w g bs _ hw (by rw [show (ByteArray.mk #[_]).size = 1 from rfl]; omega)).mono ?_
    rintro e w2 ⟨rfl, hw2, hk2⟩
    go_wp2
    go_end0
    exact ⟨rfl, hw2, hk2⟩
end Go.Proofs.YtjfoflbaoceemaaGreat
namespace Go.Proofs.YtjfoflbaoceemaaGreat
open Go.RowKit
theorem writer_new (w : World) : WriterAt (w.alloc (.cells #[.pointer none, .int .i64 0] 151)) w.heap.size [] := ⟨[], .pointer none, Blk.new w 151 _, rfl, rfl⟩
theorem Keep.lo {N g : Nat} {a b : World} (h : Keep (But g) a b) (hN : N ≤ g) : Keep (Lo N) a b := h.mono fun i _ _ hi => by simp only [But, Lo] at *; omega
theorem Keep.end_ {a b : World} (h : Keep (Lo a.heap.size) a b) : Below a.heap.size a b := h.below (Nat.le_refl _) fun _ _ hi => hi
structure WM (w : World) (m : Mg) (bs : List UInt8) (wk : World) : Prop where
  lo : Keep (Lo w.heap.size) w wk
  box : Blk wk w.heap.size 44 m.cells
  wr : WriterAt wk (w.heap.size + 1) bs
section
variable {w wk w' : World} {m : Mg} {bs bs' : List UInt8}
theorem WM.first (w : World) (m : Mg) : WM w m [] ((w.alloc (.cells m.cells 44)).alloc (.cells #[.pointer none, .int .i64 0] 151)) := by
  have h1 := alloc_below w (.cells m.cells 44)
  refine ⟨Keep.of_below (h1.alloc h1.size _), (Blk.new w 44 m.cells).alloc _, ?_⟩
  have := writer_new (w.alloc (.cells m.cells 44))
  rw [show (w.alloc (.cells m.cells 44)).heap.size = w.heap.size + 1 by simp] at this
  exact this
theorem WM.next (h : WM w m bs wk) (hw : WriterAt w' (w.heap.size + 1) bs') (hk : Keep (But (w.heap.size + 1)) wk w') : WM w m bs' w' :=
  ⟨h.lo.trans (hk.lo (by omega)), h.box.keep hk (by simp only [But]; omega), hw⟩
end
set_option maxHeartbeats 1000000 in
theorem mbytes_ (m : Mg) (hc : m.corr.size ≤ 9000) (hb : m.body.size ≤ 9000) (w : World) : Calls Tryz.prog 97 #[m.val] w
    fun e w' => ∃ g, e = .returned (.slice (some ⟨g, 0, none⟩) m.bytes.length m.bytes.length) ∧ Blk w' g 5 (cellsB m.bytes).toArray ∧ w.heap.size ≤ g ∧ Below w.heap.size w w' := by
  obtain ⟨z, hz⟩ : ∃ z, m.bytes = z := ⟨_, rfl⟩
  have HM := Lib.hid (WM.first w m)
  have HZ := Lib.hid hz
  have hl := m.onto_len [] hc hb
  rw [hz]
  clear hz
  have hlz : z.length ≤ 20000 := by
    have h1 : m.onto [] = z := HZ.out
    have h2 : ([] : List UInt8).length = 0 := rfl
    rw [h1] at hl
    omega
  have HLZ := Lib.hid hlz
  clear hl hlz
  simp only [Mg.bytes, Mg.onto] at HZ
  obtain ⟨i, p, r, cl, c, b⟩ := m
  simp only at hc hb HZ
  have hlc : (encText c.data.toList).length ≤ 9002 := by
    have h1 := List.length_take_le' 65535 c.data.toList
    have h2 : c.data.toList.length = c.size := rfl
    rw [encText_len]
    omega
  have HLC := Lib.hid hlc
  clear hlc
  go_enter Tryz.func97, Tryz.ntmps97
  go_wp2_with fail
  simp only [Mg.cells] at HM
  refine (wInt _ _ _ i HM.out.wr (by simp)).mono ?_
  rintro e w1 ⟨rfl, hw1, hk1⟩
  have H1 := Lib.hid (HM.out.next hw1 hk1)
  have q0 := H1.out.box.cell 1
  clear hw1 hk1 HM
  go_wp2_with fail
  refine (wInt _ _ _ p H1.out.wr (by simp [encInt_len])).mono ?_
  rintro e w2 ⟨rfl, hw2, hk2⟩
  have H2 := Lib.hid (H1.out.next hw2 hk2)
  have q0 := H2.out.box.cell 2
  clear hw2 hk2 H1
  go_wp2_with fail
  refine (wInt _ _ _ r H2.out.wr (by simp [encInt_len])).mono ?_
  rintro e w3 ⟨rfl, hw3, hk3⟩
  have H3 := Lib.hid (H2.out.next hw3 hk3)
  have q0 := H3.out.box.cell 3
  clear hw3 hk3 H2
  go_wp2_with fail
  refine (wFlag _ _ _ cl H3.out.wr (by simp [encInt_len])).mono ?_
  rintro e w4 ⟨rfl, hw4, hk4⟩
  have H4 := Lib.hid (H3.out.next hw4 hk4)
  have q0 := H4.out.box.cell 4
  clear hw4 hk4 H3
  go_wp2_with fail
  refine (wText _ _ _ c H4.out.wr (by simp [encInt_len, encFlag_len]) (by omega)).mono ?_
  rintro e w5 ⟨rfl, hw5, hk5⟩
  have H5 := Lib.hid (H4.out.next hw5 hk5)
  have q0 := H5.out.box.cell 5
  clear hw5 hk5 H4
  go_wp2_with fail
  refine (wText _ _ _ b H5.out.wr (by have := HLC.out; simp [encInt_len, encFlag_len]; omega) (by omega)).mono ?_
  rintro e w6 ⟨rfl, hw6, hk6⟩
  have H6 := Lib.hid (H5.out.next hw6 hk6)
  clear hw6 hk6 H5 q0
  go_wp2_with fail
  rw [HZ.out] at H6
  refine (wBytes _ _ _ H6.out.wr (by have := HLZ.out; omega)).mono ?_
  rintro e w7 ⟨rfl, hb7, hB7⟩
  have HB7 := Lib.hid hb7
  have HS := Lib.hid H6.out.lo.size
  have HE := Lib.hid ((H6.out.lo.trans (Keep.of_below hB7)).end_)
  clear hb7 hB7 H6
  go_wp2_with fail
  go_ret
  exact ⟨w6.heap.size, rfl, HB7.out, HS.out, HE.out⟩
section
variable {w wk w' : World} {N g : Nat} {m : Mg} {bs bs' : List UInt8}
end
end Go.Proofs.YtjfoflbaoceemaaGreat
namespace Go.Proofs.YtjfoflbaoceemaaGreat
open Go.RowKit
structure ShutM (p : Prop) : Prop where out : p
def headB (o : Ob) : List UInt8 := encText o.name.data.toList ++ encInt o.kind ++ encInt o.limit ++ encInt (o.rows.length : Int) ++ rowsB o.rows
def cntM (l : List Mg) : List UInt8 := encInt (l.length : Int) ++ msgsB l
theorem obB_parts (o : Ob) : obB o = (headB o ++ cntM o.msgs) ++ cntM o.dead := by unfold obB headB cntM; simp only [List.append_assoc]
structure BtJ (w : World) (T : TypeId) (b : Nat) (cs : Array Value) (v : Value) (bs : List UInt8) (wk : World) : Prop where
  own : OwnBy wk w.heap.size v bs
  bel : Below w.heap.size w wk
  box : Blk wk b T cs
  ne : v.ownBlock ≠ some b
section
variable {w wk w1 : World} {T : TypeId} {b n c : Nat} {cs : Array Value} {v : Value} {ys xs : List UInt8} {A : Option Addr}
theorem BtJ.first (ho : OwnBy wk w.heap.size v ys) (hb : Below w.heap.size w wk) : BtJ w T wk.heap.size cs v ys (wk.alloc (.cells cs T)) :=
  ⟨ownBy_below ho (alloc_below wk _), hb.trans ((alloc_below wk _).mono hb.size), Blk.new wk T cs, fun e => by have := (ownBy_lt ho e).2; omega⟩
theorem BtJ.step (h : BtJ w T b cs v ys wk) (k : Below wk.heap.size wk w1) : BtJ w T b cs v ys w1 := ⟨ownBy_below h.own k, h.bel.trans (k.mono h.bel.size), h.box.below k h.box.lt, h.ne⟩
theorem BtJ.app (h : BtJ w T b cs v ys wk) (k : Below wk.heap.size wk w1) (hx : RB w1 w1.heap.size A n xs) (c : Nat) (hl : ys.length + xs.length ≤ 1000000) :
    ∃ A' n' c' W, (Builtin.append_ #[42, 42] 42 #[v, .slice A n c]).run Tryz.prog w1 = .ok (.slice A' n' c') W ∧ BtJ w T b cs (.slice A' n' c') (ys ++ xs) W := by
  have h1 := h.step k
  have hn := hx.1
  subst hn
  obtain ⟨v', W, hap, ho', hg, hor⟩ := append_rb h1.own hx c hl h1.bel.size
  rw [← List.length_append] at ho'
  obtain ⟨A', c', rfl, _⟩ := own_rb ho'
  refine ⟨A', _, c', W, hap, ho', h1.bel.grown hg h1.bel.size fun g hg => (ownBy_lt h1.own hg).1, (hg.block b h1.box.lt fun e => h1.ne e.symm).trans h1.box, ?_⟩
  rcases hor with e | e
  · rw [e]; exact h1.ne
  · rw [e]
    intro e2
    injection e2 with e2
    have := h1.box.lt
    omega
end
def MsRel (w : World) (l : List Mg) (k : Nat) (v i : Value) (wr : World) : Prop :=
  ∃ j, j + k = l.length ∧ i = .int .i64 (j : Int) ∧ OwnBy wr w.heap.size v (encInt (l.length : Int) ++ msgsB (l.take j)) ∧ Below w.heap.size w wr
set_option maxHeartbeats 2000000 in
theorem imsgs_ {w : World} {K : Nat → Prop} {A : Option Addr} {n c : Nat} {l : List Mg} (h : Lst w K eM A l) (hl : l.length = n) (hn : n ≤ 450) (hs : ∀ m ∈ l, m.corr.size ≤ 9000 ∧ m.body.size ≤ 9000) (hby : (msgsB l).length ≤ 600000) :
    Calls Tryz.prog 138 #[.slice A n c] w fun x w' => ∃ v, x = .returned v ∧ OwnBy w' w.heap.size v (cntM l) ∧ Below w.heap.size w w' := by
  have H := ShutM.mk h
  have HL := ShutM.mk hl
  have HS : ShutM (∀ m ∈ l, m.corr.size ≤ 9000 ∧ m.body.size ≤ 9000) := ⟨hs⟩
  have HBY := ShutM.mk hby
  have H0 := ShutM.mk (writer_new w)
  have HB0 := ShutM.mk (alloc_below w (.cells #[.pointer none, .int .i64 0] 151))
  clear h hl hs hby
  go_enter Tryz.func138, Tryz.ntmps138
  go_wp2_with fail
  refine (wInt _ _ _ (n : Int) H0.out (by simp)).mono ?_
  rintro e w1 ⟨rfl, hw1, hk1⟩
  have HB1 := ShutM.mk (HB0.out.trans (hk1.below (B := w.heap.size) HB0.out.size fun i _ hi => by simp only [But]; omega))
  have HW1 := ShutM.mk hw1
  clear hw1 hk1 H0 HB0
  go_wp2_with fail
  refine (wBytes _ _ _ HW1.out (by simp [encInt_len])).mono ?_
  rintro e w2 ⟨rfl, hb2, hB2⟩
  rw [List.nil_append] at hb2 ⊢
  have ho := ownBy_blk (base := w.heap.size) hb2 HB1.out.size (by rw [encInt_len]; unfold maxLen; omega)
  have HO := ShutM.mk ho
  have HB2 := ShutM.mk (HB1.out.trans (hB2.mono HB1.out.size))
  clear hb2 hB2 ho HB1 HW1
  go_wp2_with fail
  generalize w1.heap.size = g1 at *
  generalize (encInt (n : Int)).length = q1 at *
  go_loopg [4, 13] n (fun k v i wr => MsRel w l k v i wr)
  case atStart => exact ⟨0, by rw [HL.out]; omega, rfl, by have := HO.out; rw [HL.out, List.take_zero]; simpa [msgsB] using this, HB2.out⟩
  case round =>
    obtain ⟨j, hj, rfl, ho, hb⟩ := hrel
    have HJ := ShutM.mk hj
    have HO3 := ShutM.mk ho
    have HB3 := ShutM.mk hb
    clear hj ho hb HO HB2
    by_cases hlt : j < n
    · have hx : j < l.length := by rw [HL.out]; exact hlt
      have hsh := HS.out l[j] (List.getElem_mem hx)
      have hy : encInt (l.length : Int) ++ msgsB (l.take (j + 1)) = (encInt (l.length : Int) ++ msgsB (l.take j)) ++ l[j].bytes := by
        unfold msgsB
        rw [flat_take Mg.bytes hx, List.append_assoc]
      have hyl : (encInt (l.length : Int) ++ msgsB (l.take (j + 1))).length ≤ 600008 := by
        have h1 : (msgsB (l.take (j + 1))).length ≤ (msgsB l).length := pre_le Mg.bytes l (j + 1)
        have h2 := HBY.out
        rw [List.length_append, encInt_len]; omega
      obtain ⟨b, o, rfl, hbs, c0, c1, c2, c3, c4, c5⟩ := (H.out.below HB3.out).atM hx
      generalize l[j] = m at *
      generalize hy2 : encInt (l.length : Int) ++ msgsB (l.take (j + 1)) = y2 at *
      generalize encInt (l.length : Int) ++ msgsB (l.take j) = y1 at *
      have hyl2 : y1.length + m.bytes.length ≤ 600008 := by
        rw [hy, List.length_append] at hyl; exact hyl
      have hbt := BtJ.first (T := 44) (cs := m.cells) HO3.out HB3.out
      have hmb := mbytes_ m hsh.1 hsh.2
      generalize m.bytes = mb at *
      have HBT := ShutM.mk hbt
      have HMB := ShutM.mk hmb
      have HY : ShutM (encInt (l.length : Int) ++ msgsB (l.take (j + 1)) = y1 ++ mb) := ⟨hy2.trans hy⟩
      have HYL := ShutM.mk hyl2
      clear hbt hsh hmb hy hy2 hyl hyl2 hx
      obtain ⟨i, p, r, cl, cr, bd⟩ := m
      simp only at c0 c1 c2 c3 c4 c5
      go_wp2_with fail
      refine (HMB.out _).mono ?_
      rintro e w5 ⟨g5, rfl, hx5, hg5, hb5⟩
      obtain ⟨A6, n6, c6', w6, hap6, hbt6⟩ := HBT.out.app hb5 (blk_rb hx5 hx5.lt) mb.length (by have := HYL.out; omega)
      have HBT6 := ShutM.mk hbt6
      clear hx5 hg5 hb5 hbt6 HBT HMB HO3 HB3 c0 c1 c2 c3 c4 c5
      go_wp2_with (at_builtin; refine wpList_append_run rfl (.tmp 17) (.tmp 19) 42 42 rfl _ _ rfl rfl hap6 ?_)
      go_roundg (n - (j + 1))
      case measure => have := HJ.out; have := HL.out; omega
      case rel => exact ⟨j + 1, by have := HL.out; omega, by go_num, by rw [HY.out]; exact HBT6.out.own, HBT6.out.bel⟩
    · have he : j = l.length := by have := HJ.out; have := HL.out; omega
      have HE := ShutM.mk he
      clear he
      go_wp2
      go_ret
      exact ⟨_, rfl, by have := HO3.out; rwa [HE.out, List.take_length] at this, HB3.out⟩
structure HdJ (w : World) (cs : Array Value) (bs : List UInt8) (wk : World) : Prop where
  bel : Below w.heap.size w wk
  box : Blk wk w.heap.size 77 cs
  wr : WriterAt wk (w.heap.size + 1) bs
section
variable {w wk w' : World} {cs : Array Value} {bs bs' : List UInt8}
theorem HdJ.first (w : World) (cs : Array Value) : HdJ w cs [] ((w.alloc (.cells cs 77)).alloc (.cells #[.pointer none, .int .i64 0] 151)) := by
  have h1 := alloc_below w (.cells cs 77)
  refine ⟨h1.alloc h1.size _, (Blk.new w 77 cs).alloc _, ?_⟩
  have := writer_new (w.alloc (.cells cs 77))
  rw [show (w.alloc (.cells cs 77)).heap.size = w.heap.size + 1 by simp] at this
  exact this
theorem HdJ.next (h : HdJ w cs bs wk) (hw : WriterAt w' (w.heap.size + 1) bs') (hk : Keep (But (w.heap.size + 1)) wk w') : HdJ w cs bs' w' :=
  ⟨h.bel.trans (hk.below (B := w.heap.size) h.bel.size fun i _ hi => by simp only [But]; omega), h.box.keep hk (by simp only [But]; omega), hw⟩
theorem HdJ.step (h : HdJ w cs bs wk) (k : Below wk.heap.size wk w') : HdJ w cs bs w' :=
  ⟨h.bel.trans (k.mono h.bel.size), h.box.below k h.box.lt, writer_below h.wr k⟩
theorem HdJ.wlt (h : HdJ w cs bs wk) : w.heap.size + 1 < wk.heap.size := by
  obtain ⟨_, _, hb, _⟩ := h.wr
  exact hb.lt
end
def HdRel (w : World) (cs : Array Value) (pre : List UInt8) (l : List Rw) (k : Nat) (i : Value) (wr : World) : Prop :=
  ∃ j, j + k = l.length ∧ i = .int .i64 (j : Int) ∧ HdJ w cs (pre ++ rowsB (l.take j)) wr
theorem blk_two {w : World} {g : Nat} {T : TypeId} {a b : Value} (h : Blk w g T #[a, b]) : w.cell? ⟨g, 0, none⟩ = some a ∧ w.cell? ⟨g, 1, none⟩ = some b := ⟨h.cell 0, h.cell 1⟩
set_option maxHeartbeats 2000000 in
theorem ihead_ {w : World} {K : Nat → Prop} {x : Oc} (h : SlK w K eR x.r x.o.rows) (hn : x.o.rows.length ≤ 450) (hby : (headB x.o).length ≤ 600000) (hz : x.o.name.size ≤ 9000) (hs : ∀ r ∈ x.o.rows, r.1.size ≤ 9000 ∧ r.2.size ≤ 9000) :
    Calls Tryz.prog 137 #[x.val] w fun e w' => ∃ g, e = .returned (.slice (some ⟨g, 0, none⟩) (headB x.o).length (headB x.o).length) ∧ Blk w' g 5 (cellsB (headB x.o)).toArray ∧ Below w.heap.size w w' := by
  obtain ⟨⟨nm, kd, lm, rows, msgs, dead⟩, ⟨rA, rn, rc⟩, ⟨mA, mn, mc⟩, ⟨dA, dn, dc⟩⟩ := x
  obtain ⟨z, hz0⟩ : ∃ z, headB ⟨nm, kd, lm, rows, msgs, dead⟩ = z := ⟨_, rfl⟩
  have hln := h.len
  have hlst := h.lst
  simp only at hln hlst hn hz hs hby
  rw [hz0] at hby
  simp only
  rw [hz0]
  have hzz : z = encText nm.data.toList ++ encInt kd ++ encInt lm ++ encInt (rows.length : Int) ++ rowsB rows := by rw [← hz0]; rfl
  subst hln
  have H := ShutM.mk hlst
  have HS : ShutM (∀ r ∈ rows, r.1.size ≤ 9000 ∧ r.2.size ≤ 9000) := ⟨hs⟩
  have HBY := ShutM.mk hby
  have HZ := ShutM.mk hzz
  have hnm := text_le nm
  have hpre : (encText nm.data.toList ++ encInt kd ++ encInt lm ++ encInt (rows.length : Int)).length ≤ 9100 := by simp only [List.length_append, encInt_len]; omega
  have HNM := ShutM.mk hnm
  have HPRE := ShutM.mk hpre
  have H0 := ShutM.mk (HdJ.first w #[.string nm, .int .i64 kd, .int .i64 lm, .slice rA rows.length rc, .slice mA mn mc, .slice dA dn dc])
  have q := H0.out.box.cell 0
  simp only [List.getElem?_toArray, List.getElem?_cons_zero] at q
  clear h hlst hs hby hz0 hzz hnm hpre
  go_enter Tryz.func137, Tryz.ntmps137
  go_wp2_with fail
  refine (wText _ _ _ nm H0.out.wr (by simp) (by omega)).mono ?_
  rintro e w1 ⟨rfl, hw1, hk1⟩
  rw [List.nil_append] at hw1
  have H1 := ShutM.mk (H0.out.next hw1 hk1)
  have q1 := H1.out.box.cell 1
  simp only [List.getElem?_toArray, List.getElem?_cons_zero, List.getElem?_cons_succ] at q1
  clear hw1 hk1 H0 q
  go_wp2_with fail
  refine (wInt _ _ _ kd H1.out.wr (by have := HNM.out; omega)).mono ?_
  rintro e w2 ⟨rfl, hw2, hk2⟩
  have H2 := ShutM.mk (H1.out.next hw2 hk2)
  have q2 := H2.out.box.cell 2
  simp only [List.getElem?_toArray, List.getElem?_cons_zero, List.getElem?_cons_succ] at q2
  clear hw2 hk2 H1 q1
  go_wp2_with fail
  refine (wInt _ _ _ lm H2.out.wr (by have := HNM.out; rw [List.length_append, encInt_len]; omega)).mono ?_
  rintro e w3 ⟨rfl, hw3, hk3⟩
  have H3 := ShutM.mk (H2.out.next hw3 hk3)
  have q3 := H3.out.box.cell 3
  simp only [List.getElem?_toArray, List.getElem?_cons_zero, List.getElem?_cons_succ] at q3
  clear hw3 hk3 H2 q2
  go_wp2_with fail
  refine (wInt _ _ _ (rows.length : Int) H3.out.wr (by have := HNM.out; rw [List.length_append, List.length_append, encInt_len, encInt_len]; omega)).mono ?_
  rintro e w4 ⟨rfl, hw4, hk4⟩
  have H4 := ShutM.mk (H3.out.next hw4 hk4)
  have q4 := H4.out.box.cell 3
  simp only [List.getElem?_toArray, List.getElem?_cons_zero, List.getElem?_cons_succ] at q4
  clear hw4 hk4 H3 q3 HNM
  generalize encText nm.data.toList ++ encInt kd ++ encInt lm ++ encInt (rows.length : Int) = pre at *
  go_wp2_with fail
  obtain ⟨n, hnn⟩ : ∃ n, rows.length = n := ⟨_, rfl⟩
  rw [hnn] at hn H4 q4 ⊢
  have HL := ShutM.mk hnn
  clear hnn
  go_loopg [22] n (fun k i wr => HdRel w #[.string nm, .int .i64 kd, .int .i64 lm, .slice rA n rc, .slice mA mn mc, .slice dA dn dc] pre rows k i wr)
  case atStart => exact ⟨0, by rw [HL.out]; omega, rfl, by have := H4.out; simpa [rowsB] using this⟩
  case round =>
    obtain ⟨j, hj, rfl, ho⟩ := hrel
    have HJ := ShutM.mk hj
    have HO := ShutM.mk ho
    clear hj ho H4
    by_cases hlt : j < n
    · have hx : j < rows.length := by rw [HL.out]; exact hlt
      have hsh := HS.out rows[j] (List.getElem_mem hx)
      have hy : pre ++ rowsB (rows.take (j + 1)) = ((pre ++ rowsB (rows.take j)) ++ encText (rows[j]).1.data.toList) ++ encText (rows[j]).2.data.toList := by
        unfold rowsB
        rw [flat_take rowB hx]
        unfold rowB
        simp only [List.append_assoc]
      have hyl : (pre ++ rowsB (rows.take j)).length ≤ 620000 := by
        have h1 : (rowsB (rows.take j)).length ≤ (rowsB rows).length := pre_le rowB rows j
        have h2 := HBY.out
        rw [HZ.out, List.length_append] at h2
        have h3 := HPRE.out
        rw [List.length_append]; omega
      obtain ⟨b, o, rfl, hbs, c0, c1⟩ := (H.out.below HO.out.bel).atR hx
      generalize rows[j] = r at *
      obtain ⟨r0, r1⟩ := r
      simp only at c0 c1 hsh hy
      generalize hy2 : pre ++ rowsB (rows.take (j + 1)) = y2 at *
      generalize pre ++ rowsB (rows.take j) = y1 at *
      have ht1 := text_le r0
      have HBX := ShutM.mk (Blk.new wr 143 #[.string r0, .string r1])
      have HAL := ShutM.mk (HO.out.step (alloc_below wr (.cells #[.string r0, .string r1] 143)))
      have HLT := ShutM.mk HO.out.wlt
      have HY : ShutM (pre ++ rowsB (rows.take (j + 1)) = (y1 ++ encText r0.data.toList) ++ encText r1.data.toList) := ⟨hy2.trans hy⟩
      have HYL := ShutM.mk hyl
      have HSH := ShutM.mk hsh
      have HT := ShutM.mk ht1
      clear hsh hy hy2 hyl hx ht1 HO
      go_wp2_with fail
      refine (wText _ _ _ r0 HAL.out.wr (by have := HYL.out; omega) (by have := HSH.out; omega)).mono ?_
      rintro e w5 ⟨rfl, hw5, hk5⟩
      have H5 := ShutM.mk (HAL.out.next hw5 hk5)
      have hx5 := HBX.out.keep hk5 (by have := HLT.out; simp only [But]; omega)
      obtain ⟨d0, d1⟩ := blk_two hx5
      clear hw5 hk5 hx5 HAL HBX HLT c0 c1
      go_wp2_with fail
      refine (wText _ _ _ r1 H5.out.wr (by have := HYL.out; have := HT.out; have := HSH.out; rw [List.length_append]; omega) (by have := HSH.out; omega)).mono ?_
      rintro e w6 ⟨rfl, hw6, hk6⟩
      have H6 := ShutM.mk (H5.out.next hw6 hk6)
      clear hw6 hk6 H5 d0 d1
      go_wp2_with fail
      go_roundg (n - (j + 1))
      case measure => have := HJ.out; have := HL.out; omega
      case rel => exact ⟨j + 1, by have := HL.out; omega, by go_num, by rw [HY.out]; exact H6.out⟩
    · have he : j = rows.length := by have := HJ.out; have := HL.out; omega
      have h7 := HO.out
      rw [he, List.take_length, ← HZ.out] at h7
      have H7 := ShutM.mk h7
      clear h7 he HO
      go_wp2_with fail
      refine (wBytes _ _ _ H7.out.wr (by have := HBY.out; omega)).mono ?_
      rintro e w8 ⟨rfl, hb8, hB8⟩
      have HB8 := ShutM.mk hb8
      have HE := ShutM.mk (H7.out.bel.trans (hB8.mono H7.out.bel.size))
      clear hb8 hB8 H7
      go_wp2_with fail
      go_ret
      exact ⟨_, rfl, HB8.out, HE.out⟩
end Go.Proofs.YtjfoflbaoceemaaGreat
