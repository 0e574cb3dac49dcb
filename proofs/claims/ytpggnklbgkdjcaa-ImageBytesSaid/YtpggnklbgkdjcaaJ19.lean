/- Package image: list of objects. What the document's own comparing of keys comes to. Do rows rise, the document asks. The last step of each law's row, once for all laws: a call that answers true and leaves all that was there as it was meets 'true, and the arguments read as they did'. What the reading of a slice of whatever structs gives, once for all of them, by text ..Enc. What the reading of a message gives. What the reading of a row of a key and a value gives. What the reading of an object gives. What the reading of a state gives. -/
import Derived.Test.YtpggnklbgkdjcaaJ16
import Derived.Deep.LoopGhost
import Derived.Test.YtpggnklbgkdjcaaJ04
import Derived.Below
import Derived.LoopTactic
import Derived.RegionTactic
import Derived.Deep.QuietTactic
import Derived.BigQuiet
import Derived.Lib.Strings
import Derived.Test.YtpggnklbgkdjcaaRows
import Derived.WalkKit
import Derived.ProofKit
import Derived.OpenShut
import Derived.ShutString
import Derived.ChangeOld
import Derived.Carry
import Derived.Lib.SmallJoins
import Derived.Test.YtpggnklbgkdjcaaJ02
import Derived.Deep.Slices
import Derived.ChangeArms
set_option maxRecDepth 4000
namespace Go.Proofs.Ytpggnklbgkdjcaa
open Go.RowKit
theorem enters_o : ∀ args w, (callFunc 33 args).run Try.prog w = .ok (.enter 33 args) w := enters_of Try.func33 (by kernel_rfl) rfl
set_option maxHeartbeats 2000000 in
theorem list_o_neg {W : World} {G g B : Nat} {low : Bool} {r' r : Rd} (h : RX W G g B low r') (hs : Sim low r' r) (hc : r'.int.1 < 0) :
    Calls Try.prog 32 #[.pointer (some ⟨G, 0, none⟩), .func (.func 33) #[.pointer (some ⟨G, 0, none⟩)] #[]] W (ListP eO Oc.o OcK obV deadR G g B r' r W) := by
  have H := ShutL2.mk h
  obtain ⟨hlow1, hlow2⟩ := list_low (v := obV) (s := deadR) ob_law hs hc
  have HL := ShutL2.mk hlow1
  have HL2 := ShutL2.mk hlow2
  obtain ⟨c0, -, -⟩ := h.cells
  clear h hs hlow1 hlow2
  go_enter Try.func32, Try.ntmps32
  go_wp2_with fail
  refine (rdInt _ _ _ _ H.out.rd).mono ?_
  rintro e w1 ⟨rfl, hr1, hk1⟩
  have H1 := ShutL2.mk (H.out.read hr1 hk1 (got_int r').le)
  have K1 := ShutL2.mk (hk1.but2 (G := G))
  obtain ⟨d0, d1, d2⟩ := H1.out.cells
  obtain ⟨c, hcc⟩ : ∃ c, r'.int.1 = c := ⟨_, rfl⟩
  rw [hcc] at hc ⊢
  have H2 := ShutL2.mk H1.out.set
  clear hr1 hk1 hcc c0
  go_wp2_with fail
  generalize w1.setCell ⟨G, 1, none⟩ (.bool true) = w2 at *
  go_loopg [6, 7] 0 (fun k v i wr => v = .slice none 0 0 ∧ i = .int .i64 0 ∧ wr = w2)
  case atStart => exact ⟨rfl, rfl, rfl⟩
  case round =>
    obtain ⟨rfl, rfl, rfl⟩ := hrel
    go_wp2_with fail
    go_ret
    exact ⟨⟨none, 0, 0⟩, [], true, r'.int.2, rfl, SlK.none_ _ _ _, fun b hb => absurd hb (by simp), H2.out.1, HL.out, (fun hb => by rw [HL2.out] at hb; cases hb), K1.out.trans H2.out.2, (got_int r').weak (by omega)⟩
set_option maxHeartbeats 4000000 in
theorem list_o_pos (hE : ElemOk 33 Oc.val Oc.o OcK obV deadR) {W : World} {G g B : Nat} {low : Bool} {r' r : Rd} (h : RX W G g B low r') (hs : Sim low r' r) (hc : 0 ≤ r'.int.1) :
    Calls Try.prog 32 #[.pointer (some ⟨G, 0, none⟩), .func (.func 33) #[.pointer (some ⟨G, 0, none⟩)] #[]] W (ListP eO Oc.o OcK obV deadR G g B r' r W) := by
  have H := ShutL2.mk h
  have HS := ShutL2.mk hs
  have HC := ShutL2.mk hc
  have HS1 := ShutL2.mk (hs.map (s := fun r => r.int.2) int_sticky)
  have HEL := ShutL2.mk hE
  have hfew := h.few
  have HFEW := ShutL2.mk hfew
  obtain ⟨c0, -, -⟩ := h.cells
  have eg := enters_o
  clear h hs hE hfew
  go_enter Try.func32, Try.ntmps32
  go_wp2_with fail
  refine (rdInt _ _ _ _ H.out.rd).mono ?_
  rintro e w1 ⟨rfl, hr1, hk1⟩
  have hlj : LsJ eO 39 OcK W G g B (.slice none 0 0) [] low r'.int.2 w1 := LsJ.first (hk1.but2 (G := G)) (H.out.read hr1 hk1 (got_int r').le) H.out.glt
  have HLJ := ShutL2.mk hlj
  have HHI := ShutL2.mk (int_hi r')
  have HGI := ShutL2.mk ((got_int r').weak (m := 0) (by omega))
  have HEND := ShutL2.mk fun (low2 : Bool) (rj : Rd) (ys : List Oc) (j : Nat) (hj : Sim low2 rj (manyR deadR r.int.2 j)) (hle : j ≤ r'.int.1.toNat) (he : j = r'.int.1.toNat ∨ rj.bad = true) (hv : (manyR deadR r.int.2 j).bad = false → ys.map Oc.o = manyL obV deadR r.int.2 j) =>
    list_end (f := Oc.o) ob_law HS.out (Int.not_lt.2 HC.out) hj hle he hv
  have hcc := HC.out
  clear hr1 hk1 hlj c0 H HS HC hc
  generalize r'.int.2 = r1' at *
  generalize r.int.2 = r1 at *
  generalize r'.int.1 = c at *
  obtain ⟨N, rfl⟩ := Int.eq_ofNat_of_zero_le hcc
  rw [Int.toNat_natCast] at HEND
  have hNN : N ≤ 9223372036854775807 := by have := HHI.out; omega
  go_wp2_with fail
  go_loopg [6, 7] N (fun k v i wr => LsRel eO 39 Oc.o OcK obV deadR W G g B r' r1 N k v i wr)
  case atStart => exact ⟨0, [], low, r1', by omega, rfl, HLJ.out, HS1.out, fun _ => rfl, rfl, HGI.out, by omega⟩
  case round =>
    obtain ⟨j, ys, lw, rj, hj, rfl, hls, hsim, hv, hln, hgot, hjb⟩ := hrel
    have HJ := ShutL2.mk hj
    have HLS := ShutL2.mk hls
    have HSIM := ShutL2.mk hsim
    have HV := ShutL2.mk hv
    have HLN := ShutL2.mk hln
    have HGOT := ShutL2.mk hgot
    obtain ⟨d0, -, -⟩ := hls.rx.cells
    clear hj hls hsim hv hln hgot HLJ
    by_cases hlt : j < N
    · go_wp2_with fail
      refine (rdFailed _ _ _ _ HLS.out.rx.rd).mono ?_
      rintro e w5 ⟨rfl, rfl⟩
      cases hbad : rj.bad
      · have hg2 := HGOT.out.ok hbad
        have hj5 : j ≤ 500000 := by have := HFEW.out; omega
        have hcall := HEL.out _ G g B lw rj (manyR deadR r1 j) HLS.out.rx HSIM.out
        have HCALL := ShutL2.mk hcall
        clear hcall hg2 hbad
        go_wp2_with fail
        go_at_fn 33
        refine HCALL.out.mono ?_
        rintro e w6 ⟨b, lw2, r2, rfl, hx6, hs6, hv6, hm6, hk6, hg6⟩
        have hls6 := HLS.out.call ocM hk6 hx6
        obtain ⟨A7, n7, c7, w7, hap, hls7⟩ := hls6.grow tyO ocM (b := b) (cs := b.cells) (ocM.more hm6 fun i _ hi => ⟨Nat.le_trans HLS.out.kp.size hi, HLS.out.ownlt hi⟩) (by have := HLN.out; omega) rfl
        have HLS7 := ShutL2.mk hls7
        have HS6 := ShutL2.mk (sim_next (s := deadR) hs6)
        have HV7 := ShutL2.mk (list_next ob_law HV.out hv6)
        have HG7 := ShutL2.mk (HGOT.out.trans hg6)
        clear hx6 hs6 hv6 hm6 hk6 hg6 hls6 hls7 HCALL HLS HSIM HV HGOT d0
        obtain ⟨⟨b0, b1, b2, b3, b4, b5⟩, ⟨rA, rn, rc⟩, ⟨mA, mn, mc⟩, ⟨dA, dn, dc⟩⟩ := b
        go_wp2_with (at_builtin; refine wpList_append_run rfl (.tmp 31) (.tmp 34) 22 22 rfl _ _ rfl rfl hap ?_)
        go_roundg (N - (j + 1))
        case measure => have := HJ.out; omega
        case rel => exact ⟨j + 1, ys ++ [⟨⟨b0, b1, b2, b3, b4, b5⟩, ⟨rA, rn, rc⟩, ⟨mA, mn, mc⟩, ⟨dA, dn, dc⟩⟩], lw2, r2, by omega, by go_num, HLS7.out, HS6.out, HV7.out, by rw [List.length_append, HLN.out]; rfl, HG7.out, by omega⟩
      · obtain ⟨e1, e2⟩ := HEND.out lw rj ys j HSIM.out (by omega) (.inr hbad) HV.out
        obtain ⟨sl, rfl, hsl, hmm⟩ := HLS.out.done ocM
        have HE1 := ShutL2.mk e1
        have HE2 := ShutL2.mk e2
        have HSL := ShutL2.mk hsl
        have HMM := ShutL2.mk hmm
        clear e1 e2 hsl hmm
        go_wp2_with fail
        go_ret
        exact ⟨sl, ys, lw, rj, rfl, HSL.out, HMM.out, HLS.out.rx, HE1.out, HE2.out, HLS.out.kp, HGOT.out.weak (by omega)⟩
    · obtain ⟨e1, e2⟩ := HEND.out lw rj ys j HSIM.out (by have := HJ.out; omega) (.inl (by have := HJ.out; omega)) HV.out
      obtain ⟨sl, rfl, hsl, hmm⟩ := HLS.out.done ocM
      have HE1 := ShutL2.mk e1
      have HE2 := ShutL2.mk e2
      have HSL := ShutL2.mk hsl
      have HMM := ShutL2.mk hmm
      clear e1 e2 hsl hmm
      go_wp2_with fail
      go_ret
      exact ⟨sl, ys, lw, rj, rfl, HSL.out, HMM.out, HLS.out.rx, HE1.out, HE2.out, HLS.out.kp, HGOT.out.weak (by omega)⟩
theorem list_o (hE : ElemOk 33 Oc.val Oc.o OcK obV deadR) {W : World} {G g B : Nat} {low : Bool} {r' r : Rd} (h : RX W G g B low r') (hs : Sim low r' r) :
    Calls Try.prog 32 #[.pointer (some ⟨G, 0, none⟩), .func (.func 33) #[.pointer (some ⟨G, 0, none⟩)] #[]] W (ListP eO Oc.o OcK obV deadR G g B r' r W) := by
  by_cases hc : r'.int.1 < 0
  · exact list_o_neg h hs hc
  · exact list_o_pos hE h hs (Int.not_lt.1 hc)
end Go.Proofs.Ytpggnklbgkdjcaa
namespace Go.Proofs.Ytpggnklbgkdjcaa
open Go.RowKit

theorem cmpL_right {x y : List UInt8} {k : Nat} (h : k < x.length) (h2 : y.length ≤ k) : cmpL (x.drop k) (y.drop k) = 1 := by
  rw [List.drop_eq_nil_of_le h2, List.drop_eq_getElem_cons h]; rfl
theorem cmpL_left {x y : List UInt8} {k : Nat} (h : x.length ≤ k) (h2 : k < y.length) : cmpL (x.drop k) (y.drop k) = -1 := by
  rw [List.drop_eq_nil_of_le h, List.drop_eq_getElem_cons h2]; rfl
theorem cmpL_at (a b : ByteArray) (k : Nat) (h : k < a.size) (h2 : k < b.size) : cmpL (a.data.toList.drop k) (b.data.toList.drop k) =
    if a[k].toNat < b[k].toNat then -1 else if b[k].toNat < a[k].toNat then 1 else cmpL (a.data.toList.drop (k + 1)) (b.data.toList.drop (k + 1)) := by
  rw [List.drop_eq_getElem_cons (show k < a.data.toList.length by simpa using h), List.drop_eq_getElem_cons (show k < b.data.toList.length by simpa using h2), cmpL]
  simp only [u8_lt_iff]
  rfl
theorem drewNN (w : World) (a b : Nat) : (w.drewN a).drewN b = w.drewN (a + b) := World.drewN_drewN ..
theorem refKeys (a b : ByteArray) (w : World) (ha : a.size ≤ maxLen) : Calls Try.prog 24 #[.string a, .string b] w fun e w' => e = .returned (.int .i64 (cmpS a b)) ∧ ∃ n, w' = w.drewN n := by
  unfold maxLen at ha
  go_enter Try.func24, Try.ntmps24
  go_wp2
  go_loopw [5] (fun i wr => ∃ k n : Nat, k ≤ a.size ∧ k ≤ b.size ∧ i = .int .i64 k ∧ wr = w.drewN n ∧ cmpL a.data.toList b.data.toList = cmpL (a.data.toList.drop k) (b.data.toList.drop k)) (fun i _ => a.size - (intOf i).toNat)
  case atStart => exact ⟨0, 0, Nat.zero_le _, Nat.zero_le _, rfl, rfl, rfl⟩
  case round =>
    obtain ⟨k, n, hk1, hk2, rfl, rfl, hinv⟩ := hrel
    have I := Lib.hid hinv
    clear hinv
    by_cases h1 : k < a.size
    · by_cases h2 : k < b.size
      · have A := cmpL_at a b k h1 h2
        rcases Nat.lt_trichotomy a[k].toNat b[k].toNat with h3 | h3 | h3
        · have e : cmpS a b = -1 := by
            rw [cmpS, Lib.toList_data, Lib.toList_data, I.out, A, if_pos h3]
          have E := Lib.hid e
          clear e A
          go_wp2
          go_quiet (fail)
          go_wp2
          go_ret
          exact ⟨retIk E.out.symm, _, by rw [drewNN]⟩
        · have e : cmpL a.data.toList b.data.toList = cmpL (a.data.toList.drop (k + 1)) (b.data.toList.drop (k + 1)) := by
            rw [I.out, A, if_neg (by omega), if_neg (by omega)]
          have E := Lib.hid e
          clear e A
          have h4 : ¬ a[k].toNat < b[k].toNat := by omega
          have h5 : ¬ b[k].toNat < a[k].toNat := by omega
          have H3 := Lib.hid h3
          clear h3
          go_wp2
          go_quiet (fail)
          go_wp2
          go_quiet (fail)
          go_wp2
          go_roundw
          case rel => exact ⟨k + 1, _, by omega, by omega, by go_num, rfl, E.out⟩
          case measure => simp [intOf]; omega
        · have e : cmpS a b = 1 := by
            rw [cmpS, Lib.toList_data, Lib.toList_data, I.out, A, if_neg (by omega), if_pos h3]
          have E := Lib.hid e
          clear e A
          have h4 : ¬ a[k].toNat < b[k].toNat := by omega
          go_wp2
          go_quiet (fail)
          go_wp2
          go_quiet (fail)
          go_wp2
          go_ret
          exact ⟨retIk E.out.symm, _, by rw [drewNN, drewNN]⟩
      · have h3 : k = b.size := by omega
        subst h3
        have e : cmpS a b = 1 := by
          rw [cmpS, Lib.toList_data, Lib.toList_data, I.out]; exact cmpL_right (by simpa using h1) (by simp)
        have E := Lib.hid e
        clear e
        have h4 : ¬ a.size < b.size := by omega
        go_wp2
        go_ret
        exact ⟨retIk E.out.symm, n, rfl⟩
    · have h3 : k = a.size := by omega
      subst h3
      by_cases h4 : a.size < b.size
      · have e : cmpS a b = -1 := by
          rw [cmpS, Lib.toList_data, Lib.toList_data, I.out]; exact cmpL_left (by simp) (by simpa using h4)
        have E := Lib.hid e
        clear e
        go_wp2
        go_ret
        exact ⟨retIk E.out.symm, n, rfl⟩
      · have h5 : ¬ b.size < a.size := by omega
        have e : cmpS a b = 0 := by
          rw [cmpS, Lib.toList_data, Lib.toList_data, I.out, List.drop_eq_nil_of_le (by simp), List.drop_eq_nil_of_le (by simp; omega)]; rfl
        have E := Lib.hid e
        clear e
        go_wp2
        go_ret
        exact ⟨retIk E.out.symm, n, rfl⟩
end Go.Proofs.Ytpggnklbgkdjcaa
namespace Go.Proofs.Ytpggnklbgkdjcaa
open Go.RowKit
def RiseRel (w : World) (xs : List Rw) (k : Nat) (i : Value) (wr : World) : Prop := ∃ j, j + k = xs.length ∧ i = .int .i64 ((j : Int) + 1) ∧ risesR xs = risesR (xs.drop j) ∧ Below w.heap.size w wr
set_option maxHeartbeats 400000 in
theorem rises_ {w : World} {K : Nat → Prop} {A : Option Addr} {n c : Nat} {xs : List Rw} (h : Rws w K A xs) (hn : xs.length = n) (hm : n ≤ 1000000) (hs : ∀ r ∈ xs, r.1.size ≤ maxLen) :
    Calls Try.prog 25 #[.slice A n c] w fun e w' => e = .returned (.bool (risesR xs)) ∧ Below w.heap.size w w' := by
  have H := Lib.hid h
  have HN := Lib.hid hn
  have HS := Lib.hid hs
  clear h hn hs
  go_enter Try.func25, Try.ntmps25
  go_wp2
  go_loopg [3] n (fun k i wr => RiseRel w xs k i wr)
  case atStart => exact ⟨0, by rw [HN.out]; omega, rfl, rfl, Below.refl _ _⟩
  case round =>
    obtain ⟨j, hj, rfl, ht, hb⟩ := hrel
    have HT := Lib.hid ht
    have HB := Lib.hid hb
    have HJ := Lib.hid hj
    clear ht hb hj
    by_cases hlt : j + 1 < n
    · have hx : j < xs.length := by rw [HN.out]; omega
      have hy : j + 1 < xs.length := by rw [HN.out]; exact hlt
      obtain ⟨b, o, rfl, hc, hd⟩ := (H.out.below HB.out).at_ hx
      obtain ⟨b2, o2, he, hc2, hd2⟩ := (H.out.below HB.out).at_ hy
      cases he
      clear hd hd2
      obtain ⟨h1, h2⟩ := rises_at hy HT.out
      have hz := HS.out _ (List.getElem_mem hx)
      generalize xs[j].1 = k1 at *
      generalize xs[j + 1].1 = k2 at *
      have HZ := Lib.hid hz
      clear hz
      by_cases hp : cmpS k1 k2 < 0
      · have hp2 : ¬ 0 ≤ cmpS k1 k2 := by omega
        have H1 := Lib.hid (h1 hp)
        clear h1 h2
        go_wp2
        go_quiet ((go_at_call 24; exact Calls.quiet_of (refKeys _ _ _ HZ.out)))
        go_wp2
        go_roundg (n - (j + 1))
        case measure => have := HJ.out; have := HN.out; omega
        case rel => exact ⟨j + 1, by have := HN.out; omega, by go_num, H1.out, below_drewN HB.out _⟩
      · have hp2 : 0 ≤ cmpS k1 k2 := by omega
        have H1 := Lib.hid (h2 hp)
        clear h1 h2
        go_wp2
        go_quiet ((go_at_call 24; exact Calls.quiet_of (refKeys _ _ _ HZ.out)))
        go_wp2
        go_ret
        exact ⟨by rw [H1.out]; rfl, below_drewN HB.out _⟩
    · have e := rises_end (by rw [HN.out]; exact hlt) HT.out
      have E := Lib.hid e
      clear e
      go_wp2
      go_ret
      exact ⟨by rw [E.out]; rfl, HB.out⟩
end Go.Proofs.Ytpggnklbgkdjcaa
namespace Go.Proofs.Ytpggnklbgkdjcaa
open Go.ChangeShapes Go.WideShapes Go.ChangeAt Go.RowKit
open Go.ChangeMaps (open_string shut_string)

theorem own : ownKnob Try.prog.godebug = none := by kernel_rfl
theorem wf_lo {n : Int} (h : (Lit.int .i64 n).wf = true) : -9223372036854775808 ≤ n := by
  simp [Lit.wf, IntKind.min, IntKind.max, IntKind.signed, IntKind.bits] at h
  omega
theorem wf_hi {n : Int} (h : (Lit.int .i64 n).wf = true) : n ≤ 9223372036854775807 := by
  simp [Lit.wf, IntKind.min, IntKind.max, IntKind.signed, IntKind.bits] at h
  omega
theorem laidOut : laidOutB Try.prog = true := by kernel_rfl

section
variable {H : Type} {enc : TypeId × Value → H} {P : Program}

/-- all arguments read as they did, where nothing that was there has turned -/
theorem trodAll_below (hl : laidOutB P = true) {W W' : World} (hb : Below W.heap.size W W') :
    ∀ {ts : List TypeId} {vs : List Value} {ds : List (DataW H)} {p : List MemPlace}, (∀ t ∈ ts, P.readableRec t = true ∧ t < P.types.size) → (∀ x ∈ p, x.block < W.heap.size) →
      DataW.TrodAll enc P W 0 (fun _ => true) true ts vs ds p → DataW.TrodAll enc P W' 0 (fun b => decide (b < W.heap.size)) true ts vs ds p
  | [], vs, ds, p, _, _, h => by
    obtain ⟨rfl, rfl, rfl⟩ := trodAll_nil h
    exact trodAll_mk0
  | t :: ts, vs, ds, p, hr, hp, h => by
    obtain ⟨v, vs1, d, ds1, p1, p2, rfl, rfl, rfl, h1, h2⟩ := trodAll_cons h
    refine trodAll_cons_mk (Below.trod hl (hr t (by simp)).1 (hr t (by simp)).2 h1 hb (fun x hx => hp x (by simp [hx]))) ?_
    exact trodAll_below hl hb (fun u hu => hr u (by simp [hu])) (fun x hx => hp x (by simp [hx])) h2

/-- the row's last step of any law without package variables -/
theorem post_true {f : Func} {s : ChangeSpec} {W W' : World} {args : Array Value} {ds gs : List (DataW H)} {before : List MemPlace} {tb : TypeId}
    (hl : laidOutB P = true) (hr : ∀ t ∈ f.params.toList, P.readableRec t = true ∧ t < P.types.size) (hb : P.underlying tb = some .bool) (hres : f.resultTypes = #[tb]) (hv : s.vars = [])
    (hW : DataW.Whole enc P f.params.toList s.vars false W args.toList ds gs before)
    (hfn : s.fn H (ds ++ gs) = { results := [.lit (.bool true)], args := ds }) (hbel : Below W.heap.size W W') :
    s.post enc P f false true false false W args (.bool true) W' := by
  have hW' := hW
  have hlt : ∀ p ∈ before, p.block < W.heap.size := fun p hp => hW.lt p hp
  obtain ⟨p, q, hA, hV, rfl, _, _⟩ := hW
  rw [hv] at hV
  obtain ⟨rfl, rfl⟩ := trodVars_none hV
  refine ⟨_, _, _, [], p, [], hW', ?_, ?_, ?_, hbel.frame _, fun h => by cases h⟩
  · rw [hfn, hres]; exact trodAll_mk1 (shut_bool hb _)
  · rw [hfn]; exact trodAll_below hl hbel hr (fun x hx => hlt x (by simp [hx])) hA
  · rw [hfn, hv]; rfl
end

end Go.Proofs.Ytpggnklbgkdjcaa
namespace Go.Proofs.Ytpggnklbgkdjcaa
open Go.ChangeShapes Go.WideShapes Go.ChangeAt Go.RowKit Go.Deep
section
variable {H : Type} {enc : TypeId × Value → H} {w : World} {base : Nat} {spare : Nat → Bool} {held : Bool}
theorem trod_sl {α : Type} (E : Enc α) {T S : TypeId} (und : Try.prog.underlying S = some (.slice T)) (ck : Try.prog.cellsOf T = E.k) (P : α → Prop) (inh : α)
    (hopen : ∀ (fuel : Nat) (cs : List Value) (x : DataW H × List MemPlace), cs.length = E.k → DataW.trod enc Try.prog w base spare held fuel T cs = some x → ∃ s, cs = E.enc s ∧ P s)
    {fuel : Nat} {cs : List Value} {x : DataW H × List MemPlace} (h : DataW.trod enc Try.prog w base spare held fuel S cs = some x) : ∃ v l, cs = [v] ∧ Sl w E v l ∧ ∀ s ∈ l, P s := by
  rcases open_slice und h with ⟨hcs, _⟩ | ⟨a, len, cap, m, n, D, Pl, hcs, _, hl, hm, hmm, _, hx⟩
  · exact ⟨_, [], hcs, Sl.nil _ _, fun s hs => by cases hs⟩
  · have hlm : len ≤ m := by rw [hmm]; split <;> omega
    have key : ∀ i, ∃ s : α, i < len → (∀ t v, (E.enc s)[t]? = some v → w.cell? (a.add (i * E.k + t)) = some v) ∧ P s := fun i => by
      by_cases hi : i < len
      · obtain ⟨cs', h1, h2⟩ := hx i (by omega)
        rw [ck] at h1
        obtain ⟨_, hlen, hat⟩ := World.cells?_some h1
        obtain ⟨s, e, hp⟩ := hopen _ _ _ hlen h2
        subst e
        refine ⟨s, fun _ => ⟨fun t v htv => ?_, hp⟩⟩
        obtain ⟨ht, e⟩ := List.getElem?_eq_some_iff.1 htv
        have := hat t (by rw [← hlen]; exact ht)
        rw [Go.Deep.add_add] at this
        rw [this]
        exact htv
      · exact ⟨inh, fun h => absurd h hi⟩
    obtain ⟨f, hfun⟩ := Classical.axiomOfChoice key
    refine ⟨_, (List.range len).map f, hcs, ⟨some a, cap, by simp, fun h0 => ?_, by simpa using hl, hm, fun h => by cases h⟩, fun s hs => ?_⟩
    · obtain ⟨ab, ao, spot⟩ := a
      have hl0 : 0 < len := by simpa using h0
      have hk0 : 0 < (E.enc (f 0)).length := by rw [E.len]; exact E.pos
      have hc0 := (hfun 0 hl0).1 0 _ (List.getElem?_eq_getElem hk0)
      have hspot : spot = none := by simpa [Addr.add] using World.cell?_spot hc0
      subst hspot
      have hbl : ab < w.heap.size := by simpa [Addr.add] using block_of_cell hc0
      refine ⟨ab, ao, rfl, trivial, hbl, fun z u hz => ?_⟩
      have hzl := (List.getElem?_eq_some_iff.1 hz).1
      rw [cellsE_length, List.length_map, List.length_range] at hzl
      have hd := Nat.div_add_mod z E.k
      have hmk : z % E.k < E.k := Nat.mod_lt _ E.pos
      have hj : z / E.k < len := by
        rw [Nat.div_lt_iff_lt_mul E.pos]; exact hzl
      have hj2 : z / E.k < ((List.range len).map f).length := by simpa using hj
      have hfj : ((List.range len).map f)[z / E.k] = f (z / E.k) := by simp
      have hil : z % E.k < (E.enc (f (z / E.k))).length := by rw [E.len]; exact hmk
      have hc := cellsE_at E hj2 (i := z % E.k) (v := (E.enc (f (z / E.k)))[z % E.k]) (by rw [hfj]; exact List.getElem?_eq_getElem hil)
      have he : z / E.k * E.k + z % E.k = z := by rw [Nat.mul_comm]; exact hd
      rw [he, hz] at hc
      injection hc with hc
      have := (hfun (z / E.k) hj).1 (z % E.k) _ (List.getElem?_eq_getElem hil)
      rw [he, add_none] at this
      rw [this, hc]
    · obtain ⟨i, hi, rfl⟩ := List.mem_map.1 hs
      exact (hfun i (List.mem_range.1 hi)).2
end
end Go.Proofs.Ytpggnklbgkdjcaa
namespace Go.Proofs.Ytpggnklbgkdjcaa
open Go.ChangeShapes Go.WideShapes Go.ChangeAt Go.RowKit Go.Deep
section
variable {H : Type} {enc : TypeId × Value → H} {w : World} {base b0 : Nat} {spare : Nat → Bool} {held : Bool} {r : Reach} {v : Value} {d : DataW H} {p : List MemPlace}
theorem trod_msg {fuel : Nat} {cs : List Value} {x : DataW H × List MemPlace} (hl : cs.length = 6) (h : DataW.trod enc Try.prog w base spare held fuel 55 cs = some x) :
    ∃ m : Mg, cs = m.cells.toList ∧ m.fits ∧ m.corr.size ≤ maxLen ∧ m.body.size ≤ maxLen := by
  obtain ⟨ys, n', _, _, _, hys, hg⟩ := DataW.trod_struct Try.underlying55 h
  have k3 : Try.prog.cellsOf 3 = 1 := by kernel_rfl
  have k9 : Try.prog.cellsOf 9 = 1 := by kernel_rfl
  have k4 : Try.prog.cellsOf 4 = 1 := by kernel_rfl
  match cs, hl with
  | [c0, c1, c2, c3, c4, c5], _ =>
    have y0 : ys[0]? = some (ys[0]'(by rw [hys]; decide)) := List.getElem?_eq_getElem _
    have y1 : ys[1]? = some (ys[1]'(by rw [hys]; decide)) := List.getElem?_eq_getElem _
    have y2 : ys[2]? = some (ys[2]'(by rw [hys]; decide)) := List.getElem?_eq_getElem _
    have y3 : ys[3]? = some (ys[3]'(by rw [hys]; decide)) := List.getElem?_eq_getElem _
    have y4 : ys[4]? = some (ys[4]'(by rw [hys]; decide)) := List.getElem?_eq_getElem _
    have y5 : ys[5]? = some (ys[5]'(by rw [hys]; decide)) := List.getElem?_eq_getElem _
    obtain ⟨z0, e0, _, wf0⟩ := DataW.trod_int Try.underlying3 ((hg 0 _ rfl).trans y0)
    obtain ⟨z1, e1, _, wf1⟩ := DataW.trod_int Try.underlying3 ((hg 1 _ rfl).trans y1)
    obtain ⟨z2, e2, _, wf2⟩ := DataW.trod_int Try.underlying3 ((hg 2 _ rfl).trans y2)
    obtain ⟨z3, e3, _⟩ := DataW.trod_bool Try.underlying4 ((hg 3 _ rfl).trans y3)
    obtain ⟨z4, e4, _, wf4⟩ := DataW.trod_string Try.underlying9 ((hg 4 _ rfl).trans y4)
    obtain ⟨z5, e5, _, wf5⟩ := DataW.trod_string Try.underlying9 ((hg 5 _ rfl).trans y5)
    simp [k3, k4, k9] at e0 e1 e2 e3 e4 e5
    exact ⟨⟨z0, z1, z2, z3, z4, z5⟩, by rw [e0, e1, e2, e3, e4, e5], ⟨⟨wf_lo wf0, wf_hi wf0⟩, ⟨wf_lo wf1, wf_hi wf1⟩, ⟨wf_lo wf2, wf_hi wf2⟩⟩, wf4, wf5⟩
theorem open_msg (hv : Value.okWide Try.prog w r b0 55 v) (h : DataW.Trod enc Try.prog w base spare held 55 v d p) :
    ∃ m : Mg, v = m.val ∧ m.fits ∧ m.corr.size ≤ maxLen ∧ m.body.size ≤ maxLen := by
  obtain ⟨cs, rfl, hsz⟩ := okWide_struct Try.underlying55 hv
  have hsz' : cs.toList.length = 6 := by rw [Array.length_toList, hsz]; kernel_rfl
  obtain ⟨fuel, hf⟩ := h
  obtain ⟨m, e, h1, h2⟩ := trod_msg (by simpa [Value.cells] using hsz') hf
  refine ⟨m, ?_, h1, h2⟩
  simp only [Value.cells] at e
  obtain rfl : cs = m.cells := Array.ext' e
  rfl
end
end Go.Proofs.Ytpggnklbgkdjcaa
namespace Go.Proofs.Ytpggnklbgkdjcaa
open Go.ChangeShapes Go.WideShapes Go.ChangeAt Go.RowKit Go.Deep
section
variable {H : Type} {enc : TypeId × Value → H} {w : World} {base b0 : Nat} {spare : Nat → Bool} {held : Bool} {r : Reach} {v : Value} {d : DataW H} {p : List MemPlace}
theorem cells_row : Try.prog.cellsOf 52 = 2 := by kernel_rfl
theorem cells_string : Try.prog.cellsOf 9 = 1 := by kernel_rfl
theorem trod_row {fuel : Nat} {cs : List Value} {x : DataW H × List MemPlace} (hl : cs.length = 2) (h : DataW.trod enc Try.prog w base spare held fuel 52 cs = some x) :
    ∃ s : Rw, cs = [.string s.1, .string s.2] ∧ s.1.size ≤ maxLen ∧ s.2.size ≤ maxLen := by
  obtain ⟨ys, n', _, _, _, hys, hg⟩ := DataW.trod_struct Try.underlying52 h
  match cs, hl with
  | [c0, c1], _ =>
    have y0 : ys[0]? = some (ys[0]'(by rw [hys]; decide)) := List.getElem?_eq_getElem _
    have y1 : ys[1]? = some (ys[1]'(by rw [hys]; decide)) := List.getElem?_eq_getElem _
    obtain ⟨z0, e0, _, wf0⟩ := DataW.trod_string Try.underlying9 ((hg 0 _ rfl).trans y0)
    obtain ⟨z1, e1, _, wf1⟩ := DataW.trod_string Try.underlying9 ((hg 1 _ rfl).trans y1)
    simp [cells_string] at e0 e1
    exact ⟨(z0, z1), by rw [e0, e1], wf0, wf1⟩
end
end Go.Proofs.Ytpggnklbgkdjcaa
namespace Go.Proofs.Ytpggnklbgkdjcaa
open Go.ChangeShapes Go.WideShapes Go.ChangeAt Go.RowKit Go.Deep
section
variable {H : Type} {enc : TypeId × Value → H} {w : World} {base b0 : Nat} {spare : Nat → Bool} {held : Bool} {r : Reach} {v : Value} {d : DataW H} {p : List MemPlace}
theorem trod_rows {fuel : Nat} {cs : List Value} {x : DataW H × List MemPlace} (h : DataW.trod enc Try.prog w base spare held fuel 36 cs = some x) : ∃ v l, cs = [v] ∧ Sl w eR v l ∧ ∀ s ∈ l, s.1.size ≤ maxLen ∧ s.2.size ≤ maxLen :=
  trod_sl eR Try.underlying36 (by kernel_rfl) (fun s : Rw => s.1.size ≤ maxLen ∧ s.2.size ≤ maxLen) (⟨#[]⟩, ⟨#[]⟩) (fun _ _ _ hl h => trod_row hl h) h
theorem trod_msgs {fuel : Nat} {cs : List Value} {x : DataW H × List MemPlace} (h : DataW.trod enc Try.prog w base spare held fuel 37 cs = some x) : ∃ v l, cs = [v] ∧ Sl w eM v l ∧ ∀ m ∈ l, m.fits ∧ m.corr.size ≤ maxLen ∧ m.body.size ≤ maxLen :=
  trod_sl eM Try.underlying37 (by kernel_rfl) (fun m : Mg => m.fits ∧ m.corr.size ≤ maxLen ∧ m.body.size ≤ maxLen) Mg.zero (fun _ _ _ hl h => trod_msg hl h) h
theorem trod_obj {fuel : Nat} {cs : List Value} {x : DataW H × List MemPlace} (hl : cs.length = 6) (h : DataW.trod enc Try.prog w base spare held fuel 39 cs = some x) :
    ∃ (o : Ob) (r m d : Value), cs = (o.cells r m d).toList ∧ ObAt w o r m d ∧ o.fits := by
  obtain ⟨ys, n', _, _, _, hys, hg⟩ := DataW.trod_struct Try.underlying39 h
  have k3 : Try.prog.cellsOf 3 = 1 := by kernel_rfl
  have k9 : Try.prog.cellsOf 9 = 1 := by kernel_rfl
  have kr : Try.prog.cellsOf 36 = 1 := by kernel_rfl
  have km : Try.prog.cellsOf 37 = 1 := by kernel_rfl
  match cs, hl with
  | [c0, c1, c2, c3, c4, c5], _ =>
    have y0 : ys[0]? = some (ys[0]'(by rw [hys]; decide)) := List.getElem?_eq_getElem _
    have y1 : ys[1]? = some (ys[1]'(by rw [hys]; decide)) := List.getElem?_eq_getElem _
    have y2 : ys[2]? = some (ys[2]'(by rw [hys]; decide)) := List.getElem?_eq_getElem _
    have y3 : ys[3]? = some (ys[3]'(by rw [hys]; decide)) := List.getElem?_eq_getElem _
    have y4 : ys[4]? = some (ys[4]'(by rw [hys]; decide)) := List.getElem?_eq_getElem _
    have y5 : ys[5]? = some (ys[5]'(by rw [hys]; decide)) := List.getElem?_eq_getElem _
    obtain ⟨z0, e0, _, wf0⟩ := DataW.trod_string Try.underlying9 ((hg 0 _ rfl).trans y0)
    obtain ⟨z1, e1, _, wf1⟩ := DataW.trod_int Try.underlying3 ((hg 1 _ rfl).trans y1)
    obtain ⟨z2, e2, _, wf2⟩ := DataW.trod_int Try.underlying3 ((hg 2 _ rfl).trans y2)
    obtain ⟨v3, l3, e3, h3, _⟩ := trod_rows ((hg 3 _ rfl).trans y3)
    obtain ⟨v4, l4, e4, h4, f4⟩ := trod_msgs ((hg 4 _ rfl).trans y4)
    obtain ⟨v5, l5, e5, h5, f5⟩ := trod_msgs ((hg 5 _ rfl).trans y5)
    simp [k3, k9, kr, km] at e0 e1 e2 e3 e4 e5
    exact ⟨⟨z0, z1, z2, l3, l4, l5⟩, v3, v4, v5, by rw [e0, e1, e2, e3, e4, e5], ⟨h3, h4, h5⟩, fun m hm => (f4 m hm).1, fun m hm => (f5 m hm).1⟩
theorem open_obj (hv : Value.okWide Try.prog w r b0 39 v) (h : DataW.Trod enc Try.prog w base spare held 39 v d p) :
    ∃ (o : Ob) (r m d : Value), v = o.val r m d ∧ ObAt w o r m d ∧ o.fits := by
  obtain ⟨cs, rfl, hsz⟩ := okWide_struct Try.underlying39 hv
  have hsz' : cs.toList.length = 6 := by rw [Array.length_toList, hsz]; kernel_rfl
  obtain ⟨fuel, hf⟩ := h
  obtain ⟨o, r, m, d, e, h1, h2⟩ := trod_obj (by simpa [Value.cells] using hsz') hf
  refine ⟨o, r, m, d, ?_, h1, h2⟩
  simp only [Value.cells] at e
  obtain rfl : cs = o.cells r m d := Array.ext' e
  rfl
end
end Go.Proofs.Ytpggnklbgkdjcaa
namespace Go.Proofs.Ytpggnklbgkdjcaa
open Go.ChangeShapes Go.WideShapes Go.ChangeAt Go.RowKit Go.Deep
/-- what is known of an object that was read -/
structure OcIn (w : World) (x : Oc) : Prop where
  k : OcK w (fun _ => True) x
  fits : x.o.fits
  keys : ∀ r ∈ x.o.rows, r.1.size ≤ maxLen
section
variable {H : Type} {enc : TypeId × Value → H} {w : World} {base b0 : Nat} {spare : Nat → Bool} {held : Bool} {r : Reach} {v : Value} {d : DataW H} {p : List MemPlace}
theorem trod_oc {fuel : Nat} {cs : List Value} {x : DataW H × List MemPlace} (hl : cs.length = 6) (h : DataW.trod enc Try.prog w base spare held fuel 39 cs = some x) :
    ∃ s : Oc, cs = eO.enc s ∧ OcIn w s := by
  obtain ⟨ys, n', _, _, _, hys, hg⟩ := DataW.trod_struct Try.underlying39 h
  have k3 : Try.prog.cellsOf 3 = 1 := by kernel_rfl
  have k9 : Try.prog.cellsOf 9 = 1 := by kernel_rfl
  have kr : Try.prog.cellsOf 36 = 1 := by kernel_rfl
  have km : Try.prog.cellsOf 37 = 1 := by kernel_rfl
  match cs, hl with
  | [c0, c1, c2, c3, c4, c5], _ =>
    have y0 : ys[0]? = some (ys[0]'(by rw [hys]; decide)) := List.getElem?_eq_getElem _
    have y1 : ys[1]? = some (ys[1]'(by rw [hys]; decide)) := List.getElem?_eq_getElem _
    have y2 : ys[2]? = some (ys[2]'(by rw [hys]; decide)) := List.getElem?_eq_getElem _
    have y3 : ys[3]? = some (ys[3]'(by rw [hys]; decide)) := List.getElem?_eq_getElem _
    have y4 : ys[4]? = some (ys[4]'(by rw [hys]; decide)) := List.getElem?_eq_getElem _
    have y5 : ys[5]? = some (ys[5]'(by rw [hys]; decide)) := List.getElem?_eq_getElem _
    obtain ⟨z0, e0, _, wf0⟩ := DataW.trod_string Try.underlying9 ((hg 0 _ rfl).trans y0)
    obtain ⟨z1, e1, _, wf1⟩ := DataW.trod_int Try.underlying3 ((hg 1 _ rfl).trans y1)
    obtain ⟨z2, e2, _, wf2⟩ := DataW.trod_int Try.underlying3 ((hg 2 _ rfl).trans y2)
    obtain ⟨v3, l3, e3, h3, g3⟩ := trod_rows ((hg 3 _ rfl).trans y3)
    obtain ⟨v4, l4, e4, h4, f4⟩ := trod_msgs ((hg 4 _ rfl).trans y4)
    obtain ⟨v5, l5, e5, h5, f5⟩ := trod_msgs ((hg 5 _ rfl).trans y5)
    simp [k3, k9, kr, km] at e0 e1 e2 e3 e4 e5
    obtain ⟨s3, rfl, q3⟩ := h3.k
    obtain ⟨s4, rfl, q4⟩ := h4.k
    obtain ⟨s5, rfl, q5⟩ := h5.k
    exact ⟨⟨⟨z0, z1, z2, l3, l4, l5⟩, s3, s4, s5⟩, by rw [e0, e1, e2, e3, e4, e5]; rfl, ⟨q3, q4, q5⟩, ⟨fun m hm => (f4 m hm).1, fun m hm => (f5 m hm).1⟩, fun r hr => (g3 r hr).1⟩
theorem trod_objs {fuel : Nat} {cs : List Value} {x : DataW H × List MemPlace} (h : DataW.trod enc Try.prog w base spare held fuel 22 cs = some x) : ∃ v l, cs = [v] ∧ Sl w eO v l ∧ ∀ s ∈ l, OcIn w s :=
  trod_sl eO Try.underlying22 (by kernel_rfl) (OcIn w) ⟨⟨⟨#[]⟩, 0, 0, [], [], []⟩, ⟨none, 0, 0⟩, ⟨none, 0, 0⟩, ⟨none, 0, 0⟩⟩ (fun _ _ _ hl h => trod_oc hl h) h
theorem open_state (hv : Value.okWide Try.prog w r b0 24 v) (h : DataW.Trod enc Try.prog w base spare held 24 v d p) :
    ∃ (next : Int) (s : Sv) (xs : List Oc), v = .agg #[.int .i64 next, .slice s.a s.n s.c] ∧ ObsAt w (fun _ => True) s xs ∧ ∀ x ∈ xs, OcIn w x := by
  obtain ⟨cs, rfl, hsz⟩ := okWide_struct Try.underlying24 hv
  have hsz' : cs.toList.length = 2 := by rw [Array.length_toList, hsz]; kernel_rfl
  obtain ⟨fuel, hf⟩ := h
  have hf2 : DataW.trod enc Try.prog w base spare held fuel 24 cs.toList = some (d, p) := by simpa [Value.cells] using hf
  obtain ⟨ys, n', _, _, _, hys, hg⟩ := DataW.trod_struct Try.underlying24 hf2
  have k3 : Try.prog.cellsOf 3 = 1 := by kernel_rfl
  have ko : Try.prog.cellsOf 22 = 1 := by kernel_rfl
  obtain ⟨c0, c1, hcs⟩ : ∃ c0 c1, cs.toList = [c0, c1] := by
    match hm : cs.toList, hsz' with
    | [c0, c1], _ => exact ⟨c0, c1, rfl⟩
  rw [hcs] at hg
  have y0 : ys[0]? = some (ys[0]'(by rw [hys]; decide)) := List.getElem?_eq_getElem _
  have y1 : ys[1]? = some (ys[1]'(by rw [hys]; decide)) := List.getElem?_eq_getElem _
  obtain ⟨z0, e0, _, _⟩ := DataW.trod_int Try.underlying3 ((hg 0 _ rfl).trans y0)
  obtain ⟨v1, xs, e1, h1, g1⟩ := trod_objs ((hg 1 _ rfl).trans y1)
  simp [k3, ko] at e0 e1
  obtain ⟨s, rfl, hk⟩ := h1.k
  refine ⟨z0, s, xs, ?_, ⟨hk, fun x hx => (g1 x hx).k⟩, g1⟩
  have : cs = #[.int .i64 z0, .slice s.a s.n s.c] := Array.ext' (by rw [hcs, e0, e1])
  rw [this]
end
end Go.Proofs.Ytpggnklbgkdjcaa
