/- . . -/
import Derived.Test.YtjfoflbaoceemaaGreatJ41
import Derived.Deep.LoopGhost
set_option maxRecDepth 4000
namespace Go.Proofs.YtjfoflbaoceemaaGreat
open Go.RowKit
theorem enters_r : ∀ args w, (callFunc 179 args).run Tryz.prog w = .ok (.enter 179 args) w := enters_of Tryz.func179 (by kernel_rfl) rfl
set_option maxHeartbeats 2000000 in
theorem list_r_neg {W : World} {G g B : Nat} {low : Bool} {r' r : Rd} (h : RX W G g B low r') (hs : Sim low r' r) (hc : r'.int.1 < 0) :
    Calls Tryz.prog 178 #[.pointer (some ⟨G, 0, none⟩), .func (.func 179) #[.pointer (some ⟨G, 0, none⟩)] #[]] W (ListP eR (id : Rw → Rw) NoM rowV rowR G g B r' r W) := by
  have H := ShutL2.mk h
  obtain ⟨hlow1, hlow2⟩ := list_low (v := rowV) (s := rowR) row_law hs hc
  have HL := ShutL2.mk hlow1
  have HL2 := ShutL2.mk hlow2
  obtain ⟨c0, -, -⟩ := h.cells
  clear h hs hlow1 hlow2
  go_enter Tryz.func178, Tryz.ntmps178
  go_wp2_with fail
  refine (rdInt _ _ _ _ H.out.rd).mono ?_
  rintro e w1 ⟨rfl, hr1, hk1⟩
  have H1 := ShutL2.mk (H.out.read hr1 hk1 (got_int r').le)
  have K1 := ShutL2.mk (hk1.but2 (G := G))
  obtain ⟨d0, d1, d2⟩ := H1.out.cells
  obtain ⟨c, hcc⟩ : ∃ c, r'.int.1 = c := ⟨_, rfl⟩
  rw [hcc] at hc ⊢
  have H2 := ShutL2.mk H1.out.set
  clear hr1 hk1 hcc c0
  go_wp2_with fail
  generalize w1.setCell ⟨G, 1, none⟩ (.bool true) = w2 at *
  go_loopg [6, 7] 0 (fun k v i wr => v = .slice none 0 0 ∧ i = .int .i64 0 ∧ wr = w2)
  case atStart => exact ⟨rfl, rfl, rfl⟩
  case round =>
    obtain ⟨rfl, rfl, rfl⟩ := hrel
    go_wp2_with fail
    go_ret
    exact ⟨⟨none, 0, 0⟩, [], true, r'.int.2, rfl, SlK.none_ _ _ _, fun b hb => absurd hb (by simp), H2.out.1, HL.out, (fun hb => by rw [HL2.out] at hb; cases hb), K1.out.trans H2.out.2, (got_int r').weak (by omega)⟩
set_option maxHeartbeats 4000000 in
theorem list_r_pos (hE : ElemOk 179 valR (id : Rw → Rw) NoM rowV rowR) {W : World} {G g B : Nat} {low : Bool} {r' r : Rd} (h : RX W G g B low r') (hs : Sim low r' r) (hc : 0 ≤ r'.int.1) :
    Calls Tryz.prog 178 #[.pointer (some ⟨G, 0, none⟩), .func (.func 179) #[.pointer (some ⟨G, 0, none⟩)] #[]] W (ListP eR (id : Rw → Rw) NoM rowV rowR G g B r' r W) := by
  have H := ShutL2.mk h
  have HS := ShutL2.mk hs
  have HC := ShutL2.mk hc
  have HS1 := ShutL2.mk (hs.map (s := fun r => r.int.2) int_sticky)
  have HEL := ShutL2.mk hE
  have hfew := h.few
  have HFEW := ShutL2.mk hfew
  obtain ⟨c0, -, -⟩ := h.cells
  have eg := enters_r
  clear h hs hE hfew
  go_enter Tryz.func178, Tryz.ntmps178
  go_wp2_with fail
  refine (rdInt _ _ _ _ H.out.rd).mono ?_
  rintro e w1 ⟨rfl, hr1, hk1⟩
  have hlj : LsJ eR 143 NoM W G g B (.slice none 0 0) [] low r'.int.2 w1 := LsJ.first (hk1.but2 (G := G)) (H.out.read hr1 hk1 (got_int r').le) H.out.glt
  have HLJ := ShutL2.mk hlj
  have HHI := ShutL2.mk (int_hi r')
  have HGI := ShutL2.mk ((got_int r').weak (m := 0) (by omega))
  have HEND := ShutL2.mk fun (low2 : Bool) (rj : Rd) (ys : List Rw) (j : Nat) (hj : Sim low2 rj (manyR rowR r.int.2 j)) (hle : j ≤ r'.int.1.toNat) (he : j = r'.int.1.toNat ∨ rj.bad = true) (hv : (manyR rowR r.int.2 j).bad = false → ys.map (id : Rw → Rw) = manyL rowV rowR r.int.2 j) =>
    list_end (f := (id : Rw → Rw)) row_law HS.out (Int.not_lt.2 HC.out) hj hle he hv
  have hcc := HC.out
  clear hr1 hk1 hlj c0 H HS HC hc
  generalize r'.int.2 = r1' at *
  generalize r.int.2 = r1 at *
  generalize r'.int.1 = c at *
  obtain ⟨N, rfl⟩ := Int.eq_ofNat_of_zero_le hcc
  rw [Int.toNat_natCast] at HEND
  have hNN : N ≤ 9223372036854775807 := by have := HHI.out; omega
  go_wp2_with fail
  go_loopg [6, 7] N (fun k v i wr => LsRel eR 143 (id : Rw → Rw) NoM rowV rowR W G g B r' r1 N k v i wr)
  case atStart => exact ⟨0, [], low, r1', by omega, rfl, HLJ.out, HS1.out, fun _ => rfl, rfl, HGI.out, by omega⟩
  case round =>
    obtain ⟨j, ys, lw, rj, hj, rfl, hls, hsim, hv, hln, hgot, hjb⟩ := hrel
    have HJ := ShutL2.mk hj
    have HLS := ShutL2.mk hls
    have HSIM := ShutL2.mk hsim
    have HV := ShutL2.mk hv
    have HLN := ShutL2.mk hln
    have HGOT := ShutL2.mk hgot
    obtain ⟨d0, -, -⟩ := hls.rx.cells
    clear hj hls hsim hv hln hgot HLJ
    by_cases hlt : j < N
    · go_wp2_with fail
      refine (rdFailed _ _ _ _ HLS.out.rx.rd).mono ?_
      rintro e w5 ⟨rfl, rfl⟩
      cases hbad : rj.bad
      · have hg2 := HGOT.out.ok hbad
        have hj5 : j ≤ 500000 := by have := HFEW.out; omega
        have hcall := HEL.out _ G g B lw rj (manyR rowR r1 j) HLS.out.rx HSIM.out
        have HCALL := ShutL2.mk hcall
        clear hcall hg2 hbad
        go_wp2_with fail
        go_at_fn 179
        refine HCALL.out.mono ?_
        rintro e w6 ⟨b, lw2, r2, rfl, hx6, hs6, hv6, hm6, hk6, hg6⟩
        have hls6 := HLS.out.call noM hk6 hx6
        obtain ⟨A7, n7, c7, w7, hap, hls7⟩ := hls6.grow tyR noM (b := b) (cs := #[.string b.1, .string b.2]) (noM.more hm6 fun i _ hi => ⟨Nat.le_trans HLS.out.kp.size hi, HLS.out.ownlt hi⟩) (by have := HLN.out; omega) rfl
        have HLS7 := ShutL2.mk hls7
        have HS6 := ShutL2.mk (sim_next (s := rowR) hs6)
        have HV7 := ShutL2.mk (list_next row_law HV.out hv6)
        have HG7 := ShutL2.mk (HGOT.out.trans hg6)
        clear hx6 hs6 hv6 hm6 hk6 hg6 hls6 hls7 HCALL HLS HSIM HV HGOT d0
        obtain ⟨b0, b1⟩ := b
        go_wp2_with (at_builtin; refine wpList_append_run rfl (.tmp 31) (.tmp 34) 74 74 rfl _ _ rfl rfl hap ?_)
        go_roundg (N - (j + 1))
        case measure => have := HJ.out; omega
        case rel => exact ⟨j + 1, ys ++ [(b0, b1)], lw2, r2, by omega, by go_num, HLS7.out, HS6.out, HV7.out, by rw [List.length_append, HLN.out]; rfl, HG7.out, by omega⟩
      · obtain ⟨e1, e2⟩ := HEND.out lw rj ys j HSIM.out (by omega) (.inr hbad) HV.out
        obtain ⟨sl, rfl, hsl, hmm⟩ := HLS.out.done noM
        have HE1 := ShutL2.mk e1
        have HE2 := ShutL2.mk e2
        have HSL := ShutL2.mk hsl
        have HMM := ShutL2.mk hmm
        clear e1 e2 hsl hmm
        go_wp2_with fail
        go_ret
        exact ⟨sl, ys, lw, rj, rfl, HSL.out, HMM.out, HLS.out.rx, HE1.out, HE2.out, HLS.out.kp, HGOT.out.weak (by omega)⟩
    · obtain ⟨e1, e2⟩ := HEND.out lw rj ys j HSIM.out (by have := HJ.out; omega) (.inl (by have := HJ.out; omega)) HV.out
      obtain ⟨sl, rfl, hsl, hmm⟩ := HLS.out.done noM
      have HE1 := ShutL2.mk e1
      have HE2 := ShutL2.mk e2
      have HSL := ShutL2.mk hsl
      have HMM := ShutL2.mk hmm
      clear e1 e2 hsl hmm
      go_wp2_with fail
      go_ret
      exact ⟨sl, ys, lw, rj, rfl, HSL.out, HMM.out, HLS.out.rx, HE1.out, HE2.out, HLS.out.kp, HGOT.out.weak (by omega)⟩
theorem list_r (hE : ElemOk 179 valR (id : Rw → Rw) NoM rowV rowR) {W : World} {G g B : Nat} {low : Bool} {r' r : Rd} (h : RX W G g B low r') (hs : Sim low r' r) :
    Calls Tryz.prog 178 #[.pointer (some ⟨G, 0, none⟩), .func (.func 179) #[.pointer (some ⟨G, 0, none⟩)] #[]] W (ListP eR (id : Rw → Rw) NoM rowV rowR G g B r' r W) := by
  by_cases hc : r'.int.1 < 0
  · exact list_r_neg h hs hc
  · exact list_r_pos hE h hs (Int.not_lt.1 hc)
end Go.Proofs.YtjfoflbaoceemaaGreat
namespace Go.Proofs.YtjfoflbaoceemaaGreat
open Go.RowKit
theorem enters_m : ∀ args w, (callFunc 181 args).run Tryz.prog w = .ok (.enter 181 args) w := enters_of Tryz.func181 (by kernel_rfl) rfl
set_option maxHeartbeats 2000000 in
theorem list_m_neg {W : World} {G g B : Nat} {low : Bool} {r' r : Rd} (h : RX W G g B low r') (hs : Sim low r' r) (hc : r'.int.1 < 0) :
    Calls Tryz.prog 180 #[.pointer (some ⟨G, 0, none⟩), .func (.func 181) #[.pointer (some ⟨G, 0, none⟩)] #[]] W (ListP eM (id : Mg → Mg) NoM Rd.msg Rd.msgR G g B r' r W) := by
  have H := ShutL2.mk h
  obtain ⟨hlow1, hlow2⟩ := list_low (v := Rd.msg) (s := Rd.msgR) msg_law hs hc
  have HL := ShutL2.mk hlow1
  have HL2 := ShutL2.mk hlow2
  obtain ⟨c0, -, -⟩ := h.cells
  clear h hs hlow1 hlow2
  go_enter Tryz.func180, Tryz.ntmps180
  go_wp2_with fail
  refine (rdInt _ _ _ _ H.out.rd).mono ?_
  rintro e w1 ⟨rfl, hr1, hk1⟩
  have H1 := ShutL2.mk (H.out.read hr1 hk1 (got_int r').le)
  have K1 := ShutL2.mk (hk1.but2 (G := G))
  obtain ⟨d0, d1, d2⟩ := H1.out.cells
  obtain ⟨c, hcc⟩ : ∃ c, r'.int.1 = c := ⟨_, rfl⟩
  rw [hcc] at hc ⊢
  have H2 := ShutL2.mk H1.out.set
  clear hr1 hk1 hcc c0
  go_wp2_with fail
  generalize w1.setCell ⟨G, 1, none⟩ (.bool true) = w2 at *
  go_loopg [6, 7] 0 (fun k v i wr => v = .slice none 0 0 ∧ i = .int .i64 0 ∧ wr = w2)
  case atStart => exact ⟨rfl, rfl, rfl⟩
  case round =>
    obtain ⟨rfl, rfl, rfl⟩ := hrel
    go_wp2_with fail
    go_ret
    exact ⟨⟨none, 0, 0⟩, [], true, r'.int.2, rfl, SlK.none_ _ _ _, fun b hb => absurd hb (by simp), H2.out.1, HL.out, (fun hb => by rw [HL2.out] at hb; cases hb), K1.out.trans H2.out.2, (got_int r').weak (by omega)⟩
set_option maxHeartbeats 4000000 in
theorem list_m_pos (hE : ElemOk 181 Mg.val (id : Mg → Mg) NoM Rd.msg Rd.msgR) {W : World} {G g B : Nat} {low : Bool} {r' r : Rd} (h : RX W G g B low r') (hs : Sim low r' r) (hc : 0 ≤ r'.int.1) :
    Calls Tryz.prog 180 #[.pointer (some ⟨G, 0, none⟩), .func (.func 181) #[.pointer (some ⟨G, 0, none⟩)] #[]] W (ListP eM (id : Mg → Mg) NoM Rd.msg Rd.msgR G g B r' r W) := by
  have H := ShutL2.mk h
  have HS := ShutL2.mk hs
  have HC := ShutL2.mk hc
  have HS1 := ShutL2.mk (hs.map (s := fun r => r.int.2) int_sticky)
  have HEL := ShutL2.mk hE
  have hfew := h.few
  have HFEW := ShutL2.mk hfew
  obtain ⟨c0, -, -⟩ := h.cells
  have eg := enters_m
  clear h hs hE hfew
  go_enter Tryz.func180, Tryz.ntmps180
  go_wp2_with fail
  refine (rdInt _ _ _ _ H.out.rd).mono ?_
  rintro e w1 ⟨rfl, hr1, hk1⟩
  have hlj : LsJ eM 44 NoM W G g B (.slice none 0 0) [] low r'.int.2 w1 := LsJ.first (hk1.but2 (G := G)) (H.out.read hr1 hk1 (got_int r').le) H.out.glt
  have HLJ := ShutL2.mk hlj
  have HHI := ShutL2.mk (int_hi r')
  have HGI := ShutL2.mk ((got_int r').weak (m := 0) (by omega))
  have HEND := ShutL2.mk fun (low2 : Bool) (rj : Rd) (ys : List Mg) (j : Nat) (hj : Sim low2 rj (manyR Rd.msgR r.int.2 j)) (hle : j ≤ r'.int.1.toNat) (he : j = r'.int.1.toNat ∨ rj.bad = true) (hv : (manyR Rd.msgR r.int.2 j).bad = false → ys.map (id : Mg → Mg) = manyL Rd.msg Rd.msgR r.int.2 j) =>
    list_end (f := (id : Mg → Mg)) msg_law HS.out (Int.not_lt.2 HC.out) hj hle he hv
  have hcc := HC.out
  clear hr1 hk1 hlj c0 H HS HC hc
  generalize r'.int.2 = r1' at *
  generalize r.int.2 = r1 at *
  generalize r'.int.1 = c at *
  obtain ⟨N, rfl⟩ := Int.eq_ofNat_of_zero_le hcc
  rw [Int.toNat_natCast] at HEND
  have hNN : N ≤ 9223372036854775807 := by have := HHI.out; omega
  go_wp2_with fail
  go_loopg [6, 7] N (fun k v i wr => LsRel eM 44 (id : Mg → Mg) NoM Rd.msg Rd.msgR W G g B r' r1 N k v i wr)
  case atStart => exact ⟨0, [], low, r1', by omega, rfl, HLJ.out, HS1.out, fun _ => rfl, rfl, HGI.out, by omega⟩
  case round =>
    obtain ⟨j, ys, lw, rj, hj, rfl, hls, hsim, hv, hln, hgot, hjb⟩ := hrel
    have HJ := ShutL2.mk hj
    have HLS := ShutL2.mk hls
    have HSIM := ShutL2.mk hsim
    have HV := ShutL2.mk hv
    have HLN := ShutL2.mk hln
    have HGOT := ShutL2.mk hgot
    obtain ⟨d0, -, -⟩ := hls.rx.cells
    clear hj hls hsim hv hln hgot HLJ
    by_cases hlt : j < N
    · go_wp2_with fail
      refine (rdFailed _ _ _ _ HLS.out.rx.rd).mono ?_
      rintro e w5 ⟨rfl, rfl⟩
      cases hbad : rj.bad
      · have hg2 := HGOT.out.ok hbad
        have hj5 : j ≤ 500000 := by have := HFEW.out; omega
        have hcall := HEL.out _ G g B lw rj (manyR Rd.msgR r1 j) HLS.out.rx HSIM.out
        have HCALL := ShutL2.mk hcall
        clear hcall hg2 hbad
        go_wp2_with fail
        go_at_fn 181
        refine HCALL.out.mono ?_
        rintro e w6 ⟨b, lw2, r2, rfl, hx6, hs6, hv6, hm6, hk6, hg6⟩
        have hls6 := HLS.out.call noM hk6 hx6
        obtain ⟨A7, n7, c7, w7, hap, hls7⟩ := hls6.grow tyM noM (b := b) (cs := b.cells) (noM.more hm6 fun i _ hi => ⟨Nat.le_trans HLS.out.kp.size hi, HLS.out.ownlt hi⟩) (by have := HLN.out; omega) rfl
        have HLS7 := ShutL2.mk hls7
        have HS6 := ShutL2.mk (sim_next (s := Rd.msgR) hs6)
        have HV7 := ShutL2.mk (list_next msg_law HV.out hv6)
        have HG7 := ShutL2.mk (HGOT.out.trans hg6)
        clear hx6 hs6 hv6 hm6 hk6 hg6 hls6 hls7 HCALL HLS HSIM HV HGOT d0
        obtain ⟨b0, b1, b2, b3, b4, b5⟩ := b
        go_wp2_with (at_builtin; refine wpList_append_run rfl (.tmp 31) (.tmp 34) 75 75 rfl _ _ rfl rfl hap ?_)
        go_roundg (N - (j + 1))
        case measure => have := HJ.out; omega
        case rel => exact ⟨j + 1, ys ++ [⟨b0, b1, b2, b3, b4, b5⟩], lw2, r2, by omega, by go_num, HLS7.out, HS6.out, HV7.out, by rw [List.length_append, HLN.out]; rfl, HG7.out, by omega⟩
      · obtain ⟨e1, e2⟩ := HEND.out lw rj ys j HSIM.out (by omega) (.inr hbad) HV.out
        obtain ⟨sl, rfl, hsl, hmm⟩ := HLS.out.done noM
        have HE1 := ShutL2.mk e1
        have HE2 := ShutL2.mk e2
        have HSL := ShutL2.mk hsl
        have HMM := ShutL2.mk hmm
        clear e1 e2 hsl hmm
        go_wp2_with fail
        go_ret
        exact ⟨sl, ys, lw, rj, rfl, HSL.out, HMM.out, HLS.out.rx, HE1.out, HE2.out, HLS.out.kp, HGOT.out.weak (by omega)⟩
    · obtain ⟨e1, e2⟩ := HEND.out lw rj ys j HSIM.out (by have := HJ.out; omega) (.inl (by have := HJ.out; omega)) HV.out
      obtain ⟨sl, rfl, hsl, hmm⟩ := HLS.out.done noM
      have HE1 := ShutL2.mk e1
      have HE2 := ShutL2.mk e2
      have HSL := ShutL2.mk hsl
      have HMM := ShutL2.mk hmm
      clear e1 e2 hsl hmm
      go_wp2_with fail
      go_ret
      exact ⟨sl, ys, lw, rj, rfl, HSL.out, HMM.out, HLS.out.rx, HE1.out, HE2.out, HLS.out.kp, HGOT.out.weak (by omega)⟩
theorem list_m (hE : ElemOk 181 Mg.val (id : Mg → Mg) NoM Rd.msg Rd.msgR) {W : World} {G g B : Nat} {low : Bool} {r' r : Rd} (h : RX W G g B low r') (hs : Sim low r' r) :
    Calls Tryz.prog 180 #[.pointer (some ⟨G, 0, none⟩), .func (.func 181) #[.pointer (some ⟨G, 0, none⟩)] #[]] W (ListP eM (id : Mg → Mg) NoM Rd.msg Rd.msgR G g B r' r W) := by
  by_cases hc : r'.int.1 < 0
  · exact list_m_neg h hs hc
  · exact list_m_pos hE h hs (Int.not_lt.1 hc)
end Go.Proofs.YtjfoflbaoceemaaGreat
