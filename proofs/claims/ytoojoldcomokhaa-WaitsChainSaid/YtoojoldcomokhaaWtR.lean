/- Package waits' reached: all to whom steps lead. -/
import Derived.Test.YtoojoldcomokhaaWtN
set_option maxRecDepth 4000
namespace Go.Proofs.Ytoojoldcomokhaa
open Go.RowKit Go.Maps
theorem own_pop {w : World} {base : Nat} {E : Enc Int} {T : TypeId} {A : Option Addr} {m c : Nat} {os : List Int} {a : Int} (h : Own w base E T (.slice A (m + 1) c) (os ++ [a])) (hm : os.length = m) : Own w base E T (.slice A m c) os := by
  subst hm
  refine ⟨by rw [cellsE_length], ?_⟩
  rcases h.2 with ⟨_, h0⟩ | ⟨g, cap, cur, e, hb, hh, hn, hcm, hcs, htk⟩
  · simp at h0
  · injection e with e1 e2 e3
    subst e1 e3
    rw [List.length_append] at hn htk
    refine .inr ⟨g, c, cur, rfl, hb, hh, by simp at hn; omega, hcm, hcs, ?_⟩
    have := congrArg (List.take (os.length * E.k)) htk
    rw [List.take_take, Nat.min_eq_left (Nat.mul_le_mul_right _ (Nat.le_add_right _ _)), cellsE_append, List.take_left' (cellsE_length E os)] at this
    exact this
theorem own_single {W : World} {base : Nat} (hb : base ≤ W.heap.size) (x : Int) : Own (W.alloc (.cells #[.int .i64 x] 3)) base eI 3 (.slice (some ⟨W.heap.size, 0, none⟩) 1 1) [x] :=
  ⟨rfl, .inr ⟨W.heap.size, 1, #[.int .i64 x], rfl, hb, Blk.new W 3 _, Nat.le_refl _, by unfold maxLen; omega, rfl, rfl⟩⟩
/-- a row and a set of the call's own; so much is left to do -/
structure Way (w : World) (l : List (Int × Int)) (B : Nat) (ms os : List Int) (v : Value) (wr : World) : Prop where
  own : Own wr w.heap.size eI 3 v os
  met : Met wr B ms
  wf : ∀ x ∈ ms, Wf x
  wfo : ∀ x ∈ os, Wf x
  below : Below w.heap.size w wr
theorem Way.alloc {w wr : World} {l : List (Int × Int)} {B : Nat} {ms os : List Int} {v : Value} (h : Way w l B ms os v wr) (o : Obj) : Way w l B ms os v (wr.alloc o) :=
  ⟨own_keep h.own fun g hg => (alloc_below wr o).block g (own_blk h.own hg).2.1, h.met.below (alloc_below wr o), h.wf, h.wfo, h.below.alloc h.below.size o⟩
theorem way_push {w wr : World} {l : List (Int × Int)} {B : Nat} {ms os : List Int} {v : Value} (h : Way w l B ms os v wr) (hB : w.heap.size ≤ B) (hms : ms.length ≤ 20000) (hos : os.length ≤ 20000) {x : Int} (hx : Wf x) :
    ∃ w2 v' W', (Instr.mapUpdate 38 (.map (some B)) (.int .i64 x) (.agg #[])).run Try.prog (wr.alloc (.cells #[] 40)) = .ok () w2 ∧
      (Builtin.append_ #[27, 27] 27 #[v, .slice (some ⟨w2.heap.size, 0, none⟩) 1 1]).run Try.prog (w2.alloc (.cells #[.int .i64 x] 3)) = .ok v' W' ∧ Way w l B (ms ++ [x]) (os ++ [x]) v' W' := by
  have h0 := h.alloc (.cells #[] 40)
  obtain ⟨w2, hup, hm2, hg2⟩ := h0.met.put_ hx (by omega)
  have far : ∀ g, v.ownBlock = some g → g ≠ B := fun g hg e => by
    subst e
    obtain ⟨_, _, cur, hc⟩ := own_blk h0.own hg
    obtain ⟨es, clock, hb, _⟩ := h0.met
    rw [hc] at hb
    cases hb
  have b2 : Below w.heap.size w w2 := h0.below.grown hg2 h0.below.size fun g hg => by injection hg with hg; omega
  have o2 : Own w2 w.heap.size eI 3 v os := own_keep h0.own fun g hg => hg2.block g (own_blk h0.own hg).2.1 (fun e => far g hg (by injection e))
  have hal := alloc_below w2 (.cells #[.int .i64 x] 3)
  have o3 := own_keep (W' := w2.alloc (.cells #[.int .i64 x] 3)) o2 fun g hg => hal.block g (own_blk o2 hg).2.1
  have b3 := b2.trans (hal.mono b2.size)
  obtain ⟨v', W', hap, o4, hg4, _⟩ := append_own tyI o3 (int_one w2 x) rfl 1 (by show os.length + 1 ≤ _; omega) b3.size
  refine ⟨w2, v', W', hup, hap, o4, (hm2.below hal).kept hg4 (fun e => far B e.symm rfl), fun y hy => ?_, fun y hy => ?_, b3.grown hg4 b3.size fun g hg => (own_blk o3 hg).1⟩
  · rcases List.mem_append.1 hy with hy | hy
    · exact h.wf y hy
    · rw [List.mem_singleton.1 hy]; exact hx
  · rcases List.mem_append.1 hy with hy | hy
    · exact h.wfo y hy
    · rw [List.mem_singleton.1 hy]; exact hx
def Out1 (w : World) (l : List (Int × Int)) (who : Int) (B k : Nat) (v : Value) (wr : World) : Prop :=
  ∃ ms os, 2 * (l.length - ms.length) + os.length = k ∧ Search l who ms os ∧ Way w l B ms os v wr
def In1 (w : World) (l : List (Int × Int)) (who a : Int) (B K q k : Nat) (v i : Value) (wr : World) : Prop :=
  ∃ j ms os, j + k = q ∧ i = .int .i64 (j : Int) ∧ 2 * (l.length - ms.length) + os.length < K ∧ Mid l who a j ms os ∧ Way w l B ms os v wr
set_option maxHeartbeats 1000000 in
theorem reached_ {w : World} {b base : Nat} {l : List (Int × Int)} (h : Adj w b base l) (hl : l.length ≤ 10000) {who : Int} (hw : Wf who) :
    Calls Try.prog 14 #[.map (some b), .int .i64 who] w fun e w' => ∃ ms, e = .returned (.map (some w.heap.size)) ∧ Met w' w.heap.size ms ∧ ms.Nodup ∧ (∀ x, x ∈ ms ↔ Reach l who x) ∧ (∀ x ∈ ms, Wf x) ∧ Below w.heap.size w w' := by
  have H := Lib.hid h
  have HW := Lib.hid hw
  have hmm := @run_makeMap Try.prog
  clear h hw
  go_enter Try.func14, Try.ntmps14
  go_wp2_with fail
  go_loopg [6] (2 * l.length + 1) (fun k v wr => Out1 w l who w.heap.size k v wr)
  case atStart =>
    refine ⟨[], [who], by simp, Search.start l who, ?_, ?_, fun _ h => (by cases h), fun x hx => by rw [List.mem_singleton.1 hx]; exact HW.out, ?_⟩
    · have := own_single (alloc_below w (.map #[] 0)).size who
      rwa [show (w.alloc (.map #[] 0)).heap.size = w.heap.size + 1 by simp] at this
    · exact (met_new w).below (alloc_below _ _)
    · exact (alloc_below w (.map #[] 0)).alloc (by simp) _
  case round =>
    obtain ⟨ms, os, hk, hs, hy⟩ := hrel
    rcases List.eq_nil_or_concat os with rfl | ⟨os', a, rfl⟩
    · have HS := Lib.hid hs
      have HY := Lib.hid hy
      obtain ⟨A, c, rfl, _⟩ := own_lst hy.own
      clear hs hy hk
      go_wp2_with fail
      go_ret
      exact ⟨ms, rfl, HY.out.met, HS.out.nodup, HS.out.all, HY.out.wf, HY.out.below⟩
    · rw [List.concat_eq_append] at *
      obtain ⟨A, c, rfl, hlst, hnc, hcm, _⟩ := own_lst hy.own
      obtain ⟨m, hm⟩ : ∃ m, os'.length = m := ⟨_, rfl⟩
      have hm1 : (os' ++ [a]).length = m + 1 := by simp [hm]
      rw [hm1] at hy hnc ⊢
      have hpop := own_pop hy.own hm
      obtain ⟨g, o, rfl, hg, d0⟩ := hlst.atI (j := m) (by rw [hm1]; omega)
      have hae : (os' ++ [a])[m]'(by rw [hm1]; omega) = a := by
        rw [List.getElem_append_right (by rw [hm]; omega)]; simp [hm]
      rw [hae] at d0
      have hcut := fun W => head_ints (some ⟨g, o, none⟩) (m + 1) c m (by omega) W
      have hwfa : Wf a := hy.wfo a (by simp)
      obtain ⟨v, hlook, hov, hwv⟩ := adj_at H.out (by omega) hwfa
      have hlk := hlook wr (hy.below.block b H.out.lt)
      obtain ⟨A2, c2, rfl, hl2, hnc2, _, _⟩ := own_lst hov
      have hms : ms.length ≤ l.length := met_short hs.nodup hs.met
      have hq := succs_length l a
      generalize hQ : (succs l a).length = q at *
      rw [hm1] at hk
      have hmb : m ≤ 10000 := by have := hs.len; rw [hm1] at this; omega
      have HM := Lib.hid hm
      have HPOP := Lib.hid hpop
      have HY := Lib.hid hy
      have HS := Lib.hid hs.leave
      have HL2 := Lib.hid hl2
      have HWV := Lib.hid hwv
      have HQ := Lib.hid hQ
      have HK := Lib.hid hk
      have HMS := Lib.hid hms
      clear hs hy hpop hl2 hwv hQ hk hlst hov hae hm1 hms hlook hm
      go_wp2_with fail
      go_loopg [6, 33] q (fun k v i wr => In1 w l who a w.heap.size gk q k v i wr)
      case atStart =>
        refine ⟨0, ms, os', by omega, rfl, ?_, HS.out, HPOP.out, HY.out.met, HY.out.wf, fun x hx => HY.out.wfo x (List.mem_append_left _ hx), HY.out.below⟩
        have := HK.out; have := HM.out; omega
      case round =>
        clear hlk d0 hcut HPOP HY HS
        obtain ⟨j, ms, os, hj, rfl, hk, hs, hy⟩ := hrel
        have hjq : j ≤ q := by omega
        have HJ := Lib.hid hj
        have HK2 := Lib.hid hk
        have hos : os.length ≤ ms.length := hs.len
        have hmsl : ms.length ≤ l.length := met_short hs.nodup hs.met
        have HS := Lib.hid hs
        have HY := Lib.hid hy
        obtain ⟨A3, c3, rfl, _⟩ := own_lst hy.own
        clear hj hk hs hy
        by_cases hlt : j < q
        · have hx : j < (succs l a).length := by rw [HQ.out]; exact hlt
          obtain ⟨g2, o2, rfl, _, d2⟩ := (HL2.out.below HY.out.below).atI hx
          have hxs : (succs l a)[j]? = some (succs l a)[j] := List.getElem?_eq_getElem hx
          have hwx : Wf (succs l a)[j] := HWV.out _ (List.getElem_mem hx)
          have HX := Lib.hid hxs
          clear hxs
          generalize (succs l a)[j] = x at *
          have hlk := HY.out.met.look hwx
          by_cases hin : x ∈ ms
          · rw [decide_eq_true hin] at hlk
            have HN := Lib.hid (HS.out.known HX.out hin)
            clear hin
            go_wp2_with fail
            go_roundg (q - (j + 1))
            case measure => have := HJ.out; omega
            case rel => exact ⟨j + 1, ms, os, by omega, by go_num, HK2.out, HN.out, HY.out.alloc _⟩
          · rw [decide_eq_false hin] at hlk
            have HN := Lib.hid (HS.out.fresh HX.out hin)
            obtain ⟨w2, v', W', hup, hap, hy2⟩ := way_push HY.out (Nat.le_refl _) (by omega) (by omega) hwx
            have HY2 := Lib.hid hy2
            have HAP := Lib.hid hap
            clear hin hy2 hap
            go_wp2_with (at_builtin; refine wpList_append_run rfl (.tmp 48) (.tmp 50) 27 27 rfl _ _ rfl rfl HAP.out ?_)
            go_roundg (q - (j + 1))
            case measure => have := HJ.out; omega
            case rel => exact ⟨j + 1, ms ++ [x], os ++ [x], by omega, by go_num, by have := met_short HN.out.nodup HN.out.met; have := HK2.out; simp at *; omega, HN.out, HY2.out⟩
        · obtain rfl : j = q := by omega
          have HN := Lib.hid (HS.out.leave (by rw [HQ.out]; exact Nat.le_refl _))
          clear hlt
          go_wp2_with fail
          go_roundg (2 * (l.length - ms.length) + os.length)
          case measure => exact HK2.out
          case rel => exact ⟨ms, os, rfl, HN.out, HY.out⟩
end Go.Proofs.Ytoojoldcomokhaa
