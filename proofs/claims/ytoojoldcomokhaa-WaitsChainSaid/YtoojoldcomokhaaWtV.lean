/- The document's Ring. -/
import Derived.Test.YtoojoldcomokhaaWtF
import Derived.BigQuiet
set_option maxRecDepth 4000
namespace Go.Proofs.Ytoojoldcomokhaa
open Go.RowKit
def bothP (a b : List Int) : List Int := a.filter fun x => decide (x ∈ b)
def oneP (x : Int) (b : List Int) : List Int := if x ∈ b then [x] else []
theorem both_take {a b : List Int} {j : Nat} (h : j < a.length) : bothP (a.take (j + 1)) b = bothP (a.take j) b ++ oneP a[j] b := by
  unfold bothP oneP
  rw [List.take_succ_eq_append_getElem h, List.filter_append]
  by_cases hx : a[j] ∈ b <;> simp [hx]
theorem one_in {x : Int} {b : List Int} {q : Nat} (hb : b.Pairwise (· < ·)) (h : q < b.length) (he : b[q] = x) : oneP x (b.take q) ++ [x] = oneP x (b.take (q + 1)) := by
  unfold oneP
  have h1 : x ∉ b.take q := fun hx => by
    obtain ⟨r, hr, hre⟩ := List.getElem_of_mem hx
    rw [List.length_take] at hr
    rw [List.getElem_take] at hre
    have := List.pairwise_iff_getElem.1 hb r q (by omega) h (by omega)
    omega
  have h2 : x ∈ b.take (q + 1) := by
    rw [List.take_succ_eq_append_getElem h, he]; simp
  rw [if_neg h1, if_pos h2]; rfl
theorem one_out {x : Int} {b : List Int} {q : Nat} (h : q < b.length) (he : b[q] ≠ x) : oneP x (b.take q) = oneP x (b.take (q + 1)) := by
  unfold oneP
  have : x ∈ b.take (q + 1) ↔ x ∈ b.take q := by
    rw [List.take_succ_eq_append_getElem h, List.mem_append, List.mem_singleton]
    exact ⟨fun h => h.resolve_right fun e => he e.symm, .inl⟩
  by_cases hx : x ∈ b.take q
  · rw [if_pos hx, if_pos (this.2 hx)]
  · rw [if_neg hx, if_neg fun h => hx (this.1 h)]
def RO (w : World) (a b : List Int) (n k : Nat) (v i : Value) (wr : World) : Prop :=
  ∃ j, j + k = n ∧ i = .int .i64 (j : Int) ∧ Own wr w.heap.size eI 3 v (bothP (a.take j) b) ∧ Below w.heap.size w wr
def RI (w : World) (pre b : List Int) (x : Int) (n k : Nat) (v i : Value) (wr : World) : Prop :=
  ∃ q, q + k = n ∧ i = .int .i64 (q : Int) ∧ Own wr w.heap.size eI 3 v (pre ++ oneP x (b.take q)) ∧ Below w.heap.size w wr
set_option maxHeartbeats 2000000 in
theorem rring_ {w : World} {K : Nat → Prop} {A : Option Addr} {l : List (Int × Int)} {n c : Nat} (hl : Lst w K eE A l) (hn : l.length = n) (hmax : n ≤ 10000) (who : Int) :
    Calls Try.prog 11 #[.slice A n c, .int .i64 who] w fun e w' => ∃ v r, e = .returned v ∧ Own w' w.heap.size eI 3 v r ∧ IsRing l who r ∧ Below w.heap.size w w' := by
  have HL := Lib.hid hl.lt
  have HN := Lib.hid hn
  clear hl hn
  go_enter Try.func11, Try.ntmps11
  go_wp2_with fail
  refine (rfrom_ HL.out HN.out hmax who false).mono ?_
  rintro e w1 ⟨va, ra, rfl, hoa, hua, hma, hb1⟩
  have HB1 := Lib.hid hb1
  have HOA := Lib.hid hoa
  have HUA := Lib.hid hua
  have HMA := Lib.hid hma
  clear hb1 hoa hua hma
  go_wp2_with fail
  refine (rfrom_ (HL.out.below HB1.out) HN.out hmax who true).mono ?_
  rintro e w2 ⟨vb, rb, rfl, hob, hub, hmb, hb2⟩
  have hb02 := HB1.out.trans (hb2.mono HB1.out.size)
  have hoa2 := own_belowE HOA.out hb2
  have hla : ra.length ≤ 10000 := by
    have := met_short (up_nodup HUA.out) fun x hx => (HMA.out x).1 hx
    rw [turn_length, HN.out] at this
    omega
  have hlb : rb.length ≤ 10000 := by
    have := met_short (up_nodup hub) fun x hx => (hmb x).1 hx
    rw [turn_length, HN.out] at this
    omega
  obtain ⟨A1, c1, rfl, l1, _⟩ := own_lst hoa2
  obtain ⟨A2, c2, rfl, l2, _⟩ := own_lst hob
  obtain ⟨na, hna⟩ : ∃ m, ra.length = m := ⟨_, rfl⟩
  obtain ⟨nb, hnb⟩ : ∃ m, rb.length = m := ⟨_, rfl⟩
  rw [hna] at hla l1 ⊢
  rw [hnb] at hlb l2 ⊢
  have HUB := Lib.hid hub
  have HMB := Lib.hid hmb
  have HB2 := Lib.hid hb02
  have L1 := Lib.hid l1.lt
  have L2 := Lib.hid l2.lt
  have HNA := Lib.hid hna
  have HNB := Lib.hid hnb
  clear hb2 hb02 hoa2 hob hub hmb l1 l2 hna hnb HOA
  go_wp2_with fail
  go_loopg [7, 8] na (fun k v i wr => RO w2 ra rb na k v i wr)
  case atStart => exact ⟨0, by omega, rfl, own_nil _ _, Below.refl _ _⟩
  case round =>
    obtain ⟨j, hj, rfl, ho, hb⟩ := hrel
    have HJ := Lib.hid hj
    have HO := Lib.hid ho
    have HB := Lib.hid hb
    have hjn : j ≤ na := by omega
    clear hj ho hb
    by_cases hlt : j < na
    · have hx : j < ra.length := by rw [HNA.out]; exact hlt
      obtain ⟨g, o, rfl, hgl, d0⟩ := L1.out.atI hx
      have hbt := both_take (b := rb) hx
      have HBT := Lib.hid hbt
      clear hbt
      generalize ra[j] = x at *
      go_wp2_with fail
      go_loopg [7, 9] nb (fun k v i wr => RI w2 (bothP (ra.take j) rb) rb x nb k v i wr)
      case atStart => exact ⟨0, by omega, rfl, by simpa [oneP] using HO.out, HB.out⟩
      case round =>
        clear HO HB
        obtain ⟨q, hq, rfl, ho, hb⟩ := hrel
        have HQ := Lib.hid hq
        have HO := Lib.hid ho
        have HB := Lib.hid hb
        have hqn : q ≤ nb := by omega
        clear hq ho hb
        by_cases hlq : q < nb
        · have hy : q < rb.length := by rw [HNB.out]; exact hlq
          obtain ⟨g2, o2, rfl, _, e0⟩ := (L2.out.below HB.out).atI hy
          have d1 := (HB.out.cell (p := ⟨g, o + j, none⟩) hgl).trans d0
          by_cases he : rb[q] = x
          · have hone := one_in HUB.out hy he
            have HONE := Lib.hid hone
            have heq : (x == x) = true := by simp
            rw [he] at e0
            have hlp : (bothP (ra.take j) rb ++ oneP x (rb.take q)).length ≤ 100000 := by
              have h1 : (bothP (ra.take j) rb).length ≤ (ra.take j).length := List.length_filter_le _ _
              have h2 : (oneP x (rb.take q)).length ≤ 1 := by unfold oneP; split <;> simp
              rw [List.length_append]; rw [List.length_take] at h1; omega
            have HLP := Lib.hid hlp
            clear hone hlp he
            go_wp2_with fail
            go_quiet (fail)
            have hdb := below_drewN HB.out nq
            have hod : Own (wr.drewN nq) w2.heap.size eI 3 _ _ := HO.out
            have d2 : (wr.drewN nq).cell? ⟨g, o + j, none⟩ = some (.int .i64 x) := d1
            have hsz : (wr.drewN nq).heap.size = wr.heap.size := rfl
            obtain ⟨v', W', hap, ho', hb'⟩ := append_int hod hdb.size HLP.out hdb x
            rw [List.append_assoc, HONE.out] at ho'
            rw [hsz] at hap
            have HAP := Lib.hid hap
            have HO2 := Lib.hid ho'
            have HB2' := Lib.hid hb'
            clear hdb hod hap ho' hb' hsz
            go_wp2_with (at_builtin; refine wpList_append_run rfl (.tmp 37) (.tmp 42) 27 27 rfl _ _ rfl rfl HAP.out ?_)
            go_roundg (nb - (q + 1))
            case measure => have := HQ.out; omega
            case rel => exact ⟨q + 1, by have := HQ.out; omega, by go_num, HO2.out, HB2'.out⟩
          · have hone := one_out hy he
            have HO2 := HO.out
            rw [hone] at HO2
            have HO3 := Lib.hid HO2
            have heq : (x == rb[q]) = false := by simpa using fun e : x = rb[q] => he e.symm
            clear hone HO2 he
            generalize rb[q] = y at *
            go_wp2_with fail
            go_quiet (fail)
            go_wp2_with fail
            go_roundg (nb - (q + 1))
            case measure => have := HQ.out; omega
            case rel => exact ⟨q + 1, by have := HQ.out; omega, by go_num, HO3.out, below_drewN HB.out _⟩
        · obtain rfl : q = nb := by omega
          have ho := HO.out
          rw [List.take_of_length_le (l := rb) (by rw [HNB.out]; exact Nat.le_refl _), ← HBT.out] at ho
          have HO2 := Lib.hid ho
          clear ho hlq
          go_wp2_with fail
          go_roundg (na - (j + 1))
          case measure => have := HJ.out; omega
          case rel => exact ⟨j + 1, by have := HJ.out; omega, by go_num, HO2.out, HB.out⟩
    · obtain rfl : j = na := by omega
      have hring : IsRing l who (bothP ra rb) := by
        refine ⟨List.Pairwise.filter _ HUA.out, fun x => ?_⟩
        unfold bothP
        rw [List.mem_filter, decide_eq_true_iff, HMA.out, HMB.out]
        exact and_congr Iff.rfl reach_flip
      have HR := Lib.hid hring
      have ho := HO.out
      rw [List.take_of_length_le (by rw [HNA.out]; exact Nat.le_refl _)] at ho
      have HO2 := Lib.hid (own_base ho HB2.out.size)
      have HBE := Lib.hid (HB2.out.trans (HB.out.mono HB2.out.size))
      clear hring ho hlt
      go_wp2_with fail
      go_ret
      exact ⟨_, _, rfl, HO2.out, HR.out, HBE.out⟩
end Go.Proofs.Ytoojoldcomokhaa
