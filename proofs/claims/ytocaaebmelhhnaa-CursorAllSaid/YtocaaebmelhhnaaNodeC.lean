/- What Cut and Halves of package node make. -/
import Derived.Test.YtocaaebmelhhnaaNodeP
set_option maxRecDepth 4000
namespace Go.Proofs.Ytocaaebmelhhnaa
open Go.RowKit
set_option maxHeartbeats 1000000 in
theorem cutrow_ {w : World} {K : Nat → Prop} {A : Option Addr} {n c : Nat} {xs : List Rw} (h : Rws w K A xs) (hl : xs.length = n) (hn : n ≤ 100000) (hc : n ≤ c) (hA : A = none → c = 0) (k : ByteArray) :
    Calls Try.prog 61 #[.slice A n c, .string k] w fun e w' => ∃ v, e = .returned (.tuple #[v, .bool (foundR xs k)]) ∧ NewR w (cutRw xs k).length (cutRw xs k) v w' := by
  have H := Lib.hid h
  have HL := Lib.hid hl
  have hf1 := findR_le xs k
  rw [hl] at hf1
  have hfind := fun W (hW : Rws W K A xs) => find_row (c := c) hW hl (by omega) k
  obtain ⟨fd, hfd⟩ : ∃ fd, foundR xs k = fd := ⟨_, rfl⟩
  have HFD := Lib.hid hfd
  rw [hfd] at hfind ⊢
  have HFI := Lib.hid hfind
  cases fd
  · have hcl := clone_rows h hl (by omega) hA
    have he : cutRw xs k = xs := by rw [cutRw, hfd]; rfl
    have HCL := Lib.hid hcl
    have HE := Lib.hid he
    clear h hl hfd hfind hcl he hA
    generalize findR xs k = q at *
    go_enter Try.func61, Try.ntmps61
    go_wp2_with (first | (go_at_call 62; refine (HFI.out _ H.out).mono ?_; rintro e w' ⟨rfl, rfl⟩) | (go_at_call 65; refine HCL.out.mono ?_; rintro e w' ⟨v1, rfl, hn1⟩; have HN1 := Lib.hid hn1; clear hn1))
    go_ret2
    refine ⟨v1, rfl, ?_⟩
    rw [HE.out, HL.out]; exact HN1.out
  · have hlt := foundR_lt hfd
    rw [hl] at hlt
    have he := cut_at hfd
    have HE := Lib.hid he
    clear h hl hfd hfind he hA
    generalize findR xs k = q at *
    have hd1 := fun W => head_rows A n c q (by omega) W
    obtain ⟨A2, hd2, hr2, _⟩ := tail_rows H.out HL.out hc (show q + 1 ≤ n by omega) rfl
    obtain ⟨m2, hm2⟩ : ∃ m, n - (q + 1) = m := ⟨_, rfl⟩
    rw [hm2] at hd2
    have hd2' : ∀ W, (Instr.slice 22 (.slice A n c) (some (.int .i64 ((q : Int) + 1))) none none).run Try.prog W = .ok (.slice A2 m2 (c - (q + 1))) W := hd2
    have h2 := concat2 (q := q) (m := m2) (c1 := c) (c2 := c - (q + 1)) (H.out.take q) (by rw [List.length_take, HL.out]; omega) hr2 (by rw [List.length_drop, HL.out]; exact hm2) (by omega) (b := w.heap.size) rfl
    have hlen : (cutRw xs k).length = q + m2 := by rw [HE.out, List.length_append, List.length_take, List.length_drop, HL.out]; omega
    have H2 := Lib.hid h2
    have HN := Lib.hid hlen
    have hw : IntKind.i64.wrap ((q : Int) + 1) = (q : Int) + 1 := by rw [IntKind.wrap_i64]; omega
    clear h2 hlen hm2 hd2 hr2 hlt hf1
    go_enter Try.func61, Try.ntmps61
    go_wp2_with (go_at_call 62; refine (HFI.out _ H.out).mono ?_; rintro e w' ⟨rfl, rfl⟩)
    go_region_with (go_at_call 66; refine H2.out.mono ?_; rintro e w' ⟨v1, rfl, hn1⟩; have HN1 := Lib.hid hn1; clear hn1)
    go_wp2
    go_ret2
    exact ⟨v1, rfl, by rw [HN.out, HE.out]; exact HN1.out⟩
def HalvesP (w : World) (n : Nat) (xs : List Rw) (e : Ending) (w' : World) : Prop :=
  ∃ A1 c1 A2 c2, e = .returned (.tuple #[.slice A1 ((n + 1) / 2) c1, .slice A2 (n - (n + 1) / 2) c2]) ∧ Rws w' (fun i => w.heap.size ≤ i) A1 (xs.take ((n + 1) / 2)) ∧ Rws w' (fun i => w.heap.size ≤ i) A2 (xs.drop ((n + 1) / 2)) ∧
    (n + 1) / 2 ≤ c1 ∧ c1 ≤ maxLen ∧ (A1 = none → c1 = 0) ∧ n - (n + 1) / 2 ≤ c2 ∧ c2 ≤ maxLen ∧ (A2 = none → c2 = 0) ∧ Below w.heap.size w w'
theorem NewR.bel {w w' : World} {n : Nat} {xs : List Rw} {v : Value} (h : NewR w n xs v w') : Below w.heap.size w w' := by
  obtain ⟨_, _, _, _, _, _, _, hk⟩ := h
  exact hk
set_option maxHeartbeats 1000000 in
theorem halves_ {w : World} {K : Nat → Prop} {A : Option Addr} {n c : Nat} {xs : List Rw} (h : Rws w K A xs) (hl : xs.length = n) (hn : n ≤ 100000) (hc : n ≤ c) (hA : A = none → c = 0) :
    Calls Try.prog 68 #[.slice A n c] w (HalvesP w n xs) := by
  have hq : ((n : Int) + 1).tdiv 2 = (((n + 1) / 2 : Nat) : Int) := by
    rw [Int.tdiv_eq_ediv_of_nonneg (by omega)]; omega
  have hqn : (n + 1) / 2 ≤ n := by omega
  unfold HalvesP
  generalize (n + 1) / 2 = q at *
  obtain ⟨A2, hd2, hr2, hA2⟩ := tail_rows h hl hc hqn rfl
  have hd1 := fun W => head_rows A n c q (by omega) W
  have hc2 : A2 = none → c - q = 0 := fun e => by have := hA (hA2 e); omega
  have hl2 : (xs.drop q).length = n - q := by rw [List.length_drop, hl]
  have c1 := clone_rows (c := c) (h.take q).drew (show (xs.take q).length = q by rw [List.length_take, hl]; omega) (by omega) hA
  have hm0 : n - q ≤ 1000000 := by omega
  have C1 := Lib.hid c1
  have HR2 := Lib.hid hr2
  have HC2 := Lib.hid hc2
  have HL2 := Lib.hid hl2
  clear h hl hA hr2 hA2 hc2 hl2 c1
  generalize hm : n - q = m at *
  go_enter Try.func68, Try.ntmps68
  go_wp2
  go_region_with (first | (go_at_call 65; refine C1.out.mono ?_; rintro e w1 ⟨v1, rfl, hn1⟩; have hk1 := hn1.of_below ((Below.refl w.heap.size w).drew); have HN1 := Lib.hid hk1; clear hn1 hk1) | (go_at_call 65; refine (clone_rows (HR2.out.below HN1.out.bel) HL2.out hm0 HC2.out).mono ?_; rintro e w2 ⟨v2, rfl, hn2⟩; have HN2 := Lib.hid hn2; clear hn2))
  go_wp2
  go_ret2
  obtain ⟨A1, c1, rfl, r1, p1, p2, p3, b1⟩ := HN1.out
  obtain ⟨A3, c3, rfl, r3, p4, p5, p6, b3⟩ := HN2.out
  exact ⟨A1, c1, A3, c3, rfl, r1.below b3, r3.more fun i _ hi => Nat.le_trans b1.size hi, p1, p2, p3, p4, p5, p6, b1.trans (b3.mono b1.size)⟩
end Go.Proofs.Ytocaaebmelhhnaa
