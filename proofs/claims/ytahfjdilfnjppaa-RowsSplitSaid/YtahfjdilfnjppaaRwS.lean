/- RowsSplit, walked. -/
import Derived.Test.YtahfjdilfnjppaaRwV
import Derived.Test.YtahfjdilfnjppaaRowS
import Derived.Test.YtahfjdilfnjppaaRowU
set_option maxRecDepth 4000
namespace Go.Proofs.Ytahfjdilfnjppaa
open Go.RowKit
theorem cmpS_nil (a b : ByteArray) (h : b.toList = []) : 0 ≤ cmpS a b := by
  rw [cmpS, h]; cases a.toList <;> simp [cmpL]
theorem inS_ahead (k t : ByteArray) (h : ¬ t.toList = []) : inS k ⟨#[]⟩ t = decide (cmpS k t < 0) := by
  have h1 : decide (0 ≤ cmpS k ⟨#[]⟩) = true := decide_eq_true (cmpS_nil _ _ (by simp))
  have h2 : (t.toList == []) = false := beq_eq_false_iff_ne.2 h
  rw [inS, h1, h2, Bool.true_and, Bool.false_or]
theorem inS_on (k f : ByteArray) : inS k f ⟨#[]⟩ = decide (0 ≤ cmpS k f) := by simp [inS]
theorem inS_none (k f : ByteArray) (h : ¬ f.toList = []) : inS k f f = false := by
  have h2 : (f.toList == []) = false := beq_eq_false_iff_ne.2 h
  rw [inS, h2, Bool.false_or]
  by_cases hc : cmpS k f < 0
  · rw [decide_eq_false (by omega)]; rfl
  · rw [decide_eq_false hc, Bool.and_false]
theorem rises_tail {x : Rw} {r : List Rw} (h : risesR (x :: r) = true) : risesR r = true := by
  cases r with
  | nil => rfl
  | cons y r => rw [risesR, Bool.and_eq_true] at h; exact h.2
theorem rises_on {x : Rw} {r : List Rw} (h : risesR (x :: r) = true) {k : ByteArray} (hx : 0 ≤ cmpS x.1 k) : ∀ y ∈ r, 0 ≤ cmpS y.1 k := by
  induction r generalizing x with
  | nil => intro y hy; cases hy
  | cons z r ih =>
    rw [risesR, Bool.and_eq_true] at h
    have h1 := of_decide_eq_true h.1
    have hz : 0 ≤ cmpS z.1 k := cmpS_trans' z.1 x.1 k (by have := cmpS_turn x.1 z.1; omega) hx
    intro y hy
    rcases List.mem_cons.1 hy with rfl | hy
    · exact hz
    · exact ih h.2 hz y hy
theorem split_rows {l : List Rw} (h : risesR l = true) {k : ByteArray} (hk : ¬ k.toList = []) : rangeR l ⟨#[]⟩ k ++ rangeR l k ⟨#[]⟩ = l := by
  have e1 : ∀ l : List Rw, rangeR l ⟨#[]⟩ k = l.filter fun r => decide (cmpS r.1 k < 0) := fun l => by unfold rangeR; congr 1; funext r; exact inS_ahead _ _ hk
  have e2 : ∀ l : List Rw, rangeR l k ⟨#[]⟩ = l.filter fun r => decide (0 ≤ cmpS r.1 k) := fun l => by unfold rangeR; congr 1; funext r; exact inS_on _ _
  rw [e1, e2]
  induction l with
  | nil => rfl
  | cons x r ih =>
    by_cases hx : cmpS x.1 k < 0
    · rw [List.filter_cons_of_pos (by simpa using hx), List.filter_cons_of_neg (by simpa using hx), List.cons_append, ih (rises_tail h)]
    · have hx0 : 0 ≤ cmpS x.1 k := by omega
      have ho := rises_on h hx0
      have f1 : (r.filter fun r => decide (cmpS r.1 k < 0)) = [] := List.filter_eq_nil_iff.2 fun y hy => by have := ho y hy; simp; omega
      have f2 : (r.filter fun r => decide (0 ≤ cmpS r.1 k)) = r := List.filter_eq_self.2 fun y hy => by simpa using ho y hy
      rw [List.filter_cons_of_neg (by simpa using hx), List.filter_cons_of_pos (by simpa using hx0), f1, f2]; rfl
theorem range_none (l : List Rw) {k : ByteArray} (hk : ¬ k.toList = []) : rangeR l k k = [] := List.filter_eq_nil_iff.2 fun y _ => by rw [inS_none _ _ hk]; simp
set_option maxHeartbeats 1000000 in
theorem rowsSplit (A : Option Addr) (n c : Nat) (xs : List Rw) (key : ByteArray) (w : World) {K : Nat → Prop} (h : Lst w K eR A xs) (hl : xs.length = n) (hz : ∀ r ∈ xs, r.1.size ≤ maxLen) :
    Calls Try.prog 3 #[.slice A n c, .string key] w fun e w' => e = .returned (.bool true) ∧ Below w.heap.size w w' := by
  have H := Lib.hid h
  have HL := Lib.hid hl
  have HZ := Lib.hid hz
  clear h hl hz
  by_cases hn : n ≤ 60
  · obtain ⟨up, hup⟩ : ∃ up, risesR xs = up := ⟨_, rfl⟩
    have HUP := Lib.hid hup
    clear hup
    go_enter Try.func3, Try.ntmps3
    go_wp2_with fail
    refine (alive_ _).mono ?_
    rintro e w2 ⟨rfl, hb2⟩
    have H2 := Lib.hid hb2
    clear hb2
    go_wp2_with fail
    refine (rises_ (H.out.below H2.out).rws HL.out (by omega) HZ.out).mono ?_
    rintro e w3 ⟨rfl, hb3⟩
    have H3 := Lib.hid (H2.out.trans (hb3.mono H2.out.size))
    rw [HUP.out]
    clear hb3 H2
    cases up
    · go_wp2_with fail
      go_ret
      exact ⟨rfl, H3.out⟩
    · by_cases hk : key.toList = []
      · go_wp2_with fail
        go_ret
        exact ⟨rfl, H3.out⟩
      · have HSP := Lib.hid (split_rows HUP.out hk)
        have HNO := Lib.hid (range_none xs hk)
        have hk2 : key.toList.isEmpty = false := by simpa using hk
        have hn2 : ¬ (60 : Int) < (n : Int) := by omega
        clear hk
        go_wp2_with fail
        refine (range_ (H.out.below H3.out) HL.out (by omega) ⟨#[]⟩ key).mono ?_
        rintro e w4 ⟨_, rfl, o4, hb4⟩
        have l4 := range_le xs ⟨#[]⟩ key
        rw [HL.out] at l4
        generalize rangeR xs ⟨#[]⟩ key = r1 at *
        obtain ⟨A4, c4, rfl, q4, _⟩ := own_lst o4
        generalize hl1 : r1.length = n1 at *
        have H4 := Lib.hid (H3.out.trans (hb4.mono H3.out.size))
        have Q4 := Lib.hid q4
        have L1 := Lib.hid hl1
        clear hb4 o4 q4 hl1
        go_wp2_with fail
        refine (range_ (H.out.below H4.out) HL.out (by omega) key ⟨#[]⟩).mono ?_
        rintro e w5 ⟨_, rfl, o5, hb5⟩
        have l5 := range_le xs key ⟨#[]⟩
        rw [HL.out] at l5
        generalize rangeR xs key ⟨#[]⟩ = r2 at *
        obtain ⟨A5, c5, rfl, q5, _⟩ := own_lst o5
        generalize hl2 : r2.length = n2 at *
        obtain ⟨v6, w6, hap6, ho6, hg6, _⟩ := append_own tyR (own_nil (E := eR) w5 w5.heap.size) (Q4.out.below hb5) L1.out c4 (by show 0 + n1 ≤ _; omega) (Nat.le_refl _)
        rw [List.nil_append] at ho6
        have hb6 : Below w5.heap.size w5 w6 := (Below.refl _ _).grown hg6 (Nat.le_refl _) (fun k hk => by simp [Value.ownBlock] at hk)
        obtain ⟨v7, w7, hap7, ho7, hg7, _⟩ := append_own tyR ho6 (q5.below hb6) hl2 c5 (by rw [L1.out]; omega) hb6.size
        rw [HSP.out] at ho7
        have hb7 : Below w5.heap.size w5 w7 := hb6.grown hg7 hb6.size (fun k hk => (own_blk ho6 hk).1)
        have H5 := Lib.hid (H4.out.trans (hb5.mono H4.out.size))
        have H7 := Lib.hid (H5.out.trans (hb7.mono H5.out.size))
        obtain ⟨A7, c7, rfl, q7, _⟩ := own_lst ho7
        rw [HL.out] at hap7
        have hsm := same_rows (c := c7) (c2 := c) q7.rws (H.out.below H7.out).rws HL.out HL.out (by omega)
        rw [decide_eq_true rfl] at hsm
        have HSM := Lib.hid hsm
        clear hsm q7 ho7 hg7 hb7 ho6 hg6 hb6 q5 o5 hb5 hl2
        go_wp2_with (first | (at_builtin; refine wpList_append_run_g (by rfl) _ _ 22 22 rfl _ _ rfl rfl hap6 ?_) | (at_builtin; refine wpList_append_run_g (by rfl) _ _ 22 22 rfl _ _ rfl rfl hap7 ?_))
        refine HSM.out.mono ?_
        rintro e w8 ⟨rfl, hb8⟩
        have H8 := Lib.hid (H7.out.trans (hb8.mono H7.out.size))
        clear hb8
        go_wp2_with fail
        refine (range_ (H.out.below H8.out) HL.out (by omega) key key).mono ?_
        rintro e w9 ⟨_, rfl, o9, hb9⟩
        rw [HNO.out] at o9
        obtain ⟨A9, c9, rfl, _⟩ := own_lst o9
        have H9 := Lib.hid (H8.out.trans (hb9.mono H8.out.size))
        clear hb9 o9
        go_wp2_with fail
        go_ret
        exact ⟨rfl, H9.out⟩
  · go_enter Try.func3, Try.ntmps3
    go_wp2_with fail
    refine (alive_ _).mono ?_
    rintro e w2 ⟨rfl, hb2⟩
    have H2 := Lib.hid hb2
    clear hb2
    go_wp2_with fail
    go_ret
    exact ⟨rfl, H2.out⟩
end Go.Proofs.Ytahfjdilfnjppaa
