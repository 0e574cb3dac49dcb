/- Plain facts on states that hold empty tables of one azL each. Nothing of the program. The lowest bits of a number. What the reading of a slice of numbers gives. Words for the law on objects that are made: letters of a text, an array of truths, a state that a law holds beside others. -/
import Derived.Test.YtdjmjckmbclhiaaJ18
import Derived.Test.YtdjmjckmbclhiaaJ09
import Derived.Lib.Strings
import Derived.Laws.BitsLemmas
import Derived.Test.YtdjmjckmbclhiaaHeld
import Derived.Test.YtdjmjckmbclhiaaJ01
import Derived.Deep.Slices
import Derived.ChangeArms
import Derived.Deep.QuietTactic
import Derived.OwnWalk
set_option maxRecDepth 4000
namespace Go.Proofs.Ytdjmjckmbclhiaa
/-- the k-th azL -/
def azL (k : Nat) : ByteArray := ⟨#[UInt8.ofNat (97 + k)]⟩
def tabO (k : Nat) : Ob := ⟨azL k, 1, 0, [], [], []⟩
def mkT (k : Nat) : Ef := ⟨1, azL k, ⟨#[]⟩, ⟨#[]⟩, 1, 0, false, Mg.zero⟩
theorem az_nat {a : Nat} (h : a < 26) : (UInt8.ofNat (97 + a)).toNat = 97 + a := by
  rw [UInt8.toNat_ofNat']; omega
theorem az_list (a : Nat) : (azL a).toList = [UInt8.ofNat (97 + a)] := by rw [Lib.toList_data]; rfl
theorem az_lt {a b : Nat} (ha : a < 26) (hb : b < 26) : cmpS (azL a) (azL b) < 0 ↔ a < b := by
  have h1 := az_nat ha
  have h2 := az_nat hb
  rw [cmpS, az_list, az_list, cmpL]
  simp only [UInt8.lt_iff_toNat_lt, h1, h2]
  split
  · constructor
    · intro _; omega
    · intro _; decide
  · split
    · constructor
      · intro h; exact absurd h (by decide)
      · intro _; omega
    · constructor
      · intro h; exact absurd h (by decide)
      · intro _; omega
theorem az_eq {a b : Nat} (ha : a < 26) (hb : b < 26) : ((azL a).toList == (azL b).toList) = decide (a = b) := by
  rw [az_list, az_list]
  by_cases h : a = b
  · subst h; simp
  · rw [decide_eq_false h]
    have : UInt8.ofNat (97 + a) ≠ UInt8.ofNat (97 + b) := fun e => h (by have := congrArg UInt8.toNat e; rw [az_nat ha, az_nat hb] at this; omega)
    rw [beq_eq_false_iff_ne]
    intro e
    injection e with e _
    exact this e
theorem az_size (k : Nat) : (azL k).size = 1 := rfl
theorem az_name (k : Nat) : nameB (azL k) = true := by unfold nameB; rw [az_size]; decide
theorem mkT_right {k : Nat} : (mkT k).right = true := by
  have e1 : (mkT k).bare = mkT k := by simp [Ef.bare, mkT]
  have e2 : (mkT k).good = true := by simp [Ef.good, mkT, az_name, kindB]
  rw [Ef.right, e1, e2, same_self]; rfl
theorem tab_right (k : Nat) : (tabO k).right = true := by simp [Ob.right, tabO, az_name, kindB, risesR]
/-- letters that rise, each of them one -/
structure Ris (ls : List Nat) : Prop where
  up : ls.Pairwise (· < ·)
  lt : ∀ k ∈ ls, k < 26
theorem tabs_right {ls : List Nat} (h : Ris ls) (hn : ls.length ≤ 20) : rightS ⟨1, ls.map tabO⟩ = true := by
  have hall : (List.range (ls.map tabO).length).all (okAt ⟨1, ls.map tabO⟩) = true := by
    rw [List.all_eq_true]
    intro i hi
    have hi2 : i < ls.length := by simpa using hi
    have hg : (ls.map tabO)[i]? = some (tabO ls[i]) := by rw [List.getElem?_map, List.getElem?_eq_getElem hi2]; rfl
    unfold okAt
    simp only [hg]
    have hf : ∀ ms, freshB ms (tabO ls[i]).msgs 1 = true := fun ms => rfl
    have hf2 : ∀ ms, freshB ms (tabO ls[i]).dead 1 = true := fun ms => rfl
    rw [hf, hf2, tab_right]
    rcases Nat.eq_zero_or_pos i with h0 | h0
    · subst h0; rfl
    · have hi3 : i - 1 < ls.length := by omega
      have hg2 : (ls.map tabO)[i - 1]? = some (tabO ls[i - 1]) := by rw [List.getElem?_map, List.getElem?_eq_getElem hi3]; rfl
      simp only [hg2]
      have hc : cmpS (tabO ls[i - 1]).name (tabO ls[i]).name < 0 := (az_lt (h.lt _ (List.getElem_mem hi3)) (h.lt _ (List.getElem_mem hi2))).2 (List.pairwise_iff_getElem.1 h.up _ _ hi3 hi2 (by omega))
      rw [decide_eq_true hc]
      simp
  simp only [rightS, hall]
  simp [hn]
theorem any_az {ls : List Nat} (h : Ris ls) {k : Nat} (hk : k < 26) : (ls.map tabO).any (isN (azL k)) = decide (k ∈ ls) := by
  rw [List.any_map, Bool.eq_iff_iff, List.any_eq_true, decide_eq_true_iff]
  constructor
  · rintro ⟨a, ha, e⟩
    have := az_eq (h.lt a ha) hk
    simp only [Function.comp, isN, tabO] at e
    rw [this] at e
    have e2 : a = k := by simpa using e
    exact e2 ▸ ha
  · intro hm
    exact ⟨k, hm, by simp [isN, tabO]⟩
/-- where azL k goes -/
def spotL (ls : List Nat) (k : Nat) : Nat := ls.findIdx fun a => decide (k ≤ a)
theorem spot_az {ls : List Nat} (h : Ris ls) {k : Nat} (hk : k < 26) : spotO (ls.map tabO) (azL k) = spotL ls k := by
  unfold spotO spotL
  rw [List.findIdx_map]
  have key : ∀ l : List Nat, (∀ a ∈ l, a < 26) → l.findIdx ((fun o : Ob => decide (0 ≤ cmpS o.name (azL k))) ∘ tabO) = l.findIdx fun a => decide (k ≤ a) := by
    intro l
    induction l with
    | nil => intro _; rfl
    | cons a r ih =>
      intro hl
      have hd : ((fun o : Ob => decide (0 ≤ cmpS o.name (azL k))) ∘ tabO) a = decide (k ≤ a) := by
        have := az_lt (hl a (by simp)) hk
        show decide (0 ≤ cmpS (azL a) (azL k)) = _
        apply decide_eq_decide.2
        constructor
        · intro h1
          have : ¬ a < k := fun h2 => by have := this.2 h2; omega
          omega
        · intro h1
          have : ¬ cmpS (azL a) (azL k) < 0 := fun h2 => by have := this.1 h2; omega
          omega
      rw [List.findIdx_cons, List.findIdx_cons, hd, ih fun x hx => hl x (by simp [hx])]
  exact key ls h.lt
def insL (ls : List Nat) (k : Nat) : List Nat := ls.take (spotL ls k) ++ k :: ls.drop (spotL ls k)
theorem ins_len (ls : List Nat) (k : Nat) : (insL ls k).length = ls.length + 1 := by
  have : spotL ls k ≤ ls.length := List.findIdx_le_length
  simp [insL]; omega
theorem mem_ins {ls : List Nat} {k x : Nat} : x ∈ insL ls k ↔ x ∈ ls ∨ x = k := by
  have e : ls = ls.take (spotL ls k) ++ ls.drop (spotL ls k) := (List.take_append_drop _ _).symm
  unfold insL
  constructor
  · intro h
    rcases List.mem_append.1 h with h | h
    · exact .inl (List.mem_of_mem_take h)
    · rcases List.mem_cons.1 h with h | h
      · exact .inr h
      · exact .inl (List.mem_of_mem_drop h)
  · rintro (h | h)
    · rw [e] at h
      rcases List.mem_append.1 h with h | h
      · exact List.mem_append.2 (.inl h)
      · exact List.mem_append.2 (.inr (List.mem_cons.2 (.inr h)))
    · exact List.mem_append.2 (.inr (List.mem_cons.2 (.inl h)))
theorem ins_ris {ls : List Nat} (h : Ris ls) {k : Nat} (hk : k < 26) (hn : k ∉ ls) : Ris (insL ls k) := by
  have hsp : spotL ls k ≤ ls.length := List.findIdx_le_length
  refine ⟨?_, fun x hx => ?_⟩
  · unfold insL
    rw [List.pairwise_append]
    refine ⟨h.up.sublist (List.take_sublist _ _), ?_, ?_⟩
    · rw [List.pairwise_cons]
      refine ⟨fun x hx => ?_, h.up.sublist (List.drop_sublist _ _)⟩
      obtain ⟨q, hq, rfl⟩ := List.getElem_of_mem hx
      rw [List.length_drop] at hq
      have hs : spotL ls k < ls.length := by omega
      have h1 : decide (k ≤ ls[spotL ls k]) = true := List.findIdx_getElem (p := fun a => decide (k ≤ a)) (w := hs)
      have h2 : k ≤ ls[spotL ls k] := by simpa using h1
      rw [List.getElem_drop]
      have h3 : ls[spotL ls k] ≤ ls[spotL ls k + q] := by
        rcases Nat.eq_zero_or_pos q with h0 | h0
        · subst h0; exact Nat.le_refl _
        · exact Nat.le_of_lt (List.pairwise_iff_getElem.1 h.up _ _ hs (by omega) (by omega))
      have h4 : k ≠ ls[spotL ls k + q] := fun e => hn (e ▸ List.getElem_mem _)
      omega
    · intro a ha b hb
      obtain ⟨q, hq, rfl⟩ := List.getElem_of_mem ha
      rw [List.length_take] at hq
      rw [List.getElem_take]
      have h1 := List.not_of_lt_findIdx (p := fun a => decide (k ≤ a)) (xs := ls) (i := q) (Nat.lt_of_lt_of_le hq (Nat.min_le_left _ _))
      have hql : ls[q]'(by omega) < k := by simpa using h1
      rcases List.mem_cons.1 hb with rfl | hb
      · exact hql
      · obtain ⟨p, hp, rfl⟩ := List.getElem_of_mem hb
        rw [List.length_drop] at hp
        rw [List.getElem_drop]
        exact List.pairwise_iff_getElem.1 h.up _ _ (by omega) (by omega) (by omega)
  · rcases mem_ins.1 hx with hx | rfl
    · exact h.lt x hx
    · exact hk
/-- one azL more, asked for -/
def wantL (ls : List Nat) (k : Nat) : Int := if k ∈ ls then 4 else if ls.length = 20 then 6 else 0
theorem one_az {ls : List Nat} (h : Ris ls) (hn : ls.length ≤ 20) {k : Nat} (hk : k < 26) :
    applyS ⟨1, ls.map tabO⟩ [mkT k] = if wantL ls k = 0 then (0, ⟨1, (insL ls k).map tabO⟩) else (wantL ls k, St.zero) := by
  have hm : makeO (ls.map tabO) (mkT k) = if k ∈ ls then (4, ls.map tabO) else if 20 ≤ ls.length then (6, ls.map tabO) else (0, (insL ls k).map tabO) := by
    have e1 : (mkT k).obj = azL k := rfl
    unfold makeO
    rw [e1, any_az h hk, spot_az h hk, List.length_map]
    by_cases h1 : k ∈ ls
    · simp [h1]
    · simp only [h1, decide_false, if_false, Bool.false_eq_true]
      by_cases h2 : 20 ≤ ls.length
      · simp [h2]
      · simp only [h2, if_false]
        simp [insL, List.map_take, List.map_drop, tabO, mkT]
  have hone : oneS ⟨1, ls.map tabO⟩ (mkT k) = ((makeO (ls.map tabO) (mkT k)).1, ⟨1, (makeO (ls.map tabO) (mkT k)).2⟩) := by
    have hk1 : (mkT k).kind = 1 := rfl
    rw [oneS, if_neg (by rw [mkT_right]; decide), if_pos hk1]
  rw [applyS, if_pos (tabs_right h hn), runS, hone, hm]
  unfold wantL
  by_cases h1 : k ∈ ls
  · simp [h1]
  · by_cases h2 : ls.length = 20
    · have : 20 ≤ ls.length := by omega
      simp [h1, h2]
    · have : ¬ 20 ≤ ls.length := by omega
      simp [h1, h2, this, runS]
end Go.Proofs.Ytdjmjckmbclhiaa
namespace Go.Proofs.Ytdjmjckmbclhiaa
open Go
theorem low_bits (m : Nat) (c : Int) (n : Int) (hm : m ≤ 60) (hc : (BitVec.ofInt 64 c).toNat = 2 ^ m - 1) : bits .and .i64 n c = ((n % ((2 ^ 64 : Nat) : Int)).toNat % 2 ^ m : Nat) := by
  have key : (BitVec.ofInt 64 n &&& BitVec.ofInt 64 c).toNat = (n % ((2 ^ 64 : Nat) : Int)).toNat % 2 ^ m := by
    rw [BitVec.toNat_and, BitVec.toNat_ofInt, hc, Nat.and_two_pow_sub_one_eq_mod]
  show IntKind.i64.wrap ((BitVec.ofInt 64 n &&& BitVec.ofInt 64 c).toNat : Nat) = _
  rw [key, IntKind.wrap_i64]
  have h1 : (n % ((2 ^ 64 : Nat) : Int)).toNat % 2 ^ m < 2 ^ m := Nat.mod_lt _ (Nat.two_pow_pos m)
  have h2 : 2 ^ m ≤ 2 ^ 60 := Nat.pow_le_pow_right (by omega) hm
  omega
theorem and1 (n : Nat) : bits .and .i64 (n : Int) 1 = ((n % 2 : Nat) : Int) := by
  rw [low_bits 1 1 n (by omega) (by decide)]
  omega
theorem and3 (n : Int) : ∃ m : Nat, m ≤ 3 ∧ bits .and .i64 n 3 = (m : Int) :=
  ⟨_, by have := Nat.mod_lt ((n % ((2 ^ 64 : Nat) : Int)).toNat) (Nat.two_pow_pos 2); omega, low_bits 2 3 n (by omega) (by decide)⟩
theorem and511 (n : Int) : ∃ m : Nat, m ≤ 511 ∧ bits .and .i64 n 511 = (m : Int) :=
  ⟨_, by have := Nat.mod_lt ((n % ((2 ^ 64 : Nat) : Int)).toNat) (Nat.two_pow_pos 9); omega, low_bits 9 511 n (by omega) (by decide)⟩
theorem and1023 (n : Int) : ∃ m : Nat, m ≤ 1023 ∧ bits .and .i64 n 1023 = (m : Int) :=
  ⟨_, by have := Nat.mod_lt ((n % ((2 ^ 64 : Nat) : Int)).toNat) (Nat.two_pow_pos 10); omega, low_bits 10 1023 n (by omega) (by decide)⟩
end Go.Proofs.Ytdjmjckmbclhiaa
namespace Go.Proofs.Ytdjmjckmbclhiaa
open Go.ChangeShapes Go.WideShapes Go.ChangeAt Go.RowKit Go.Deep
theorem cells3 : Try.prog.cellsOf 3 = 1 := by kernel_rfl
/-- the slice of address A and length n holds these numbers, in a block that was there -/
def Ints (w : World) (A : Option Addr) (n : Nat) (zs : List Int) : Prop :=
  zs.length = n ∧ (0 < n → ∃ b o, A = some ⟨b, o, none⟩ ∧ b < w.heap.size ∧ ∀ j x, zs[j]? = some x → w.cell? ⟨b, o + j, none⟩ = some (.int .i64 x))
theorem Ints.below {w w' : World} {A : Option Addr} {n : Nat} {zs : List Int} (h : Ints w A n zs) (k : Below w.heap.size w w') : Ints w' A n zs :=
  ⟨h.1, fun hn => by
    obtain ⟨b, o, e, hb, hc⟩ := h.2 hn
    exact ⟨b, o, e, Nat.lt_of_lt_of_le hb k.size, fun j x hx => (cell_of_heap (k.block b hb) _).trans (hc j x hx)⟩⟩
section
variable {H : Type} {enc : TypeId × Value → H} {w : World} {base b0 : Nat} {spare : Nat → Bool} {held : Bool} {r : Reach} {v : Value} {d : DataW H} {p : List MemPlace}
theorem open_nums (hv : Value.okWide Try.prog w r b0 46 v) (h : DataW.Trod enc Try.prog w base spare held 46 v d p) :
    ∃ A n c zs, v = .slice A n c ∧ Ints w A n zs ∧ n ≤ c ∧ c ≤ maxLen ∧ (A = none → c = 0) := by
  obtain ⟨a1, len, cap, rfl⟩ := okWide_slice Try.underlying46 hv
  obtain ⟨fuel, hf⟩ := h
  rcases open_slice1 Try.underlying46 cells3 hf with ⟨hcs, _⟩ | ⟨a, len', cap', m, n, V, D, Pl, hcs, _, hl, hm, hmm, _, hx⟩
  · simp [Value.cells] at hcs
    obtain ⟨rfl, rfl, rfl⟩ := hcs
    exact ⟨none, 0, 0, [], rfl, ⟨rfl, fun h => absurd h (by omega)⟩, Nat.le_refl _, by unfold maxLen; omega, fun _ => rfl⟩
  · simp [Value.cells] at hcs
    obtain ⟨rfl, rfl, rfl⟩ := hcs
    have hlm : len ≤ m := by rw [hmm]; split <;> omega
    have key : ∀ i, ∃ x : Int, i < len → w.cell? (a.add i) = some (.int .i64 x) := fun i => by
      by_cases hi : i < len
      · obtain ⟨h1, h2⟩ := hx i (by omega)
        obtain ⟨z, hz, _, _⟩ := DataW.trod_int Try.underlying3 h2
        simp only [List.cons.injEq, and_true] at hz
        exact ⟨z, fun _ => by rw [h1, hz]⟩
      · exact ⟨0, fun h => absurd h hi⟩
    obtain ⟨f, hfun⟩ := Classical.axiomOfChoice key
    refine ⟨some a, len, cap, (List.range len).map f, rfl, ⟨by simp, fun h0 => ?_⟩, hl, hm, fun h => by cases h⟩
    obtain ⟨ab, ao, spot⟩ := a
    have hc0 := hfun 0 h0
    have hspot : spot = none := by simpa [Addr.add] using World.cell?_spot hc0
    subst hspot
    have hbl : ab < w.heap.size := by simpa [Addr.add] using block_of_cell hc0
    refine ⟨ab, ao, rfl, hbl, fun j x hjx => ?_⟩
    have hj : j < len := by have := (List.getElem?_eq_some_iff.1 hjx).1; simpa using this
    have := hfun j hj
    rw [Addr.add_mid] at this
    rw [this]
    simp [hj] at hjx
    rw [hjx]
end
end Go.Proofs.Ytdjmjckmbclhiaa
namespace Go.Proofs.Ytdjmjckmbclhiaa
open Go.RowKit
theorem az_at (a : Nat) (h : a < 26) (W : World) : (Instr.slice 9 (.string ⟨#[97, 98, 99, 100, 101, 102, 103, 104, 105, 106, 107, 108, 109, 110, 111, 112, 113, 114, 115, 116, 117, 118, 119, 120, 121, 122]⟩) (some (.int .i64 (a : Int))) (some (.int .i64 ((a : Int) + 1))) none).run Try.prog W = .ok (.string (azL a)) W := by
  have hc : a = 0 ∨ a = 1 ∨ a = 2 ∨ a = 3 ∨ a = 4 ∨ a = 5 ∨ a = 6 ∨ a = 7 ∨ a = 8 ∨ a = 9 ∨ a = 10 ∨ a = 11 ∨ a = 12 ∨ a = 13 ∨ a = 14 ∨ a = 15 ∨ a = 16 ∨ a = 17 ∨ a = 18 ∨ a = 19 ∨ a = 20 ∨ a = 21 ∨ a = 22 ∨ a = 23 ∨ a = 24 ∨ a = 25 := by omega
  rcases hc with rfl | rfl | rfl | rfl | rfl | rfl | rfl | rfl | rfl | rfl | rfl | rfl | rfl | rfl | rfl | rfl | rfl | rfl | rfl | rfl | rfl | rfl | rfl | rfl | rfl | rfl <;> (show _ = _; kernel_rfl)
theorem info26 : (Try.prog.info? 48).map (fun i => (i.zero, i.size, i.bytes)) = some (some (.agg (Array.replicate 26 (.bool false))), 26, 26) := by kernel_rfl
theorem zero26 (W : World) : (zeroValue 48).run Try.prog W = .ok (.agg (Array.replicate 26 (.bool false))) W := by
  obtain ⟨i0, hi, hz0, hz1, hz2⟩ := info_parts info26
  unfold zeroValue typeInfo
  simp [go_sem, hi, hz0]
/-- which letters there are -/
def Mk26 (cs : Array Value) (ls : List Nat) : Prop := cs.size = 26 ∧ ∀ k, k < 26 → cs[k]? = some (.bool (decide (k ∈ ls)))
theorem mk26_nil : Mk26 (Array.replicate 26 (.bool false)) [] := ⟨by simp, fun k hk => by rw [Array.getElem?_replicate, if_pos hk]; rfl⟩
theorem Mk26.put {cs : Array Value} {ls : List Nat} (h : Mk26 cs ls) {k : Nat} (hk : k < 26) : Mk26 (cs.setIfInBounds k (.bool true)) (insL ls k) := by
  refine ⟨by simp [h.1], fun j hj => ?_⟩
  rw [Array.getElem?_setIfInBounds]
  by_cases e : k = j
  · subst e
    rw [if_pos rfl, if_pos (by rw [h.1]; exact hk), decide_eq_true (mem_ins.2 (.inr rfl))]
  · rw [if_neg e, h.2 j hj]
    congr 2
    apply decide_eq_decide.2
    rw [mem_ins]
    exact ⟨.inl, fun h => h.resolve_right fun h2 => e h2.symm⟩
/-- no text lies in a block of these cells -/
def NoStr (cs : Array Value) : Prop := ∀ (i : Nat) (s : ByteArray), cs[i]? ≠ some (.string s)
theorem Mk26.nostr {cs : Array Value} {ls : List Nat} (h : Mk26 cs ls) : NoStr cs := fun i s e => by
  have hi : i < 26 := by rw [← h.1]; exact (Array.getElem?_eq_some_iff.1 e).1
  rw [h.2 i hi] at e
  cases e
theorem state_nostr (n : Int) (v : Value) (hv : ∀ s, v ≠ .string s) : NoStr #[.int .i64 n, v] := fun i s e => by
  rcases i with _ | _ | i
  · simp at e
  · simp at e; exact hv s e
  · simp at e
theorem lst_far {α : Type} {E : Enc α} {W W' : World} {K : Nat → Prop} {A : Option Addr} {l : List α} (h : Lst W K E A l) {r : Nat} {T : TypeId} {cs : Array Value} (hb : Blk W r T cs) (hn : NoStr cs) (z : Nat) (hz : ∀ x, ∃ s, (E.enc x)[z]? = some (.string s)) (k : Keep (fun i _ => i ≠ r) W W') : Lst W' K E A l := fun h0 => by
  obtain ⟨b, o, e, hk, hl, hc⟩ := h h0
  have hbr : b ≠ r := fun e2 => by
    subst e2
    obtain ⟨s, hs⟩ := hz l[0]
    have h1 := hc z _ (by have := cellsE_at E h0 hs; simpa using this)
    rw [hb.cell] at h1
    exact hn _ _ h1
  obtain ⟨ob, hob⟩ : ∃ ob, W.heap[b]? = some ob := ⟨_, Array.getElem?_eq_getElem hl⟩
  have hbl : W'.heap[b]? = W.heap[b]? := by rw [hob]; exact k.block b ob hob hbr
  exact ⟨b, o, e, hk, Nat.lt_of_lt_of_le hl k.size, fun j x hx => (cell_of_heap hbl _).trans (hc j x hx)⟩
/-- objects that lie elsewhere stay where a block without a text is turned -/
theorem ObsAt.far {W W' : World} {K : Nat → Prop} {s : Sv} {xs : List Oc} (h : ObsAt W K s xs) {r : Nat} {T : TypeId} {cs : Array Value} (hb : Blk W r T cs) (hn : NoStr cs) (k : Keep (fun i _ => i ≠ r) W W') : ObsAt W' K s xs :=
  ⟨⟨h.row.len, lst_far h.row.lst hb hn 0 (fun _ => ⟨_, rfl⟩) k, h.row.cap, h.row.max, h.row.nil⟩, fun x hx =>
    ⟨⟨(h.all x hx).rows.len, lst_far (h.all x hx).rows.lst hb hn 0 (fun _ => ⟨_, rfl⟩) k, (h.all x hx).rows.cap, (h.all x hx).rows.max, (h.all x hx).rows.nil⟩,
     ⟨(h.all x hx).msgs.len, lst_far (h.all x hx).msgs.lst hb hn 4 (fun _ => ⟨_, rfl⟩) k, (h.all x hx).msgs.cap, (h.all x hx).msgs.max, (h.all x hx).msgs.nil⟩,
     ⟨(h.all x hx).dead.len, lst_far (h.all x hx).dead.lst hb hn 4 (fun _ => ⟨_, rfl⟩) k, (h.all x hx).dead.cap, (h.all x hx).dead.max, (h.all x hx).dead.nil⟩⟩⟩
theorem keep_cell (W : World) (r i : Nat) (v : Value) : Keep (fun i _ => i ≠ r) W (W.setCell ⟨r, i, none⟩ v) := (Keep.refl W).setCell (p := ⟨r, i, none⟩) (fun _ _ h => h rfl) v
/-- a state that a law holds in block P -/
structure HeldS (P : Nat) (next : Int) (s : Sv) (xs : List Oc) (W : World) : Prop where
  blk : Blk W P 24 #[.int .i64 next, .slice s.a s.n s.c]
  obs : ObsAt W (fun _ => True) s xs
section
variable {P : Nat} {next : Int} {s : Sv} {xs : List Oc} {W W' : World}
theorem HeldS.step (h : HeldS P next s xs W) (k : Below W.heap.size W W') : HeldS P next s xs W' := ⟨h.blk.below k h.blk.lt, h.obs.below k⟩
theorem HeldS.nostr (h : HeldS P next s xs W) : NoStr #[.int .i64 next, .slice s.a s.n s.c] := let _ := h; state_nostr next _ fun _ e => by cases e
/-- a cell of another block turned, in which no text lies -/
theorem HeldS.far (h : HeldS P next s xs W) {r : Nat} {T : TypeId} {cs : Array Value} (hb : Blk W r T cs) (hn : NoStr cs) (hne : P ≠ r) (i : Nat) (v : Value) : HeldS P next s xs (W.setCell ⟨r, i, none⟩ v) :=
  ⟨h.blk.far hne v, h.obs.far hb hn (keep_cell W r i v)⟩
/-- a state stored into a law's block -/
theorem put_state {n2 n0 : Int} {s2 s0 : Sv} {X : Nat} (ho : ObsAt W (fun _ => True) s2 xs) (hX : Blk W X 24 #[.int .i64 n0, .slice s0.a s0.n s0.c]) :
    HeldS X n2 s2 xs ((W.setCell ⟨X, 0, none⟩ (.int .i64 n2)).setCell ⟨X, 1, none⟩ (.slice s2.a s2.n s2.c)) := by
  have b1 := hX.set_ 0 (.int .i64 n2)
  have b2 := b1.set_ 1 (.slice s2.a s2.n s2.c)
  refine ⟨by simpa using b2, ?_⟩
  exact ho.far hX (state_nostr n0 _ fun _ e => by cases e) ((keep_cell W X 0 _).trans (keep_cell _ X 1 _))
end
/-- what the region leaves: the answer in a block of its own -/
def GotS (w : World) (p : Int × St) (X : Nat) (wx : World) : Prop := ∃ s' xs', HeldS X p.2.next s' xs' wx ∧ obsOf xs' = p.2.objs ∧ Below w.heap.size w wx ∧ w.heap.size ≤ X
theorem GotS.first {w w3 : World} {p : Int × St} {s' : Sv} {xs' : List Oc} (hb : Below w.heap.size w w3) (ho : ObsAt w3 (fun _ => True) s' xs') (hx : obsOf xs' = p.2.objs) : GotS w p w3.heap.size (w3.alloc (.cells #[.int .i64 p.2.next, .slice s'.a s'.n s'.c] 24)) :=
  ⟨s', xs', ⟨Blk.new _ _ _, ho.below (alloc_below _ _)⟩, hx, hb.alloc hb.size _, hb.size⟩
theorem GotS.later {w w3 : World} {p : Int × St} {s' : Sv} {xs' : List Oc} {X : Nat} (hb : Below w.heap.size w w3) (hX : Blk w3 X 24 #[.int .i64 0, .slice none 0 0]) (hX2 : w.heap.size ≤ X) (ho : ObsAt w3 (fun _ => True) s' xs') (hx : obsOf xs' = p.2.objs) :
    GotS w p X ((w3.setCell ⟨X, 0, none⟩ (.int .i64 p.2.next)).setCell ⟨X, 1, none⟩ (.slice s'.a s'.n s'.c)) :=
  ⟨s', xs', put_state (n0 := 0) (s0 := ⟨none, 0, 0⟩) ho hX, hx, (hb.setCell (p := ⟨X, 0, none⟩) hX2 _).setCell (p := ⟨X, 1, none⟩) hX2 _, hX2⟩
end Go.Proofs.Ytdjmjckmbclhiaa
