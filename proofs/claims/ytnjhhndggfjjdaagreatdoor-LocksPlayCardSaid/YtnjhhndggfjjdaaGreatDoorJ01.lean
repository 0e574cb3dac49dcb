/- The last step of each law's row, once for all laws: a call that answers true and leaves all that was there as it was meets 'true, and the arguments read as they did'. Plain facts on modes of locks; nothing of the program is named here. The table of modes in memory, and package modes' calls over it. The table of modes, out of what the row lists. -/
import Derived.Test.YtnjhhndggfjjdaaGreatDoorRows
import Derived.WalkKit
import Derived.ProofKit
import Derived.OpenShut
import Derived.ShutString
import Derived.ChangeOld
import Derived.Below
import Derived.Carry
import Derived.Lib.SmallJoins
import GoSem.Op.String
import Derived.Test.YtnjhhndggfjjdaaGreatDoorChecked
import Derived.Laws.BitsLemmas
import Derived.Deep.QuietTactic
import Derived.Deep.RegionWith
import Derived.BigQuiet
import Derived.LoopTactic
import Derived.Deep.LoopGhost
import Derived.Lib.Hide
import Derived.LaidMore
import Derived.Stop.Joined
import Derived.MakeChecks
set_option maxRecDepth 4000
namespace Go.Proofs.YtnjhhndggfjjdaaGreatDoor
open Go.ChangeShapes Go.WideShapes Go.ChangeAt Go.RowKit
open Go.ChangeMaps (open_string shut_string)

theorem own : ownKnob Tryz.prog.godebug = none := by kernel_rfl
theorem wf_lo {n : Int} (h : (Lit.int .i64 n).wf = true) : -9223372036854775808 ≤ n := by
  simp [Lit.wf, IntKind.min, IntKind.max, IntKind.signed, IntKind.bits] at h
  omega
theorem wf_hi {n : Int} (h : (Lit.int .i64 n).wf = true) : n ≤ 9223372036854775807 := by
  simp [Lit.wf, IntKind.min, IntKind.max, IntKind.signed, IntKind.bits] at h
  omega
theorem laidOut : laidOutB Tryz.prog = true := by kernel_rfl

section
variable {H : Type} {enc : TypeId × Value → H} {P : Program}

/-- all arguments read as they did, where nothing that was there has turned -/
theorem trodAll_below (hl : laidOutB P = true) {W W' : World} (hb : Below W.heap.size W W') :
    ∀ {ts : List TypeId} {vs : List Value} {ds : List (DataW H)} {p : List MemPlace}, (∀ t ∈ ts, P.readableRec t = true ∧ t < P.types.size) → (∀ x ∈ p, x.block < W.heap.size) →
      DataW.TrodAll enc P W 0 (fun _ => true) true ts vs ds p → DataW.TrodAll enc P W' 0 (fun b => decide (b < W.heap.size)) true ts vs ds p
  | [], vs, ds, p, _, _, h => by
    obtain ⟨rfl, rfl, rfl⟩ := trodAll_nil h
    exact trodAll_mk0
  | t :: ts, vs, ds, p, hr, hp, h => by
    obtain ⟨v, vs1, d, ds1, p1, p2, rfl, rfl, rfl, h1, h2⟩ := trodAll_cons h
    refine trodAll_cons_mk (Below.trod hl (hr t (by simp)).1 (hr t (by simp)).2 h1 hb (fun x hx => hp x (by simp [hx]))) ?_
    exact trodAll_below hl hb (fun u hu => hr u (by simp [hu])) (fun x hx => hp x (by simp [hx])) h2

/-- the row's last step of any law without package variables -/
theorem post_true {f : Func} {s : ChangeSpec} {W W' : World} {args : Array Value} {ds gs : List (DataW H)} {before : List MemPlace} {tb : TypeId}
    (hl : laidOutB P = true) (hr : ∀ t ∈ f.params.toList, P.readableRec t = true ∧ t < P.types.size) (hb : P.underlying tb = some .bool) (hres : f.resultTypes = #[tb]) (hv : s.vars = [])
    (hW : DataW.Whole enc P f.params.toList s.vars false W args.toList ds gs before)
    (hfn : s.fn H (ds ++ gs) = { results := [.lit (.bool true)], args := ds }) (hbel : Below W.heap.size W W') :
    s.post enc P f false true false false W args (.bool true) W' := by
  have hW' := hW
  have hlt : ∀ p ∈ before, p.block < W.heap.size := fun p hp => hW.lt p hp
  obtain ⟨p, q, hA, hV, rfl, _, _⟩ := hW
  rw [hv] at hV
  obtain ⟨rfl, rfl⟩ := trodVars_none hV
  refine ⟨_, _, _, [], p, [], hW', ?_, ?_, ?_, hbel.frame _, fun h => by cases h⟩
  · rw [hfn, hres]; exact trodAll_mk1 (shut_bool hb _)
  · rw [hfn]; exact trodAll_below hl hbel hr (fun x hx => hlt x (by simp [hx])) hA
  · rw [hfn, hv]; rfl
end

end Go.Proofs.YtnjhhndggfjjdaaGreatDoor
namespace Go.Proofs.YtnjhhndggfjjdaaGreatDoor
open Go
/-- the mode that a number stands for -/
def mdN (n : Int) : Nat := if n < 0 ∨ 5 < n then 5 else n.toNat
/-- what a mode allows, what it keeps off: one bit for each of the four ways -/
def alw (p : Nat) : Nat := [0, 1, 3, 5, 7, 15].getD p 0
def off (p : Nat) : Nat := [0, 8, 12, 10, 14, 15].getD p 0
def fitB (p q : Nat) : Bool := (off p &&& alw q) == 0
def covB (p q : Nat) : Bool := (alw p &&& alw q) == alw q
/-- the first mode from i on that covers both -/
def joinF (p q : Nat) : Nat → Nat → Nat
  | _, 0 => 5
  | i, k + 1 => if covB i p && covB i q then i else joinF p q (i + 1) k
def joinN (p q : Nat) : Nat := joinF p q 0 5
def abvN (p : Nat) : Nat := if p = 0 then 0 else if p = 1 ∨ p = 3 then 1 else 2

theorem mdN_lt (n : Int) : mdN n < 6 := by unfold mdN; split <;> omega
theorem mdN_of {p : Nat} (h : p < 6) : mdN (p : Int) = p := by unfold mdN; rw [if_neg (by omega)]; rfl
theorem mdN_out {n : Int} (h : n < 0 ∨ 5 < n) : mdN n = 5 := by unfold mdN; rw [if_pos h]
theorem mdN_in {n : Int} (h : ¬ (n < 0 ∨ 5 < n)) : (mdN n : Int) = n := by unfold mdN; rw [if_neg h]; omega
theorem alw_lt {p : Nat} (h : p < 6) : alw p < 16 := by
  have : ∀ p : Fin 6, alw p < 16 := by decide
  exact this ⟨p, h⟩
theorem off_lt {p : Nat} (h : p < 6) : off p < 16 := by
  have : ∀ p : Fin 6, off p < 16 := by decide
  exact this ⟨p, h⟩
theorem abvN_lt (p : Nat) : abvN p < 6 := by unfold abvN; split <;> (try split) <;> omega
theorem joinN_lt {p q : Nat} (hp : p < 6) (hq : q < 6) : joinN p q < 6 := by
  have : ∀ p q : Fin 6, joinN p q < 6 := by decide
  exact this ⟨p, hp⟩ ⟨q, hq⟩
theorem covB_five (p : Nat) (hp : p < 6) : covB 5 p = true := by
  have : ∀ p : Fin 6, covB 5 p = true := by decide
  exact this ⟨p, hp⟩
/-- the document's rows, letter by letter -/
def fitR (p : Nat) : Array UInt8 := [#[49, 49, 49, 49, 49, 49], #[49, 49, 49, 49, 49, 48], #[49, 49, 49, 48, 48, 48], #[49, 49, 48, 49, 48, 48], #[49, 49, 48, 48, 48, 48], #[49, 48, 48, 48, 48, 48]].getD p #[]
def covR (p : Nat) : Array UInt8 := [#[49, 48, 48, 48, 48, 48], #[49, 49, 48, 48, 48, 48], #[49, 49, 49, 48, 48, 48], #[49, 49, 48, 49, 48, 48], #[49, 49, 49, 49, 49, 48], #[49, 49, 49, 49, 49, 49]].getD p #[]
theorem fitR_eq {p q : Nat} (hp : p < 6) (hq : q < 6) : (fitR p)[q]? = some (if fitB p q then 49 else 48) := by
  have : ∀ p q : Fin 6, (fitR p)[q.1]? = some (if fitB p q then 49 else 48) := by decide
  exact this ⟨p, hp⟩ ⟨q, hq⟩
theorem covR_eq {p q : Nat} (hp : p < 6) (hq : q < 6) : (covR p)[q]? = some (if covB p q then 49 else 48) := by
  have : ∀ p q : Fin 6, (covR p)[q.1]? = some (if covB p q then 49 else 48) := by decide
  exact this ⟨p, hp⟩ ⟨q, hq⟩
theorem fitR_size {p : Nat} (hp : p < 6) : (fitR p).size = 6 := by
  have : ∀ p : Fin 6, (fitR p).size = 6 := by decide
  exact this ⟨p, hp⟩
theorem covR_size {p : Nat} (hp : p < 6) : (covR p).size = 6 := by
  have : ∀ p : Fin 6, (covR p).size = 6 := by decide
  exact this ⟨p, hp⟩

-- what ModesLaws asks
theorem fit_comm {p q : Nat} (hp : p < 6) (hq : q < 6) : fitB p q = fitB q p := by
  have : ∀ p q : Fin 6, fitB p q = fitB q p := by decide
  exact this ⟨p, hp⟩ ⟨q, hq⟩
theorem cov_fit {p q r : Nat} (hp : p < 6) (hq : q < 6) (hr : r < 6) : covB p q = true → fitB p r = true → fitB q r = true := by
  have : ∀ p q r : Fin 6, covB p q = true → fitB p r = true → fitB q r = true := by decide
  exact this ⟨p, hp⟩ ⟨q, hq⟩ ⟨r, hr⟩
theorem join_left {p q : Nat} (hp : p < 6) (hq : q < 6) : covB (joinN p q) p = true := by
  have : ∀ p q : Fin 6, covB (joinN p q) p = true := by decide
  exact this ⟨p, hp⟩ ⟨q, hq⟩
theorem join_right {p q : Nat} (hp : p < 6) (hq : q < 6) : covB (joinN p q) q = true := by
  have : ∀ p q : Fin 6, covB (joinN p q) q = true := by decide
  exact this ⟨p, hp⟩ ⟨q, hq⟩
theorem join_comm {p q : Nat} (hp : p < 6) (hq : q < 6) : joinN q p = joinN p q := by
  have : ∀ p q : Fin 6, joinN q p = joinN p q := by decide
  exact this ⟨p, hp⟩ ⟨q, hq⟩
theorem join_self {p : Nat} (hp : p < 6) : joinN p p = p := by
  have : ∀ p : Fin 6, joinN p p = p := by decide
  exact this ⟨p, hp⟩
theorem join_least {p q r : Nat} (hp : p < 6) (hq : q < 6) (hr : r < 6) : covB r p = true → covB r q = true → covB r (joinN p q) = true := by
  have : ∀ p q r : Fin 6, covB r p = true → covB r q = true → covB r (joinN p q) = true := by decide
  exact this ⟨p, hp⟩ ⟨q, hq⟩ ⟨r, hr⟩
theorem cov_anti {p q : Nat} (hp : p < 6) (hq : q < 6) : covB p q = true → covB q p = true → p = q := by
  have : ∀ p q : Fin 6, covB p q = true → covB q p = true → p.1 = q.1 := by decide
  exact this ⟨p, hp⟩ ⟨q, hq⟩
-- what ModesAbove asks
theorem above_cov {p q : Nat} (hp : p < 6) (hq : q < 6) : covB p q = true → covB (abvN p) (abvN q) = true := by
  have : ∀ p q : Fin 6, covB p q = true → covB (abvN p) (abvN q) = true := by decide
  exact this ⟨p, hp⟩ ⟨q, hq⟩
theorem cov_above {p : Nat} (hp : p < 6) : covB p (abvN p) = true := by
  have : ∀ p : Fin 6, covB p (abvN p) = true := by decide
  exact this ⟨p, hp⟩
theorem fit_above {p q : Nat} (hp : p < 6) (hq : q < 6) : fitB (abvN p) (abvN q) = true := by
  have : ∀ p q : Fin 6, fitB (abvN p) (abvN q) = true := by decide
  exact this ⟨p, hp⟩ ⟨q, hq⟩
-- the search
theorem joinF_on {p q i k : Nat} (h : ¬ (covB i p = true ∧ covB i q = true)) : joinF p q i (k + 1) = joinF p q (i + 1) k := by
  have : (covB i p && covB i q) = false := by
    cases h1 : covB i p <;> cases h2 : covB i q <;> simp_all
  simp [joinF, this]
theorem joinF_at {p q i k : Nat} (h1 : covB i p = true) (h2 : covB i q = true) : joinF p q i (k + 1) = i := by simp [joinF, h1, h2]
end Go.Proofs.YtnjhhndggfjjdaaGreatDoor
namespace Go.Proofs.YtnjhhndggfjjdaaGreatDoor
open Go.RowKit
/-- package modes' table: what each mode allows, and what it keeps off -/
def Tab (w : World) : Prop := ∀ p, p < 6 → w.cell? ⟨0, p * 2, none⟩ = some (.int .i64 (alw p : Int)) ∧ w.cell? ⟨0, p * 2 + 1, none⟩ = some (.int .i64 (off p : Int))
theorem Tab.drewN {w : World} (h : Tab w) (n : Nat) : Tab (w.drewN n) := h
theorem Tab.lt {w : World} (h : Tab w) : 0 < w.heap.size := by
  have := (h 0 (by omega)).1
  rcases Nat.lt_or_ge 0 w.heap.size with hlt | hge
  · exact hlt
  · simp [World.cell?, Array.getElem?_eq_none hge] at this
theorem Tab.below {w w' : World} (h : Tab w) (k : Below w.heap.size w w') : Tab w' := fun p hp =>
  ⟨(k.cell (p := ⟨0, p * 2, none⟩) h.lt).trans (h p hp).1, (k.cell (p := ⟨0, p * 2 + 1, none⟩) h.lt).trans (h p hp).2⟩
theorem and_nat (a b : Nat) (ha : a < 16) (hb : b < 16) : bits .and .i64 (a : Int) (b : Int) = ((a &&& b : Nat) : Int) := by
  have : ∀ a b : Fin 16, bits .and .i64 (a.1 : Int) (b.1 : Int) = ((a.1 &&& b.1 : Nat) : Int) := by decide
  exact this ⟨a, ha⟩ ⟨b, hb⟩

theorem known_ (n : Int) (w : World) : Calls Tryz.prog 75 #[.int .i64 n] w fun e w' => e = .returned (.int .i64 (mdN n : Int)) ∧ w = w' := by
  by_cases h : n < 0 ∨ 5 < n
  · have e := mdN_out h
    rw [e]
    go_enter Tryz.func75, Tryz.ntmps75
    rcases h with h | h
    · go_wp2
      go_ret
      exact ⟨rfl, rfl⟩
    · by_cases h0 : n < 0
      · omega
      · go_wp2
        go_ret
        exact ⟨rfl, rfl⟩
  · have e := mdN_in h
    rw [e]
    have h1 : ¬ n < 0 := by omega
    have h2 : ¬ 5 < n := by omega
    go_enter Tryz.func75, Tryz.ntmps75
    go_wp2
    go_ret
    exact ⟨rfl, rfl⟩
theorem cov_num {p q : Nat} (hp : p < 6) (hq : q < 6) : (bits .and .i64 (alw p : Int) (alw q : Int) == (alw q : Int)) = covB p q := by
  rw [and_nat _ _ (alw_lt hp) (alw_lt hq)]
  have : ∀ p q : Fin 6, (((alw p &&& alw q : Nat) : Int) == (alw q : Int)) = covB p q := by decide
  exact this ⟨p, hp⟩ ⟨q, hq⟩
theorem fit_num {p q : Nat} (hp : p < 6) (hq : q < 6) : (bits .and .i64 (off p : Int) (alw q : Int) == 0) = fitB p q := by
  rw [and_nat _ _ (off_lt hp) (alw_lt hq)]
  have : ∀ p q : Fin 6, (((off p &&& alw q : Nat) : Int) == 0) = fitB p q := by decide
  exact this ⟨p, hp⟩ ⟨q, hq⟩
theorem covers_ (a b : Int) (w : World) (hT : Tab w) : Calls Tryz.prog 49 #[.int .i64 a, .int .i64 b] w fun e w' => e = .returned (.bool (covB (mdN a) (mdN b))) ∧ w = w' := by
  have hp := mdN_lt a
  have hq := mdN_lt b
  have hk := known_ a w
  have hk2 := known_ b w
  generalize mdN a = p at *
  generalize mdN b = q at *
  have HK := Lib.hid hk
  have HK2 := Lib.hid hk2
  have c1 := (hT p hp).1
  have c2 := (hT q hq).1
  have E1 := Lib.hid (cov_num hp hq)
  clear hk hk2 hT
  go_enter Tryz.func49, Tryz.ntmps49
  go_wp2_with fail
  refine HK2.out.mono ?_
  rintro e w' ⟨rfl, rfl⟩
  go_wp2_with fail
  refine HK.out.mono ?_
  rintro e w' ⟨rfl, rfl⟩
  go_wp2_with fail
  go_ret
  exact ⟨congrArg (fun x => Ending.returned (Value.bool x)) E1.out, rfl⟩
theorem fits_ (a b : Int) (w : World) (hT : Tab w) : Calls Tryz.prog 85 #[.int .i64 a, .int .i64 b] w fun e w' => e = .returned (.bool (fitB (mdN a) (mdN b))) ∧ ∃ n, w' = w.drewN n := by
  have hp := mdN_lt a
  have hq := mdN_lt b
  have hk := fun n => (known_ a (w.drewN n)).mono (fun _ _ h => (⟨h.1, h.2.symm⟩ : _ ∧ _ = w.drewN n))
  have hk2 := fun n => (known_ b (w.drewN n)).mono (fun _ _ h => (⟨h.1, h.2.symm⟩ : _ ∧ _ = w.drewN n))
  generalize mdN a = p at *
  generalize mdN b = q at *
  have HK := Lib.hid hk
  have HK2 := Lib.hid hk2
  have c1 := (hT p hp).2
  have c2 := (hT q hq).1
  have hp2 : (p : Int) < 6 := by omega
  have hq2 : (q : Int) < 6 := by omega
  have E1 := Lib.hid (fit_num hp hq)
  clear hk hk2 hT
  go_enter Tryz.func85, Tryz.ntmps85
  go_wp2_with fail
  go_quiet (first | (go_at_call_of 75 a; refine Calls.quiet_of_same (HK.out _)) | (go_at_call_of 75 b; refine Calls.quiet_of_same (HK2.out _)))
  go_wp2_with fail
  go_ret
  exact ⟨congrArg (fun x => Ending.returned (Value.bool x)) E1.out, ⟨_, rfl⟩⟩
def JoinF (p q : Nat) (m : Nat) (i : Value) : Prop := ∃ j, j + m = 5 ∧ i = .int .i64 (j : Int) ∧ joinN p q = joinF p q j m
set_option maxHeartbeats 400000 in
theorem join_ (a b : Int) (w : World) (hT : Tab w) : Calls Tryz.prog 52 #[.int .i64 a, .int .i64 b] w fun e w' => e = .returned (.int .i64 (joinN (mdN a) (mdN b) : Int)) ∧ w = w' := by
  have ha := fun m => covers_ m a w hT
  have hb := fun m => covers_ m b w hT
  generalize mdN a = p at *
  generalize mdN b = q at *
  have HA := Lib.hid ha
  have HB := Lib.hid hb
  clear ha hb hT
  go_enter Tryz.func52, Tryz.ntmps52
  go_wp2_with fail
  go_loopg [6] 5 (fun m i wr => JoinF p q m i ∧ w = wr)
  case atStart => exact ⟨⟨0, rfl, rfl, rfl⟩, rfl⟩
  case round =>
    obtain ⟨⟨j, hj, rfl, h1⟩, rfl⟩ := hrel
    have HJ := Lib.hid hj
    have H1 := Lib.hid h1
    clear hj h1
    by_cases hlt : j < 5
    · have hm : mdN (j : Int) = j := mdN_of (by omega)
      have hA := HA.out j
      have hB := HB.out j
      rw [hm] at hA hB
      have h2 : ¬ (covB j p = true ∧ covB j q = true) → joinN p q = joinF p q (j + 1) (4 - j) := fun h => by
        have e : gk = (4 - j) + 1 := by have := HJ.out; omega
        rw [H1.out, e, joinF_on h]
      have h3 : covB j p = true → covB j q = true → joinN p q = j := fun h h' => by
        have e : gk = (4 - j) + 1 := by have := HJ.out; omega
        rw [H1.out, e, joinF_at h h']
      have HA2 := Lib.hid hA
      have HB2 := Lib.hid hB
      have H2 := Lib.hid h2
      have H3 := Lib.hid h3
      clear hA hB h2 h3 hm
      generalize hcp : covB j p = x at *
      generalize hcq : covB j q = y at *
      have hl5 : (j : Int) < 5 := by omega
      cases x
      · go_wp2_with fail
        refine HA2.out.mono ?_
        rintro e w' ⟨rfl, rfl⟩
        go_wp2_with fail
        go_roundg (5 - (j + 1))
        case measure => have := HJ.out; omega
        case rel => exact ⟨⟨j + 1, by omega, by go_num, by rw [H2.out (by simp)]; congr 1; omega⟩, rfl⟩
      · cases y
        · go_wp2_with fail
          refine HA2.out.mono ?_
          rintro e w' ⟨rfl, rfl⟩
          go_wp2_with fail
          refine HB2.out.mono ?_
          rintro e w' ⟨rfl, rfl⟩
          go_wp2_with fail
          go_roundg (5 - (j + 1))
          case measure => have := HJ.out; omega
          case rel => exact ⟨⟨j + 1, by omega, by go_num, by rw [H2.out (by simp)]; congr 1; omega⟩, rfl⟩
        · go_wp2_with fail
          refine HA2.out.mono ?_
          rintro e w' ⟨rfl, rfl⟩
          go_wp2_with fail
          refine HB2.out.mono ?_
          rintro e w' ⟨rfl, rfl⟩
          go_wp2_with fail
          go_ret
          exact ⟨by rw [H3.out (by simp) (by simp)]; rfl, rfl⟩
    · have e : j = 5 := by have := HJ.out; omega
      have e2 : gk = 0 := by have := HJ.out; omega
      have h5 : joinN p q = 5 := by rw [H1.out, e2]; rfl
      have H5 := Lib.hid h5
      clear h5 e2
      subst e
      go_wp2_with fail
      go_ret
      exact ⟨by rw [H5.out]; rfl, rfl⟩
end Go.Proofs.YtnjhhndggfjjdaaGreatDoor
namespace Go.Proofs.YtnjhhndggfjjdaaGreatDoor
open Go.ChangeShapes Go.WideShapes Go.ChangeAt Go.RowKit
theorem drop_take {cs : List Value} {i m : Nat} {x : Value} (h : (cs.drop i).take m = [x]) (hm : 0 < m) : cs[i]? = some x := by
  have := congrArg (·[0]?) h
  simpa [List.getElem?_take, List.getElem?_drop, hm] using this
/-- an array of structs of two numbers that reads as these numbers holds them, cell for cell -/
theorem cells_of_pairs {H : Type} {enc : TypeId × Value → H} {P : Program} {w : World} {base : Nat} {sp : Nat → Bool} {held : Bool} {fuel : Nat} {t e ti : TypeId} {n : Nat} {k : IntKind} {f0 f1 : Field} {cs : List Value} {zs : List (Int × Int)} {p : List MemPlace}
    (ht : P.underlying t = some (.array n e)) (he : P.underlying e = some (.struct #[f0, f1])) (hi : P.underlying ti = some (.int k)) (h0 : f0.type = ti) (h1 : f1.type = ti) (o0 : f0.offset = 0) (o1 : f1.offset = 1) (hce : P.cellsOf e = 2) (hci : P.cellsOf ti = 1)
    (h : DataW.trod enc P w base sp held fuel t cs = some (.agg (zs.map fun z => .agg [.lit (.int k z.1), .lit (.int k z.2)]), p)) :
    ∀ (i : Nat) (z : Int × Int), zs[i]? = some z → cs[i * 2]? = some (.int k z.1) ∧ cs[i * 2 + 1]? = some (.int k z.2) := by
  obtain ⟨xs, m, rfl, hx, hlen, hn, hel⟩ := DataW.trod_array ht h
  intro i z hz
  simp only [Prod.mk.injEq, DataW.agg.injEq] at hx
  have hil : i < zs.length := by
    rcases Nat.lt_or_ge i zs.length with h | h
    · exact h
    · rw [List.getElem?_eq_none h] at hz; cases hz
  have hxl : xs.length = zs.length := by
    have := congrArg List.length hx.1
    simpa using this.symm
  have hx1 : xs[i]?.map (·.1) = some (.agg [.lit (.int k z.1), .lit (.int k z.2)]) := by
    have := congrArg (·[i]?) hx.1
    simp only [List.getElem?_map, hz, Option.map_some] at this
    exact this.symm
  have h2 := hel i (by omega)
  rw [List.getElem?_eq_getElem (by omega)] at h2 hx1
  rw [hce] at h2
  obtain ⟨y0, y1, m2, e2, hl2, d0, d1⟩ := trod_struct2 he h2
  rw [h0, hci] at d0
  rw [h1, hci] at d1
  obtain ⟨a0, c0, rfl, _⟩ := DataW.trod_int hi d0
  obtain ⟨a1, c1, rfl, _⟩ := DataW.trod_int hi d1
  rw [e2] at hx1
  simp only [Option.map_some, Option.some.injEq, DataW.agg.injEq, List.cons.injEq, DataW.lit.injEq, Lit.int.injEq, true_and, and_true] at hx1
  obtain ⟨rfl, rfl⟩ := hx1
  have g0 := drop_take c0 (by omega)
  have g1 := drop_take c1 (by omega)
  rw [o0] at g0
  rw [o1] at g1
  simp only [List.getElem?_take, List.getElem?_drop] at g0 g1
  exact ⟨by simpa using g0, by simpa using g1⟩
theorem gModes : Tryz.prog.globalNamed "poste/modes.modes" = some 0 := by kernel_rfl
theorem tModes : (Tryz.prog.globals[0]?).map (·.type) = some 114 := by kernel_rfl
theorem tab_of_laid {W : World} {rest : List (String × DataW Unit)} (hr : (rest.all fun x => x.2.handleName?.isNone) = true) (h : laidMetH Tryz.prog (("poste/modes.modes", Rows.laid_poste_modes_modes) :: rest) W) : Tab W := by
  rw [MakeChecks.laidMetH_plain _ _ _ (by simp only [List.all_cons, hr, Bool.and_true]; kernel_rfl)] at h
  obtain ⟨ps, ⟨g0, t0, cs0, f0, p0, q0, hg0, ht0, hv0, hd0, _⟩, _⟩ := h
  obtain rfl := Option.some.inj (gModes.symm.trans hg0)
  obtain rfl := Option.some.inj (tModes.symm.trans ht0)
  have hd : DataW.trod _ Tryz.prog W 0 _ false f0 114 cs0.toList = some (.agg ([(0, 0), (1, 8), (3, 12), (5, 10), (7, 14), (15, 15)].map fun z : Int × Int => .agg [.lit (.int .i64 z.1), .lit (.int .i64 z.2)]), p0) := hd0
  have hc := cells_of_pairs Tryz.underlying114 Tryz.underlying113 Tryz.underlying3 rfl rfl rfl rfl (by kernel_rfl) (by kernel_rfl) hd
  intro p hp
  have hcell := fun i => World.var?_cell hg0 hv0 i
  have key : ∀ z : Int × Int, [(0, 0), (1, 8), (3, 12), (5, 10), (7, 14), (15, 15)][p]? = some z → W.cell? ⟨0, p * 2, none⟩ = some (.int .i64 z.1) ∧ W.cell? ⟨0, p * 2 + 1, none⟩ = some (.int .i64 z.2) := fun z hz => by
    obtain ⟨h1, h2⟩ := hc p z hz
    exact ⟨by rw [hcell, ← Array.getElem?_toList]; exact h1, by rw [hcell, ← Array.getElem?_toList]; exact h2⟩
  match p, hp with
  | 0, _ => exact key _ rfl
  | 1, _ => exact key _ rfl
  | 2, _ => exact key _ rfl
  | 3, _ => exact key _ rfl
  | 4, _ => exact key _ rfl
  | 5, _ => exact key _ rfl
end Go.Proofs.YtnjhhndggfjjdaaGreatDoor
