/- A tree's new root. -/
import Derived.Test.YtocaaebmelhhnaaTop
set_option maxRecDepth 4000
namespace Go.Proofs.Ytocaaebmelhhnaa
open Go.RowKit
/-- one root for what a root became -/
def aboveT (h : Nat) : List (Tr h) → (h : Nat) × Tr h
  | [p] => ⟨h, p⟩
  | ps => ⟨h + 1, (ps : List (Tr h))⟩
def lowerK (h : Nat) : List (Tr h) → (h : Nat) × Tr h
  | [p] => ⟨h, p⟩
  | ps => ⟨h + 1, (ps : List (Tr h))⟩
def lowerT : (h : Nat) → Tr h → (h : Nat) × Tr h
  | 0 => fun t => ⟨0, t⟩
  | h + 1 => fun (ks : List (Tr h)) => lowerK h ks
def putTe (T : Te) (r : Rw) : Te := some (aboveT _ (putT (topT T).1 (topT T).2 r))
def cutTe (T : Te) (k : ByteArray) : Te :=
  match T with
  | none => none
  | some ⟨h, t⟩ => if (getT h t k).2 then some (lowerT h (cutT h t k)) else some ⟨h, t⟩
/-- a part that lies somewhere is handed back -/
def RootP (w : World) (K : Nat → Prop) (p : (h : Nat) × Tr h) (e : Ending) (w' : World) : Prop :=
  ∃ bt, e = .returned (.iface (tyT p.1) (.pointer (some ⟨bt, 0, none⟩))) ∧ TrAt p.1 w' K (.iface (tyT p.1) (.pointer (some ⟨bt, 0, none⟩))) p.2 ∧ Below w.heap.size w w'
set_option maxHeartbeats 1000000 in
theorem above_ {h : Nat} {w : World} {K : Nat → Prop} {A : Option Addr} {n c : Nat} {vs : List Value} {ps : List (Tr h)} (hp : PsAt h w K A n c vs ps) (h1 : 1 ≤ n) (hn : n ≤ 1000) (hf : (flatL h ps).length ≤ 100000) (hh : h ≤ 1000) (hK : ∀ i, w.heap.size ≤ i → K i) :
    Calls Try.prog 30 #[.slice A n c] w (RootP w K (aboveT h ps)) := by
  have hc := hp.count
  match ps, hp, hc with
  | [], _, hc => simp at hc; omega
  | [p], hp, hc =>
    have h1 : n = 1 := by simpa using hc.symm
    subst h1
    obtain ⟨b, o, bt, rfl, hc0, hd, ht⟩ := hp.at_ (j := 0) (t := p) rfl
    have HT := Lib.hid ht
    simp only [Nat.add_zero] at hc0
    clear hp hc hd ht
    go_enter Try.func30, Try.ntmps30
    go_wp2_with fail
    go_ret
    exact ⟨bt, rfl, HT.out, Below.refl _ _⟩
  | p :: q :: r, hp, hc =>
    have hn1 : ((n : Int) == 1) = false := by rw [beq_eq_false_iff_ne]; simp at hc; omega
    have hni := newInner_ hp (by omega) (by omega) (Nat.le_trans hf (by omega)) (by omega) hK
    have HN := Lib.hid hni
    clear hp hc hni hf hK
    go_enter Try.func30, Try.ntmps30
    go_wp2_with fail
    refine HN.out.mono ?_
    rintro e w1 ⟨b1, rfl, ht1, hb1⟩
    have HT1 := Lib.hid ht1
    have HB1 := Lib.hid hb1
    clear ht1 hb1
    go_wp2_with fail
    go_ret
    exact ⟨b1, rfl, HT1.out, HB1.out⟩
set_option maxHeartbeats 1000000 in
theorem lowered_ {h : Nat} {w : World} {K : Nat → Prop} {bt : Nat} {t : Tr h} (a : TrAt h w K (.iface (tyT h) (.pointer (some ⟨bt, 0, none⟩))) t) :
    Calls Try.prog 31 #[.iface (tyT h) (.pointer (some ⟨bt, 0, none⟩))] w (RootP w K (lowerT h t)) := by
  cases h with
  | zero =>
    have HT := Lib.hid a
    have has := as_inner_no
    have he : Hid (tyT 0 = 77) := rfl
    clear a
    show Calls Try.prog 31 #[.iface 77 (.pointer (some ⟨bt, 0, none⟩))] w _
    go_enter Try.func31, Try.ntmps31
    go_wp2_with fail
    go_ret
    exact ⟨bt, rfl, HT.out, Below.refl _ _⟩
  | succ h =>
    have hT := a
    have has := as_inner_yes
    obtain ⟨A, n, c, vs, hc4, hp⟩ := TrAt.kids (h := h) a
    have hcn := hp.count
    show Calls Try.prog 31 #[.iface 79 (.pointer (some ⟨bt, 0, none⟩))] w (RootP w K (lowerK h t))
    match t, hT, hp, hcn with
    | [p], hT, hp, hcn =>
      have h1 : n = 1 := by simpa using hcn.symm
      subst h1
      obtain ⟨b, o, bk, rfl, hc0, hd, ht⟩ := hp.at_ (j := 0) (t := p) rfl
      have HT := Lib.hid ht
      simp only [Nat.add_zero] at hc0
      clear hp hcn hd ht hT a
      go_enter Try.func31, Try.ntmps31
      go_wp2_with fail
      go_ret
      exact ⟨bk, rfl, HT.out, Below.refl _ _⟩
    | [], hT, hp, hcn =>
      have h1 : n = 0 := by simpa using hcn.symm
      subst h1
      have HT := Lib.hid hT
      clear hp hcn hT a
      go_enter Try.func31, Try.ntmps31
      go_wp2_with fail
      go_ret
      exact ⟨bt, rfl, HT.out, Below.refl _ _⟩
    | p :: q :: r, hT, hp, hcn =>
      have hn1 : ((n : Int) == 1) = false := by rw [beq_eq_false_iff_ne]; simp at hcn; omega
      have HT := Lib.hid hT
      clear hp hcn hT a
      go_enter Try.func31, Try.ntmps31
      go_wp2_with fail
      go_ret
      exact ⟨bt, rfl, HT.out, Below.refl _ _⟩
end Go.Proofs.Ytocaaebmelhhnaa
