/- Plain facts on the order of lists of bytes and of numbers; nothing of the program is named here. -/
import GoSem.Op.String
set_option maxRecDepth 4000
namespace Go.Proofs.Ytlapicjbnheioaa
open Go

/-- -1, 0, 1: by number -/
def cmpI (a b : Int) : Int := if a < b then -1 else if b < a then 1 else 0
/-- -1, 0, 1: byte by byte, a beginning ahead of what is longer -/
def cmpL : List UInt8 → List UInt8 → Int
  | [], [] => 0
  | [], _ :: _ => -1
  | _ :: _, [] => 1
  | a :: x, b :: y => if a < b then -1 else if b < a then 1 else cmpL x y
def cmpS (a b : ByteArray) : Int := cmpL a.toList b.toList
def inS (k f t : ByteArray) : Bool := decide (0 ≤ cmpS k f) && (t.toList == [] || decide (cmpS k t < 0))
def cmpM (p i q j : Int) : Int := if cmpI p q = 0 then cmpI i j else cmpI p q

theorem u8_lt_iff (a b : UInt8) : a < b ↔ a.toNat < b.toNat := UInt8.lt_iff_toNat_lt
theorem u8_eq_iff (a b : UInt8) : a = b ↔ a.toNat = b.toNat := ⟨fun h => by rw [h], fun h => UInt8.toNat_inj.1 h⟩

theorem cmpL_range (x y : List UInt8) : cmpL x y = -1 ∨ cmpL x y = 0 ∨ cmpL x y = 1 := by
  induction x generalizing y with
  | nil => cases y <;> simp [cmpL]
  | cons a x ih =>
    cases y with
    | nil => simp [cmpL]
    | cons b y =>
      have := ih y
      simp only [cmpL]
      split
      · simp
      · split <;> simp_all

theorem cmpL_less (x y : List UInt8) : Op.bytesLess x y = decide (cmpL x y = -1) := by
  induction x generalizing y with
  | nil => cases y <;> simp [cmpL, Op.bytesLess]
  | cons a x ih =>
    cases y with
    | nil => simp [cmpL, Op.bytesLess]
    | cons b y =>
      have := ih y
      simp only [cmpL, Op.bytesLess, this]
      by_cases h : a < b
      · simp [h]
      · by_cases h2 : b < a
        · have : a ≠ b := by intro e; subst e; exact h h2
          simp [h, h2, this]
        · have : a = b := by rw [u8_lt_iff] at h h2; rw [u8_eq_iff]; omega
          simp [this]

theorem cmpL_eq (x y : List UInt8) : cmpL x y = 0 ↔ x = y := by
  induction x generalizing y with
  | nil => cases y <;> simp [cmpL]
  | cons a x ih =>
    cases y with
    | nil => simp [cmpL]
    | cons b y =>
      have := ih y
      simp only [cmpL]
      by_cases h : a < b
      · have : a ≠ b := by intro e; subst e; rw [u8_lt_iff] at h; omega
        simp [h, this]
      · by_cases h2 : b < a
        · have : a ≠ b := by intro e; subst e; exact h h2
          simp [h, h2, this]
        · have : a = b := by rw [u8_lt_iff] at h h2; rw [u8_eq_iff]; omega
          simp [this, ih y]

theorem cmpL_turn (x y : List UInt8) : cmpL y x = - cmpL x y := by
  induction x generalizing y with
  | nil => cases y <;> simp [cmpL]
  | cons a x ih =>
    cases y with
    | nil => simp [cmpL]
    | cons b y =>
      have := ih y
      simp only [cmpL, this]
      by_cases h : a < b
      · have : ¬ b < a := by rw [u8_lt_iff] at *; omega
        simp [h, this]
      · by_cases h2 : b < a <;> simp [h, h2]

theorem cmpL_le_trans (x y z : List UInt8) (h1 : cmpL x y ≤ 0) (h2 : cmpL y z ≤ 0) : cmpL x z ≤ 0 := by
  induction x generalizing y z with
  | nil => cases z <;> simp [cmpL]
  | cons a x ih =>
    cases y with
    | nil => simp [cmpL] at h1
    | cons b y =>
      cases z with
      | nil => simp [cmpL] at h2
      | cons c z =>
        simp only [cmpL] at *
        have e1 : ¬ b < a := by intro h; have : ¬ a < b := by rw [u8_lt_iff] at *; omega
                                simp [h, this] at h1
        have e2 : ¬ c < b := by intro h; have : ¬ b < c := by rw [u8_lt_iff] at *; omega
                                simp [h, this] at h2
        by_cases h : a < c
        · simp [h]
        · have hc : ¬ c < a := by rw [u8_lt_iff] at *; omega
          have h3 : ¬ a < b := by rw [u8_lt_iff] at *; omega
          have h4 : ¬ b < c := by rw [u8_lt_iff] at *; omega
          simp only [e1, h3, if_false] at h1
          simp only [e2, h4, if_false] at h2
          simp only [h, hc, if_false]
          exact ih y z h1 h2

/-- behind x and ahead of x with a byte 0 stands nothing -/
theorem cmpL_next (x y : List UInt8) : cmpL y (x ++ [0]) < 0 ↔ cmpL y x ≤ 0 := by
  induction x generalizing y with
  | nil =>
    cases y with
    | nil => simp [cmpL]
    | cons b y =>
      have : ¬ b < 0 := by rw [u8_lt_iff]; simp
      by_cases h : (0 : UInt8) < b
      · simp [cmpL, this, h]
      · cases y <;> simp [cmpL, this, h]
  | cons a x ih =>
    cases y with
    | nil => simp [cmpL]
    | cons b y =>
      simp only [List.cons_append, cmpL]
      by_cases h : b < a
      · simp [h]
      · by_cases h2 : a < b
        · simp [h, h2]
        · simp only [h, h2, if_false]; exact ih y

theorem cmpI_range (a b : Int) : cmpI a b = -1 ∨ cmpI a b = 0 ∨ cmpI a b = 1 := by unfold cmpI; repeat' split
                                                                                   all_goals simp
theorem cmpI_eq (a b : Int) : cmpI a b = 0 ↔ a = b := by unfold cmpI; repeat' split
                                                         all_goals omega
theorem cmpM_range (p i q j : Int) : -1 ≤ cmpM p i q j ∧ cmpM p i q j ≤ 1 := by
  have := cmpI_range p q; have := cmpI_range i j; unfold cmpM; split <;> omega
theorem cmpM_turn (p i q j : Int) : cmpM q j p i = - cmpM p i q j := by
  unfold cmpM cmpI; repeat' split
  all_goals omega
theorem cmpM_eq (p i q j : Int) : cmpM p i q j = 0 ↔ p = q ∧ i = j := by
  unfold cmpM cmpI; repeat' split
  all_goals omega
theorem cmpM_le (p i q j : Int) : cmpM p i q j ≤ 0 ↔ p < q ∨ p = q ∧ i ≤ j := by
  unfold cmpM cmpI; repeat' split
  all_goals omega
theorem cmpM_trans (p i q j r k : Int) (h1 : cmpM p i q j ≤ 0) (h2 : cmpM q j r k ≤ 0) : cmpM p i r k ≤ 0 := by
  rw [cmpM_le] at *; omega
theorem cmpM_trans' (p i q j r k : Int) (h1 : 0 ≤ cmpM p i q j) (h2 : 0 ≤ cmpM q j r k) : 0 ≤ cmpM p i r k := by
  have e1 := cmpM_turn p i q j; have e2 := cmpM_turn q j r k; have e3 := cmpM_turn p i r k
  have := cmpM_trans r k q j p i (by omega) (by omega)
  omega
theorem cmpS_turn (a b : ByteArray) : cmpS b a = - cmpS a b := cmpL_turn _ _
theorem cmpS_range (a b : ByteArray) : -1 ≤ cmpS a b ∧ cmpS a b ≤ 1 := by have := cmpL_range a.toList b.toList; unfold cmpS; omega
theorem cmpS_eq (a b : ByteArray) : cmpS a b = 0 ↔ a.toList = b.toList := cmpL_eq _ _
theorem cmpS_trans (a b c : ByteArray) (h1 : cmpS a b ≤ 0) (h2 : cmpS b c ≤ 0) : cmpS a c ≤ 0 := cmpL_le_trans _ _ _ h1 h2
theorem cmpS_trans' (a b c : ByteArray) (h1 : 0 ≤ cmpS a b) (h2 : 0 ≤ cmpS b c) : 0 ≤ cmpS a c := by
  have e1 := cmpS_turn a b; have e2 := cmpS_turn b c; have e3 := cmpS_turn a c
  have := cmpS_trans c b a (by omega) (by omega)
  omega
end Go.Proofs.Ytlapicjbnheioaa
