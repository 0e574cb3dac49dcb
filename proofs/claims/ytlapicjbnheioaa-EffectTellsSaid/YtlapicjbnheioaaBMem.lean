/- Words for memory: bytes that lie somewhere; a writer's parts; a reader. -/
import Derived.Test.YtlapicjbnheioaaBPure
import Derived.Test.YtlapicjbnheioaaByt
namespace Go.Proofs.Ytlapicjbnheioaa
open Go.RowKit

/-- the slice of address A and length n holds these bytes; they lie below block B -/
def RB (w : World) (B : Nat) (A : Option Addr) (n : Nat) (xs : List UInt8) : Prop :=
  xs.length = n ∧ (0 < n → ∃ b o, A = some ⟨b, o, none⟩ ∧ b < B ∧ ∀ j x, xs[j]? = some x → w.cell? ⟨b, o + j, none⟩ = some (u8 x))
section
variable {w w' : World} {B n : Nat} {A : Option Addr} {xs : List UInt8}
theorem RB.nil_ (A : Option Addr) : RB w B A 0 [] := ⟨rfl, fun h => absurd h (by omega)⟩
theorem RB.same (h : RB w B A n xs) (k : ∀ b o, b < B → w'.cell? ⟨b, o, none⟩ = w.cell? ⟨b, o, none⟩) : RB w' B A n xs :=
  ⟨h.1, fun hn => by
    obtain ⟨b, o, e, hb, hc⟩ := h.2 hn
    exact ⟨b, o, e, hb, fun j x hx => (k b _ hb).trans (hc j x hx)⟩⟩
theorem RB.below (h : RB w B A n xs) (k : Below B w w') : RB w' B A n xs := h.same fun b o hb => k.cell (p := ⟨b, o, none⟩) hb
theorem RB.more {B' : Nat} (h : RB w B A n xs) (hB : B ≤ B') : RB w B' A n xs :=
  ⟨h.1, fun hn => by
    obtain ⟨b, o, e, hb, hc⟩ := h.2 hn
    exact ⟨b, o, e, by omega, hc⟩⟩
theorem RB.take (h : RB w B A n xs) {k : Nat} (hk : k ≤ n) : RB w B A k (xs.take k) :=
  ⟨by rw [List.length_take, h.1]; omega, fun hn => by
    obtain ⟨b, o, e, hb, hc⟩ := h.2 (by omega)
    refine ⟨b, o, e, hb, fun j x hx => hc j x ?_⟩
    rw [List.getElem?_take] at hx
    split at hx
    · exact hx
    · cases hx⟩
theorem RB.drop (h : RB w B A n xs) {k c : Nat} (hk : k ≤ n) (hc : n ≤ c) : RB w B (if c = k then A else A.map (·.add (k * 1))) (n - k) (xs.drop k) :=
  ⟨by rw [List.length_drop, h.1], fun hn => by
    obtain ⟨b, o, e, hb, hcell⟩ := h.2 (by omega)
    rw [if_neg (by omega), e]
    refine ⟨b, o + k, ?_, hb, fun j x hx => ?_⟩
    · simp only [Option.map_some, Nat.mul_one, Addr.add]
      by_cases h0 : k = 0
      · simp [h0]
      · simp [h0]
    · rw [Nat.add_assoc]
      exact hcell _ x (by rw [← hx, List.getElem?_drop])⟩
end

/-- a reader at block g: what is left, and whether it has failed; its bytes lie below block B -/
def ReaderAt (T : TypeId) (w : World) (g B : Nat) (r : Rd) : Prop :=
  ∃ A n c, Blk w g T #[.slice A n c, .bool r.bad] ∧ n ≤ c ∧ c ≤ maxLen ∧ RB w B A n r.rest ∧ B ≤ g
theorem ReaderAt.keep {T : TypeId} {w w' : World} {g B : Nat} {r : Rd} {K : Nat → Obj → Prop} (h : ReaderAt T w g B r) (k : Keep K w w') (hk : ∀ i o, i < B ∨ i = g → K i o) : ReaderAt T w' g B r := by
  obtain ⟨A, n, c, hb, hn, hc, hr, hB⟩ := h
  have hlt := hb.lt
  exact ⟨A, n, c, hb.keep k (hk _ _ (.inr rfl)), hn, hc, hr.below (k.below (by omega) fun i o hi => hk i o (.inl hi)), hB⟩

/-- the parts that hang at this pointer, the last one first -/
def Parts (w : World) : List ByteArray → Value → Prop
  | [], q => q = .pointer none
  | t :: r, q => ∃ h q', q = .pointer (some ⟨h, 0, none⟩) ∧ Blk w h 75 #[q', .string t] ∧ Parts w r q'
def spell : List ByteArray → List UInt8
  | [] => []
  | t :: r => spell r ++ t.data.toList
theorem Parts.keep {w w' : World} {K : Nat → Obj → Prop} (k : Keep K w w') (hk : ∀ i cs, w.heap[i]? = some (.cells cs 75 (0, 0)) → K i (.cells cs 75 (0, 0))) :
    ∀ {l : List ByteArray} {q : Value}, Parts w l q → Parts w' l q
  | [], _, h => h
  | _ :: _, _, ⟨h, q', e, hb, hr⟩ => ⟨h, q', e, hb.keep k (hk _ _ hb), Parts.keep k hk hr⟩
theorem Parts.ptr {w : World} : ∀ {l : List ByteArray} {q : Value}, Parts w l q → ∃ a, q = .pointer a
  | [], _, h => ⟨none, h⟩
  | _ :: _, _, ⟨h, _, e, _, _⟩ => ⟨some ⟨h, 0, none⟩, e⟩

/-- a writer at block g: bs was written -/
def WriterAt (w : World) (g : Nat) (bs : List UInt8) : Prop :=
  ∃ l q, Blk w g 51 #[q, .int .i64 (bs.length : Int)] ∧ Parts w l q ∧ spell l = bs
theorem WriterAt.keep {w w' : World} {g : Nat} {bs : List UInt8} {K : Nat → Obj → Prop} (h : WriterAt w g bs) (k : Keep K w w')
    (hg : ∀ cs, K g (.cells cs 51 (0, 0))) (hk : ∀ i cs, w.heap[i]? = some (.cells cs 75 (0, 0)) → K i (.cells cs 75 (0, 0))) : WriterAt w' g bs := by
  obtain ⟨l, q, hb, hp, hs⟩ := h
  exact ⟨l, q, hb.keep k (hg _), hp.keep k hk, hs⟩
/-- all blocks but g -/
abbrev But (g : Nat) : Nat → Obj → Prop := fun i _ => i ≠ g
end Go.Proofs.Ytlapicjbnheioaa
