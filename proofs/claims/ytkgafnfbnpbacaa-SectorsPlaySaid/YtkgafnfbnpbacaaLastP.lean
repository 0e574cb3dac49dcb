/- Plain facts for the law on one sector that is written again and again. -/
import Derived.Test.YtkgafnfbnpbacaaAlive
namespace Go.Proofs.Ytkgafnfbnpbacaa
open Go.RowKit
/-- the writes of numbers a + 1 to b, each to sector 0 -/
def ws : Nat → Nat → List Wr
  | a, 0 => [(0, filled (a + 1) false)].take 0
  | a, m + 1 => ws a m ++ [(0, filled (a + m + 1) false)]
theorem ws_length (a : Nat) : ∀ m, (ws a m).length = m
  | 0 => rfl
  | m + 1 => by simp [ws, ws_length a m]
theorem play_ws (a : Nat) : ∀ m, play [filled a false] (ws a m) = [filled (a + m) false]
  | 0 => rfl
  | m + 1 => by rw [ws, play_snoc, play_ws a m]; rfl
/-- the last number that stays -/
def lastK (k : Nat → Bool) (a : Nat) : Nat → Nat
  | 0 => a
  | m + 1 => if k m then a + m + 1 else lastK k a m
theorem lastK_le (k : Nat → Bool) (a : Nat) : ∀ m, lastK k a m ≤ a + m
  | 0 => Nat.le_refl _
  | m + 1 => by
    have := lastK_le k a m
    rw [lastK]; split <;> omega
theorem settle_ws (k : Nat → Bool) (a : Nat) : ∀ m, settle k 0 [filled a false] (ws a m) = [filled (lastK k a m) false]
  | 0 => rfl
  | m + 1 => by
    rw [ws, settle_snoc, settle_ws k a m, ws_length, Nat.zero_add, lastK]
    split <;> rfl
theorem filled_zero : filled 0 false = List.replicate 64 0 := rfl
/-- one sector, written m times behind number a -/
def St.one (s : St) (a m : Nat) : Prop := s.sure = [filled a false] ∧ s.l = ws a m ∧ s.count ≤ 1000 ∧ s.ends = false ∧ s.left = 0
theorem St.one.now {s : St} {a m : Nat} (h : s.one a m) : s.now = [filled (a + m) false] := by rw [St.now, h.1, h.2.1, play_ws]
theorem St.one.n {s : St} {a m : Nat} (h : s.one a m) : s.n = 1 := by rw [St.n, h.1]; rfl
theorem St.one.sync {s : St} {a m : Nat} (h : s.one a m) : s.sync.one (a + m) 0 := ⟨by show play _ _ = _; rw [h.1, h.2.1, play_ws], rfl, h.2.2⟩
theorem St.one.wr {s : St} {a m c : Nat} (h : s.one a m) (hc : c = a + m + 1) (hm : s.count + 1 ≤ 1000) : (s.wr 0 (filled c false)).one a (m + 1) := by
  subst hc
  exact ⟨h.1, by show s.l ++ _ = _; rw [h.2.1]; rfl, hm, h.2.2.2.1, by show (if s.ends then _ else _) = _; rw [h.2.2.2.1, if_neg (by simp)]; exact h.2.2.2.2⟩
theorem St.one.crash {s : St} {a m : Nat} (h : s.one a m) (k : Nat → Bool) : (s.crash k).now = [filled (lastK k a m) false] := by rw [St.crash_now, h.1, h.2.1, settle_ws]
theorem St.one.broken {s : St} {a m : Nat} (h : s.one a m) : s.broken = false := by rw [St.broken, h.2.2.2.1]; rfl
theorem St.one_new : (St.new 1).one 0 0 := ⟨rfl, rfl, Nat.zero_le _, rfl, rfl⟩
theorem fill_z (z : Int) (c : Nat) (bad : Bool) (hz : z = (c : Int)) (hc : c < 256) (w : World) :
    Calls Try.prog 11 #[.int .u8 z, .bool bad] w fun e w' => e = .returned (.slice (some ⟨w.heap.size, 0, none⟩) (fillN bad) (fillN bad)) ∧ w.alloc (.cells (cellsB (filled c bad)).toArray 5) = w' := by
  subst hz
  exact fill_ c bad hc w
theorem fill_f (z : Int) (c : Nat) (hz : z = (c : Int)) (hc : c < 256) (w : World) :
    Calls Try.prog 11 #[.int .u8 z, .bool false] w fun e w' => e = .returned (.slice (some ⟨w.heap.size, 0, none⟩) 64 64) ∧ w.alloc (.cells (cellsB (filled c false)).toArray 5) = w' := fill_z z c false hz hc w
theorem convert_filled (c : Nat) (W : World) : (convert 32 9 (.slice (some ⟨W.heap.size, 0, none⟩) 64 64)).run Try.prog (W.alloc (.cells (cellsB (filled c false)).toArray 5)) = .ok (.string ⟨(filled c false).toArray⟩) (W.alloc (.cells (cellsB (filled c false)).toArray 5)) :=
  convert_blk (Blk.new W 5 _) (filled_length c false) 64
/-- what Read answers, turned to a string at once, or behind one more block -/
def ReadStr (w : World) (x : List UInt8) (e : Ending) (w' : World) : Prop :=
  e = .returned (.slice (some ⟨w.heap.size, 0, none⟩) 64 64) ∧ (convert 32 9 (.slice (some ⟨w.heap.size, 0, none⟩) 64 64)).run Try.prog w' = .ok (.string ⟨x.toArray⟩) w' ∧
    (∀ ob, (convert 32 9 (.slice (some ⟨w.heap.size, 0, none⟩) 64 64)).run Try.prog (w'.alloc ob) = .ok (.string ⟨x.toArray⟩) (w'.alloc ob)) ∧ Below w.heap.size w w' ∧ w.heap.size < w'.heap.size
theorem read_str {w : World} {g : Nat} {O : Nat → Prop} {s : St} (h : DiskAt w g O s) (i : Nat) (hi : i < s.n) {x : List UInt8} (hx : s.now.getD i [] = x) : Calls Try.prog 22 #[ptr g, .int .i64 (i : Int)] w (ReadStr w x) := by
  have hl : x.length = 64 := by
    rw [← hx]
    obtain ⟨_, _, hm⟩ := h
    exact secs_getD hm.ok.now (by rw [St.now_length]; exact hi)
  refine (read_ h i hi).mono fun e w' ⟨he, hb, hbel, hsz⟩ => ?_
  rw [hx] at hb
  exact ⟨he, convert_blk hb hl 64, fun ob => convert_blk (hb.alloc ob) hl 64, hbel, by omega⟩
theorem DiskAt.drew {w : World} {g : Nat} {O : Nat → Prop} {s : St} (h : DiskAt w g O s) : DiskAt w.drew g O s := h.keep (K := fun _ _ => True) ((Keep.refl w).drew) fun _ _ _ => trivial
theorem read_strD {w : World} {g : Nat} {O : Nat → Prop} {s : St} (h : DiskAt w g O s) (i : Nat) (hi : i < s.n) {x : List UInt8} (hx : s.now.getD i [] = x) : Calls Try.prog 22 #[ptr g, .int .i64 (i : Int)] w.drew (ReadStr w x) :=
  (read_str h.drew i hi hx).mono fun _ _ ⟨h1, h2, h3, h4, h5⟩ => ⟨h1, h2, h3, ((Below.refl w.heap.size w).drew).trans h4, h5⟩
end Go.Proofs.Ytkgafnfbnpbacaa
