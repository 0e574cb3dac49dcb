/- Words for a law that holds an object of its own in a variable; the objects that DeadLimit goes by. -/
import Derived.Test.YtobbopakdaoemaaDdX
import Derived.Test.YtobbopakdaoemaaDdL
set_option maxRecDepth 4000
namespace Go.Proofs.Ytobbopakdaoemaa
open Go.RowKit
/-- a row of one's own that fills its block -/
theorem own_of_blk {α : Type} {E : Enc α} {T : TypeId} {W : World} {base g : Nat} {cur : Array Value} {ys : List α} (h : Blk W g T cur) (hc : cur.toList = cellsE E ys) (hb : base ≤ g) (hm : ys.length ≤ maxLen) : Own W base E T (.slice (some ⟨g, 0, none⟩) ys.length ys.length) ys := by
  have hs : cur.size = ys.length * E.k := by rw [← Array.length_toList, hc, cellsE_length]
  exact ⟨by rw [cellsE_length], .inr ⟨g, ys.length, cur, rfl, hb, h, Nat.le_refl _, hm, hs, by rw [hc, ← cellsE_length, List.take_length]⟩⟩
/-- an object in a law's variable at block P, its rows the law's own -/
structure LmS (w : World) (P : Nat) (o : Ob) (r m d : Value) (W : World) : Prop where
  below : Below w.heap.size w W
  obj : Blk W P 25 (o.cells r m d)
  out : w.heap.size ≤ P
  own : ObOwn W w.heap.size o r m d
  n1 : r.ownBlock ≠ some P
  n2 : m.ownBlock ≠ some P
  n3 : d.ownBlock ≠ some P
section
variable {w W W' : World} {P : Nat} {o : Ob} {r m d : Value}
theorem LmS.step (h : LmS w P o r m d W) (k : Below W.heap.size W W') : LmS w P o r m d W' :=
  ⟨h.below.trans (k.mono h.below.size), h.obj.below k h.obj.lt, h.out, h.own.below k, h.n1, h.n2, h.n3⟩
theorem LmS.turn (h : LmS w P o r m d W) {g : Nat} (hm : m.ownBlock = some g) (k : Keep (fun i _ => i ≠ g) W W') {ms : List Mg} (hms : OwnM W' w.heap.size m ms) : LmS w P { o with msgs := ms } r m d W' := by
  obtain ⟨hg1, hg2, _⟩ := own_blk h.own.msgs hm
  have hO : P ≠ g := fun e => h.n2 (by rw [hm, e])
  refine ⟨h.below.trans (k.below h.below.size fun i _ hi e => ?_), h.obj.keep k hO, h.out, ⟨?_, hms, ?_, h.own.a1, h.own.a2⟩, h.n1, h.n2, h.n3⟩
  · omega
  · exact own_keep h.own.rows fun i hi => by
      obtain ⟨ob, hob⟩ : ∃ ob, W.heap[i]? = some ob := ⟨_, (own_blk h.own.rows hi).2.2.choose_spec⟩
      rw [hob]
      exact k.block i ob hob fun e => (h.own.a1 i hi).1 (by rw [hm, e])
  · exact own_keep h.own.dead fun i hi => by
      obtain ⟨ob, hob⟩ : ∃ ob, W.heap[i]? = some ob := ⟨_, (own_blk h.own.dead hi).2.2.choose_spec⟩
      rw [hob]
      exact k.block i ob hob fun e => h.own.a2 g hm (by rw [hi, e])
/-- another object laid in its place, its rows made behind -/
theorem LmS.put (h : LmS w P o r m d W) (k : Below W.heap.size W W') {o' : Ob} {r' m' d' : Value} (ho : ObOwn W' W.heap.size o' r' m' d') :
    LmS w P o' r' m' d' ((((((W'.setCell ⟨P, 0, none⟩ (.string o'.name)).setCell ⟨P, 1, none⟩ (.int .i64 o'.kind)).setCell ⟨P, 2, none⟩ (.int .i64 o'.limit)).setCell ⟨P, 3, none⟩ r').setCell ⟨P, 4, none⟩ m').setCell ⟨P, 5, none⟩ d') := by
  have hs := h.step k
  have hl := h.obj.lt
  have far : ∀ {α : Type} {E : Enc α} {T : TypeId} {v : Value} {l : List α}, Own W' W.heap.size E T v l → Own ((((((W'.setCell ⟨P, 0, none⟩ (.string o'.name)).setCell ⟨P, 1, none⟩ (.int .i64 o'.kind)).setCell ⟨P, 2, none⟩ (.int .i64 o'.limit)).setCell ⟨P, 3, none⟩ r').setCell ⟨P, 4, none⟩ m').setCell ⟨P, 5, none⟩ d') w.heap.size E T v l := fun {α E T v l} ho =>
    have hb := own_out ho hl
    own_base (own_far (own_far (own_far (own_far (own_far (own_far ho hb _) hb _) hb _) hb _) hb _) hb _) h.below.size
  exact ⟨below_six hs.below h.out _ _ _ _ _ _, blk_store6 hs.obj, h.out, ⟨far ho.rows, far ho.msgs, far ho.dead, ho.a1, ho.a2⟩, own_out ho.rows hl, own_out ho.msgs hl, own_out ho.dead hl⟩
end
/-- six cells stored elsewhere -/
theorem ObOwn.six {W : World} {base b : Nat} {o : Ob} {r m d : Value} (h : ObOwn W base o r m d) (hb : b < base) (x0 x1 x2 x3 x4 x5 : Value) :
    ObOwn ((((((W.setCell ⟨b, 0, none⟩ x0).setCell ⟨b, 1, none⟩ x1).setCell ⟨b, 2, none⟩ x2).setCell ⟨b, 3, none⟩ x3).setCell ⟨b, 4, none⟩ x4).setCell ⟨b, 5, none⟩ x5) base o r m d := by
  have far : ∀ {α : Type} {E : Enc α} {T : TypeId} {v : Value} {l : List α}, Own W base E T v l → Own ((((((W.setCell ⟨b, 0, none⟩ x0).setCell ⟨b, 1, none⟩ x1).setCell ⟨b, 2, none⟩ x2).setCell ⟨b, 3, none⟩ x3).setCell ⟨b, 4, none⟩ x4).setCell ⟨b, 5, none⟩ x5) base E T v l := fun {α E T v l} ho =>
    have hb := own_out ho hb
    own_far (own_far (own_far (own_far (own_far (own_far ho hb _) hb _) hb _) hb _) hb _) hb _
  exact ⟨far h.rows, far h.msgs, far h.dead, h.a1, h.a2⟩
/-- an object that a call gave, in a variable of a law -/
def Got (w2 : World) (o : Ob) (X : Nat) (r m d : Value) (W : World) : Prop := Blk W X 25 (o.cells r m d) ∧ ObOwn W w2.heap.size o r m d ∧ Below w2.heap.size w2 W
theorem Got.first {w2 w3 : World} {o : Ob} {r m d : Value} (hb : Below w2.heap.size w2 w3) (ho : ObOwn w3 w2.heap.size o r m d) : Got w2 o w3.heap.size r m d (w3.alloc (.cells (o.cells r m d) 25)) :=
  ⟨Blk.new w3 _ _, ho.below (alloc_below w3 _), hb.alloc hb.size _⟩
theorem Got.later {w2 w3 : World} {o : Ob} {r m d z0 z1 z2 z3 z4 z5 : Value} (hb : Below w2.heap.size w2 w3) (hz : Blk w3 w2.heap.size 25 #[z0, z1, z2, z3, z4, z5]) {b1 : Nat} (ho : ObOwn w3 b1 o r m d) (h1 : w2.heap.size < b1) :
    Got w2 o w2.heap.size r m d ((((((w3.setCell ⟨w2.heap.size, 0, none⟩ (.string o.name)).setCell ⟨w2.heap.size, 1, none⟩ (.int .i64 o.kind)).setCell ⟨w2.heap.size, 2, none⟩ (.int .i64 o.limit)).setCell ⟨w2.heap.size, 3, none⟩ r).setCell ⟨w2.heap.size, 4, none⟩ m).setCell ⟨w2.heap.size, 5, none⟩ d) :=
  ⟨blk_store6 hz, (ho.six h1 _ _ _ _ _ _).base (by omega), below_six hb (Nat.le_refl _) _ _ _ _ _ _⟩
/-- the queue that DeadLimit goes by, its second message tried k times -/
def obL (L : Int) (k : Nat) (cl : Bool) : Ob := ⟨⟨#[113]⟩, 2, L, [], [⟨1, -1, 0, false, ⟨#[]⟩, ⟨#[]⟩⟩, ⟨2, 0, (k : Int), cl, ⟨#[]⟩, ⟨#[]⟩⟩, ⟨3, 1, 0, false, ⟨#[]⟩, ⟨#[]⟩⟩], []⟩
def obD (L : Int) : Ob := ⟨⟨#[113]⟩, 2, L, [], [⟨1, -1, 0, false, ⟨#[]⟩, ⟨#[]⟩⟩, ⟨3, 1, 0, false, ⟨#[]⟩, ⟨#[]⟩⟩], [⟨2, 0, L, false, ⟨#[]⟩, ⟨#[]⟩⟩]⟩
theorem lim_idx (L : Int) (k : Nat) (cl : Bool) : (obL L k cl).msgs.findIdx (isM 2) = 1 := rfl
theorem lim_back (L : Int) (k : Nat) : freeO (obL L k true) 2 false = obL L k false ∧ freeOk (obL L k true) 2 = true := by
  obtain ⟨h1, h2⟩ := free_back (lim_idx L k true) (m := ⟨2, 0, (k : Int), true, ⟨#[]⟩, ⟨#[]⟩⟩) rfl rfl
  exact ⟨h2, h1⟩
theorem lim_stay {L : Int} {k : Nat} (h : (k : Int) + 1 < L) (hk : k < 1000) : freeO (obL L k true) 2 true = obL L (k + 1) false ∧ freeOk (obL L k true) 2 = true := by
  have hm : more1 (k : Int) = ((k + 1 : Nat) : Int) := by unfold more1; rw [if_pos (by omega)]; omega
  obtain ⟨h1, h2⟩ := free_stay (lim_idx L k true) (m := ⟨2, 0, (k : Int), true, ⟨#[]⟩, ⟨#[]⟩⟩) rfl rfl (by unfold triedB; rw [hm]; exact decide_eq_false (by show ¬ L ≤ _; omega))
  refine ⟨h2.trans ?_, h1⟩
  simp [obL, Mg.tried, hm]
theorem lim_dead {L : Int} {k : Nat} (h : (k : Int) + 1 = L) (hk : k < 1000) : freeO (obL L k true) 2 true = obD L ∧ freeOk (obL L k true) 2 = true := by
  have hm : more1 (k : Int) = L := by unfold more1; rw [if_pos (by omega)]; omega
  obtain ⟨h1, h2⟩ := free_dead (lim_idx L k true) (m := ⟨2, 0, (k : Int), true, ⟨#[]⟩, ⟨#[]⟩⟩) rfl rfl (by unfold triedB; rw [hm]; exact decide_eq_true (by show L ≤ _; omega))
  refine ⟨h2.trans ?_, h1⟩
  simp [obL, obD, Mg.tried, hm]
theorem lim_fits (L : Int) (k : Nat) (hk : k < 1000) (cl : Bool) : (obL L k cl).fits := by
  refine ⟨fun m hm => ?_, fun m hm => by cases hm⟩
  simp [obL] at hm
  rcases hm with rfl | rfl | rfl
  · exact ⟨⟨by decide, by decide⟩, ⟨by decide, by decide⟩, ⟨by decide, by decide⟩⟩
  · exact ⟨⟨by show _ ≤ (2 : Int); decide, by show (2 : Int) ≤ _; decide⟩, ⟨by show _ ≤ (0 : Int); decide, by show (0 : Int) ≤ _; decide⟩, ⟨by show _ ≤ (k : Int); omega, by show (k : Int) ≤ _; omega⟩⟩
  · exact ⟨⟨by decide, by decide⟩, ⟨by decide, by decide⟩, ⟨by decide, by decide⟩⟩
theorem lim_where (L : Int) : whereO (obD L) 2 = 2 ∧ whereO (obD L) 3 = 1 := ⟨rfl, rfl⟩
/-- what giving the second one back makes of the queue -/
theorem lim_cases (L : Int) (k : Nat) (t : Bool) (h : (k : Int) < L) (hk : L ≤ 20) : ∃ o', (freeO (obL L k true) 2 t = o' ∧ freeOk (obL L k true) 2 = true) ∧ (t = false ∧ o' = obL L k false ∨ t = true ∧ (k : Int) + 1 < L ∧ o' = obL L (k + 1) false ∨ t = true ∧ (k : Int) + 1 = L ∧ o' = obD L) := by
  cases t
  · exact ⟨_, lim_back L k, .inl ⟨rfl, rfl⟩⟩
  · by_cases h1 : (k : Int) + 1 < L
    · exact ⟨_, lim_stay h1 (by omega), .inr (.inl ⟨rfl, h1, rfl⟩)⟩
    · exact ⟨_, lim_dead (by omega) (by omega), .inr (.inr ⟨rfl, by omega, rfl⟩)⟩
theorem lim_new {w w1 : World} (L : Int) (hb : Below w.heap.size w w1) : LmS w (w1.heap.size + 1) (obL L 0 false) (.slice none 0 0) (.slice (some ⟨w1.heap.size, 0, none⟩) 3 3) (.slice none 0 0)
    ((w1.alloc (.cells #[.int .i64 1, .int .i64 (-1), .int .i64 0, .bool false, .string ⟨#[]⟩, .string ⟨#[]⟩, .int .i64 2, .int .i64 0, .int .i64 0, .bool false, .string ⟨#[]⟩, .string ⟨#[]⟩, .int .i64 3, .int .i64 1, .int .i64 0, .bool false, .string ⟨#[]⟩, .string ⟨#[]⟩] 34)).alloc
      (.cells #[.string ⟨#[113]⟩, .int .i64 2, .int .i64 L, .slice none 0 0, .slice (some ⟨w1.heap.size, 0, none⟩) 3 3, .slice none 0 0] 25)) := by
  have h1 := alloc_below w1 (.cells #[.int .i64 1, .int .i64 (-1), .int .i64 0, .bool false, .string ⟨#[]⟩, .string ⟨#[]⟩, .int .i64 2, .int .i64 0, .int .i64 0, .bool false, .string ⟨#[]⟩, .string ⟨#[]⟩, .int .i64 3, .int .i64 1, .int .i64 0, .bool false, .string ⟨#[]⟩, .string ⟨#[]⟩] 34)
  have hB := Blk.new w1 34 #[.int .i64 1, .int .i64 (-1), .int .i64 0, .bool false, .string ⟨#[]⟩, .string ⟨#[]⟩, .int .i64 2, .int .i64 0, .int .i64 0, .bool false, .string ⟨#[]⟩, .string ⟨#[]⟩, .int .i64 3, .int .i64 1, .int .i64 0, .bool false, .string ⟨#[]⟩, .string ⟨#[]⟩]
  have hO := own_of_blk (E := eM) (base := w.heap.size) (ys := (obL L 0 false).msgs) hB rfl hb.size (by unfold maxLen; show 3 ≤ _; omega)
  have hsz : (w1.alloc (.cells #[.int .i64 1, .int .i64 (-1), .int .i64 0, .bool false, .string ⟨#[]⟩, .string ⟨#[]⟩, .int .i64 2, .int .i64 0, .int .i64 0, .bool false, .string ⟨#[]⟩, .string ⟨#[]⟩, .int .i64 3, .int .i64 1, .int .i64 0, .bool false, .string ⟨#[]⟩, .string ⟨#[]⟩] 34)).heap.size = w1.heap.size + 1 := by simp
  have hP := Blk.new (w1.alloc (.cells #[.int .i64 1, .int .i64 (-1), .int .i64 0, .bool false, .string ⟨#[]⟩, .string ⟨#[]⟩, .int .i64 2, .int .i64 0, .int .i64 0, .bool false, .string ⟨#[]⟩, .string ⟨#[]⟩, .int .i64 3, .int .i64 1, .int .i64 0, .bool false, .string ⟨#[]⟩, .string ⟨#[]⟩] 34)) 25 #[.string ⟨#[113]⟩, .int .i64 2, .int .i64 L, .slice none 0 0, .slice (some ⟨w1.heap.size, 0, none⟩) 3 3, .slice none 0 0]
  rw [hsz] at hP
  have hb1 := hb.trans (h1.mono hb.size)
  have hk := alloc_below (w1.alloc (.cells #[.int .i64 1, .int .i64 (-1), .int .i64 0, .bool false, .string ⟨#[]⟩, .string ⟨#[]⟩, .int .i64 2, .int .i64 0, .int .i64 0, .bool false, .string ⟨#[]⟩, .string ⟨#[]⟩, .int .i64 3, .int .i64 1, .int .i64 0, .bool false, .string ⟨#[]⟩, .string ⟨#[]⟩] 34)) (.cells #[.string ⟨#[113]⟩, .int .i64 2, .int .i64 L, .slice none 0 0, .slice (some ⟨w1.heap.size, 0, none⟩) 3 3, .slice none 0 0] 25)
  refine ⟨hb1.trans (hk.mono hb1.size), hP, by have := hb.size; omega, ⟨own_nil _ _, own_belowE hO hk, own_nil _ _, fun g hg => (by cases hg), fun g _ e => (by cases e)⟩, fun e => (by cases e), fun e => ?_, fun e => (by cases e)⟩
  injection e with e
  exact absurd e (by show w1.heap.size ≠ w1.heap.size + 1; omega)
end Go.Proofs.Ytobbopakdaoemaa
