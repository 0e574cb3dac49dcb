/- A lock that a law has made, what each call of it answers and leaves: one word for all that a law carries. -/
import Derived.Test.YtillbjaejdkfdaaDoorGrL
set_option maxRecDepth 4000
namespace Go.Proofs.YtillbjaejdkfdaaDoor
open Go.RowKit
/-- the lock at block b, made behind w0, has these; all that was in w0 is as it was -/
structure G (w0 : World) (b : Nat) (s : Lk) (w : World) : Prop where
  lock : Lock w b s
  ok : Ok s
  tab : Tab w
  below : Below w0.heap.size w0 w
  ge : w0.heap.size ≤ b
  b0 : 0 ≠ b
section
variable {w0 w : World} {b : Nat} {s : Lk}
theorem G.new {w0 w : World} (hT : Tab w) (h : Below w0.heap.size w0 w) : G w0 w.heap.size ([], []) (w.alloc (.cells #[.slice none 0 0, .slice none 0 0] 27)) :=
  ⟨lock_new w, ok_none, hT.below (alloc_below w _), h.trans ((alloc_below w _).mono h.size), h.size, by have := hT.lt; omega⟩
theorem G.next (g : G w0 b s w) {w' : World} (k : Below w.heap.size w w') : G w0 b s w' :=
  ⟨g.lock.below k, g.ok, g.tab.below k, g.below.trans (k.mono g.below.size), g.ge, g.b0⟩
theorem G.turn (g : G w0 b s w) {s' : Lk} {w' : World} (hl : Lock w' b s') (hok : Ok s') (k : Keep (fun i _ => i ≠ b) w w') : G w0 b s' w' :=
  ⟨hl, hok, g.tab.keep k fun _ => g.b0, below_of_keep g.below k g.ge g.below.size, g.ge, g.b0⟩
theorem G.ask (g : G w0 b s w) (ht : total s ≤ 9000) (who mode : Int) :
    Calls Tryd.prog 9 #[.pointer (some ⟨b, 0, none⟩), .int .i64 who, .int .i64 mode] w fun e w' => e = .returned (.bool (askP s who (mdN mode)).1) ∧ G w0 b (askP s who (mdN mode)).2 w' ∧ Keep (fun i _ => i ≠ b) w w' := by
  unfold total at ht
  refine (ask_ g.lock g.ok (by omega) (by omega) g.tab g.b0 who mode).mono ?_
  rintro e w' ⟨he, hl, hk⟩
  exact ⟨he, g.turn hl (ok_ask g.ok who (mdN_lt mode)) hk, hk⟩
theorem G.drop (g : G w0 b s w) (ht : total s ≤ 9000) (who : Int) :
    Calls Tryd.prog 12 #[.pointer (some ⟨b, 0, none⟩), .int .i64 who] w fun e w' => ∃ v, e = .returned v ∧ Own w' w.heap.size eI 3 v (dropP s who).1 ∧ G w0 b (dropP s who).2 w' ∧ Keep (fun i _ => i ≠ b) w w' := by
  unfold total at ht
  refine (drop_ g.lock g.ok (by omega) (by omega) g.tab g.b0 who).mono ?_
  rintro e w' ⟨v, he, ho, hl, hk⟩
  exact ⟨v, he, ho, g.turn hl (ok_drop g.ok who) hk, hk⟩
theorem G.holds (g : G w0 b s w) (ht : total s ≤ 9000) :
    Calls Tryd.prog 15 #[.pointer (some ⟨b, 0, none⟩)] w fun e w' => ∃ v, e = .returned v ∧ Own w' w.heap.size eH 42 v (holdsP s) ∧ G w0 b s w' ∧ Below w.heap.size w w' := by
  unfold total at ht
  refine (holds_ g.lock (by omega) (by omega)).mono ?_
  rintro e w' ⟨v, he, ho, hk⟩
  exact ⟨v, he, ho, g.next hk, hk⟩
theorem G.waits (g : G w0 b s w) (ht : total s ≤ 9000) (who : Int) :
    Calls Tryd.prog 17 #[.pointer (some ⟨b, 0, none⟩), .int .i64 who] w fun e w' => ∃ v, e = .returned v ∧ Own w' w.heap.size eI 3 v (waitsP s who) ∧ G w0 b s w' ∧ Below w.heap.size w w' := by
  unfold total at ht
  refine (waits_ g.lock g.ok (by omega) (by omega) g.tab who).mono ?_
  rintro e w' ⟨v, he, ho, hk⟩
  exact ⟨v, he, ho, g.next hk, hk⟩
/-- numbers that a call has answered, as a slice; its cells -/
theorem own_ints {base : Nat} {v : Value} {l : List Int} (h : Own w base eI 3 v l) : ∃ A c, v = .slice A l.length c ∧ Lst w (fun i => i < w.heap.size ∧ v.ownBlock = some i) eI A l ∧ l.length ≤ c := by
  obtain ⟨A, c, e, hl, h1, _⟩ := own_lst h
  exact ⟨A, c, e, hl.more fun _ hi h => ⟨hi, h.2⟩, h1⟩
end
end Go.Proofs.YtillbjaejdkfdaaDoor
