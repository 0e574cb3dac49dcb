/- Package grant's Drop. -/
import Derived.Test.YtnjhhndggfjjdaaDoorGqA
import Derived.Deep.Slices
set_option maxRecDepth 4000
namespace Go.Proofs.YtnjhhndggfjjdaaDoor
open Go.RowKit
theorem elemC : Tryd.prog.elem 58 = 78 := by simp [Program.elem, Tryd.underlying58]
theorem head_claims (A : Option Addr) (l c q : Nat) (h : q ≤ c) (W : World) : (Instr.slice 58 (.slice A l c) none (some (.int .i64 (q : Int))) none).run Tryd.prog W = .ok (.slice A q c) W := by
  rw [run_slice_h W 58 _ _ _ (by rw [elemC]; exact Tryd.underlying58) .i64 _ (by omega) (by omega), elemC, sizeC]
  have : A.map (·.add (0 * 2)) = A := by cases A <;> simp [Addr.add]
  simp [Result.andThen, sliced]
  cases A <;> simp [Addr.add]
theorem tail_claims {w : World} {K : Nat → Prop} {A : Option Addr} {l : List Cl} {n c : Nat} (h : Lst w K eC A l) (hl : l.length = n) (hc : n ≤ c) {q m : Nat} (hq : q ≤ n) (hm : n - q = m) :
    ∃ A', (∀ W, (Instr.slice 58 (.slice A n c) (some (.int .i64 (q : Int))) none none).run Tryd.prog W = .ok (.slice A' m (c - q)) W) ∧ Lst w K eC A' (l.drop q) ∧ (A' = none → A = none) := by
  subst hl hm
  refine ⟨_, fun W => ?_, h.drop (k := q) hc, fun e => by split at e <;> simpa using e⟩
  rw [run_slice_l W 58 _ _ _ (by rw [elemC]; exact Tryd.underlying58) .i64 _ (by omega) (by omega), elemC, sizeC]
  rfl
/-- a list in block q, if it has any -/
def Line (w : World) (v : Value) (l : List Cl) (q : Nat) : Prop := ∃ A c, v = .slice A l.length c ∧ Lst w (fun i => i = q ∧ IsC w i) eC A l ∧ l.length ≤ c ∧ c ≤ maxLen ∧ (A = none → c = 0)
theorem Line.kept {w w' : World} {v : Value} {l : List Cl} {q : Nat} (h : Line w v l q) (hk : IsC w q → w'.heap[q]? = w.heap[q]?) : Line w' v l q := by
  obtain ⟨A, c, e, hl, hr⟩ := h
  refine ⟨A, c, e, fun h0 => ?_, hr⟩
  obtain ⟨g, o, e, ⟨rfl, cur, hi⟩, hg, hc⟩ := hl h0
  have hk' := hk ⟨cur, hi⟩
  exact ⟨g, o, e, ⟨rfl, cur, hk'.trans hi⟩, lt_of_some (hk'.trans hi), fun j u hu => (cell_of_heap hk' _).trans (hc j u hu)⟩
theorem Line.at {w : World} {v : Value} {l : List Cl} {q : Nat} (h : Line w v l q) : At w v l := by
  obtain ⟨A, c, e, hl, hr⟩ := h
  exact ⟨A, c, e, hl.more fun _ _ hi => hi.2, hr⟩
theorem line_of_own {w : World} {base b : Nat} {vH v : Value} {l : List Cl} (h : Own w base eC 78 v l) (hb : b < w.heap.size) (hs : ∀ g, vH.ownBlock = some g → v.ownBlock ≠ some g) (hbH : vH.ownBlock ≠ some b) : ∃ q, Line w v l q ∧ vH.ownBlock ≠ some q ∧ q < w.heap.size := by
  obtain ⟨A, c, e, hl, hr⟩ := own_lst h
  rcases hq : v.ownBlock with _ | q
  · refine ⟨b, ⟨A, c, e, fun h0 => ?_, hr⟩, hbH, hb⟩
    obtain ⟨g, _, _, ⟨_, hk⟩, _⟩ := hl h0
    rw [hq] at hk; cases hk
  · refine ⟨q, ⟨A, c, e, hl.more fun i _ hi => ?_, hr⟩, fun hh => hs q hh hq, (own_blk h hq).2.1⟩
    have : i = q := by have := hi.2; rw [hq] at this; injection this with this; exact this.symm
    subst this
    exact ⟨rfl, (own_blk h hq).2.2⟩
theorem own_ne {α β : Type} {E : Enc α} {E' : Enc β} {T T' : TypeId} {w : World} {base base' : Nat} {v v' : Value} {l : List α} {l' : List β} (h : Own w base E T v l) (h' : Own w base' E' T' v' l') (ht : T ≠ T') {g : Nat} (hg : v.ownBlock = some g) : v'.ownBlock ≠ some g := fun hg' => by
  obtain ⟨_, _, cur, h1⟩ := own_blk h hg
  obtain ⟨_, _, cur', h2⟩ := own_blk h' hg'
  rw [h1] at h2
  injection h2 with h2
  injection h2 with _ h2
  exact ht h2
theorem two_neT {α : Type} {E : Enc α} {T : TypeId} {w : World} {b base off : Nat} {zn : Zn} {vH vL v : Value} {l : List α} (h : Two w b off zn vH vL) (ho : Own w base E T v l) (ht : T = 78 ∨ T = 3 ∨ T = 53) : v.ownBlock ≠ some b := fun e => by
  obtain ⟨_, _, cur, hc⟩ := own_blk ho e
  have := h.blk.symm.trans hc
  injection this with this
  injection this with _ this
  rcases ht with ht | ht | ht
  · exact h.ty.1 (this.trans ht)
  · exact h.ty.2.1 (this.trans ht)
  · exact h.ty.2.2 (this.trans ht)
/-- a lock while somebody is dropped: holders, line, whom it was granted -/
structure DS (w2 : World) (b off : Nat) (zn : Zn) (base : Nat) (H L : List Cl) (done : List Int) (gv vH vL : Value) (q : Nat) (wr : World) : Prop where
  two : Two wr b off zn vH vL
  own : Own wr base eC 78 vH H
  line : Line wr vL L q
  ne : vH.ownBlock ≠ some q
  lt : q < wr.heap.size
  got : Own wr base eI 3 gv done
  keep : Keep (fun i _ => i ≠ b ∧ i < base) w2 wr
  bb : b < base
  sz : base ≤ wr.heap.size
section
variable {w2 : World} {b base off : Nat} {zn : Zn} {H L : List Cl} {done : List Int} {gv vH vL : Value} {q : Nat} {wr : World}
theorem DS.below (d : DS w2 b off zn base H L done gv vH vL q wr) {w' : World} (k : Below wr.heap.size wr w') : DS w2 b off zn base H L done gv vH vL q w' :=
  ⟨d.two.below k d.two.lt, own_keep d.own fun g hg => k.block g (own_blk d.own hg).2.1, d.line.kept fun _ => k.block q d.lt, d.ne, Nat.lt_of_lt_of_le d.lt k.size, own_keep d.got fun g hg => k.block g (own_blk d.got hg).2.1, d.keep.trans (Keep.of_below k), d.bb, Nat.le_trans d.sz k.size⟩
theorem DS.tail (d : DS w2 b off zn base H L done gv vH vL q wr) {v' : Value} {L' : List Cl} (h : Line wr v' L' q) : DS w2 b off zn base H L' done gv vH v' q (wr.setCell ⟨b, off + 1, none⟩ v') := by
  have far : ∀ g, g ≠ b → (wr.setCell ⟨b, off + 1, none⟩ v').heap[g]? = wr.heap[g]? := fun g hg => Below.heap_setCell wr ⟨b, off + 1, none⟩ v' g hg
  refine ⟨Two.set1 d.two _, own_keep d.own fun g hg => far g (fun e => by subst e; exact two_ne d.two d.own hg), h.kept fun hc => far q (isC_ne d.two hc), d.ne, by simpa [World.setCell] using d.lt, own_keep d.got fun g hg => far g (fun e => by subst e; exact two_neT d.two d.got (by decide) hg), d.keep.setCell (fun _ _ h => h.1 rfl) _, d.bb, by simpa [World.setCell] using d.sz⟩
theorem DS.granted (d : DS w2 b off zn base H L done gv vH vL q wr) {H' : List Cl} {w' : World} (h : Granted wr b off zn vH vL base H' w') : ∃ vH', DS w2 b off zn base H' L done gv vH' vL q w' := by
  obtain ⟨vH', t, o, hn, k⟩ := h
  refine ⟨vH', t, o, d.line.kept fun hc => ?_, fun e => ?_, Nat.lt_of_lt_of_le d.lt k.size, own_keep d.got fun g hg => ?_, d.keep.trans (k.mono fun i ob _ hi => ⟨hi.1, fun e => ?_⟩), d.bb, Nat.le_trans d.sz k.size⟩
  · obtain ⟨cur, hc⟩ := hc
    rw [hc]
    exact k.block q _ hc ⟨isC_ne d.two ⟨cur, hc⟩, d.ne⟩
  · rcases hn with hn | ⟨g, hn, hg⟩
    · rw [hn] at e; exact d.ne e
    · rw [hn] at e
      injection e with e
      have := d.lt
      omega
  · obtain ⟨_, hlt, cur, hc⟩ := own_blk d.got hg
    rw [hc]
    exact k.block g _ hc ⟨fun e => by subst e; exact two_neT d.two d.got (by decide) hg, fun e => own_ne d.own d.got (by decide) e hg⟩
  · have := (own_blk d.own e).1
    omega
theorem DS.grown (d : DS w2 b off zn base H L done gv vH vL q wr) {gv' : Value} {done' : List Int} {w' : World} (ho : Own w' base eI 3 gv' done') (hg : wr.grownBy w' gv.ownBlock) : DS w2 b off zn base H L done' gv' vH vL q w' := by
  have far : ∀ g, g < wr.heap.size → gv.ownBlock ≠ some g → w'.heap[g]? = wr.heap[g]? := fun g hlt hne => hg.block g hlt (fun e => hne e.symm)
  refine ⟨d.two.same (far b d.two.lt (two_neT d.two d.got (by decide))), own_keep d.own fun g h => far g (own_blk d.own h).2.1 (own_ne d.own d.got (by decide) h), d.line.kept fun hc => far q d.lt (fun e => ?_), d.ne, Nat.lt_of_lt_of_le d.lt hg.size, ho, d.keep.trans ⟨hg.os, hg.tape, hg.output, hg.size, fun i o hio hi => ?_⟩, d.bb, Nat.le_trans d.sz hg.size⟩
  · obtain ⟨cur, hc⟩ := hc
    obtain ⟨_, _, cur', h2⟩ := own_blk d.got e
    rw [hc] at h2
    injection h2 with h2
    injection h2 with _ h2
    cases h2
  · rw [far i (lt_of_some hio) (fun e => by have := (own_blk d.got e).1; omega)]
    exact hio
theorem DS.lock (d : DS w2 b off zn base H L done gv vH vL q wr) : Lock wr b off zn (H, L) := ⟨vH, vL, d.two, At.own d.own, d.line.at⟩
end
end Go.Proofs.YtnjhhndggfjjdaaDoor
