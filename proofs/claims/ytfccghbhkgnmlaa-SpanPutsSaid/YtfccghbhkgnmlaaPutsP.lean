/- Two disks side by side, the program's and the document's, that hold the same; the calls that SpanPuts makes. -/
import Derived.Test.YtfccghbhkgnmlaaKeepsP
import Derived.Test.YtfccghbhkgnmlaaSpanRPut
import Derived.Test.YtfccghbhkgnmlaaSpanRGet
namespace Go.Proofs.Ytfccghbhkgnmlaa
open Go.RowKit
def Two (w : World) (B gd gr : Nat) (sd sr : St) : Prop :=
  ∃ Od Or : Nat → Prop, DiskAt w gd Od sd ∧ RefAt w gr Or sr ∧ (∀ i, Od i → B ≤ i ∧ i < w.heap.size ∧ ¬ Or i) ∧ (∀ i, Or i → B ≤ i ∧ i < w.heap.size)
section
variable {w w' w0 : World} {B gd gr : Nat} {sd sr : St} {A : Option Addr} {xs : List UInt8} {c : Nat}
theorem Two.below (h : Two w B gd gr sd sr) (k : Below w.heap.size w w') : Two w' B gd gr sd sr := by
  obtain ⟨Od, Or, hd, hr, h1, h2⟩ := h
  have := k.size
  exact ⟨Od, Or, hd.below k, hr.below k, fun i hi => by have := h1 i hi; exact ⟨this.1, by omega, this.2.2⟩, fun i hi => by have := h2 i hi; exact ⟨this.1, by omega⟩⟩
theorem Two.drew (h : Two w B gd gr sd sr) : Two w.drew B gd gr sd sr := h.below (Below.refl _ _).drew
theorem Two.d (h : Two w B gd gr sd sr) : ∃ O, DiskAt w gd O sd := by obtain ⟨Od, _, hd, _⟩ := h; exact ⟨Od, hd⟩
theorem Two.r (h : Two w B gd gr sd sr) : ∃ O, RefAt w gr O sr := by obtain ⟨_, Or, _, hr, _⟩ := h; exact ⟨Or, hr⟩
theorem two_put {a : Int} {n : Nat} {s1 : St} {b : Bool} (hp : sd.put a xs = (s1, b)) (hn : xs.length = n) (h : Two w0 B gd gr sd sr) (k : Below w0.heap.size w0 w) (hB : B ≤ w0.heap.size) (hx : Has w (fun i => i < B ∨ w0.heap.size ≤ i) A xs) (hc : n ≤ c) (hl : sd.l.length ≤ 500000) (hco : sd.count ≤ 500000) (hle : sd.left ≤ 9223372036854775807) (hxl : n ≤ 262144) :
    Calls Try.prog 13 #[ptr gd, .int .i64 a, .slice A n c] w fun e w' => e = .returned (.bool b) ∧ Two w' B gd gr s1 sr ∧ Keep (fun i _ => i < B) w w' := by
  subst hn
  have hnd : need xs.length ≤ 500000 := by unfold need; omega
  obtain ⟨Od, Or, hd, hr, h1, h2⟩ := h
  have hks := k.size
  refine (put_ (hd.below k) a A c xs (hx.more fun i hi hk ho => by have := h1 i ho; omega) hc (by omega) (by omega) hle (by omega)).mono ?_
  rintro e w2 ⟨rfl, hd2, hk⟩
  rw [hp] at hd2 ⊢
  have hsz := hk.size
  have hrk : RefAt w2 gr Or sr := (hr.below k).keep hk fun i _ hi ho => (h1 i ho).2.2 hi
  refine ⟨rfl, ⟨fun i => (Od i ∨ w.heap.size ≤ i) ∧ i < w2.heap.size, Or, hd2.cut, hrk, fun i hi => ?_, fun i hi => ?_⟩, hk.mono fun i _ _ hi ho => by have := h1 i ho; omega⟩
  · rcases hi with ⟨hi | hi, hl⟩
    · exact ⟨(h1 i hi).1, hl, (h1 i hi).2.2⟩
    · exact ⟨by omega, hl, fun ho => by have := h2 i ho; omega⟩
  · have := h2 i hi
    exact ⟨this.1, by omega⟩
theorem two_rput {a : Int} {n : Nat} {s1 : St} {b : Bool} (hp : sr.put a xs = (s1, b)) (hn : xs.length = n) (h : Two w B gd gr sd sr) (hB : B ≤ w.heap.size) (hx : Has w (fun i => i < B) A xs) (hl : sr.l.length ≤ 500000) (hco : sr.count ≤ 500000) (hle : sr.left ≤ 9223372036854775807) (hxl : n ≤ 262144) :
    Calls Try.prog 14 #[ptr gr, .int .i64 a, .slice A n c] w fun e w' => e = .returned (.bool b) ∧ Two w' B gd gr sd s1 ∧ Keep (fun i _ => i < B) w w' := by
  subst hn
  have hnd : need xs.length ≤ 500000 := by unfold need; omega
  obtain ⟨Od, Or, hd, hr, h1, h2⟩ := h
  refine (rput_ hr a A c xs (hx.more fun i hi hk ho => by have := h2 i ho; omega) (by omega) (by omega) hle (by omega)).mono ?_
  rintro e w2 ⟨rfl, hr2, hk⟩
  rw [hp] at hr2 ⊢
  have hsz := hk.size
  have hdk : DiskAt w2 gd Od sd := hd.keep hk fun i _ hi => (h1 i hi).2.2
  refine ⟨rfl, ⟨Od, fun i => (Or i ∨ w.heap.size ≤ i) ∧ i < w2.heap.size, hdk, hr2.cut, fun i hi => ?_, fun i hi => ?_⟩, hk.mono fun i _ _ hi ho => by have := h2 i ho; omega⟩
  · have := h1 i hi
    refine ⟨this.1, by omega, fun ho => ?_⟩
    rcases ho with ⟨ho | ho, _⟩
    · exact this.2.2 ho
    · omega
  · rcases hi with ⟨hi | hi, hl⟩
    · exact ⟨(h2 i hi).1, hl⟩
    · exact ⟨by omega, hl⟩
theorem two_get {a n : Int} {m : Nat} {ys : List UInt8} (hg : sd.get a n = ys) (hm : ys.length = m) (h : Two w B gd gr sd sr) (hn1 : -9223372036854775808 ≤ n) (hn2 : n ≤ 9223372036854775807) :
    Calls Try.prog 18 #[ptr gd, .int .i64 a, .int .i64 n] w fun e w' => ∃ A2 c2, e = .returned (.slice A2 m c2) ∧ Has w' (fun i => w.heap.size ≤ i) A2 ys ∧ Below w.heap.size w w' := by
  subst hg hm
  obtain ⟨O, hd⟩ := h.d
  exact get_ hd a n hn1 hn2
theorem two_rget {a n : Int} {m : Nat} {ys : List UInt8} (hg : sr.get a n = ys) (hm : ys.length = m) (h : Two w B gd gr sd sr) (hl : sr.l.length ≤ 1000000) :
    Calls Try.prog 19 #[ptr gr, .int .i64 a, .int .i64 n] w fun e w' => ∃ A2 c2, e = .returned (.slice A2 m c2) ∧ Has w' (fun i => w.heap.size ≤ i) A2 ys ∧ Below w.heap.size w w' := by
  subst hg hm
  obtain ⟨O, hr⟩ := h.r
  exact rget_ hr a n hl
theorem two_read {i : Nat} {x : Sec} (hx : sd.now.getD i [] = x) (h : Two w B gd gr sd sr) (hi : i < sd.n) :
    Calls Try.prog 16 #[ptr gd, .int .i64 (i : Int)] w fun e w' => ∃ A2 c2, e = .returned (.slice A2 64 c2) ∧ x.length = 64 ∧ Has w' (fun i => w.heap.size ≤ i) A2 x ∧ Below w.heap.size w w' := by
  obtain ⟨O, hd⟩ := h.d
  exact kread rfl hx hd hi
theorem two_rread {i : Nat} {x : Sec} (hx : sr.now.getD i [] = x) (h : Two w B gd gr sd sr) (hi : i < sr.n) (hl : sr.l.length ≤ 1000000) :
    Calls Try.prog 17 #[ptr gr, .int .i64 (i : Int)] w fun e w' => ∃ A2 c2, e = .returned (.slice A2 64 c2) ∧ x.length = 64 ∧ Has w' (fun i => w.heap.size ≤ i) A2 x ∧ Below w.heap.size w w' := by
  subst hx
  obtain ⟨O, hr⟩ := h.r
  refine (rread_ hr i hi hl).mono ?_
  rintro e w2 ⟨A2, c2, rfl, hrow, _, hb, _⟩
  obtain ⟨b, c', hv, hO, _, _, hlt, hcell⟩ := hrow.slice
  injection hv with hv1 _ hv3
  subst hv1 hv3
  exact ⟨_, c2, rfl, hrow.len, fun _ => ⟨b, 0, rfl, Nat.le_of_eq hO.symm, hlt, fun j u hu => by rw [Nat.zero_add]; exact hcell j u hu⟩, hb⟩
theorem two_writes (h : Two w B gd gr sd sr) : Calls Try.prog 15 #[ptr gd] w fun e w' => e = .returned (.int .i64 (sd.count : Int)) ∧ w = w' := by
  obtain ⟨O, hd⟩ := h.d
  exact writes_ hd
theorem two_count (h : Two w B gd gr sd sr) : gr < w.heap.size ∧ w.cell? ⟨gr, 4, none⟩ = some (.int .i64 (sr.count : Int)) := by
  obtain ⟨_, _, _, _, _, hr⟩ := h.r
  exact ⟨hr.head.lt, by rw [hr.head.cell]; rfl⟩
theorem two_break (h : Two w B gd gr sd sr) (hb : sd.broken = false) (n : Int) : Calls Try.prog 9 #[ptr gd, .int .i64 n] w fun e w' => e = .returned (.tuple #[]) ∧ Two w' B gd gr (sd.brk n.toNat) sr ∧ Keep (fun i _ => i < B) w w' := by
  obtain ⟨Od, Or, hd, hr, h1, h2⟩ := h
  refine (break_ hd hb n).mono ?_
  rintro e w2 ⟨rfl, hd2, hk⟩
  have hsz := hk.size
  exact ⟨rfl, ⟨Od, Or, hd2, hr.keep hk fun i _ hi ho => (h1 i ho).2.2 hi, fun i hi => by have := h1 i hi; exact ⟨this.1, by omega, this.2.2⟩, fun i hi => by have := h2 i hi; exact ⟨this.1, by omega⟩⟩, hk.mono fun i _ _ hi ho => by have := h1 i ho; omega⟩
theorem two_rbreak (h : Two w B gd gr sd sr) (hb : sr.broken = false) (n : Int) : Calls Try.prog 10 #[ptr gr, .int .i64 n] w fun e w' => e = .returned (.tuple #[]) ∧ Two w' B gd gr sd (sr.brk (cutI n 0 1073741824).toNat) ∧ Keep (fun i _ => i < B) w w' := by
  obtain ⟨Od, Or, hd, hr, h1, h2⟩ := h
  refine (rbreak_ hr hb n).mono ?_
  rintro e w2 ⟨rfl, hr2, hk⟩
  have hsz := hk.size
  exact ⟨rfl, ⟨Od, Or, hd.keep hk fun i _ hi => (h1 i hi).2.2, hr2, fun i hi => by have := h1 i hi; exact ⟨this.1, by omega, this.2.2⟩, fun i hi => by have := h2 i hi; exact ⟨this.1, by omega⟩⟩, hk.mono fun i _ _ hi ho => by have := h2 i ho; omega⟩
end
/-- bytes appended to nothing -/
theorem fresh_any {w : World} {K : Nat → Prop} {A : Option Addr} {n c : Nat} {xs : List UInt8} (h : Has w K A xs) (hn : xs.length = n) (hl : n ≤ 1000000) (hA : A = none → c = 0) :
    ∃ A' c' W', (Builtin.append_ #[22, 22] 22 #[.slice none 0 0, .slice A n c]).run Try.prog w = .ok (.slice A' n c') W' ∧ Has W' (fun i => w.heap.size ≤ i) A' xs ∧ Below w.heap.size w W' ∧ n ≤ c' := by
  subst hn
  obtain ⟨i0, hi0, hz0, hz1, hz2⟩ := info_parts info5
  cases A with
  | none =>
    have h0 : xs = [] := by
      cases xs with
      | nil => rfl
      | cons x r => obtain ⟨b, o, e, _⟩ := h (by simp); cases e
    subst h0
    rw [hA rfl]
    exact ⟨none, 0, w, run_append_owned_none w w.heap.size 22 22 5 i0 1 Try.underlying22 hi0 _ 0 [] (World.ownsRow_nil _ _ _ _), Has.nil _ _ _, Below.refl _ _, Nat.le_refl _⟩
  | some a =>
    obtain ⟨v', W', hrun, hown, hgrow, _, _⟩ := run_append_own_at (P := Try.prog) w w.heap.size 22 22 5 i0 _ 1 1 Try.underlying22 hi0 hz0 hz1 hz2 rfl (by omega) (.slice none 0 0) 0 [] (World.ownsRow_nil _ _ _ _) a xs.length c (cellsB xs) (by rw [cellsB_length, Nat.mul_one]) (fun j u hu => by
      obtain ⟨b, o, e, _, _, hc⟩ := h (by have := (List.getElem?_eq_some_iff.1 hu).1; rw [cellsB_length] at this; omega)
      injection e with e
      subst e
      rw [Addr.add_mid]; exact hc j u hu) (cellsB_one xs) (by unfold maxLen; omega) (by omega) (Nat.le_refl _)
    rw [List.nil_append, Nat.zero_add] at hown
    obtain ⟨A', c', rfl, hc1, _⟩ := own_any hown
    refine ⟨A', c', W', hrun, fun hn => ?_, ⟨hgrow.os, hgrow.tape, hgrow.output, hgrow.size, fun i hi => hgrow.block i hi (by simp [Value.ownBlock])⟩, hc1⟩
    rcases hown.2 with ⟨_, h0⟩ | ⟨g, cap, cur, hv, hB, hg, _⟩
    · omega
    · injection hv with hv1 _ hv3
      refine ⟨g, 0, hv1, hB, lt_of_some hg, fun j u hu => ?_⟩
      have := hown.cells (g := g) (by rw [hv1]; rfl) j u hu
      rwa [Addr.add_mid] at this
/-- the two disks begin -/
theorem two_new {w1 w2 w3 : World} {B gd n : Nat} (hd : DiskAt w2 gd (fun i => w1.heap.size ≤ i) (St.new n)) (h2 : B ≤ w1.heap.size) (hr : RefAt w3 w2.heap.size (Hi w2.heap.size) (St.new n)) (hb : Below w2.heap.size w2 w3) (hw : w1.heap.size ≤ w2.heap.size) : Two w3 B gd w2.heap.size (St.new n) (St.new n) := by
  have := hb.size
  refine ⟨fun i => w1.heap.size ≤ i ∧ i < w2.heap.size, fun i => w2.heap.size ≤ i ∧ i < w3.heap.size, hd.cut.below hb, hr.cut, fun i hi => ⟨by omega, by omega, fun ho => by omega⟩, fun i hi => ⟨by omega, hi.2⟩⟩
end Go.Proofs.Ytfccghbhkgnmlaa
