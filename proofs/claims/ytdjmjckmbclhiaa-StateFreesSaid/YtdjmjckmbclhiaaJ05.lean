/- Objects in memory, many of them in a row: text ..Enc's words at them. The place of the first message of which something holds: the library's IndexFunc. Package state: is each of these rows, of these messages right (all)?. -/
import Derived.Test.YtdjmjckmbclhiaaJ03
import Derived.Test.YtdjmjckmbclhiaaJ04
import Derived.LoopTactic
import Derived.Deep.Slices
import Derived.ChangeArms
import Derived.Laws.Cover1
import Derived.Shelf.Abstract
import Derived.Test.YtdjmjckmbclhiaaJ02
set_option maxRecDepth 4000
namespace Go.Proofs.Ytdjmjckmbclhiaa
open Go.RowKit
/-- a slice -/
structure Sv where
  a : Option Addr
  n : Nat
  c : Nat
abbrev Sv.val (s : Sv) : Value := .slice s.a s.n s.c
/-- this slice holds these rows, in a block of which K says so -/
structure SlK {α : Type} (w : World) (K : Nat → Prop) (E : Enc α) (s : Sv) (l : List α) : Prop where
  len : s.n = l.length
  lst : Lst w K E s.a l
  cap : s.n ≤ s.c
  max : s.c ≤ maxLen
  nil : s.a = none → s.c = 0
section
variable {α : Type} {E : Enc α} {T : TypeId} {w w' : World} {K K' : Nat → Prop} {s : Sv} {l : List α} {base : Nat} {v : Value}
theorem SlK.sl (h : SlK w K E s l) : Sl w E s.val l := ⟨s.a, s.c, by rw [← h.len], h.lst.more fun _ _ _ => trivial, by rw [← h.len]; exact h.cap, h.max, h.nil⟩
theorem SlK.below (h : SlK w K E s l) (k : Below w.heap.size w w') : SlK w' K E s l := ⟨h.len, h.lst.below k, h.cap, h.max, h.nil⟩
theorem SlK.keep (h : SlK w K E s l) {Q : Nat → Obj → Prop} (k : Keep Q w w') (hq : ∀ i o, w.heap[i]? = some o → K i → Q i o) : SlK w' K E s l := ⟨h.len, h.lst.keep k hq, h.cap, h.max, h.nil⟩
theorem SlK.more (h : SlK w K E s l) (hk : ∀ i, i < w.heap.size → K i → K' i) : SlK w K' E s l := ⟨h.len, h.lst.more hk, h.cap, h.max, h.nil⟩
theorem SlK.none_ (w : World) (K : Nat → Prop) (E : Enc α) : SlK w K E ⟨none, 0, 0⟩ [] := ⟨rfl, Lst.nil _ _ _ _, Nat.le_refl _, by show 0 ≤ maxLen; unfold maxLen; omega, fun _ => rfl⟩
theorem Sl.k (h : Sl w E v l) : ∃ s : Sv, v = s.val ∧ SlK w (fun _ => True) E s l := by
  obtain ⟨A, c, e, h1, h2, h3, h4⟩ := h
  exact ⟨⟨A, l.length, c⟩, e, rfl, h1, h2, h3, h4⟩
theorem Own.k (h : Own w base E T v l) : ∃ s : Sv, v = s.val ∧ SlK w (fun i => base ≤ i) E s l := by
  obtain ⟨A, c, e, h1, h2, h3, h4⟩ := own_lst h
  exact ⟨⟨A, l.length, c⟩, e, rfl, h1.more fun _ _ h => h.1, h2, h3, h4⟩
end
/-- an object, and where its rows lie -/
structure Oc where
  o : Ob
  r : Sv
  m : Sv
  d : Sv
abbrev Oc.cells (x : Oc) : Array Value := #[.string x.o.name, .int .i64 x.o.kind, .int .i64 x.o.limit, .slice x.r.a x.r.n x.r.c, .slice x.m.a x.m.n x.m.c, .slice x.d.a x.d.n x.d.c]
abbrev Oc.val (x : Oc) : Value := .agg x.cells
def eO : Enc Oc := ⟨fun x => [.string x.o.name, .int .i64 x.o.kind, .int .i64 x.o.limit, .slice x.r.a x.r.n x.r.c, .slice x.m.a x.m.n x.m.c, .slice x.d.a x.d.n x.d.c], 6, by omega, fun _ => rfl, fun _ v hv => by simp at hv; rcases hv with rfl | rfl | rfl | rfl | rfl | rfl <;> rfl⟩
theorem tyO : RowTy eO 36 22 := ⟨Try.underlying22, .agg #[.string ⟨#[]⟩, .int .i64 0, .int .i64 0, .slice none 0 0, .slice none 0 0, .slice none 0 0], 104, by kernel_rfl, rfl, by omega⟩
abbrev OwnO (w : World) (base : Nat) (v : Value) (l : List Oc) : Prop := Own w base eO 36 v l
theorem Lst.atO {w : World} {K : Nat → Prop} {A : Option Addr} {l : List Oc} (h : Lst w K eO A l) {j : Nat} (hj : j < l.length) :
    ∃ b o, A = some ⟨b, o, none⟩ ∧ b < w.heap.size ∧ w.cell? ⟨b, o + j * 6, none⟩ = some (.string l[j].o.name) ∧ w.cell? ⟨b, o + j * 6 + 1, none⟩ = some (.int .i64 l[j].o.kind) ∧ w.cell? ⟨b, o + j * 6 + 2, none⟩ = some (.int .i64 l[j].o.limit) ∧
      w.cell? ⟨b, o + j * 6 + 3, none⟩ = some (.slice l[j].r.a l[j].r.n l[j].r.c) ∧ w.cell? ⟨b, o + j * 6 + 4, none⟩ = some (.slice l[j].m.a l[j].m.n l[j].m.c) ∧ w.cell? ⟨b, o + j * 6 + 5, none⟩ = some (.slice l[j].d.a l[j].d.n l[j].d.c) := by
  obtain ⟨b, o, e, hl, hc⟩ := h.at_ hj
  exact ⟨b, o, e, hl, hc 0 _ rfl, hc 1 _ rfl, hc 2 _ rfl, hc 3 _ rfl, hc 4 _ rfl, hc 5 _ rfl⟩
/-- its rows lie in blocks of which K says so -/
structure OcK (w : World) (K : Nat → Prop) (x : Oc) : Prop where
  rows : SlK w K eR x.r x.o.rows
  msgs : SlK w K eM x.m x.o.msgs
  dead : SlK w K eM x.d x.o.dead
section
variable {w w' : World} {K K' : Nat → Prop} {x : Oc}
theorem OcK.at_ (h : OcK w K x) : ObAt w x.o x.r.val x.m.val x.d.val := ⟨h.rows.sl, h.msgs.sl, h.dead.sl⟩
theorem OcK.below (h : OcK w K x) (k : Below w.heap.size w w') : OcK w' K x := ⟨h.rows.below k, h.msgs.below k, h.dead.below k⟩
theorem OcK.keep (h : OcK w K x) {Q : Nat → Obj → Prop} (k : Keep Q w w') (hq : ∀ i o, w.heap[i]? = some o → K i → Q i o) : OcK w' K x := ⟨h.rows.keep k hq, h.msgs.keep k hq, h.dead.keep k hq⟩
theorem OcK.more (h : OcK w K x) (hk : ∀ i, i < w.heap.size → K i → K' i) : OcK w K' x := ⟨h.rows.more hk, h.msgs.more hk, h.dead.more hk⟩
end
/-- the objects lie so -/
structure ObsAt (w : World) (K : Nat → Prop) (s : Sv) (xs : List Oc) : Prop where
  row : SlK w K eO s xs
  all : ∀ x ∈ xs, OcK w K x
theorem ObsAt.below {w w' : World} {K : Nat → Prop} {s : Sv} {xs : List Oc} (h : ObsAt w K s xs) (k : Below w.heap.size w w') : ObsAt w' K s xs := ⟨h.row.below k, fun x hx => (h.all x hx).below k⟩
abbrev obsOf (xs : List Oc) : List Ob := xs.map (·.o)
/-- a function value that answers p of each of these objects, and turns nothing that was there -/
def PredO (g : Nat) (lb : Array Value) (p : Oc → Bool) (l : List Oc) (w : World) : Prop :=
  ∀ (W : World) (x : Oc), x ∈ l → Below w.heap.size w W → Calls Try.prog g (#[x.val] ++ lb) W fun e w' => e = .returned (.bool (p x)) ∧ Below w.heap.size w w'
def SeesO (w : World) (p : Oc → Bool) (l : List Oc) (k : Nat) (i : Value) (wr : World) : Prop := ∃ j, j + k = l.length ∧ i = .int .i64 (j : Int) ∧ (∀ q (hq : q < j) (hl : q < l.length), p l[q] = false) ∧ Below w.heap.size w wr
set_option maxHeartbeats 1000000 in
theorem index_o {w : World} {K : Nat → Prop} {A : Option Addr} {n c : Nat} {l : List Oc} (h : Lst w K eO A l) (hl : l.length = n) (hn : n ≤ 1000000) {p : Oc → Bool} {g : Nat} {lb : Array Value}
    (eg : ∀ args w, (callFunc g args).run Try.prog w = .ok (.enter g args) w) (hp : PredO g lb p l w) :
    Calls Try.prog 28 #[.slice A n c, .func (.func g) #[] lb] w fun e w' => e = .returned (.int .i64 (idxI p l)) ∧ Below w.heap.size w w' := by
  have H := Lib.hid h
  have HL := Lib.hid hl
  have HP := Lib.hid hp
  clear h hl hp
  go_enter Try.func28, Try.ntmps28
  go_wp2
  go_loopg [5, 8] n (fun m _ i wr => SeesO w p l m i wr)
  case atStart => exact ⟨0, by rw [HL.out]; omega, rfl, fun q hq => absurd hq (Nat.not_lt_zero q), Below.refl _ _⟩
  case round =>
    obtain ⟨j, hj, rfl, h1, hb⟩ := hrel
    have HJ := Lib.hid hj
    have H1 := Lib.hid h1
    have HB := Lib.hid hb
    clear hj h1 hb
    by_cases hlt : j < n
    · have hx : j < l.length := by rw [HL.out]; exact hlt
      obtain ⟨b, o, rfl, hb, c0, c1, c2, c3, c4, c5⟩ := (H.out.below HB.out).atO hx
      have hcall := HP.out wr l[j] (List.getElem_mem hx) HB.out
      have e1 : idxI p l = (j : Int) ∨ p l[j] = false := by
        cases hpj : p l[j]
        · exact .inr rfl
        · exact .inl (idx_hit hx hpj fun q hq => H1.out q hq (by omega))
      have e2 : p l[j] = false → ∀ q (hq : q < j + 1) (hl : q < l.length), p l[q] = false := fun h q hq hl => by
        rcases Nat.lt_or_ge q j with h5 | h5
        · exact H1.out q h5 hl
        · obtain rfl : q = j := by omega
          exact h
      have E2 := Lib.hid e2
      have E1 := Lib.hid e1
      clear e1 e2 hb
      obtain ⟨x, hxx⟩ : ∃ x, l[j] = x := ⟨_, rfl⟩
      rw [hxx] at c0 c1 c2 c3 c4 c5 hcall E1 E2
      clear hxx
      generalize hpb : p x = pb at *
      clear hpb
      obtain ⟨⟨x0, x1, x2, x3, x4, x5⟩, ⟨ra, rn, rc⟩, ⟨ma, mn, mc⟩, ⟨da, dn, dc⟩⟩ := x
      simp only [Oc.val, Oc.cells] at hcall c0 c1 c2 c3 c4 c5
      cases pb
      · go_wp2_with (go_at_fn g; refine hcall.mono ?_; rintro e w' ⟨rfl, hb'⟩)
        go_roundg (n - (j + 1))
        case measure => have := HJ.out; have := HL.out; omega
        case rel => exact ⟨j + 1, by have := HL.out; omega, by go_num, E2.out (by simp), hb'⟩
      · go_wp2_with (go_at_fn g; refine hcall.mono ?_; rintro e w' ⟨rfl, hb'⟩)
        go_ret
        refine ⟨?_, hb'⟩
        rcases E1.out with h | h
        · rw [h]; rfl
        · cases h
    · have he : j = l.length := by have := HJ.out; have := HL.out; omega
      have e1 : idxI p l = -1 := idx_miss fun q hq => H1.out q (by omega) hq
      have E1 := Lib.hid e1
      clear e1 he
      go_wp2
      go_ret
      exact ⟨by rw [E1.out]; rfl, HB.out⟩
end Go.Proofs.Ytdjmjckmbclhiaa
namespace Go.Proofs.Ytdjmjckmbclhiaa
open Go.RowKit
/-- a function value that answers p of each of these, and turns nothing that was there -/
def PredM (g : Nat) (lb : Array Value) (p : Mg → Bool) (l : List Mg) (w : World) : Prop :=
  ∀ (W : World) (x : Mg), x ∈ l → Below w.heap.size w W → Calls Try.prog g (#[x.val] ++ lb) W fun e w' => e = .returned (.bool (p x)) ∧ Below w.heap.size w w'
def SeesM (w : World) (p : Mg → Bool) (l : List Mg) (k : Nat) (i : Value) (wr : World) : Prop := ∃ j, j + k = l.length ∧ i = .int .i64 (j : Int) ∧ (∀ q (hq : q < j) (hl : q < l.length), p l[q] = false) ∧ Below w.heap.size w wr
set_option maxHeartbeats 1000000 in
theorem index_m {w : World} {K : Nat → Prop} {A : Option Addr} {n c : Nat} {l : List Mg} (h : Lst w K eM A l) (hl : l.length = n) (hn : n ≤ 1000000) {p : Mg → Bool} {g : Nat} {lb : Array Value}
    (eg : ∀ args w, (callFunc g args).run Try.prog w = .ok (.enter g args) w) (hp : PredM g lb p l w) :
    Calls Try.prog 81 #[.slice A n c, .func (.func g) #[] lb] w fun e w' => e = .returned (.int .i64 (idxI p l)) ∧ Below w.heap.size w w' := by
  have H := Lib.hid h
  have HL := Lib.hid hl
  have HP := Lib.hid hp
  clear h hl hp
  go_enter Try.func81, Try.ntmps81
  go_wp2
  go_loopg [5, 8] n (fun m _ i wr => SeesM w p l m i wr)
  case atStart => exact ⟨0, by rw [HL.out]; omega, rfl, fun q hq => absurd hq (Nat.not_lt_zero q), Below.refl _ _⟩
  case round =>
    obtain ⟨j, hj, rfl, h1, hb⟩ := hrel
    have HJ := Lib.hid hj
    have H1 := Lib.hid h1
    have HB := Lib.hid hb
    clear hj h1 hb
    by_cases hlt : j < n
    · have hx : j < l.length := by rw [HL.out]; exact hlt
      obtain ⟨b, o, rfl, hb, c0, c1, c2, c3, c4, c5⟩ := (H.out.below HB.out).atM hx
      have hcall := HP.out wr l[j] (List.getElem_mem hx) HB.out
      have e1 : idxI p l = (j : Int) ∨ p l[j] = false := by
        cases hpj : p l[j]
        · exact .inr rfl
        · exact .inl (idx_hit hx hpj fun q hq => H1.out q hq (by omega))
      have e2 : p l[j] = false → ∀ q (hq : q < j + 1) (hl : q < l.length), p l[q] = false := fun h q hq hl => by
        rcases Nat.lt_or_ge q j with h5 | h5
        · exact H1.out q h5 hl
        · obtain rfl : q = j := by omega
          exact h
      have E2 := Lib.hid e2
      have E1 := Lib.hid e1
      clear e1 e2 hb
      obtain ⟨x, hxx⟩ : ∃ x, l[j] = x := ⟨_, rfl⟩
      rw [hxx] at c0 c1 c2 c3 c4 c5 hcall E1 E2
      clear hxx
      generalize hpb : p x = pb at *
      clear hpb
      obtain ⟨x0, x1, x2, x3, x4, x5⟩ := x
      simp only [Mg.val, Mg.cells] at hcall c0 c1 c2 c3 c4 c5
      cases pb
      · go_wp2_with (go_at_fn g; refine hcall.mono ?_; rintro e w' ⟨rfl, hb'⟩)
        go_roundg (n - (j + 1))
        case measure => have := HJ.out; have := HL.out; omega
        case rel => exact ⟨j + 1, by have := HL.out; omega, by go_num, E2.out (by simp), hb'⟩
      · go_wp2_with (go_at_fn g; refine hcall.mono ?_; rintro e w' ⟨rfl, hb'⟩)
        go_ret
        refine ⟨?_, hb'⟩
        rcases E1.out with h | h
        · rw [h]; rfl
        · cases h
    · have he : j = l.length := by have := HJ.out; have := HL.out; omega
      have e1 : idxI p l = -1 := idx_miss fun q hq => H1.out q (by omega) hq
      have E1 := Lib.hid e1
      clear e1 he
      go_wp2
      go_ret
      exact ⟨by rw [E1.out]; rfl, HB.out⟩
end Go.Proofs.Ytdjmjckmbclhiaa
namespace Go.Proofs.Ytdjmjckmbclhiaa
open Go.RowKit
/-- a function value that answers p of each of these rows, and turns nothing that was there -/
def PredR (g : Nat) (lb : Array Value) (p : Rw → Bool) (l : List Rw) (w : World) : Prop :=
  ∀ (W : World) (x : Rw), x ∈ l → Below w.heap.size w W → Calls Try.prog g (#[(.agg #[.string x.1, .string x.2])] ++ lb) W fun e w' => e = .returned (.bool (p x)) ∧ Below w.heap.size w w'
def SeesR (w : World) (p : Rw → Bool) (l : List Rw) (k : Nat) (i : Value) (wr : World) : Prop := ∃ j, j + k = l.length ∧ i = .int .i64 (j : Int) ∧ (∀ q (hq : q < j) (hl : q < l.length), p l[q] = false) ∧ Below w.heap.size w wr
set_option maxHeartbeats 1000000 in
theorem index_r {w : World} {K : Nat → Prop} {A : Option Addr} {n c : Nat} {l : List Rw} (h : Lst w K eR A l) (hl : l.length = n) (hn : n ≤ 1000000) {p : Rw → Bool} {g : Nat} {lb : Array Value}
    (eg : ∀ args w, (callFunc g args).run Try.prog w = .ok (.enter g args) w) (hp : PredR g lb p l w) :
    Calls Try.prog 79 #[.slice A n c, .func (.func g) #[] lb] w fun e w' => e = .returned (.int .i64 (idxI p l)) ∧ Below w.heap.size w w' := by
  have H := Lib.hid h
  have HL := Lib.hid hl
  have HP := Lib.hid hp
  clear h hl hp
  go_enter Try.func79, Try.ntmps79
  go_wp2
  go_loopg [5, 8] n (fun m _ i wr => SeesR w p l m i wr)
  case atStart => exact ⟨0, by rw [HL.out]; omega, rfl, fun q hq => absurd hq (Nat.not_lt_zero q), Below.refl _ _⟩
  case round =>
    obtain ⟨j, hj, rfl, h1, hb⟩ := hrel
    have HJ := Lib.hid hj
    have H1 := Lib.hid h1
    have HB := Lib.hid hb
    clear hj h1 hb
    by_cases hlt : j < n
    · have hx : j < l.length := by rw [HL.out]; exact hlt
      obtain ⟨b, o, rfl, hb, c0, c1⟩ := (H.out.below HB.out).atR hx
      have hcall := HP.out wr l[j] (List.getElem_mem hx) HB.out
      have e1 : idxI p l = (j : Int) ∨ p l[j] = false := by
        cases hpj : p l[j]
        · exact .inr rfl
        · exact .inl (idx_hit hx hpj fun q hq => H1.out q hq (by omega))
      have e2 : p l[j] = false → ∀ q (hq : q < j + 1) (hl : q < l.length), p l[q] = false := fun h q hq hl => by
        rcases Nat.lt_or_ge q j with h5 | h5
        · exact H1.out q h5 hl
        · obtain rfl : q = j := by omega
          exact h
      have E2 := Lib.hid e2
      have E1 := Lib.hid e1
      clear e1 e2 hb
      obtain ⟨x, hxx⟩ : ∃ x, l[j] = x := ⟨_, rfl⟩
      rw [hxx] at c0 c1 hcall E1 E2
      clear hxx
      generalize hpb : p x = pb at *
      clear hpb
      obtain ⟨x0, x1⟩ := x
      simp only at hcall c0 c1
      cases pb
      · go_wp2_with (go_at_fn g; refine hcall.mono ?_; rintro e w' ⟨rfl, hb'⟩)
        go_roundg (n - (j + 1))
        case measure => have := HJ.out; have := HL.out; omega
        case rel => exact ⟨j + 1, by have := HL.out; omega, by go_num, E2.out (by simp), hb'⟩
      · go_wp2_with (go_at_fn g; refine hcall.mono ?_; rintro e w' ⟨rfl, hb'⟩)
        go_ret
        refine ⟨?_, hb'⟩
        rcases E1.out with h | h
        · rw [h]; rfl
        · cases h
    · have he : j = l.length := by have := HJ.out; have := HL.out; omega
      have e1 : idxI p l = -1 := idx_miss fun q hq => H1.out q (by omega) hq
      have E1 := Lib.hid e1
      clear e1 he
      go_wp2
      go_ret
      exact ⟨by rw [E1.out]; rfl, HB.out⟩
theorem contains_r {w : World} {K : Nat → Prop} {A : Option Addr} {n c : Nat} {l : List Rw} (h : Lst w K eR A l) (hl : l.length = n) (hn : n ≤ 1000000) {p : Rw → Bool} {g : Nat} {lb : Array Value}
    (eg : ∀ args w, (callFunc g args).run Try.prog w = .ok (.enter g args) w) (hp : PredR g lb p l w) :
    Calls Try.prog 61 #[.slice A n c, .func (.func g) #[] lb] w fun e w' => e = .returned (.bool (l.any p)) ∧ Below w.heap.size w w' := by
  have hi := index_r (c := c) h hl hn eg hp
  have hz := idx_nonneg p l
  generalize idxI p l = z at *
  generalize l.any p = y at *
  subst hz
  have HI := Lib.hid hi
  clear hi h hl hp eg
  go_enter Try.func61, Try.ntmps61
  go_wp2_with (go_at_call 79; refine HI.out.mono ?_; rintro e w' ⟨rfl, hb'⟩)
  go_ret
  exact ⟨rfl, hb'⟩
theorem pred_all_r {r : Rw → Bool} {gf : Nat} (eg : ∀ args w, (callFunc gf args).run Try.prog w = .ok (.enter gf args) w) (hr : ∀ (W : World) (x : Rw), Calls Try.prog gf #[(.agg #[.string x.1, .string x.2])] W fun e w' => e = .returned (.bool (r x)) ∧ Below W.heap.size W w')
    (B : Nat) (w : World) (hB : B < w.heap.size) (hc : w.cell? ⟨B, 0, none⟩ = some (.func (.func gf) #[] #[])) (l : List Rw) : PredR 62 #[.pointer (some ⟨B, 0, none⟩)] (fun x => !r x) l w := fun W x _ hb => by
  have hc' : W.cell? ⟨B, 0, none⟩ = some (.func (.func gf) #[] #[]) := (hb.cell (p := ⟨B, 0, none⟩) hB).trans hc
  have hBW : B < W.heap.size := Nat.lt_of_lt_of_le hB hb.size
  have hne : B ≠ W.heap.size := by omega
  have hcall := fun W => hr W x
  obtain ⟨y, hy⟩ : ∃ y, r x = y := ⟨_, rfl⟩
  rw [hy] at hcall
  have HY := Lib.hid hy
  clear hy
  obtain ⟨x0, x1⟩ := x
  have hal := alloc_below W (.cells #[.string x0, .string x1] 43)
  have hnew := hb.trans (hal.mono hb.size)
  have HN := Lib.hid hnew
  have HC := Lib.hid hcall
  clear hc hb hnew hcall hr hal
  show Calls Try.prog 62 #[.agg #[.string x0, .string x1], .pointer (some ⟨B, 0, none⟩)] W _
  go_enter Try.func62, Try.ntmps62
  go_wp2_with (go_at_fn gf; refine (HC.out _).mono ?_; rintro e w' ⟨rfl, hb'⟩)
  go_ret
  refine ⟨?_, HN.out.trans (hb'.mono HN.out.size)⟩
  show _ = Ending.returned (.bool (!r _))
  rw [HY.out]
  rfl
theorem enters_all_r : ∀ args w, (callFunc 62 args).run Try.prog w = .ok (.enter 62 args) w := enters_of Try.func62 (by kernel_rfl) rfl
theorem all_r {w : World} {K : Nat → Prop} {A : Option Addr} {n c : Nat} {l : List Rw} (h : Lst w K eR A l) (hl : l.length = n) (hn : n ≤ 1000000) {r : Rw → Bool} {gf : Nat} (eg : ∀ args w, (callFunc gf args).run Try.prog w = .ok (.enter gf args) w)
    (hr : ∀ (W : World) (x : Rw), Calls Try.prog gf #[(.agg #[.string x.1, .string x.2])] W fun e w' => e = .returned (.bool (r x)) ∧ Below W.heap.size W w') :
    Calls Try.prog 45 #[.slice A n c, .func (.func gf) #[] #[]] w fun e w' => e = .returned (.bool (l.all r)) ∧ Below w.heap.size w w' := by
  have k1 := alloc_below w (.cells #[.func (.func gf) #[] #[]] 58)
  have hi := contains_r (c := c) (h.below k1) hl hn enters_all_r (pred_all_r eg hr w.heap.size _ (by simp) (by simp) l)
  have e : (l.any fun x => !r x) = !l.all r := by rw [List.not_all_eq_any_not]
  rw [e] at hi
  generalize l.all r = y at *
  have HI := Lib.hid hi
  have HK := Lib.hid k1
  clear hi h hl e k1 eg hr
  go_enter Try.func45, Try.ntmps45
  go_wp2_with (go_at_call 61; refine HI.out.mono ?_; rintro e w' ⟨rfl, hb'⟩)
  go_ret
  exact ⟨by simp, HK.out.trans (hb'.mono HK.out.size)⟩
theorem contains_m {w : World} {K : Nat → Prop} {A : Option Addr} {n c : Nat} {l : List Mg} (h : Lst w K eM A l) (hl : l.length = n) (hn : n ≤ 1000000) {p : Mg → Bool} {g : Nat} {lb : Array Value}
    (eg : ∀ args w, (callFunc g args).run Try.prog w = .ok (.enter g args) w) (hp : PredM g lb p l w) :
    Calls Try.prog 64 #[.slice A n c, .func (.func g) #[] lb] w fun e w' => e = .returned (.bool (l.any p)) ∧ Below w.heap.size w w' := by
  have hi := index_m (c := c) h hl hn eg hp
  have hz := idx_nonneg p l
  generalize idxI p l = z at *
  generalize l.any p = y at *
  subst hz
  have HI := Lib.hid hi
  clear hi h hl hp eg
  go_enter Try.func64, Try.ntmps64
  go_wp2_with (go_at_call 81; refine HI.out.mono ?_; rintro e w' ⟨rfl, hb'⟩)
  go_ret
  exact ⟨rfl, hb'⟩
theorem pred_all_m {r : Mg → Bool} {gf : Nat} (eg : ∀ args w, (callFunc gf args).run Try.prog w = .ok (.enter gf args) w) (hr : ∀ (W : World) (x : Mg), Calls Try.prog gf #[x.val] W fun e w' => e = .returned (.bool (r x)) ∧ Below W.heap.size W w')
    (B : Nat) (w : World) (hB : B < w.heap.size) (hc : w.cell? ⟨B, 0, none⟩ = some (.func (.func gf) #[] #[])) (l : List Mg) : PredM 65 #[.pointer (some ⟨B, 0, none⟩)] (fun x => !r x) l w := fun W x _ hb => by
  have hc' : W.cell? ⟨B, 0, none⟩ = some (.func (.func gf) #[] #[]) := (hb.cell (p := ⟨B, 0, none⟩) hB).trans hc
  have hBW : B < W.heap.size := Nat.lt_of_lt_of_le hB hb.size
  have hne : B ≠ W.heap.size := by omega
  have hcall := fun W => hr W x
  obtain ⟨y, hy⟩ : ∃ y, r x = y := ⟨_, rfl⟩
  rw [hy] at hcall
  have HY := Lib.hid hy
  clear hy
  obtain ⟨x0, x1, x2, x3, x4, x5⟩ := x
  have hal := alloc_below W (.cells #[.int .i64 x0, .int .i64 x1, .int .i64 x2, .bool x3, .string x4, .string x5] 38)
  have hnew := hb.trans (hal.mono hb.size)
  have HN := Lib.hid hnew
  have HC := Lib.hid hcall
  clear hc hb hnew hcall hr hal
  show Calls Try.prog 65 #[.agg #[.int .i64 x0, .int .i64 x1, .int .i64 x2, .bool x3, .string x4, .string x5], .pointer (some ⟨B, 0, none⟩)] W _
  go_enter Try.func65, Try.ntmps65
  go_wp2_with (go_at_fn gf; refine (HC.out _).mono ?_; rintro e w' ⟨rfl, hb'⟩)
  go_ret
  refine ⟨?_, HN.out.trans (hb'.mono HN.out.size)⟩
  show _ = Ending.returned (.bool (!r _))
  rw [HY.out]
  rfl
theorem enters_all_m : ∀ args w, (callFunc 65 args).run Try.prog w = .ok (.enter 65 args) w := enters_of Try.func65 (by kernel_rfl) rfl
theorem all_m {w : World} {K : Nat → Prop} {A : Option Addr} {n c : Nat} {l : List Mg} (h : Lst w K eM A l) (hl : l.length = n) (hn : n ≤ 1000000) {r : Mg → Bool} {gf : Nat} (eg : ∀ args w, (callFunc gf args).run Try.prog w = .ok (.enter gf args) w)
    (hr : ∀ (W : World) (x : Mg), Calls Try.prog gf #[x.val] W fun e w' => e = .returned (.bool (r x)) ∧ Below W.heap.size W w') :
    Calls Try.prog 48 #[.slice A n c, .func (.func gf) #[] #[]] w fun e w' => e = .returned (.bool (l.all r)) ∧ Below w.heap.size w w' := by
  have k1 := alloc_below w (.cells #[.func (.func gf) #[] #[]] 67)
  have hi := contains_m (c := c) (h.below k1) hl hn enters_all_m (pred_all_m eg hr w.heap.size _ (by simp) (by simp) l)
  have e : (l.any fun x => !r x) = !l.all r := by rw [List.not_all_eq_any_not]
  rw [e] at hi
  generalize l.all r = y at *
  have HI := Lib.hid hi
  have HK := Lib.hid k1
  clear hi h hl e k1 eg hr
  go_enter Try.func48, Try.ntmps48
  go_wp2_with (go_at_call 64; refine HI.out.mono ?_; rintro e w' ⟨rfl, hb'⟩)
  go_ret
  exact ⟨by simp, HK.out.trans (hb'.mono HK.out.size)⟩
end Go.Proofs.Ytdjmjckmbclhiaa
