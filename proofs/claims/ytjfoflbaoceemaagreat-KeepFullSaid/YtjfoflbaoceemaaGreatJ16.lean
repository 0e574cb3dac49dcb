/- . . . . . . . . . -/
import Derived.Test.YtjfoflbaoceemaaGreatJ15
import Derived.LoopTactic
import Derived.Deep.Slices
import Derived.ChangeArms
import Derived.Laws.Cover1
import Derived.Shelf.Abstract
import Derived.Test.YtjfoflbaoceemaaGreatJ14
import Derived.Test.YtjfoflbaoceemaaGreatProg
import Derived.Test.YtjfoflbaoceemaaGreatJ01
import Derived.WalkKit
import Derived.ProofKit
import Derived.Lib.Hide
import Derived.WalkSpells
import Derived.Maps.AppendAt
import Derived.BigQuiet
import Derived.Deep.QuietTactic
import Derived.RegionTactic
import Derived.Deep.LoopGhost
set_option maxRecDepth 4000
namespace Go.Proofs.YtjfoflbaoceemaaGreat
open Go.RowKit
structure Sv where
  a : Option Addr
  n : Nat
  c : Nat
abbrev Sv.val (s : Sv) : Value := .slice s.a s.n s.c
structure SlK {α : Type} (w : World) (K : Nat → Prop) (E : Enc α) (s : Sv) (l : List α) : Prop where
  len : s.n = l.length
  lst : Lst w K E s.a l
  cap : s.n ≤ s.c
  max : s.c ≤ maxLen
  nil : s.a = none → s.c = 0
section
variable {α : Type} {E : Enc α} {T : TypeId} {w w' : World} {K K' : Nat → Prop} {s : Sv} {l : List α} {base : Nat} {v : Value}
theorem SlK.sl (h : SlK w K E s l) : Sl w E s.val l := ⟨s.a, s.c, by rw [← h.len], h.lst.more fun _ _ _ => trivial, by rw [← h.len]; exact h.cap, h.max, h.nil⟩
theorem SlK.below (h : SlK w K E s l) (k : Below w.heap.size w w') : SlK w' K E s l := ⟨h.len, h.lst.below k, h.cap, h.max, h.nil⟩
theorem SlK.keep (h : SlK w K E s l) {Q : Nat → Obj → Prop} (k : Keep Q w w') (hq : ∀ i o, w.heap[i]? = some o → K i → Q i o) : SlK w' K E s l := ⟨h.len, h.lst.keep k hq, h.cap, h.max, h.nil⟩
theorem SlK.more (h : SlK w K E s l) (hk : ∀ i, i < w.heap.size → K i → K' i) : SlK w K' E s l := ⟨h.len, h.lst.more hk, h.cap, h.max, h.nil⟩
theorem SlK.none_ (w : World) (K : Nat → Prop) (E : Enc α) : SlK w K E ⟨none, 0, 0⟩ [] := ⟨rfl, Lst.nil _ _ _ _, Nat.le_refl _, by show 0 ≤ maxLen; unfold maxLen; omega, fun _ => rfl⟩
theorem Own.k (h : Own w base E T v l) : ∃ s : Sv, v = s.val ∧ SlK w (fun i => base ≤ i) E s l := by
  obtain ⟨A, c, e, h1, h2, h3, h4⟩ := own_lst h
  exact ⟨⟨A, l.length, c⟩, e, rfl, h1.more fun _ _ h => h.1, h2, h3, h4⟩
end
structure Oc where
  o : Ob
  r : Sv
  m : Sv
  d : Sv
abbrev Oc.cells (x : Oc) : Array Value := #[.string x.o.name, .int .i64 x.o.kind, .int .i64 x.o.limit, .slice x.r.a x.r.n x.r.c, .slice x.m.a x.m.n x.m.c, .slice x.d.a x.d.n x.d.c]
abbrev Oc.val (x : Oc) : Value := .agg x.cells
def eO : Enc Oc := ⟨fun x => [.string x.o.name, .int .i64 x.o.kind, .int .i64 x.o.limit, .slice x.r.a x.r.n x.r.c, .slice x.m.a x.m.n x.m.c, .slice x.d.a x.d.n x.d.c], 6, by omega, fun _ => rfl, fun _ v hv => by simp at hv; rcases hv with rfl | rfl | rfl | rfl | rfl | rfl <;> rfl⟩
theorem tyO : RowTy eO 77 52 := ⟨Tryz.underlying52, .agg #[.string ⟨#[]⟩, .int .i64 0, .int .i64 0, .slice none 0 0, .slice none 0 0, .slice none 0 0], 104, by kernel_rfl, rfl, by omega⟩
abbrev OwnO (w : World) (base : Nat) (v : Value) (l : List Oc) : Prop := Own w base eO 77 v l
theorem Lst.atO {w : World} {K : Nat → Prop} {A : Option Addr} {l : List Oc} (h : Lst w K eO A l) {j : Nat} (hj : j < l.length) :
    ∃ b o, A = some ⟨b, o, none⟩ ∧ b < w.heap.size ∧ w.cell? ⟨b, o + j * 6, none⟩ = some (.string l[j].o.name) ∧ w.cell? ⟨b, o + j * 6 + 1, none⟩ = some (.int .i64 l[j].o.kind) ∧ w.cell? ⟨b, o + j * 6 + 2, none⟩ = some (.int .i64 l[j].o.limit) ∧
      w.cell? ⟨b, o + j * 6 + 3, none⟩ = some (.slice l[j].r.a l[j].r.n l[j].r.c) ∧ w.cell? ⟨b, o + j * 6 + 4, none⟩ = some (.slice l[j].m.a l[j].m.n l[j].m.c) ∧ w.cell? ⟨b, o + j * 6 + 5, none⟩ = some (.slice l[j].d.a l[j].d.n l[j].d.c) := by
  obtain ⟨b, o, e, hl, hc⟩ := h.at_ hj
  exact ⟨b, o, e, hl, hc 0 _ rfl, hc 1 _ rfl, hc 2 _ rfl, hc 3 _ rfl, hc 4 _ rfl, hc 5 _ rfl⟩
structure OcK (w : World) (K : Nat → Prop) (x : Oc) : Prop where
  rows : SlK w K eR x.r x.o.rows
  msgs : SlK w K eM x.m x.o.msgs
  dead : SlK w K eM x.d x.o.dead
section
variable {w w' : World} {K K' : Nat → Prop} {x : Oc}
theorem OcK.at_ (h : OcK w K x) : ObAt w x.o x.r.val x.m.val x.d.val := ⟨h.rows.sl, h.msgs.sl, h.dead.sl⟩
theorem OcK.below (h : OcK w K x) (k : Below w.heap.size w w') : OcK w' K x := ⟨h.rows.below k, h.msgs.below k, h.dead.below k⟩
theorem OcK.keep (h : OcK w K x) {Q : Nat → Obj → Prop} (k : Keep Q w w') (hq : ∀ i o, w.heap[i]? = some o → K i → Q i o) : OcK w' K x := ⟨h.rows.keep k hq, h.msgs.keep k hq, h.dead.keep k hq⟩
theorem OcK.more (h : OcK w K x) (hk : ∀ i, i < w.heap.size → K i → K' i) : OcK w K' x := ⟨h.rows.more hk, h.msgs.more hk, h.dead.more hk⟩
end
structure ObsAt (w : World) (K : Nat → Prop) (s : Sv) (xs : List Oc) : Prop where
  row : SlK w K eO s xs
  all : ∀ x ∈ xs, OcK w K x
theorem ObsAt.below {w w' : World} {K : Nat → Prop} {s : Sv} {xs : List Oc} (h : ObsAt w K s xs) (k : Below w.heap.size w w') : ObsAt w' K s xs := ⟨h.row.below k, fun x hx => (h.all x hx).below k⟩
abbrev obsOf (xs : List Oc) : List Ob := xs.map (·.o)
end Go.Proofs.YtjfoflbaoceemaaGreat
namespace Go.Proofs.YtjfoflbaoceemaaGreat
open Go.RowKit
def PredM (g : Nat) (lb : Array Value) (p : Mg → Bool) (l : List Mg) (w : World) : Prop :=
  ∀ (W : World) (x : Mg), x ∈ l → Below w.heap.size w W → Calls Tryz.prog g (#[x.val] ++ lb) W fun e w' => e = .returned (.bool (p x)) ∧ Below w.heap.size w w'
def SeesM (w : World) (p : Mg → Bool) (l : List Mg) (k : Nat) (i : Value) (wr : World) : Prop := ∃ j, j + k = l.length ∧ i = .int .i64 (j : Int) ∧ (∀ q (hq : q < j) (hl : q < l.length), p l[q] = false) ∧ Below w.heap.size w wr
set_option maxHeartbeats 1000000 in
theorem index_m {w : World} {K : Nat → Prop} {A : Option Addr} {n c : Nat} {l : List Mg} (h : Lst w K eM A l) (hl : l.length = n) (hn : n ≤ 1000000) {p : Mg → Bool} {g : Nat} {lb : Array Value}
    (eg : ∀ args w, (callFunc g args).run Tryz.prog w = .ok (.enter g args) w) (hp : PredM g lb p l w) :
    Calls Tryz.prog 233 #[.slice A n c, .func (.func g) #[] lb] w fun e w' => e = .returned (.int .i64 (idxI p l)) ∧ Below w.heap.size w w' := by
  have H := Lib.hid h
  have HL := Lib.hid hl
  have HP := Lib.hid hp
  clear h hl hp
  go_enter Tryz.func233, Tryz.ntmps233
  go_wp2
  go_loopg [5, 8] n (fun m _ i wr => SeesM w p l m i wr)
  case atStart => exact ⟨0, by rw [HL.out]; omega, rfl, fun q hq => absurd hq (Nat.not_lt_zero q), Below.refl _ _⟩
  case round =>
    obtain ⟨j, hj, rfl, h1, hb⟩ := hrel
    have HJ := Lib.hid hj
    have H1 := Lib.hid h1
    have HB := Lib.hid hb
    clear hj h1 hb
    by_cases hlt : j < n
    · have hx : j < l.length := by rw [HL.out]; exact hlt
      obtain ⟨b, o, rfl, hb, c0, c1, c2, c3, c4, c5⟩ := (H.out.below HB.out).atM hx
      have hcall := HP.out wr l[j] (List.getElem_mem hx) HB.out
      have e1 : idxI p l = (j : Int) ∨ p l[j] = false := by
        cases hpj : p l[j]
        · exact .inr rfl
        · exact .inl (idx_hit hx hpj fun q hq => H1.out q hq (by omega))
      have e2 : p l[j] = false → ∀ q (hq : q < j + 1) (hl : q < l.length), p l[q] = false := fun h q hq hl => by
        rcases Nat.lt_or_ge q j with h5 | h5
        · exact H1.out q h5 hl
        · obtain rfl : q = j := by omega
          exact h
      have E2 := Lib.hid e2
      have E1 := Lib.hid e1
      clear e1 e2 hb
      obtain ⟨x, hxx⟩ : ∃ x, l[j] = x := ⟨_, rfl⟩
      rw [hxx] at c0 c1 c2 c3 c4 c5 hcall E1 E2
      clear hxx
      generalize hpb : p x = pb at *
      clear hpb
      obtain ⟨x0, x1, x2, x3, x4, x5⟩ := x
      simp only [Mg.val, Mg.cells] at hcall c0 c1 c2 c3 c4 c5
      cases pb
      · go_wp2_with (go_at_fn g; refine hcall.mono ?_; rintro e w' ⟨rfl, hb'⟩)
        go_roundg (n - (j + 1))
        case measure => have := HJ.out; have := HL.out; omega
        case rel => exact ⟨j + 1, by have := HL.out; omega, by go_num, E2.out (by simp), hb'⟩
      · go_wp2_with (go_at_fn g; refine hcall.mono ?_; rintro e w' ⟨rfl, hb'⟩)
        go_ret
        refine ⟨?_, hb'⟩
        rcases E1.out with h | h
        · rw [h]; rfl
        · cases h
    · have he : j = l.length := by have := HJ.out; have := HL.out; omega
      have e1 : idxI p l = -1 := idx_miss fun q hq => H1.out q (by omega) hq
      have E1 := Lib.hid e1
      clear e1 he
      go_wp2
      go_ret
      exact ⟨by rw [E1.out]; rfl, HB.out⟩
end Go.Proofs.YtjfoflbaoceemaaGreat
namespace Go.Proofs.YtjfoflbaoceemaaGreat
open Go.RowKit
def PredR (g : Nat) (lb : Array Value) (p : Rw → Bool) (l : List Rw) (w : World) : Prop :=
  ∀ (W : World) (x : Rw), x ∈ l → Below w.heap.size w W → Calls Tryz.prog g (#[(.agg #[.string x.1, .string x.2])] ++ lb) W fun e w' => e = .returned (.bool (p x)) ∧ Below w.heap.size w w'
def SeesR (w : World) (p : Rw → Bool) (l : List Rw) (k : Nat) (i : Value) (wr : World) : Prop := ∃ j, j + k = l.length ∧ i = .int .i64 (j : Int) ∧ (∀ q (hq : q < j) (hl : q < l.length), p l[q] = false) ∧ Below w.heap.size w wr
set_option maxHeartbeats 1000000 in
theorem index_r {w : World} {K : Nat → Prop} {A : Option Addr} {n c : Nat} {l : List Rw} (h : Lst w K eR A l) (hl : l.length = n) (hn : n ≤ 1000000) {p : Rw → Bool} {g : Nat} {lb : Array Value}
    (eg : ∀ args w, (callFunc g args).run Tryz.prog w = .ok (.enter g args) w) (hp : PredR g lb p l w) :
    Calls Tryz.prog 231 #[.slice A n c, .func (.func g) #[] lb] w fun e w' => e = .returned (.int .i64 (idxI p l)) ∧ Below w.heap.size w w' := by
  have H := Lib.hid h
  have HL := Lib.hid hl
  have HP := Lib.hid hp
  clear h hl hp
  go_enter Tryz.func231, Tryz.ntmps231
  go_wp2
  go_loopg [5, 8] n (fun m _ i wr => SeesR w p l m i wr)
  case atStart => exact ⟨0, by rw [HL.out]; omega, rfl, fun q hq => absurd hq (Nat.not_lt_zero q), Below.refl _ _⟩
  case round =>
    obtain ⟨j, hj, rfl, h1, hb⟩ := hrel
    have HJ := Lib.hid hj
    have H1 := Lib.hid h1
    have HB := Lib.hid hb
    clear hj h1 hb
    by_cases hlt : j < n
    · have hx : j < l.length := by rw [HL.out]; exact hlt
      obtain ⟨b, o, rfl, hb, c0, c1⟩ := (H.out.below HB.out).atR hx
      have hcall := HP.out wr l[j] (List.getElem_mem hx) HB.out
      have e1 : idxI p l = (j : Int) ∨ p l[j] = false := by
        cases hpj : p l[j]
        · exact .inr rfl
        · exact .inl (idx_hit hx hpj fun q hq => H1.out q hq (by omega))
      have e2 : p l[j] = false → ∀ q (hq : q < j + 1) (hl : q < l.length), p l[q] = false := fun h q hq hl => by
        rcases Nat.lt_or_ge q j with h5 | h5
        · exact H1.out q h5 hl
        · obtain rfl : q = j := by omega
          exact h
      have E2 := Lib.hid e2
      have E1 := Lib.hid e1
      clear e1 e2 hb
      obtain ⟨x, hxx⟩ : ∃ x, l[j] = x := ⟨_, rfl⟩
      rw [hxx] at c0 c1 hcall E1 E2
      clear hxx
      generalize hpb : p x = pb at *
      clear hpb
      obtain ⟨x0, x1⟩ := x
      simp only at hcall c0 c1
      cases pb
      · go_wp2_with (go_at_fn g; refine hcall.mono ?_; rintro e w' ⟨rfl, hb'⟩)
        go_roundg (n - (j + 1))
        case measure => have := HJ.out; have := HL.out; omega
        case rel => exact ⟨j + 1, by have := HL.out; omega, by go_num, E2.out (by simp), hb'⟩
      · go_wp2_with (go_at_fn g; refine hcall.mono ?_; rintro e w' ⟨rfl, hb'⟩)
        go_ret
        refine ⟨?_, hb'⟩
        rcases E1.out with h | h
        · rw [h]; rfl
        · cases h
    · have he : j = l.length := by have := HJ.out; have := HL.out; omega
      have e1 : idxI p l = -1 := idx_miss fun q hq => H1.out q (by omega) hq
      have E1 := Lib.hid e1
      clear e1 he
      go_wp2
      go_ret
      exact ⟨by rw [E1.out]; rfl, HB.out⟩
theorem contains_r {w : World} {K : Nat → Prop} {A : Option Addr} {n c : Nat} {l : List Rw} (h : Lst w K eR A l) (hl : l.length = n) (hn : n ≤ 1000000) {p : Rw → Bool} {g : Nat} {lb : Array Value}
    (eg : ∀ args w, (callFunc g args).run Tryz.prog w = .ok (.enter g args) w) (hp : PredR g lb p l w) :
    Calls Tryz.prog 215 #[.slice A n c, .func (.func g) #[] lb] w fun e w' => e = .returned (.bool (l.any p)) ∧ Below w.heap.size w w' := by
  have hi := index_r (c := c) h hl hn eg hp
  have hz := idx_nonneg p l
  generalize idxI p l = z at *
  generalize l.any p = y at *
  subst hz
  have HI := Lib.hid hi
  clear hi h hl hp eg
  go_enter Tryz.func215, Tryz.ntmps215
  go_wp2_with (go_at_call 231; refine HI.out.mono ?_; rintro e w' ⟨rfl, hb'⟩)
  go_ret
  exact ⟨rfl, hb'⟩
theorem pred_all_r {r : Rw → Bool} {gf : Nat} (eg : ∀ args w, (callFunc gf args).run Tryz.prog w = .ok (.enter gf args) w) (hr : ∀ (W : World) (x : Rw), Calls Tryz.prog gf #[(.agg #[.string x.1, .string x.2])] W fun e w' => e = .returned (.bool (r x)) ∧ Below W.heap.size W w')
    (B : Nat) (w : World) (hB : B < w.heap.size) (hc : w.cell? ⟨B, 0, none⟩ = some (.func (.func gf) #[] #[])) (l : List Rw) : PredR 216 #[.pointer (some ⟨B, 0, none⟩)] (fun x => !r x) l w := fun W x _ hb => by
  have hc' : W.cell? ⟨B, 0, none⟩ = some (.func (.func gf) #[] #[]) := (hb.cell (p := ⟨B, 0, none⟩) hB).trans hc
  have hBW : B < W.heap.size := Nat.lt_of_lt_of_le hB hb.size
  have hne : B ≠ W.heap.size := by omega
  have hcall := fun W => hr W x
  obtain ⟨y, hy⟩ : ∃ y, r x = y := ⟨_, rfl⟩
  rw [hy] at hcall
  have HY := Lib.hid hy
  clear hy
  obtain ⟨x0, x1⟩ := x
  have hal := alloc_below W (.cells #[.string x0, .string x1] 143)
  have hnew := hb.trans (hal.mono hb.size)
  have HN := Lib.hid hnew
  have HC := Lib.hid hcall
  clear hc hb hnew hcall hr hal
  show Calls Tryz.prog 216 #[.agg #[.string x0, .string x1], .pointer (some ⟨B, 0, none⟩)] W _
  go_enter Tryz.func216, Tryz.ntmps216
  go_wp2_with (go_at_fn gf; refine (HC.out _).mono ?_; rintro e w' ⟨rfl, hb'⟩)
  go_ret
  refine ⟨?_, HN.out.trans (hb'.mono HN.out.size)⟩
  show _ = Ending.returned (.bool (!r _))
  rw [HY.out]
  rfl
theorem enters_all_r : ∀ args w, (callFunc 216 args).run Tryz.prog w = .ok (.enter 216 args) w := enters_of Tryz.func216 (by kernel_rfl) rfl
theorem all_r {w : World} {K : Nat → Prop} {A : Option Addr} {n c : Nat} {l : List Rw} (h : Lst w K eR A l) (hl : l.length = n) (hn : n ≤ 1000000) {r : Rw → Bool} {gf : Nat} (eg : ∀ args w, (callFunc gf args).run Tryz.prog w = .ok (.enter gf args) w)
    (hr : ∀ (W : World) (x : Rw), Calls Tryz.prog gf #[(.agg #[.string x.1, .string x.2])] W fun e w' => e = .returned (.bool (r x)) ∧ Below W.heap.size W w') :
    Calls Tryz.prog 192 #[.slice A n c, .func (.func gf) #[] #[]] w fun e w' => e = .returned (.bool (l.all r)) ∧ Below w.heap.size w w' := by
  have k1 := alloc_below w (.cells #[.func (.func gf) #[] #[]] 169)
  have hi := contains_r (c := c) (h.below k1) hl hn enters_all_r (pred_all_r eg hr w.heap.size _ (by simp) (by simp) l)
  have e : (l.any fun x => !r x) = !l.all r := by rw [List.not_all_eq_any_not]
  rw [e] at hi
  generalize l.all r = y at *
  have HI := Lib.hid hi
  have HK := Lib.hid k1
  clear hi h hl e k1 eg hr
  go_enter Tryz.func192, Tryz.ntmps192
  go_wp2_with (go_at_call 215; refine HI.out.mono ?_; rintro e w' ⟨rfl, hb'⟩)
  go_ret
  exact ⟨by simp, HK.out.trans (hb'.mono HK.out.size)⟩
theorem contains_m {w : World} {K : Nat → Prop} {A : Option Addr} {n c : Nat} {l : List Mg} (h : Lst w K eM A l) (hl : l.length = n) (hn : n ≤ 1000000) {p : Mg → Bool} {g : Nat} {lb : Array Value}
    (eg : ∀ args w, (callFunc g args).run Tryz.prog w = .ok (.enter g args) w) (hp : PredM g lb p l w) :
    Calls Tryz.prog 218 #[.slice A n c, .func (.func g) #[] lb] w fun e w' => e = .returned (.bool (l.any p)) ∧ Below w.heap.size w w' := by
  have hi := index_m (c := c) h hl hn eg hp
  have hz := idx_nonneg p l
  generalize idxI p l = z at *
  generalize l.any p = y at *
  subst hz
  have HI := Lib.hid hi
  clear hi h hl hp eg
  go_enter Tryz.func218, Tryz.ntmps218
  go_wp2_with (go_at_call 233; refine HI.out.mono ?_; rintro e w' ⟨rfl, hb'⟩)
  go_ret
  exact ⟨rfl, hb'⟩
theorem pred_all_m {r : Mg → Bool} {gf : Nat} (eg : ∀ args w, (callFunc gf args).run Tryz.prog w = .ok (.enter gf args) w) (hr : ∀ (W : World) (x : Mg), Calls Tryz.prog gf #[x.val] W fun e w' => e = .returned (.bool (r x)) ∧ Below W.heap.size W w')
    (B : Nat) (w : World) (hB : B < w.heap.size) (hc : w.cell? ⟨B, 0, none⟩ = some (.func (.func gf) #[] #[])) (l : List Mg) : PredM 219 #[.pointer (some ⟨B, 0, none⟩)] (fun x => !r x) l w := fun W x _ hb => by
  have hc' : W.cell? ⟨B, 0, none⟩ = some (.func (.func gf) #[] #[]) := (hb.cell (p := ⟨B, 0, none⟩) hB).trans hc
  have hBW : B < W.heap.size := Nat.lt_of_lt_of_le hB hb.size
  have hne : B ≠ W.heap.size := by omega
  have hcall := fun W => hr W x
  obtain ⟨y, hy⟩ : ∃ y, r x = y := ⟨_, rfl⟩
  rw [hy] at hcall
  have HY := Lib.hid hy
  clear hy
  obtain ⟨x0, x1, x2, x3, x4, x5⟩ := x
  have hal := alloc_below W (.cells #[.int .i64 x0, .int .i64 x1, .int .i64 x2, .bool x3, .string x4, .string x5] 44)
  have hnew := hb.trans (hal.mono hb.size)
  have HN := Lib.hid hnew
  have HC := Lib.hid hcall
  clear hc hb hnew hcall hr hal
  show Calls Tryz.prog 219 #[.agg #[.int .i64 x0, .int .i64 x1, .int .i64 x2, .bool x3, .string x4, .string x5], .pointer (some ⟨B, 0, none⟩)] W _
  go_enter Tryz.func219, Tryz.ntmps219
  go_wp2_with (go_at_fn gf; refine (HC.out _).mono ?_; rintro e w' ⟨rfl, hb'⟩)
  go_ret
  refine ⟨?_, HN.out.trans (hb'.mono HN.out.size)⟩
  show _ = Ending.returned (.bool (!r _))
  rw [HY.out]
  rfl
theorem enters_all_m : ∀ args w, (callFunc 219 args).run Tryz.prog w = .ok (.enter 219 args) w := enters_of Tryz.func219 (by kernel_rfl) rfl
theorem all_m {w : World} {K : Nat → Prop} {A : Option Addr} {n c : Nat} {l : List Mg} (h : Lst w K eM A l) (hl : l.length = n) (hn : n ≤ 1000000) {r : Mg → Bool} {gf : Nat} (eg : ∀ args w, (callFunc gf args).run Tryz.prog w = .ok (.enter gf args) w)
    (hr : ∀ (W : World) (x : Mg), Calls Tryz.prog gf #[x.val] W fun e w' => e = .returned (.bool (r x)) ∧ Below W.heap.size W w') :
    Calls Tryz.prog 195 #[.slice A n c, .func (.func gf) #[] #[]] w fun e w' => e = .returned (.bool (l.all r)) ∧ Below w.heap.size w w' := by
  have k1 := alloc_below w (.cells #[.func (.func gf) #[] #[]] 172)
  have hi := contains_m (c := c) (h.below k1) hl hn enters_all_m (pred_all_m eg hr w.heap.size _ (by simp) (by simp) l)
  have e : (l.any fun x => !r x) = !l.all r := by rw [List.not_all_eq_any_not]
  rw [e] at hi
  generalize l.all r = y at *
  have HI := Lib.hid hi
  have HK := Lib.hid k1
  clear hi h hl e k1 eg hr
  go_enter Tryz.func195, Tryz.ntmps195
  go_wp2_with (go_at_call 218; refine HI.out.mono ?_; rintro e w' ⟨rfl, hb'⟩)
  go_ret
  exact ⟨by simp, HK.out.trans (hb'.mono HK.out.size)⟩
end Go.Proofs.YtjfoflbaoceemaaGreat
namespace Go.Proofs.YtjfoflbaoceemaaGreat
open Go.RowKit

def cellsR : List Rw → List Value
  | [] => []
  | r :: l => .string r.1 :: .string r.2 :: cellsR l
theorem cellsR_length (l : List Rw) : (cellsR l).length = l.length * 2 := by
  induction l with
  | nil => rfl
  | cons x r ih => simp [cellsR, ih]; omega
theorem cellsR_append (l m : List Rw) : cellsR (l ++ m) = cellsR l ++ cellsR m := by
  induction l with
  | nil => rfl
  | cons x r ih => simp [cellsR, ih]
theorem cellsR_one (l : List Rw) : ∀ v ∈ cellsR l, v.oneCell' = true := by
  induction l with
  | nil => intro v hv; cases hv
  | cons x r ih =>
    intro v hv
    rcases List.mem_cons.1 hv with rfl | hv
    · rfl
    · rcases List.mem_cons.1 hv with rfl | hv
      · rfl
      · exact ih v hv
theorem cellsR_key {l : List Rw} {j : Nat} (h : j < l.length) : (cellsR l)[j * 2]? = some (.string l[j].1) ∧ (cellsR l)[j * 2 + 1]? = some (.string l[j].2) := by
  induction l generalizing j with
  | nil => simp at h
  | cons x r ih =>
    cases j with
    | zero => simp [cellsR]
    | succ j =>
      have := ih (j := j) (by simpa using h)
      rw [show (j + 1) * 2 = j * 2 + 1 + 1 by omega, cellsR]
      simpa using this
theorem cellsR_take (l : List Rw) (k : Nat) : cellsR (l.take k) = (cellsR l).take (k * 2) := by
  induction l generalizing k with
  | nil => simp [cellsR]
  | cons x r ih =>
    cases k with
    | zero => simp [cellsR]
    | succ k =>
      rw [List.take_succ_cons, cellsR, cellsR, ih, show (k + 1) * 2 = k * 2 + 1 + 1 by omega]
      simp
theorem cellsR_drop (l : List Rw) (k : Nat) : cellsR (l.drop k) = (cellsR l).drop (k * 2) := by
  induction l generalizing k with
  | nil => simp [cellsR]
  | cons x r ih =>
    cases k with
    | zero => simp
    | succ k =>
      rw [List.drop_succ_cons, cellsR, ih, show (k + 1) * 2 = k * 2 + 1 + 1 by omega]
      simp

def Rws (w : World) (K : Nat → Prop) (A : Option Addr) (l : List Rw) : Prop :=
  0 < l.length → ∃ b o, A = some ⟨b, o, none⟩ ∧ K b ∧ b < w.heap.size ∧ ∀ j u, (cellsR l)[j]? = some u → w.cell? ⟨b, o + j, none⟩ = some u
section
variable {w w' : World} {K K' : Nat → Prop} {A : Option Addr} {l : List Rw}
theorem Rws.nil (w : World) (K : Nat → Prop) (A : Option Addr) : Rws w K A [] := fun h => absurd h (by simp)
theorem Rws.below (h : Rws w K A l) (k : Below w.heap.size w w') : Rws w' K A l := fun h0 => by
  obtain ⟨b, o, e, hk, hb, hc⟩ := h h0
  exact ⟨b, o, e, hk, Nat.lt_of_lt_of_le hb k.size, fun j x hx => (cell_of_heap (k.block b hb) _).trans (hc j x hx)⟩
theorem Rws.more (h : Rws w K A l) (hk : ∀ i, i < w.heap.size → K i → K' i) : Rws w K' A l := fun h0 => by
  obtain ⟨b, o, e, hb, hl, hc⟩ := h h0
  exact ⟨b, o, e, hk b hl hb, hl, hc⟩
theorem Rws.drew (h : Rws w K A l) : Rws w.drew K A l := h
theorem Rws.take (h : Rws w K A l) (k : Nat) : Rws w K A (l.take k) := fun h0 => by
  obtain ⟨b, o, e, hk, hb, hc⟩ := h (by rw [List.length_take] at h0; omega)
  refine ⟨b, o, e, hk, hb, fun j x hx => hc j x ?_⟩
  rw [cellsR_take, List.getElem?_take] at hx
  split at hx
  · exact hx
  · cases hx
theorem Rws.drop (h : Rws w K A l) {k c : Nat} (hc : l.length ≤ c) : Rws w K (if c = k then A else A.map (·.add (k * 2))) (l.drop k) := fun h0 => by
  rw [List.length_drop] at h0
  obtain ⟨b, o, e, hk, hb, hcell⟩ := h (by omega)
  rw [if_neg (by omega), e]
  refine ⟨b, o + k * 2, ?_, hk, hb, fun j x hx => ?_⟩
  · rw [Option.map_some, add_none]
  · rw [Nat.add_assoc]
    exact hcell _ x (by rw [← hx, cellsR_drop, List.getElem?_drop])
theorem Rws.at_ (h : Rws w K A l) {j : Nat} (hj : j < l.length) :
    ∃ b o, A = some ⟨b, o, none⟩ ∧ w.cell? ⟨b, o + j * 2, none⟩ = some (.string l[j].1) ∧ w.cell? ⟨b, o + j * 2 + 1, none⟩ = some (.string l[j].2) := by
  obtain ⟨b, o, e, _, hb, hc⟩ := h (by omega)
  obtain ⟨h1, h2⟩ := cellsR_key hj
  exact ⟨b, o, e, hc _ _ h1, by rw [Nat.add_assoc]; exact hc _ _ h2⟩
end
theorem rws_one (w : World) (r : Rw) : Rws (w.alloc (.cells #[.string r.1, .string r.2] 143)) (fun i => w.heap.size ≤ i) (some ⟨w.heap.size, 0, none⟩) [r] := fun _ =>
  ⟨_, 0, rfl, Nat.le_refl _, by simp, fun j u hu => by rw [(Blk.new w 143 _).cell, Nat.zero_add]; simpa [cellsR] using hu⟩

theorem infoRow : (Tryz.prog.info? 143).map (fun i => (i.zero, i.size, i.bytes)) = some (some (.agg #[.string ⟨#[]⟩, .string ⟨#[]⟩]), 2, 32) := by kernel_rfl
theorem append_rws {W : World} {base : Nat} {v : Value} {n : Nat} {ys : List Rw} (hown : W.ownsRow base 143 2 v n (cellsR ys)) {K : Nat → Prop} {A : Option Addr} {m : Nat} {xs : List Rw} (hr : Rws W K A xs) (hm : xs.length = m) (c : Nat)
    (hb : n + m ≤ 1000000) (hbase : base ≤ W.heap.size) : ∃ v' W', (Builtin.append_ #[74, 74] 74 #[v, .slice A m c]).run Tryz.prog W = .ok v' W' ∧ W'.ownsRow base 143 2 v' (n + m) (cellsR (ys ++ xs)) ∧ W.grownBy W' v.ownBlock ∧
      (v'.ownBlock = v.ownBlock ∨ v'.ownBlock = some W.heap.size) := by
  obtain ⟨i0, hi, hz0, hz1, hz2⟩ := info_parts infoRow
  subst hm
  rcases A with _ | a
  · have hx : xs = [] := by
      rcases Nat.eq_zero_or_pos xs.length with h0 | h0
      · exact List.eq_nil_of_length_eq_zero h0
      · obtain ⟨_, _, h, _⟩ := hr h0
        cases h
    subst hx
    refine ⟨v, W, ?_, by simpa using hown, World.grownBy.refl W _, .inl rfl⟩
    rcases hown.2 with ⟨rfl, rfl⟩ | ⟨g, cap, cur, rfl, _, _, hnc, _⟩
    · simp [Builtin.append_, run_underlying Tryz.underlying74, sizeOf, typeInfo, hi, Builtin.lenOf, Builtin.firstCells]
    · simp [Builtin.append_, run_underlying Tryz.underlying74, sizeOf, typeInfo, hi, Builtin.lenOf, Builtin.firstCells, hnc, storeCells]
  · have hcells : ∀ j u, (cellsR xs)[j]? = some u → W.cell? (a.add j) = some u := by
      intro j u hu
      have hj := (List.getElem?_eq_some_iff.1 hu).1
      rw [cellsR_length] at hj
      obtain ⟨b, o, h, _, _, hcell⟩ := hr (by omega)
      injection h with h
      subst h
      rw [add_none]
      exact hcell j u hu
    obtain ⟨v', w', hrun, h2, h3, _, h5⟩ := run_append_own_at (P := Tryz.prog) W base 74 74 143 i0 _ 2 32 Tryz.underlying74 hi hz0 hz1 hz2 rfl (by omega) v n (cellsR ys) hown a xs.length c (cellsR xs) (cellsR_length xs) hcells (cellsR_one _) (by unfold maxLen; omega) (by omega) hbase
    exact ⟨v', w', hrun, by rw [cellsR_append]; exact h2, h3, h5⟩
theorem own_rws {W : World} {base : Nat} {v : Value} {n : Nat} {ys : List Rw} (hown : W.ownsRow base 143 2 v n (cellsR ys)) : ∃ A c, v = .slice A n c ∧ Rws W (fun i => base ≤ i) A ys ∧ ys.length = n ∧ n ≤ c ∧ c ≤ maxLen ∧ (A = none → c = 0) := by
  have hl : ys.length = n := by have := hown.1; rw [cellsR_length] at this; omega
  rcases hown.2 with ⟨rfl, rfl⟩ | ⟨g, cap, cur, rfl, hb, hh, hnc, hcm, hcs, htk⟩
  · exact ⟨none, 0, rfl, fun h => absurd h (by omega), hl, Nat.le_refl _, by unfold maxLen; omega, fun _ => rfl⟩
  · refine ⟨_, cap, rfl, fun _ => ⟨g, 0, rfl, hb, lt_of_some hh, fun j x hx => ?_⟩, hl, hnc, hcm, fun h => by cases h⟩
    rw [show W.cell? ⟨g, 0 + j, none⟩ = cur[0 + j]? from cell_of_row W g _ cur 143 (0, 0) hh, Nat.zero_add]
    have hj := (List.getElem?_eq_some_iff.1 hx).1
    rw [cellsR_length] at hj
    rw [← htk, List.getElem?_take_of_lt (by omega)] at hx
    simpa using hx
theorem empty_rws (W : World) (base : Nat) (hb : base ≤ W.heap.size) : (W.alloc (.cells #[] 143)).ownsRow base 143 2 (.slice (some ⟨W.heap.size, 0, none⟩) 0 0) 0 (cellsR []) :=
  ⟨rfl, .inr ⟨W.heap.size, 0, #[], rfl, hb, Blk.new W 143 #[], Nat.le_refl _, by unfold maxLen; omega, rfl, rfl⟩⟩
end Go.Proofs.YtjfoflbaoceemaaGreat
namespace Go.Proofs.YtjfoflbaoceemaaGreat
open Go.RowKit

theorem retIk {a b : Int} (h : a = b) : Ending.returned (.int .i64 a) = .returned (.int .i64 b) := by rw [h]
theorem cmpS_lt {a b : ByteArray} (h : Op.bytesLess a.toList b.toList = true) : cmpS a b = -1 := by
  rw [cmpL_less] at h; exact of_decide_eq_true h
theorem cmpS_zero {a b : ByteArray} (h : (!a.toList == b.toList) = false) : cmpS a b = 0 := by
  simp at h; rw [cmpS, cmpL_eq]; exact h
theorem cmpS_gt {a b : ByteArray} (h : Op.bytesLess a.toList b.toList = false) (h2 : (!a.toList == b.toList) = true) : cmpS a b = 1 := by
  rw [cmpL_less] at h
  have h1 := of_decide_eq_false h
  have h3 : ¬ cmpL a.toList b.toList = 0 := by rw [cmpL_eq]; simpa using h2
  have := cmpL_range a.toList b.toList
  unfold cmpS; omega

theorem nanS (a : ByteArray) (w : World) : Calls Tryz.prog 214 #[.string a] w fun e w' => e = .returned (.bool false) ∧ w = w' := by
  go_enter Tryz.func214, Tryz.ntmps214
  go_wp2
  go_ret
  exact ⟨by simp, rfl⟩
theorem compareS (a b : ByteArray) (w : World) : Calls Tryz.prog 190 #[.string a, .string b] w fun e w' => e = .returned (.int .i64 (cmpS a b)) ∧ w = w' := by
  go_enter Tryz.func190, Tryz.ntmps190
  go_wp2_with (go_at_call 214; refine (nanS _ _).mono ?_; rintro e w' ⟨rfl, rfl⟩)
  all_goals go_ret
  all_goals refine ⟨?_, rfl⟩
  · exact retIk (cmpS_lt (by assumption)).symm
  · exact retIk (cmpS_gt (by assumption) (by assumption)).symm
  · exact retIk (cmpS_zero (by assumption)).symm
end Go.Proofs.YtjfoflbaoceemaaGreat
namespace Go.Proofs.YtjfoflbaoceemaaGreat
open Go.RowKit
theorem keys_ (a b : ByteArray) (w : World) : Calls Tryz.prog 140 #[.string a, .string b] w fun e w' => e = .returned (.int .i64 (cmpS a b)) ∧ w = w' := by
  go_enter Tryz.func140, Tryz.ntmps140
  go_wp2_with (go_at_call 190; refine (compareS _ _ _).mono ?_; rintro e w' ⟨rfl, rfl⟩)
  go_ret
  exact ⟨rfl, rfl⟩
end Go.Proofs.YtjfoflbaoceemaaGreat
namespace Go.Proofs.YtjfoflbaoceemaaGreat
open Go.RowKit
def RiseRn (w : World) (xs : List Rw) (k : Nat) (i : Value) (wr : World) : Prop := ∃ j, j + k = xs.length ∧ i = .int .i64 ((j : Int) + 1) ∧ risesR xs = risesR (xs.drop j) ∧ Below w.heap.size w wr
set_option maxHeartbeats 400000 in
theorem rises_n {w : World} {K : Nat → Prop} {A : Option Addr} {n c : Nat} {xs : List Rw} (h : Rws w K A xs) (hn : xs.length = n) (hm : n ≤ 1000000) :
    Calls Tryz.prog 191 #[.slice A n c] w fun e w' => e = .returned (.bool (risesR xs)) ∧ Below w.heap.size w w' := by
  have H := Lib.hid h
  have HN := Lib.hid hn
  clear h hn
  go_enter Tryz.func191, Tryz.ntmps191
  go_wp2
  go_loopg [3] n (fun k i wr => RiseRn w xs k i wr)
  case atStart => exact ⟨0, by rw [HN.out]; omega, rfl, rfl, Below.refl _ _⟩
  case round =>
    obtain ⟨j, hj, rfl, ht, hb⟩ := hrel
    have HT := Lib.hid ht
    have HB := Lib.hid hb
    have HJ := Lib.hid hj
    clear ht hb hj
    by_cases hlt : j + 1 < n
    · have hx : j < xs.length := by rw [HN.out]; omega
      have hy : j + 1 < xs.length := by rw [HN.out]; exact hlt
      obtain ⟨b, o, rfl, hc, hd⟩ := (H.out.below HB.out).at_ hx
      obtain ⟨b2, o2, he, hc2, hd2⟩ := (H.out.below HB.out).at_ hy
      cases he
      clear hd hd2
      obtain ⟨h1, h2⟩ := rises_at hy HT.out
      generalize xs[j].1 = k1 at *
      generalize xs[j + 1].1 = k2 at *
      by_cases hp : cmpS k1 k2 < 0
      · have hp2 : ¬ 0 ≤ cmpS k1 k2 := by omega
        have H1 := Lib.hid (h1 hp)
        clear h1 h2
        go_wp2
        go_quiet ((go_at_call 140; exact Calls.quiet_of_same ((keys_ _ _ _).mono fun _ _ h => ⟨h.1, h.2.symm⟩)))
        go_wp2
        go_roundg (n - (j + 1))
        case measure => have := HJ.out; have := HN.out; omega
        case rel => exact ⟨j + 1, by have := HN.out; omega, by go_num, H1.out, below_drewN HB.out _⟩
      · have hp2 : 0 ≤ cmpS k1 k2 := by omega
        have H1 := Lib.hid (h2 hp)
        clear h1 h2
        go_wp2
        go_quiet ((go_at_call 140; exact Calls.quiet_of_same ((keys_ _ _ _).mono fun _ _ h => ⟨h.1, h.2.symm⟩)))
        go_wp2
        go_ret
        exact ⟨by rw [H1.out]; rfl, below_drewN HB.out _⟩
    · have e := rises_end (by rw [HN.out]; exact hlt) HT.out
      have E := Lib.hid e
      clear e
      go_wp2
      go_ret
      exact ⟨by rw [E.out]; rfl, HB.out⟩
end Go.Proofs.YtjfoflbaoceemaaGreat
namespace Go.Proofs.YtjfoflbaoceemaaGreat
open Go.RowKit
theorem cellsR_E (l : List Rw) : cellsR l = cellsE eR l := by
  induction l with
  | nil => rfl
  | cons x r ih => rw [cellsR, cellsE, ih]; rfl
section
variable {w : World} {K : Nat → Prop} {A : Option Addr} {l : List Rw}
theorem Rws.lst (h : Rws w K A l) : Lst w K eR A l := fun h0 => by
  obtain ⟨b, o, e, hk, hl, hc⟩ := h h0
  exact ⟨b, o, e, hk, hl, fun j u hu => hc j u (by rw [cellsR_E]; exact hu)⟩
theorem Lst.rws (h : Lst w K eR A l) : Rws w K A l := fun h0 => by
  obtain ⟨b, o, e, hk, hl, hc⟩ := h h0
  exact ⟨b, o, e, hk, hl, fun j u hu => hc j u (by rw [← cellsR_E]; exact hu)⟩
end
end Go.Proofs.YtjfoflbaoceemaaGreat
namespace Go.Proofs.YtjfoflbaoceemaaGreat
open Go.RowKit
theorem nanI (a : Int) (w : World) : Calls Tryz.prog 247 #[.int .i64 a] w fun e w' => e = .returned (.bool false) ∧ w = w' := by
  go_enter Tryz.func247, Tryz.ntmps247
  go_wp2
  go_ret
  exact ⟨by simp, rfl⟩
theorem compareI (a b : Int) (w : World) : Calls Tryz.prog 232 #[.int .i64 a, .int .i64 b] w fun e w' => e = .returned (.int .i64 (cmpI a b)) ∧ w = w' := by
  have h : (a < b ∧ cmpI a b = -1) ∨ (¬ a < b ∧ b < a ∧ cmpI a b = 1) ∨ (¬ a < b ∧ ¬ b < a ∧ cmpI a b = 0) := by
    unfold cmpI
    by_cases h1 : a < b
    · simp [h1]
    · by_cases h2 : b < a <;> simp [h1, h2]
  rcases h with ⟨h1, h3⟩ | ⟨h1, h2, h3⟩ | ⟨h1, h2, h3⟩
  all_goals
    rw [h3]
    clear h3
    go_enter Tryz.func232, Tryz.ntmps232
    go_wp2_with (go_at_call 247; refine (nanI _ _).mono ?_; rintro e w' ⟨rfl, rfl⟩)
    go_ret
    exact ⟨rfl, rfl⟩
end Go.Proofs.YtjfoflbaoceemaaGreat
