/- . . . . . . . -/
import Derived.Test.YtjfoflbaoceemaaGreatJ14
import Derived.Test.YtjfoflbaoceemaaGreatJ02
import Derived.Test.YtjfoflbaoceemaaGreatProg
import Derived.Test.YtjfoflbaoceemaaGreatJ01
import Derived.WalkKit
import Derived.ProofKit
import Derived.Lib.Hide
import Derived.RegionTactic
import Derived.Lib.Strings
set_option maxRecDepth 4000
namespace Go.Proofs.YtjfoflbaoceemaaGreat
open Go.RowKit
section
variable {α : Type} {E : Enc α} {T : TypeId}
def Sl (w : World) (E : Enc α) (v : Value) (l : List α) : Prop := ∃ A c, v = .slice A l.length c ∧ Lst w (fun _ => True) E A l ∧ l.length ≤ c ∧ c ≤ maxLen ∧ (A = none → c = 0)
theorem Sl.below {w w' : World} {v : Value} {l : List α} (h : Sl w E v l) (k : Below w.heap.size w w') : Sl w' E v l := by
  obtain ⟨A, c, e, h1, h2⟩ := h
  exact ⟨A, c, e, h1.below k, h2⟩
theorem own_far {w : World} {base : Nat} {v : Value} {l : List α} (h : Own w base E T v l) {p : Addr} (hp : v.ownBlock ≠ some p.block) (u : Value) : Own (w.setCell p u) base E T v l :=
  own_keep h fun g hg => Below.heap_setCell w p u g fun e => hp (by rw [hg, e])
theorem own_out {w : World} {base b : Nat} {v : Value} {l : List α} (h : Own w base E T v l) (hb : b < base) : v.ownBlock ≠ some b := fun e => by
  have := (own_blk h e).1
  omega
end
abbrev Ob.cells (o : Ob) (r m d : Value) : Array Value := #[.string o.name, .int .i64 o.kind, .int .i64 o.limit, r, m, d]
abbrev Ob.val (o : Ob) (r m d : Value) : Value := .agg (o.cells r m d)
def ObAt (w : World) (o : Ob) (r m d : Value) : Prop := Sl w eR r o.rows ∧ Sl w eM m o.msgs ∧ Sl w eM d o.dead
theorem ObAt.below {w w' : World} {o : Ob} {r m d : Value} (h : ObAt w o r m d) (k : Below w.heap.size w w') : ObAt w' o r m d := ⟨h.1.below k, h.2.1.below k, h.2.2.below k⟩
structure ObOwn (w : World) (base : Nat) (o : Ob) (r m d : Value) : Prop where
  rows : OwnR w base r o.rows
  msgs : OwnM w base m o.msgs
  dead : OwnM w base d o.dead
  a1 : ∀ g, r.ownBlock = some g → m.ownBlock ≠ some g ∧ d.ownBlock ≠ some g
  a2 : ∀ g, m.ownBlock = some g → d.ownBlock ≠ some g
theorem ObOwn.below {w w' : World} {base : Nat} {o : Ob} {r m d : Value} (h : ObOwn w base o r m d) (k : Below w.heap.size w w') : ObOwn w' base o r m d :=
  ⟨own_belowE h.rows k, own_belowE h.msgs k, own_belowE h.dead k, h.a1, h.a2⟩
theorem ObOwn.base {w : World} {base base' : Nat} {o : Ob} {r m d : Value} (h : ObOwn w base o r m d) (hb : base' ≤ base) : ObOwn w base' o r m d :=
  ⟨own_base h.rows hb, own_base h.msgs hb, own_base h.dead hb, h.a1, h.a2⟩
end Go.Proofs.YtjfoflbaoceemaaGreat
namespace Go.Proofs.YtjfoflbaoceemaaGreat
open Go.RowKit
theorem own_set1 {α : Type} {E : Enc α} {T : TypeId} {W : World} {base g n c : Nat} {ys : List α} (h : Own W base E T (.slice (some ⟨g, 0, none⟩) n c) ys) {q : Nat} (hq : q < ys.length) (x : α) {i : Nat} {u : Value} (hi : i < E.k) (hx : E.enc x = (E.enc ys[q]).set i u) :
    Own (W.setCell ⟨g, q * E.k + i, none⟩ u) base E T (.slice (some ⟨g, 0, none⟩) n c) (ys.set q x) := by
  rcases h.2 with ⟨e, _⟩ | ⟨g', cap, cur, e, hb, hh, hnc, hcm, hcs, htk⟩
  · cases e
  · injection e with e1 e2 e3
    injection e1 with e1
    injection e1 with e1 _ _
    subst e1 e2 e3
    have hy : ys = ys.take q ++ ys[q] :: ys.drop (q + 1) := by rw [← List.drop_eq_getElem_cons hq, List.take_append_drop]
    have hs : ys.set q x = ys.take q ++ x :: ys.drop (q + 1) := by
      rw [List.set_eq_take_append_cons_drop, if_pos hq]
    have hcur : cur.toList = cellsE E (ys.take q) ++ E.enc ys[q] ++ (cellsE E (ys.drop (q + 1)) ++ cur.toList.drop (ys.length * E.k)) := by
      have hce : cellsE E ys = cellsE E (ys.take q) ++ (E.enc ys[q] ++ cellsE E (ys.drop (q + 1))) := by
        conv => lhs; rw [hy, cellsE_append, cellsE]
      conv => lhs; rw [← List.take_append_drop (ys.length * E.k) cur.toList, htk, hce]
      simp only [List.append_assoc]
    have hpl : (cellsE E (ys.take q)).length = q * E.k := by rw [cellsE_length, List.length_take, Nat.min_eq_left (by omega)]
    have hb0 : Blk W g T (cellsE E (ys.take q) ++ E.enc ys[q] ++ (cellsE E (ys.drop (q + 1)) ++ cur.toList.drop (ys.length * E.k))).toArray := by
      rw [← hcur]; exact hh
    have hlen : (E.enc ys[q]).length = E.k := E.len _
    have hei : E.enc ys[q] = (E.enc ys[q]).take i ++ [(E.enc ys[q])[i]'(by omega)] ++ (E.enc ys[q]).drop (i + 1) := by
      rw [List.append_assoc, List.singleton_append, ← List.drop_eq_getElem_cons (by omega), List.take_append_drop]
    have hexi : E.enc x = (E.enc ys[q]).take i ++ [u] ++ (E.enc ys[q]).drop (i + 1) := by
      rw [hx, List.set_eq_take_append_cons_drop, if_pos (by omega), List.append_assoc, List.singleton_append]
    have hb2 : Blk W g T ((cellsE E (ys.take q) ++ (E.enc ys[q]).take i) ++ [(E.enc ys[q])[i]'(by omega)] ++ ((E.enc ys[q]).drop (i + 1) ++ (cellsE E (ys.drop (q + 1)) ++ cur.toList.drop (ys.length * E.k)))).toArray := by
      have : (cellsE E (ys.take q) ++ (E.enc ys[q]).take i) ++ [(E.enc ys[q])[i]'(by omega)] ++ ((E.enc ys[q]).drop (i + 1) ++ (cellsE E (ys.drop (q + 1)) ++ cur.toList.drop (ys.length * E.k))) = cellsE E (ys.take q) ++ ((E.enc ys[q]).take i ++ [(E.enc ys[q])[i]'(by omega)] ++ (E.enc ys[q]).drop (i + 1)) ++ (cellsE E (ys.drop (q + 1)) ++ cur.toList.drop (ys.length * E.k)) := by simp only [List.append_assoc]
      rw [this, ← hei]
      exact hb0
    have hb3 := blk_setCells [u] _ [(E.enc ys[q])[i]'(by omega)] _ W (by simp) hb2
    rw [List.length_append, hpl, List.length_take, Nat.min_eq_left (by omega)] at hb3
    have hb1 : Blk (W.setCell ⟨g, q * E.k + i, none⟩ u) g T (cellsE E (ys.take q) ++ E.enc x ++ (cellsE E (ys.drop (q + 1)) ++ cur.toList.drop (ys.length * E.k))).toArray := by
      have : (cellsE E (ys.take q) ++ (E.enc ys[q]).take i) ++ [u] ++ ((E.enc ys[q]).drop (i + 1) ++ (cellsE E (ys.drop (q + 1)) ++ cur.toList.drop (ys.length * E.k))) = cellsE E (ys.take q) ++ ((E.enc ys[q]).take i ++ [u] ++ (E.enc ys[q]).drop (i + 1)) ++ (cellsE E (ys.drop (q + 1)) ++ cur.toList.drop (ys.length * E.k)) := by simp only [List.append_assoc]
      rw [this, ← hexi] at hb3
      exact hb3
    refine ⟨by rw [cellsE_length], .inr ⟨g, c, _, by rw [List.length_set], hb, hb1, by rw [List.length_set]; exact hnc, hcm, ?_, ?_⟩⟩
    · have := congrArg List.length hcur
      simp only [Array.length_toList, List.length_append, E.len] at this
      simp only [List.size_toArray, List.length_append, E.len]
      omega
    · rw [hs]
      have hl : (ys.take q ++ x :: ys.drop (q + 1)).length * E.k = (cellsE E (ys.take q) ++ E.enc x ++ cellsE E (ys.drop (q + 1))).length := by
        rw [← cellsE_length E, cellsE_append, cellsE, List.append_assoc]
      rw [hl, List.toList_toArray, ← List.append_assoc, List.take_left']
      · rw [cellsE_append, cellsE, List.append_assoc]
      · rfl
theorem own_slot {α : Type} {E : Enc α} {T : TypeId} {W : World} {base n c : Nat} {A : Option Addr} {ys : List α} (h : Own W base E T (.slice A n c) ys) (h0 : 0 < ys.length) :
    ∃ g cur, A = some ⟨g, 0, none⟩ ∧ base ≤ g ∧ Blk W g T cur ∧ ∀ j u, (cellsE E ys)[j]? = some u → W.cell? ⟨g, j, none⟩ = some u := by
  rcases h.2 with ⟨_, h1⟩ | ⟨g, cap, cur, e, hb, hh, hnc, hcm, hcs, htk⟩
  · omega
  · injection e with e1 e2 e3
    subst e1 e2 e3
    refine ⟨g, cur, rfl, hb, hh, fun j u hu => ?_⟩
    rw [show W.cell? ⟨g, j, none⟩ = cur[j]? from cell_of_row W g _ cur T (0, 0) hh]
    have hj := (List.getElem?_eq_some_iff.1 hu).1
    rw [cellsE_length] at hj
    rw [← htk, List.getElem?_take_of_lt (by omega)] at hu
    simpa using hu
theorem own_shape {α : Type} {E : Enc α} {T : TypeId} {W : World} {base n : Nat} {v : Value} {l : List α} (h : Own W base E T v l) (hn : l.length = n) : ∃ A c, v = .slice A n c := by
  obtain ⟨A, c, e, _⟩ := own_lst h
  exact ⟨A, c, by rw [← hn]; exact e⟩
theorem own_lst2 {α : Type} {E : Enc α} {T : TypeId} {W : World} {base n c : Nat} {A : Option Addr} {l : List α} (h : Own W base E T (.slice A n c) l) : Lst W (fun i => base ≤ i ∧ (Value.slice A n c).ownBlock = some i) E A l := by
  obtain ⟨A', c', e, hl, _⟩ := own_lst h
  injection e with e1 _ _
  subst e1
  exact hl
theorem own_cap {α : Type} {E : Enc α} {T : TypeId} {W : World} {base n c : Nat} {A : Option Addr} {l : List α} (h : Own W base E T (.slice A n c) l) : n = l.length ∧ n ≤ c ∧ c ≤ maxLen ∧ (A = none → c = 0) := by
  obtain ⟨A', c', e, _, h1, h2, h3⟩ := own_lst h
  injection e with e1 e2 e3
  subst e1 e2 e3
  exact ⟨rfl, h1, h2, h3⟩
end Go.Proofs.YtjfoflbaoceemaaGreat
namespace Go.Proofs.YtjfoflbaoceemaaGreat
def idB (i : Int) : Bool := decide (1 ≤ i) && decide (i ≤ 1099511627776)
def priB (p : Int) : Bool := decide (-1000 ≤ p) && decide (p ≤ 1000)
def retryB (r : Int) : Bool := decide (0 ≤ r) && decide (r ≤ 1000)
def corrB (c : ByteArray) : Bool := decide ((c.size : Int) ≤ 40)
def bodyB (b : ByteArray) : Bool := decide ((b.size : Int) ≤ 100)
def Mg.right (m : Mg) : Bool := idB m.id && priB m.pri && retryB m.retry && corrB m.corr && bodyB m.body
def Mg.onto (m : Mg) (bs : List UInt8) : List UInt8 := bs ++ encInt m.id ++ encInt m.pri ++ encInt m.retry ++ encFlag m.claimed ++ encText m.corr.data.toList ++ encText m.body.data.toList
def Mg.bytes (m : Mg) : List UInt8 := m.onto []
def Rd.msgR (r : Rd) : Rd := r.int.2.int.2.int.2.flag.2.text.2.text.2
def Rd.msgV (r : Rd) : Mg := ⟨r.int.1, r.int.2.int.1, r.int.2.int.2.int.1, r.int.2.int.2.int.2.flag.1, ⟨r.int.2.int.2.int.2.flag.2.text.1.toArray⟩, ⟨r.int.2.int.2.int.2.flag.2.text.2.text.1.toArray⟩⟩
def Rd.msg (r : Rd) : Mg := if r.msgR.bad = true then Mg.zero else r.msgV
theorem Mg.onto_len (m : Mg) (bs : List UInt8) (hc : m.corr.size ≤ 9000) (hb : m.body.size ≤ 9000) : (m.onto bs).length = bs.length + 29 + m.corr.size + m.body.size := by
  have e1 : m.corr.data.toList.length = m.corr.size := rfl
  have e2 : m.body.data.toList.length = m.body.size := rfl
  have t1 : m.corr.data.toList.take 65535 = m.corr.data.toList := List.take_of_length_le (by omega)
  have t2 : m.body.data.toList.take 65535 = m.body.data.toList := List.take_of_length_le (by omega)
  simp only [Mg.onto, List.length_append, encInt_len, encFlag_len, encText_len, t1, t2, e1, e2]
  omega
theorem text_whole (s : ByteArray) (hs : s.size ≤ 9000) (y : List UInt8) : (⟨encText s.data.toList ++ y, false⟩ : Rd).text = (s.data.toList, ⟨y, false⟩) := by
  rw [text_front, List.take_of_length_le (by have : s.data.toList.length = s.size := rfl; omega)]
theorem bytes_of_list (s : ByteArray) : (⟨s.data.toList.toArray⟩ : ByteArray) = s := by simp
theorem msg_front (m : Mg) (hf : m.fits) (hc : m.corr.size ≤ 9000) (hb : m.body.size ≤ 9000) (y : List UInt8) : (⟨m.bytes ++ y, false⟩ : Rd).msgR = ⟨y, false⟩ ∧ (⟨m.bytes ++ y, false⟩ : Rd).msgV = m := by
  obtain ⟨i, p, r, cl, c, b⟩ := m
  obtain ⟨⟨h1, h2⟩, ⟨h3, h4⟩, ⟨h5, h6⟩⟩ := hf
  simp only at h1 h2 h3 h4 h5 h6 hc hb
  have e : (⟨i, p, r, cl, c, b⟩ : Mg).bytes ++ y = encInt i ++ (encInt p ++ (encInt r ++ (encFlag cl ++ (encText c.data.toList ++ (encText b.data.toList ++ y))))) := by
    simp [Mg.bytes, Mg.onto]
  rw [e]
  unfold Rd.msgR Rd.msgV
  simp only [int_front _ _ h1 h2, int_front _ _ h3 h4, int_front _ _ h5 h6, flag_front, text_whole _ hc, text_whole _ hb, bytes_of_list, and_self]
end Go.Proofs.YtjfoflbaoceemaaGreat
namespace Go.Proofs.YtjfoflbaoceemaaGreat
structure Ef where
  kind : Int
  obj : ByteArray
  key : ByteArray
  val : ByteArray
  n : Int
  limit : Int
  tried : Bool
  msg : Mg
def Ef.zero : Ef := ⟨0, ⟨#[]⟩, ⟨#[]⟩, ⟨#[]⟩, 0, 0, false, Mg.zero⟩
def Ef.fits (e : Ef) : Prop := (-9223372036854775808 ≤ e.kind ∧ e.kind ≤ 9223372036854775807) ∧ (-9223372036854775808 ≤ e.n ∧ e.n ≤ 9223372036854775807) ∧ (-9223372036854775808 ≤ e.limit ∧ e.limit ≤ 9223372036854775807) ∧ e.msg.fits
def Ef.short (e : Ef) : Prop := e.obj.size ≤ 9000 ∧ e.key.size ≤ 9000 ∧ e.val.size ≤ 9000 ∧ e.msg.corr.size ≤ 9000 ∧ e.msg.body.size ≤ 9000
abbrev Ef.cells (e : Ef) : Array Value := #[.int .i64 e.kind, .string e.obj, .string e.key, .string e.val, .int .i64 e.n, .int .i64 e.limit, .bool e.tried, .int .i64 e.msg.id, .int .i64 e.msg.pri, .int .i64 e.msg.retry, .bool e.msg.claimed, .string e.msg.corr, .string e.msg.body]
abbrev Ef.val_ (e : Ef) : Value := .agg e.cells
end Go.Proofs.YtjfoflbaoceemaaGreat
namespace Go.Proofs.YtjfoflbaoceemaaGreat
def nameB (o : ByteArray) : Bool := decide (1 ≤ (o.size : Int)) && decide ((o.size : Int) ≤ 16)
def keyLB (k : ByteArray) : Bool := decide (1 ≤ (k.size : Int)) && decide ((k.size : Int) ≤ 40)
def kindB (k l : Int) : Bool := if k = 1 then decide (l = 0) else if k = 2 then decide (1 ≤ l) && decide (l ≤ 1000) else false
def Ef.good (e : Ef) : Bool :=
  if e.kind = 1 then nameB e.obj && kindB e.n e.limit else if e.kind = 2 then nameB e.obj && (keyLB e.key && bodyB e.val) else if e.kind = 3 then nameB e.obj && keyLB e.key else if e.kind = 4 then nameB e.obj && e.msg.right
  else if e.kind = 5 then nameB e.obj && idB e.n else if e.kind = 6 then nameB e.obj && idB e.n else if e.kind = 7 then nameB e.obj && idB e.n else if e.kind = 8 then idB e.n else false
def Ef.bare (e : Ef) : Ef :=
  if e.kind = 1 then ⟨1, e.obj, ⟨#[]⟩, ⟨#[]⟩, e.n, e.limit, false, Mg.zero⟩ else if e.kind = 2 then ⟨2, e.obj, e.key, e.val, 0, 0, false, Mg.zero⟩ else if e.kind = 3 then ⟨3, e.obj, e.key, ⟨#[]⟩, 0, 0, false, Mg.zero⟩
  else if e.kind = 4 then ⟨4, e.obj, ⟨#[]⟩, ⟨#[]⟩, 0, 0, false, e.msg⟩ else if e.kind = 5 then ⟨5, e.obj, ⟨#[]⟩, ⟨#[]⟩, e.n, 0, false, Mg.zero⟩ else if e.kind = 6 then ⟨6, e.obj, ⟨#[]⟩, ⟨#[]⟩, e.n, 0, false, Mg.zero⟩
  else if e.kind = 7 then ⟨7, e.obj, ⟨#[]⟩, ⟨#[]⟩, e.n, 0, e.tried, Mg.zero⟩ else if e.kind = 8 then ⟨8, ⟨#[]⟩, ⟨#[]⟩, ⟨#[]⟩, e.n, 0, false, Mg.zero⟩ else ⟨e.kind, e.obj, ⟨#[]⟩, ⟨#[]⟩, 0, 0, false, Mg.zero⟩
def Mg.same (m k : Mg) : Bool := (m.id == k.id) && ((m.pri == k.pri) && ((m.retry == k.retry) && ((m.claimed == k.claimed) && ((m.corr.toList == k.corr.toList) && (m.body.toList == k.body.toList)))))
def Ef.same (e f : Ef) : Bool := (e.kind == f.kind) && ((e.obj.toList == f.obj.toList) && ((e.key.toList == f.key.toList) && ((e.val.toList == f.val.toList) && ((e.n == f.n) && ((e.limit == f.limit) && ((e.tried == f.tried) && e.msg.same f.msg))))))
def Ef.right (e : Ef) : Bool := e.good && e.same e.bare
def Ef.head (e : Ef) (bs : List UInt8) : List UInt8 := bs ++ encInt e.kind ++ encText e.obj.data.toList ++ encText e.key.data.toList ++ encText e.val.data.toList ++ encInt e.n ++ encInt e.limit ++ encFlag e.tried
def Ef.bytes (e : Ef) : List UInt8 := e.head [] ++ e.msg.bytes
def bytesAll (l : List Ef) : List UInt8 := l.flatMap Ef.bytes
def bytesE (l : List Ef) : List UInt8 := encInt (l.length : Int) ++ bytesAll l
theorem bytesAll_take {l : List Ef} {j : Nat} (h : j < l.length) : bytesAll (l.take (j + 1)) = bytesAll (l.take j) ++ l[j].bytes := by
  rw [List.take_succ_eq_append_getElem h, bytesAll, List.flatMap_append]; simp [bytesAll]
theorem bytesAll_drop {l : List Ef} {j : Nat} (h : j < l.length) : bytesAll (l.drop j) = l[j].bytes ++ bytesAll (l.drop (j + 1)) := by
  unfold bytesAll
  rw [List.drop_eq_getElem_cons h, List.flatMap_cons]
theorem head_len (e : Ef) (bs : List UInt8) (h : e.short) : (e.head bs).length = bs.length + 31 + e.obj.size + e.key.size + e.val.size := by
  obtain ⟨h1, h2, h3, _, _⟩ := h
  have e1 : e.obj.data.toList.length = e.obj.size := rfl
  have e2 : e.key.data.toList.length = e.key.size := rfl
  have e3 : e.val.data.toList.length = e.val.size := rfl
  have t1 : e.obj.data.toList.take 65535 = e.obj.data.toList := List.take_of_length_le (by omega)
  have t2 : e.key.data.toList.take 65535 = e.key.data.toList := List.take_of_length_le (by omega)
  have t3 : e.val.data.toList.take 65535 = e.val.data.toList := List.take_of_length_le (by omega)
  simp only [Ef.head, List.length_append, encInt_len, encFlag_len, encText_len, t1, t2, t3, e1, e2, e3]
  omega
theorem mbytes_len (m : Mg) (hc : m.corr.size ≤ 9000) (hb : m.body.size ≤ 9000) : m.bytes.length = 29 + m.corr.size + m.body.size := by
  have h := m.onto_len [] hc hb
  have h2 : ([] : List UInt8).length = 0 := rfl
  rw [h2, Nat.zero_add] at h
  exact h
theorem ebytes_len (e : Ef) (h : e.short) : e.bytes.length = 60 + e.obj.size + e.key.size + e.val.size + e.msg.corr.size + e.msg.body.size := by
  have h2 := mbytes_len e.msg h.2.2.2.1 h.2.2.2.2
  have h3 := head_len e [] h
  have h4 : ([] : List UInt8).length = 0 := rfl
  rw [Ef.bytes, List.length_append, h2, h3]
  omega
def Rd.efR (r : Rd) : Rd := r.int.2.text.2.text.2.text.2.int.2.int.2.flag.2.msgR
def Rd.efV (r : Rd) : Ef := ⟨r.int.1, ⟨r.int.2.text.1.toArray⟩, ⟨r.int.2.text.2.text.1.toArray⟩, ⟨r.int.2.text.2.text.2.text.1.toArray⟩, r.int.2.text.2.text.2.text.2.int.1, r.int.2.text.2.text.2.text.2.int.2.int.1, r.int.2.text.2.text.2.text.2.int.2.int.2.flag.1, r.int.2.text.2.text.2.text.2.int.2.int.2.flag.2.msg⟩
def Rd.efs (r : Rd) : Nat → List Ef × Rd
  | 0 => ([], r)
  | n + 1 => ((r.efs n).1 ++ [(r.efs n).2.efV], (r.efs n).2.efR)
theorem efs_len (r : Rd) : ∀ n, (r.efs n).1.length = n
  | 0 => rfl
  | n + 1 => by simp [Rd.efs, efs_len r n]
theorem efs_take (r : Rd) (i : Nat) : ∀ n, i ≤ n → (r.efs n).1.take i = (r.efs i).1
  | 0, h => by obtain rfl : i = 0 := by omega
               rfl
  | n + 1, h => by
    rcases Nat.lt_or_ge i (n + 1) with h2 | h2
    · have h3 := efs_len r n
      have h4 : (r.efs (n + 1)).1 = (r.efs n).1 ++ [(r.efs n).2.efV] := rfl
      rw [h4, List.take_append_of_le_length (by omega)]
      exact efs_take r i n (by omega)
    · obtain rfl : i = n + 1 := by omega
      exact List.take_of_length_le (by rw [efs_len]; exact Nat.le_refl _)
theorem efs_wrong (r : Rd) (i n : Nat) (h : i < n) (hw : (r.efs i).2.efV.right = false) : (r.efs n).1.all Ef.right = false := by
  have h1 := efs_take r (i + 1) n h
  rw [← List.take_append_drop (i + 1) (r.efs n).1, h1, List.all_append]
  have h2 : (r.efs (i + 1)).1 = (r.efs i).1 ++ [(r.efs i).2.efV] := rfl
  rw [h2, List.all_append]
  simp [hw]
def readsE (xs : List UInt8) : Option (List Ef) :=
  let r : Rd := ⟨xs, false⟩
  if 0 ≤ r.int.1 ∧ r.int.1 ≤ 10000 then
    if ((r.int.2.efs r.int.1.toNat).1.all Ef.right && (r.int.2.efs r.int.1.toNat).2.done) = true then some (r.int.2.efs r.int.1.toNat).1 else none
  else none
def readL (xs : List UInt8) : List Ef := (readsE xs).getD []
def readN (xs : List UInt8) : Int := if (readsE xs).isSome = true then 0 else 11

def Rd.ext (r : Rd) (z : List UInt8) : Rd := ⟨r.rest ++ z, r.bad⟩
theorem take_sticky (r : Rd) (n : Nat) (h : r.bad = true) : (r.take n).2.bad = true := by unfold Rd.take; simp [h]
theorem int_sticky (r : Rd) (h : r.bad = true) : r.int.2.bad = true := take_sticky r 8 h
theorem text_sticky (r : Rd) (h : r.bad = true) : r.text.2.bad = true := take_sticky _ _ (take_sticky r 2 h)
theorem flag_sticky (r : Rd) (h : r.bad = true) : r.flag.2.bad = true := by
  unfold Rd.flag
  simp only
  split
  · rfl
  · exact take_sticky r 1 h
theorem msg_sticky (r : Rd) (h : r.bad = true) : r.msgR.bad = true := text_sticky _ (text_sticky _ (flag_sticky _ (int_sticky _ (int_sticky _ (int_sticky _ h)))))
theorem ok_of {f : Rd → Rd} (hs : ∀ r : Rd, r.bad = true → (f r).bad = true) {r : Rd} (h : (f r).bad = false) : r.bad = false := by
  cases hb : r.bad
  · rfl
  · rw [hs r hb] at h; cases h
theorem take_ext (r : Rd) (n : Nat) (z : List UInt8) (h : (r.take n).2.bad = false) : (r.ext z).take n = ((r.take n).1, (r.take n).2.ext z) := by
  obtain ⟨l, b⟩ := r
  cases b
  · by_cases hl : l.length < n
    · rw [take_short l n hl] at h; cases h
    · have h2 : ¬ (l ++ z).length < n := by rw [List.length_append]; omega
      unfold Rd.take Rd.ext
      simp only [hl, h2, Bool.false_eq_true, if_false]
      rw [List.take_append_of_le_length (by omega), List.drop_append_of_le_length (by omega)]
  · rw [take_sticky _ _ rfl] at h; cases h
theorem int_ext (r : Rd) (z : List UInt8) (h : r.int.2.bad = false) : (r.ext z).int = (r.int.1, r.int.2.ext z) := by
  unfold Rd.int
  rw [take_ext r 8 z h]
theorem text_ext (r : Rd) (z : List UInt8) (h : r.text.2.bad = false) : (r.ext z).text = (r.text.1, r.text.2.ext z) := by
  have h1 : (r.take 2).2.bad = false := ok_of (fun r h => take_sticky r _ h) h
  unfold Rd.text
  rw [take_ext r 2 z h1, take_ext _ _ z h]
theorem flag_ext (r : Rd) (z : List UInt8) (h : r.flag.2.bad = false) : (r.ext z).flag = (r.flag.1, r.flag.2.ext z) := by
  unfold Rd.flag at *
  simp only at h
  split at h
  · cases h
  · rename_i hn
    rw [take_ext r 1 z h]
    simp only [hn, if_false]
theorem msg_ext (r : Rd) (z : List UInt8) (h : r.msgR.bad = false) : (r.ext z).msgR = r.msgR.ext z ∧ (r.ext z).msgV = r.msgV := by
  unfold Rd.msgR at h
  have h5 := ok_of text_sticky h
  have h4 := ok_of text_sticky h5
  have h3 := ok_of flag_sticky h4
  have h2 := ok_of int_sticky h3
  have h1 := ok_of int_sticky h2
  unfold Rd.msgR Rd.msgV
  rw [int_ext _ z h1, int_ext _ z h2, int_ext _ z h3, flag_ext _ z h4, text_ext _ z h5, text_ext _ z h]
  exact ⟨rfl, rfl⟩
theorem msgM_ext (r : Rd) (z : List UInt8) (h : r.msgR.bad = false) : (r.ext z).msg = r.msg := by
  obtain ⟨h1, h2⟩ := msg_ext r z h
  unfold Rd.msg
  rw [h1, h2]; rfl
theorem ef_front (e : Ef) (hf : e.fits) (hs : e.short) (y : List UInt8) : (⟨e.bytes ++ y, false⟩ : Rd).efR = ⟨y, false⟩ ∧ (⟨e.bytes ++ y, false⟩ : Rd).efV = e := by
  obtain ⟨k, o, ky, v, n, l, t, m⟩ := e
  obtain ⟨⟨h1, h2⟩, ⟨h3, h4⟩, ⟨h5, h6⟩, hm⟩ := hf
  obtain ⟨s1, s2, s3, s4, s5⟩ := hs
  simp only at h1 h2 h3 h4 h5 h6 hm s1 s2 s3 s4 s5
  have e : (⟨k, o, ky, v, n, l, t, m⟩ : Ef).bytes ++ y = encInt k ++ (encText o.data.toList ++ (encText ky.data.toList ++ (encText v.data.toList ++ (encInt n ++ (encInt l ++ (encFlag t ++ (m.bytes ++ y))))))) := by
    simp [Ef.bytes, Ef.head]
  have hmf := msg_front m hm s4 s5 y
  have hmm : (⟨m.bytes ++ y, false⟩ : Rd).msg = m := by unfold Rd.msg; rw [hmf.1, hmf.2]; rfl
  rw [e]
  unfold Rd.efR Rd.efV
  simp only [int_front _ _ h1 h2, int_front _ _ h3 h4, int_front _ _ h5 h6, flag_front, text_whole _ s1, text_whole _ s2, text_whole _ s3, bytes_of_list, hmf.1, hmm, and_self]
theorem efs_front (l : List Ef) (hf : ∀ e ∈ l, e.fits) (hs : ∀ e ∈ l, e.short) (y : List UInt8) : ∀ j, j ≤ l.length → (⟨bytesAll l ++ y, false⟩ : Rd).efs j = (l.take j, ⟨bytesAll (l.drop j) ++ y, false⟩)
  | 0, _ => rfl
  | j + 1, h => by
    have hj : j < l.length := h
    have ih := efs_front l hf hs y j (by omega)
    have hm : l[j] ∈ l := List.getElem_mem hj
    show (((⟨bytesAll l ++ y, false⟩ : Rd).efs j).1 ++ [((⟨bytesAll l ++ y, false⟩ : Rd).efs j).2.efV], ((⟨bytesAll l ++ y, false⟩ : Rd).efs j).2.efR) = _
    rw [ih, bytesAll_drop hj, List.append_assoc]
    obtain ⟨e1, e2⟩ := ef_front l[j] (hf _ hm) (hs _ hm) (bytesAll (l.drop (j + 1)) ++ y)
    rw [e1, e2, List.take_succ_eq_append_getElem hj]
theorem whole_front (l : List Ef) (hf : ∀ e ∈ l, e.fits) (hs : ∀ e ∈ l, e.short) (hn : l.length ≤ 10000) (y : List UInt8) :
    (⟨bytesE l ++ y, false⟩ : Rd).int = ((l.length : Int), ⟨bytesAll l ++ y, false⟩) ∧ (⟨bytesAll l ++ y, false⟩ : Rd).efs (l.length : Int).toNat = (l, ⟨y, false⟩) := by
  refine ⟨?_, ?_⟩
  · rw [bytesE, List.append_assoc, int_front _ _ (by omega) (by omega)]
  · rw [Int.toNat_natCast, efs_front l hf hs y l.length (Nat.le_refl _), List.take_length, List.drop_length]
    rfl
theorem reads_back (l : List Ef) (hf : ∀ e ∈ l, e.fits) (hs : ∀ e ∈ l, e.short) (hn : l.length ≤ 10000) : readsE (bytesE l) = if l.all Ef.right = true then some l else none := by
  obtain ⟨h1, h2⟩ := whole_front l hf hs hn []
  rw [List.append_nil, List.append_nil] at h1
  rw [List.append_nil] at h2
  unfold readsE
  simp only [h1, h2, done_end, Bool.and_true]
  rw [if_pos (by omega)]
theorem reads_none_wrong {xs : List UInt8} {i : Nat} (h : i < (⟨xs, false⟩ : Rd).int.1.toNat) (hw : ((⟨xs, false⟩ : Rd).int.2.efs i).2.efV.right = false) : readsE xs = none := by
  unfold readsE
  simp only [efs_wrong _ _ _ h hw, Bool.false_and, Bool.false_eq_true, if_false, ite_self]
theorem reads_none_out {xs : List UInt8} (h : ¬ (0 ≤ (⟨xs, false⟩ : Rd).int.1 ∧ (⟨xs, false⟩ : Rd).int.1 ≤ 10000)) : readsE xs = none := by
  unfold readsE
  simp only [h, if_false]
theorem reads_end {xs : List UInt8} (h0 : 0 ≤ (⟨xs, false⟩ : Rd).int.1) (h1 : (⟨xs, false⟩ : Rd).int.1 ≤ 10000) :
    readsE xs = if (((⟨xs, false⟩ : Rd).int.2.efs (⟨xs, false⟩ : Rd).int.1.toNat).1.all Ef.right && ((⟨xs, false⟩ : Rd).int.2.efs (⟨xs, false⟩ : Rd).int.1.toNat).2.done) = true then some ((⟨xs, false⟩ : Rd).int.2.efs (⟨xs, false⟩ : Rd).int.1.toNat).1 else none := by
  unfold readsE
  simp only [h0, h1, and_self, if_true]
theorem readL_none {xs : List UInt8} (h : readsE xs = none) : readL xs = [] ∧ readN xs = 11 := by unfold readL readN; rw [h]; exact ⟨rfl, rfl⟩
theorem readL_some {xs : List UInt8} {l : List Ef} (h : readsE xs = some l) : readL xs = l ∧ readN xs = 0 := by unfold readL readN; rw [h]; exact ⟨rfl, rfl⟩
end Go.Proofs.YtjfoflbaoceemaaGreat
namespace Go.Proofs.YtjfoflbaoceemaaGreat
open Go.RowKit
theorem retBr {a b : Bool} (h : a = b) : Ending.returned (.bool a) = .returned (.bool b) := by rw [h]
theorem size_toList (a : ByteArray) : a.size = a.toList.length := by rw [Lib.toList_data]; simp
def rightR (r : Rw) : Bool := decide (1 ≤ r.1.size) && decide (r.1.size ≤ 40) && decide (r.2.size ≤ 100)
theorem right_row (r : Rw) (w : World) : Calls Tryz.prog 193 #[.agg #[.string r.1, .string r.2]] w fun e w' => e = .returned (.bool (rightR r)) ∧ Below w.heap.size w w' := by
  obtain ⟨k, v⟩ := r
  go_enter Tryz.func193, Tryz.ntmps193
  go_wp2
  · rename_i h
    go_ret
    exact ⟨retBr (by simp [rightR, size_toList, h]), alloc_below _ _⟩
  · rename_i h1 h2
    go_ret
    refine ⟨retBr ?_, alloc_below _ _⟩
    have h3 : 1 ≤ k.size := by rcases Nat.eq_zero_or_pos k.size with h0 | h0; exact absurd (List.eq_nil_of_length_eq_zero (by rw [← size_toList]; exact h0)) h1; exact h0
    have h4 : k.toList.isEmpty = false := by simpa using h1
    have h5 : k.size ≤ 40 := by omega
    have h6 : decide ((v.size : Int) ≤ 100) = decide (v.size ≤ 100) := decide_eq_decide.2 (by omega)
    rw [rightR, decide_eq_true h3, decide_eq_true h5, h4, h6]; rfl
  · rename_i h1 h2
    go_ret
    have h5 : ¬ k.size ≤ 40 := by omega
    exact ⟨retBr (by simp [rightR, h5]), alloc_below _ _⟩
end Go.Proofs.YtjfoflbaoceemaaGreat
namespace Go.Proofs.YtjfoflbaoceemaaGreat
structure St where
  next : Int
  objs : List Ob
def St.zero : St := ⟨0, []⟩
def isN (n : ByteArray) (o : Ob) : Bool := o.name.toList == n.toList
def kindE (k : Int) : Int := if k = 2 then 1 else if k = 3 then 1 else 2
def hasS (l : List Ob) (id : Int) : Bool := l.any fun o => !(whereO o id == 0)
def withinO (next : Int) (l : List Ob) (o : Ob) (e : Ef) : Int × Ob :=
  if e.kind = 2 then (0, { o with rows := putR o.rows (e.key, e.val) })
  else if e.kind = 3 then (if foundR o.rows e.key = true then (0, { o with rows := cutRw o.rows e.key }) else (7, o))
  else if e.kind = 4 then (if next ≤ e.msg.id ∨ e.msg.claimed = true then (1, o) else if hasS l e.msg.id = true then (4, o) else (0, { o with msgs := addM o.msgs e.msg }))
  else if e.kind = 5 then (if hasM o.msgs e.n = true then (0, { o with msgs := cutM o.msgs e.n }) else (7, o))
  else if e.kind = 6 then (if hasM o.msgs e.n = true then (if canM o.msgs e.n true = true then (0, { o with msgs := claimM o.msgs e.n true }) else (2, o)) else (7, o))
  else if e.kind = 7 then (if freeOk o e.n = true then (0, freeO o e.n e.tried) else (7, o))
  else (0, o)
def spotO (l : List Ob) (n : ByteArray) : Nat := l.findIdx fun o => decide (0 ≤ cmpS o.name n)
def makeO (l : List Ob) (e : Ef) : Int × List Ob :=
  if l.any (isN e.obj) = true then (4, l) else if 20 ≤ l.length then (6, l)
  else (0, l.take (spotO l e.obj) ++ ⟨e.obj, e.n, e.limit, [], [], []⟩ :: l.drop (spotO l e.obj))
def oneS (s : St) (e : Ef) : Int × St :=
  if e.right = false then (1, s)
  else if e.kind = 1 then ((makeO s.objs e).1, { s with objs := (makeO s.objs e).2 })
  else if e.kind = 8 then (if e.n < s.next then (1, s) else (0, { s with next := e.n }))
  else match s.objs[s.objs.findIdx (isN e.obj)]? with
    | none => (3, s)
    | some o => if o.kind = kindE e.kind then ((withinO s.next s.objs o e).1, { s with objs := s.objs.set (s.objs.findIdx (isN e.obj)) (withinO s.next s.objs o e).2 }) else (5, s)
def runS (s : St) : List Ef → Int × St
  | [] => (0, s)
  | e :: l => if (oneS s e).1 = 0 then runS (oneS s e).2 l else ((oneS s e).1, St.zero)
def Ob.right (o : Ob) : Bool := (nameB o.name && kindB o.kind o.limit) && (if o.kind = 1 then risesR o.rows && (o.rows.all rightR && decide (o.msgs.length + o.dead.length = 0))
  else decide (o.rows.length = 0) && (risesM o.msgs && (o.msgs.all Mg.right && (o.dead.all Mg.right && o.dead.all freeM))))
def idsL (l : List Mg) : List Int := l.map (·.id)
def freshAt (ms : List Int) (l : List Mg) (n : Int) (i : Nat) : Bool := match l[i]? with
  | some m => !decide (m.id ∈ ms ++ idsL (l.take i)) && decide (m.id < n)
  | none => true
def freshB (ms : List Int) (l : List Mg) (n : Int) : Bool := (List.range l.length).all (freshAt ms l n)
def idsTo (l : List Ob) (i : Nat) : List Int := (l.take i).flatMap fun o => idsL o.msgs ++ idsL o.dead
def okAt (s : St) (i : Nat) : Bool := match s.objs[i]? with
  | some o => (i == 0 || match s.objs[i - 1]? with | some p => decide (cmpS p.name o.name < 0) | none => true) && (o.right && (freshB (idsTo s.objs i) o.msgs s.next && freshB (idsTo s.objs i ++ idsL o.msgs) o.dead s.next))
  | none => true
def rightS (s : St) : Bool := (decide (1 ≤ s.next) && (decide (s.next ≤ 1099511627776) && decide (s.objs.length ≤ 20))) && (List.range s.objs.length).all (okAt s)
def applyS (s : St) (l : List Ef) : Int × St := if rightS s = true then runS s l else (1, St.zero)
end Go.Proofs.YtjfoflbaoceemaaGreat
