/- . . . -/
import Derived.Test.YtjfoflbaoceemaaGreatJ35
import Derived.Test.YtjfoflbaoceemaaGreatJ14
set_option maxRecDepth 4000
namespace Go.Proofs.YtjfoflbaoceemaaGreat
def manyR (s : Rd → Rd) (r : Rd) : Nat → Rd
  | 0 => r
  | n + 1 => s (manyR s r n)
def manyL {α : Type} (v : Rd → α) (s : Rd → Rd) (r : Rd) : Nat → List α
  | 0 => []
  | n + 1 => manyL v s r n ++ [v (manyR s r n)]
def cntR (s : Rd → Rd) (r : Rd) : Rd := if r.int.1 < 0 then ⟨r.int.2.rest, true⟩ else manyR s r.int.2 r.int.1.toNat
def cntL {α : Type} (v : Rd → α) (s : Rd → Rd) (r : Rd) : List α := if r.int.1 < 0 then [] else manyL v s r.int.2 r.int.1.toNat
def rowR (r : Rd) : Rd := r.text.2.text.2
def rowV (r : Rd) : Rw := (⟨r.text.1.toArray⟩, ⟨r.text.2.text.1.toArray⟩)
def headR (r : Rd) : Rd := r.text.2.int.2.int.2
def rowsR (r : Rd) : Rd := cntR rowR (headR r)
def msgsR (r : Rd) : Rd := cntR Rd.msgR (rowsR r)
def deadR (r : Rd) : Rd := cntR Rd.msgR (msgsR r)
def obV (r : Rd) : Ob := ⟨⟨r.text.1.toArray⟩, r.text.2.int.1, r.text.2.int.2.int.1, cntL rowV rowR (headR r), cntL Rd.msg Rd.msgR (rowsR r), cntL Rd.msg Rd.msgR (msgsR r)⟩
def objsR (r : Rd) : Rd := cntR deadR r.int.2
def objsV (r : Rd) : List Ob := cntL obV deadR r.int.2
def readI (xs : List UInt8) : Option (Int × List Ob) :=
  if ((objsR ⟨xs, false⟩).done && rightS ⟨(⟨xs, false⟩ : Rd).int.1, objsV ⟨xs, false⟩⟩) = true then some ((⟨xs, false⟩ : Rd).int.1, objsV ⟨xs, false⟩) else none
structure RdLaw {α : Type} (v : Rd → α) (s : Rd → Rd) : Prop where
  sticky : ∀ r : Rd, r.bad = true → (s r).bad = true
  ext : ∀ (r : Rd) (z : List UInt8), (s r).bad = false → s (r.ext z) = (s r).ext z ∧ v (r.ext z) = v r
section
variable {α : Type} {v : Rd → α} {s : Rd → Rd}
theorem RdLaw.ok (h : RdLaw v s) {r : Rd} (hb : (s r).bad = false) : r.bad = false := by
  cases e : r.bad
  · rfl
  · rw [h.sticky r e] at hb; cases hb
theorem RdLaw.manyS (h : RdLaw v s) (r : Rd) (i : Nat) (hb : (manyR s r i).bad = true) : ∀ n, i ≤ n → (manyR s r n).bad = true
  | 0, hn => by obtain rfl : i = 0 := by omega
                exact hb
  | n + 1, hn => by
    rcases Nat.lt_or_ge i (n + 1) with h2 | h2
    · exact h.sticky _ (h.manyS r i hb n (by omega))
    · obtain rfl : i = n + 1 := by omega
      exact hb
theorem RdLaw.many0 (h : RdLaw v s) (r : Rd) (hb : r.bad = true) (n : Nat) : (manyR s r n).bad = true := h.manyS r 0 hb n (Nat.zero_le _)
theorem RdLaw.manyE (h : RdLaw v s) (r : Rd) (z : List UInt8) : ∀ n, (manyR s r n).bad = false → manyR s (r.ext z) n = (manyR s r n).ext z ∧ manyL v s (r.ext z) n = manyL v s r n
  | 0, _ => ⟨rfl, rfl⟩
  | n + 1, hb => by
    have h' : (s (manyR s r n)).bad = false := hb
    obtain ⟨i1, i2⟩ := h.manyE r z n (h.ok h')
    obtain ⟨e1, e2⟩ := h.ext _ z h'
    rw [manyR, manyL, manyR, manyL, i1, i2, e1, e2]
    exact ⟨rfl, rfl⟩
theorem cnt_neg {r : Rd} (h : r.int.1 < 0) : (cntR s r).bad = true := by unfold cntR; rw [if_pos h]
theorem cntR_of {r : Rd} (h : ¬ r.int.1 < 0) : cntR s r = manyR s r.int.2 r.int.1.toNat := by unfold cntR; rw [if_neg h]
theorem cntL_of {r : Rd} (h : ¬ r.int.1 < 0) : cntL v s r = manyL v s r.int.2 r.int.1.toNat := by unfold cntL; rw [if_neg h]
theorem RdLaw.cnt (h : RdLaw v s) : RdLaw (cntL v s) (cntR s) := by
  refine ⟨fun r hb => ?_, fun r z hb => ?_⟩
  · by_cases hn : r.int.1 < 0
    · exact cnt_neg hn
    · rw [cntR_of hn]
      exact h.many0 r.int.2 (int_sticky r hb) _
  · by_cases hn : r.int.1 < 0
    · rw [cnt_neg hn] at hb; cases hb
    · rw [cntR_of hn] at hb ⊢
      rw [cntL_of hn]
      have hi : r.int.2.bad = false := by
        cases e : r.int.2.bad
        · rfl
        · rw [h.many0 r.int.2 e _] at hb; cases hb
      have he := int_ext r z hi
      have hn2 : ¬ (r.ext z).int.1 < 0 := by rw [he]; exact hn
      rw [cntR_of hn2, cntL_of hn2, he]
      exact h.manyE r.int.2 z r.int.1.toNat hb
end
theorem row_law : RdLaw rowV rowR := by
  refine ⟨fun r hb => text_sticky r.text.2 (text_sticky r hb), fun r z hb => ?_⟩
  unfold rowR rowV at *
  have h1 : r.text.2.bad = false := ok_of (r := r.text.2) text_sticky hb
  rw [text_ext r z h1]
  dsimp only
  rw [text_ext _ z hb]
  exact ⟨rfl, rfl⟩
theorem msg_law : RdLaw Rd.msg Rd.msgR := ⟨fun r hb => msg_sticky r hb, fun r z hb => ⟨(msg_ext r z hb).1, msgM_ext r z hb⟩⟩
theorem headR_sticky (r : Rd) (h : r.bad = true) : (headR r).bad = true := int_sticky r.text.2.int.2 (int_sticky r.text.2 (text_sticky r h))
theorem rowsR_sticky (r : Rd) (h : (headR r).bad = true) : (rowsR r).bad = true := by unfold rowsR; exact row_law.cnt.sticky (headR r) h
theorem msgsR_sticky (r : Rd) (h : (rowsR r).bad = true) : (msgsR r).bad = true := by unfold msgsR; exact msg_law.cnt.sticky (rowsR r) h
theorem deadR_sticky (r : Rd) (h : (msgsR r).bad = true) : (deadR r).bad = true := by unfold deadR; exact msg_law.cnt.sticky (msgsR r) h
theorem rows_ok {r : Rd} (h : (rowsR r).bad = false) : (headR r).bad = false := by unfold rowsR at h; exact row_law.cnt.ok h
theorem msgs_ok {r : Rd} (h : (msgsR r).bad = false) : (rowsR r).bad = false := by unfold msgsR at h; exact msg_law.cnt.ok h
theorem dead_ok {r : Rd} (h : (deadR r).bad = false) : (msgsR r).bad = false := by unfold deadR at h; exact msg_law.cnt.ok h
theorem headR_ext (r : Rd) (z : List UInt8) (h : (headR r).bad = false) : headR (r.ext z) = (headR r).ext z ∧ (r.ext z).text.1 = r.text.1 ∧ (r.ext z).text.2.int.1 = r.text.2.int.1 ∧ (r.ext z).text.2.int.2.int.1 = r.text.2.int.2.int.1 := by
  unfold headR at h ⊢
  have a2 : r.text.2.int.2.bad = false := ok_of (r := r.text.2.int.2) int_sticky h
  have a1 : r.text.2.bad = false := ok_of (r := r.text.2) int_sticky a2
  rw [text_ext r z a1]
  dsimp only
  rw [int_ext _ z a2]
  dsimp only
  rw [int_ext _ z h]
  exact ⟨rfl, rfl, rfl, rfl⟩
theorem rows_ext (r : Rd) (z : List UInt8) (h : (rowsR r).bad = false) : rowsR (r.ext z) = (rowsR r).ext z ∧ cntL rowV rowR (headR (r.ext z)) = cntL rowV rowR (headR r) := by
  have eh := (headR_ext r z (rows_ok h)).1
  unfold rowsR at h ⊢
  rw [eh]
  exact row_law.cnt.ext (headR r) z h
theorem msgs_ext (r : Rd) (z : List UInt8) (h : (msgsR r).bad = false) : msgsR (r.ext z) = (msgsR r).ext z ∧ cntL Rd.msg Rd.msgR (rowsR (r.ext z)) = cntL Rd.msg Rd.msgR (rowsR r) := by
  have eh := (rows_ext r z (msgs_ok h)).1
  unfold msgsR at h ⊢
  rw [eh]
  exact msg_law.cnt.ext (rowsR r) z h
theorem dead_ext (r : Rd) (z : List UInt8) (h : (deadR r).bad = false) : deadR (r.ext z) = (deadR r).ext z ∧ cntL Rd.msg Rd.msgR (msgsR (r.ext z)) = cntL Rd.msg Rd.msgR (msgsR r) := by
  have eh := (msgs_ext r z (dead_ok h)).1
  unfold deadR at h ⊢
  rw [eh]
  exact msg_law.cnt.ext (msgsR r) z h
theorem ob_law : RdLaw obV deadR := by
  refine ⟨fun r hb => deadR_sticky r (msgsR_sticky r (rowsR_sticky r (headR_sticky r hb))), fun r z h4 => ?_⟩
  have h3 := dead_ok h4
  have h2 := msgs_ok h3
  obtain ⟨_, t1, t2, t3⟩ := headR_ext r z (rows_ok h2)
  have er := (rows_ext r z h2).2
  have em := (msgs_ext r z h3).2
  obtain ⟨edr, ed⟩ := dead_ext r z h4
  unfold obV
  rw [er, em, ed, edr, t1, t2, t3]
  exact ⟨rfl, rfl⟩
def Front {α : Type} (v : Rd → α) (s : Rd → Rd) (enc : α → List UInt8) (P : α → Prop) : Prop := ∀ x, P x → ∀ y, s ⟨enc x ++ y, false⟩ = ⟨y, false⟩ ∧ v ⟨enc x ++ y, false⟩ = x
theorem Front.mny {α : Type} {v : Rd → α} {s : Rd → Rd} {enc : α → List UInt8} {P : α → Prop} (h : Front v s enc P) (l : List α) (hl : ∀ x ∈ l, P x) (y : List UInt8) : ∀ j, j ≤ l.length → manyR s ⟨l.flatMap enc ++ y, false⟩ j = ⟨(l.drop j).flatMap enc ++ y, false⟩ ∧ manyL v s ⟨l.flatMap enc ++ y, false⟩ j = l.take j
  | 0, _ => ⟨rfl, rfl⟩
  | j + 1, hj => by
    have hj : j < l.length := hj
    obtain ⟨i1, i2⟩ := h.mny l hl y j (by omega)
    have e := h _ (hl _ (List.getElem_mem hj)) ((l.drop (j + 1)).flatMap enc ++ y)
    rw [manyR, manyL, i1, i2, flat_drop enc hj, List.append_assoc, e.1, e.2, List.take_succ_eq_append_getElem hj]
    exact ⟨rfl, rfl⟩
theorem Front.cnt {α : Type} {v : Rd → α} {s : Rd → Rd} {enc : α → List UInt8} {P : α → Prop} (h : Front v s enc P) (l : List α) (hl : ∀ x ∈ l, P x) (hn : l.length ≤ 1000000) (y : List UInt8) : cntR s ⟨encInt (l.length : Int) ++ (l.flatMap enc ++ y), false⟩ = ⟨y, false⟩ ∧ cntL v s ⟨encInt (l.length : Int) ++ (l.flatMap enc ++ y), false⟩ = l := by
  have e := int_front (l.length : Int) (l.flatMap enc ++ y) (by omega) (by omega)
  obtain ⟨e1, e2⟩ := h.mny l hl y l.length (Nat.le_refl _)
  generalize encInt (l.length : Int) ++ (l.flatMap enc ++ y) = xs at *
  have hn2 : ¬ (⟨xs, false⟩ : Rd).int.1 < 0 := by rw [e]; show ¬ (l.length : Int) < 0; omega
  rw [cntR_of hn2, cntL_of hn2, e]
  dsimp only
  rw [Int.toNat_natCast, e1, e2, List.take_length, List.drop_length]
  exact ⟨rfl, rfl⟩
theorem row_front : Front rowV rowR rowB fun r => r.1.size ≤ 9000 ∧ r.2.size ≤ 9000 := fun r hr y => by
  unfold rowV rowR rowB
  rw [List.append_assoc, text_whole _ hr.1]
  dsimp only
  rw [text_whole _ hr.2]
  dsimp only
  rw [bytes_of_list, bytes_of_list]
  exact ⟨rfl, rfl⟩
theorem msg_frontF : Front Rd.msg Rd.msgR Mg.bytes fun m => m.fits ∧ m.corr.size ≤ 9000 ∧ m.body.size ≤ 9000 := fun m hm y => by
  obtain ⟨e1, e2⟩ := msg_front m hm.1 hm.2.1 hm.2.2 y
  refine ⟨e1, ?_⟩
  unfold Rd.msg
  rw [e1, e2]; rfl
structure ObW (o : Ob) : Prop where
  name : o.name.size ≤ 9000
  kind : -9223372036854775808 ≤ o.kind ∧ o.kind ≤ 9223372036854775807
  limit : -9223372036854775808 ≤ o.limit ∧ o.limit ≤ 9223372036854775807
  rows : ∀ r ∈ o.rows, r.1.size ≤ 9000 ∧ r.2.size ≤ 9000
  msgs : ∀ m ∈ o.msgs, m.fits ∧ m.corr.size ≤ 9000 ∧ m.body.size ≤ 9000
  dead : ∀ m ∈ o.dead, m.fits ∧ m.corr.size ≤ 9000 ∧ m.body.size ≤ 9000
  short : o.short 1000000
theorem ob_front : Front obV deadR obB ObW := fun o ho y => by
  have e0 : obB o ++ y = encText o.name.data.toList ++ (encInt o.kind ++ (encInt o.limit ++ (encInt (o.rows.length : Int) ++ (o.rows.flatMap rowB ++ (encInt (o.msgs.length : Int) ++ (o.msgs.flatMap Mg.bytes ++ (encInt (o.dead.length : Int) ++ (o.dead.flatMap Mg.bytes ++ y)))))))) := by
    simp [obB, rowsB, msgsB]
  rw [e0]
  have t1 := text_whole o.name ho.name (encInt o.kind ++ (encInt o.limit ++ (encInt (o.rows.length : Int) ++ (o.rows.flatMap rowB ++ (encInt (o.msgs.length : Int) ++ (o.msgs.flatMap Mg.bytes ++ (encInt (o.dead.length : Int) ++ (o.dead.flatMap Mg.bytes ++ y))))))))
  have t2 := int_front o.kind (encInt o.limit ++ (encInt (o.rows.length : Int) ++ (o.rows.flatMap rowB ++ (encInt (o.msgs.length : Int) ++ (o.msgs.flatMap Mg.bytes ++ (encInt (o.dead.length : Int) ++ (o.dead.flatMap Mg.bytes ++ y))))))) ho.kind.1 ho.kind.2
  have t3 := int_front o.limit (encInt (o.rows.length : Int) ++ (o.rows.flatMap rowB ++ (encInt (o.msgs.length : Int) ++ (o.msgs.flatMap Mg.bytes ++ (encInt (o.dead.length : Int) ++ (o.dead.flatMap Mg.bytes ++ y)))))) ho.limit.1 ho.limit.2
  have t4 := row_front.cnt o.rows ho.rows ho.short.1 (encInt (o.msgs.length : Int) ++ (o.msgs.flatMap Mg.bytes ++ (encInt (o.dead.length : Int) ++ (o.dead.flatMap Mg.bytes ++ y))))
  have t5 := msg_frontF.cnt o.msgs ho.msgs ho.short.2.1 (encInt (o.dead.length : Int) ++ (o.dead.flatMap Mg.bytes ++ y))
  have t6 := msg_frontF.cnt o.dead ho.dead ho.short.2.2 y
  generalize encText o.name.data.toList ++ (encInt o.kind ++ (encInt o.limit ++ (encInt (o.rows.length : Int) ++ (o.rows.flatMap rowB ++ (encInt (o.msgs.length : Int) ++ (o.msgs.flatMap Mg.bytes ++ (encInt (o.dead.length : Int) ++ (o.dead.flatMap Mg.bytes ++ y)))))))) = xs at *
  have eh : headR ⟨xs, false⟩ = ⟨encInt (o.rows.length : Int) ++ (o.rows.flatMap rowB ++ (encInt (o.msgs.length : Int) ++ (o.msgs.flatMap Mg.bytes ++ (encInt (o.dead.length : Int) ++ (o.dead.flatMap Mg.bytes ++ y))))), false⟩ := by
    unfold headR
    rw [t1]
    dsimp only
    rw [t2]
    dsimp only
    rw [t3]
  have er : rowsR ⟨xs, false⟩ = ⟨encInt (o.msgs.length : Int) ++ (o.msgs.flatMap Mg.bytes ++ (encInt (o.dead.length : Int) ++ (o.dead.flatMap Mg.bytes ++ y))), false⟩ := by
    unfold rowsR
    rw [eh, t4.1]
  have em : msgsR ⟨xs, false⟩ = ⟨encInt (o.dead.length : Int) ++ (o.dead.flatMap Mg.bytes ++ y), false⟩ := by
    unfold msgsR
    rw [er, t5.1]
  have ed : deadR ⟨xs, false⟩ = ⟨y, false⟩ := by
    unfold deadR
    rw [em, t6.1]
  refine ⟨ed, ?_⟩
  unfold obV
  rw [eh, er, em, t4.2, t5.2, t6.2, t1]
  dsimp only
  rw [t2]
  dsimp only
  rw [t3]
theorem img_front {next : Int} {l : List Ob} (h1 : -9223372036854775808 ≤ next) (h2 : next ≤ 9223372036854775807) (hl : ∀ o ∈ l, ObW o) (hn : l.length ≤ 1000000) (y : List UInt8) : objsR ⟨imageB next l ++ y, false⟩ = ⟨y, false⟩ ∧ objsV ⟨imageB next l ++ y, false⟩ = l ∧ (⟨imageB next l ++ y, false⟩ : Rd).int.1 = next := by
  have e0 : imageB next l ++ y = encInt next ++ (encInt (l.length : Int) ++ (l.flatMap obB ++ y)) := by simp [imageB, obsB]
  rw [e0]
  have t1 := int_front next (encInt (l.length : Int) ++ (l.flatMap obB ++ y)) h1 h2
  have t2 := ob_front.cnt l hl hn y
  generalize encInt next ++ (encInt (l.length : Int) ++ (l.flatMap obB ++ y)) = xs at *
  unfold objsR objsV
  rw [t1]
  dsimp only
  rw [t2.1, t2.2]
  exact ⟨rfl, rfl, rfl⟩
theorem OkD.w {next : Int} {l : List Ob} {o : Ob} (h : OkD next l o) (hf : o.fits) (hs : o.short 1000000) : ObW o := by
  obtain ⟨z1, z2, z3, z4⟩ := h.sizes
  have hk := h.kind
  have hkk : o.kind = 1 ∨ o.kind = 2 := by
    by_cases h1 : o.kind = 1
    · exact .inl h1
    · exact .inr (kind_two hk h1)
  have hl : 0 ≤ o.limit ∧ o.limit ≤ 1000 := by
    unfold kindB at hk
    rcases hkk with h1 | h1 <;> rw [h1] at hk <;> simp at hk <;> omega
  refine ⟨by omega, by omega, by omega, fun r hr => ?_, fun m hm => ?_, fun m hm => ?_, hs⟩
  · have := z2 r hr; omega
  · have := z3 m hm; exact ⟨hf.1 m hm, by omega, by omega⟩
  · have := z4 m hm; exact ⟨hf.2 m hm, by omega, by omega⟩
structure ImgOk (next : Int) (l : List Ob) : Prop where
  right : RightD next l
  fits : ∀ o ∈ l, o.fits
  short : ∀ o ∈ l, o.short 1000000
theorem ImgOk.front {next : Int} {l : List Ob} (h : ImgOk next l) (y : List UInt8) : objsR ⟨imageB next l ++ y, false⟩ = ⟨y, false⟩ ∧ objsV ⟨imageB next l ++ y, false⟩ = l ∧ (⟨imageB next l ++ y, false⟩ : Rd).int.1 = next := by
  have h1 := h.right.low
  have h2 := h.right.high
  have h3 := h.right.len
  exact img_front (by omega) (by omega) (fun o ho => by
    obtain ⟨i, hi, rfl⟩ := List.getElem_of_mem ho
    exact (h.right.ok i hi).w (h.fits _ (List.getElem_mem hi)) (h.short _ (List.getElem_mem hi))) (by omega) y
theorem ImgOk.back {next : Int} {l : List Ob} (h : ImgOk next l) : readI (imageB next l) = some (next, l) := by
  obtain ⟨e1, e2, e3⟩ := h.front []
  rw [List.append_nil] at e1 e2 e3
  unfold readI
  rw [e1, e2, e3, done_end, h.right.right]
  rfl
end Go.Proofs.YtjfoflbaoceemaaGreat
namespace Go.Proofs.YtjfoflbaoceemaaGreat
open Go
def Up (l : List Rw) : Prop := l.Pairwise fun x y => cmpS x.1 y.1 < 0
theorem cmpS_lt_trans {a b c : ByteArray} (h1 : cmpS a b < 0) (h2 : cmpS b c < 0) : cmpS a c < 0 := by
  have h3 := cmpS_trans a b c (by omega) (by omega)
  rcases Int.lt_or_eq_of_le h3 with h | h
  · exact h
  · have e := (cmpS_eq a c).1 h
    have e2 : cmpS b c = - cmpS a b := by
      have := cmpS_turn a b
      have e4 : cmpS b c = cmpS b a := by unfold cmpS; rw [e]
      omega
    omega
theorem cmpS_le_lt {a b c : ByteArray} (h1 : cmpS a b ≤ 0) (h2 : cmpS b c < 0) : cmpS a c < 0 := by
  rcases Int.lt_or_eq_of_le h1 with h | h
  · exact cmpS_lt_trans h h2
  · have e := (cmpS_eq a b).1 h
    have : cmpS a c = cmpS b c := by unfold cmpS; rw [e]
    omega
theorem find_behind {m b : List Rw} {k : ByteArray} (hb : ∀ x ∈ b, 0 < cmpS x.1 k) : findR (m ++ b) k = findR m k ∧ foundR (m ++ b) k = foundR m k := by
  induction m with
  | nil =>
    cases b with
    | nil => exact ⟨rfl, rfl⟩
    | cons x r =>
      have hx := hb x (List.mem_cons_self ..)
      refine ⟨?_, ?_⟩
      · show (if 0 ≤ cmpS x.1 k then 0 else findR r k + 1) = 0
        rw [if_pos (by omega)]
      · show (if 0 ≤ cmpS x.1 k then decide (cmpS x.1 k = 0) else foundR r k) = false
        rw [if_pos (by omega)]
        exact decide_eq_false (by omega)
  | cons x r ih =>
    rw [List.cons_append, findR, foundR, ih.1, ih.2, findR, foundR]
    exact ⟨rfl, rfl⟩
theorem take_find (l : List Rw) (k : ByteArray) : ∀ x ∈ l.take (findR l k), cmpS x.1 k < 0 := by
  induction l with
  | nil => intro x hx; simp at hx
  | cons y r ih =>
    rw [findR]
    split
    · intro x hx; simp at hx
    · rename_i hn
      intro x hx
      rw [List.take_succ_cons] at hx
      rcases List.mem_cons.1 hx with rfl | hx
      · omega
      · exact ih x hx
theorem Up.tail {x : Rw} {r : List Rw} (h : Up (x :: r)) : Up r := (List.pairwise_cons.1 h).2
theorem Up.head {x : Rw} {r : List Rw} (h : Up (x :: r)) : ∀ y ∈ r, cmpS x.1 y.1 < 0 := (List.pairwise_cons.1 h).1
theorem turn_lt {a b : ByteArray} (h : cmpS a b < 0) : 0 < cmpS b a := by have := cmpS_turn a b; omega
theorem turn_gt {a b : ByteArray} (h : 0 < cmpS a b) : cmpS b a < 0 := by have := cmpS_turn a b; omega
theorem drop_find {l : List Rw} (h : Up l) (k : ByteArray) : ∀ x ∈ l.drop (behR l k), 0 < cmpS x.1 k := by
  induction l with
  | nil => intro x hx; simp at hx
  | cons y r ih =>
    have hh := h.head
    by_cases hp : 0 ≤ cmpS y.1 k
    · have hf : findR (y :: r) k = 0 := by rw [findR, if_pos hp]
      by_cases hz : cmpS y.1 k = 0
      · have hb : behR (y :: r) k = 1 := by unfold behR; rw [hf, foundR, if_pos hp, if_pos (decide_eq_true hz)]
        rw [hb]
        intro x hx
        have h1 := hh x (by simpa using hx)
        have e := cmpS_le_lt (a := k) (b := y.1) (c := x.1) (by have := cmpS_turn y.1 k; omega) h1
        exact turn_lt e
      · have hb : behR (y :: r) k = 0 := by unfold behR; rw [hf, foundR, if_pos hp, if_neg (by simp [hz])]
        rw [hb]
        intro x hx
        rcases List.mem_cons.1 hx with rfl | hx
        · omega
        · exact turn_lt (cmpS_lt_trans (turn_gt (by omega)) (hh x hx))
    · have hb : behR (y :: r) k = behR r k + 1 := by
        unfold behR; rw [findR, foundR, if_neg hp, if_neg hp]; split <;> rfl
      rw [hb, List.drop_succ_cons]
      exact ih h.tail
theorem Up.take {l : List Rw} (h : Up l) (q : Nat) : Up (l.take q) := List.Pairwise.sublist (List.take_sublist q l) h
theorem Up.drop {l : List Rw} (h : Up l) (q : Nat) : Up (l.drop q) := List.Pairwise.sublist (List.drop_sublist q l) h
theorem Up.put {l : List Rw} (h : Up l) (r : Rw) : Up (putR l r) := by
  have h1 := take_find l r.1
  have h2 := drop_find h r.1
  unfold putR Up
  rw [List.pairwise_append, List.pairwise_cons]
  refine ⟨h.take _, ⟨fun y hy => turn_gt (h2 y hy), h.drop _⟩, fun x hx y hy => ?_⟩
  rcases List.mem_cons.1 hy with rfl | hy
  · exact h1 x hx
  · exact cmpS_lt_trans (h1 x hx) (turn_gt (h2 y hy))
theorem cut_sub (l : List Rw) (k : ByteArray) : (cutRw l k).Sublist l := by
  unfold cutRw
  split
  · conv => rhs; rw [← List.take_append_drop (findR l k) l]
    exact List.Sublist.append (List.Sublist.refl _) (List.drop_sublist_drop_left l (by omega))
  · exact List.Sublist.refl _
theorem Up.cut {l : List Rw} (h : Up l) (k : ByteArray) : Up (cutRw l k) := List.Pairwise.sublist (cut_sub l k) h
theorem up_rises : ∀ {l : List Rw}, Up l → risesR l = true
  | [], _ => rfl
  | [_], _ => rfl
  | x :: y :: r, h => by
    rw [risesR, decide_eq_true (h.head y (List.mem_cons_self ..)), up_rises h.tail]; rfl
theorem split_find (l : List Rw) (k : ByteArray) : l = l.take (findR l k) ++ (l.take (behR l k)).drop (findR l k) ++ l.drop (behR l k) := by
  have hb : findR l k ≤ behR l k := by unfold behR; split <;> omega
  conv => lhs; rw [← List.take_append_drop (behR l k) l]
  congr 1
  conv => lhs; rw [← List.take_append_drop (findR l k) (l.take (behR l k)), List.take_take, Nat.min_eq_left hb]
theorem row_found_at {l : List Rw} {k : ByteArray} (h : foundR l k = true) : ∃ x, l[findR l k]? = some x ∧ cmpS x.1 k = 0 := by
  induction l with
  | nil => cases h
  | cons y r ih =>
    rw [foundR] at h
    rw [findR]
    split at h
    · rename_i hp; rw [if_pos hp]; exact ⟨y, rfl, of_decide_eq_true h⟩
    · rename_i hp; rw [if_neg hp]; exact ih h
theorem mid_find {l : List Rw} (k : ByteArray) : ∀ x ∈ (l.take (behR l k)).drop (findR l k), cmpS x.1 k = 0 := by
  intro x hx
  unfold behR at hx
  split at hx
  · rename_i hf
    obtain ⟨y, hy, hz⟩ := row_found_at hf
    rw [List.take_succ_eq_append_getElem (List.getElem?_eq_some_iff.1 hy).1, (List.getElem?_eq_some_iff.1 hy).2, List.drop_append_of_le_length (by rw [List.length_take]; have := foundR_lt hf; omega), List.drop_eq_nil_of_le (by rw [List.length_take]; omega)] at hx
    simp at hx
    rw [hx]; exact hz
  · rw [List.drop_eq_nil_of_le (by rw [List.length_take]; omega)] at hx
    cases hx
theorem mem_split {l : List Rw} (h : Up l) (k : ByteArray) (x : Rw) : (x ∈ l.take (findR l k) ∨ x ∈ l.drop (behR l k)) ↔ (x ∈ l ∧ cmpS x.1 k ≠ 0) := by
  constructor
  · rintro (hx | hx)
    · exact ⟨List.mem_of_mem_take hx, by have := take_find l k x hx; omega⟩
    · exact ⟨List.mem_of_mem_drop hx, by have := drop_find h k x hx; omega⟩
  · rintro ⟨hx, hz⟩
    rw [split_find l k] at hx
    rcases List.mem_append.1 hx with hx | hx
    · rcases List.mem_append.1 hx with hx | hx
      · exact .inl hx
      · exact absurd (mid_find k x hx) hz
    · exact .inr hx
theorem mem_put {l : List Rw} (h : Up l) (r x : Rw) : x ∈ putR l r ↔ x = r ∨ (x ∈ l ∧ cmpS x.1 r.1 ≠ 0) := by
  rw [← mem_split h r.1 x]
  unfold putR
  rw [List.mem_append, List.mem_cons]
  constructor
  · rintro (h | h | h)
    · exact .inr (.inl h)
    · exact .inl h
    · exact .inr (.inr h)
  · rintro (h | h | h)
    · exact .inr (.inl h)
    · exact .inl h
    · exact .inr (.inr h)
end Go.Proofs.YtjfoflbaoceemaaGreat
namespace Go.Proofs.YtjfoflbaoceemaaGreat
theorem cmpG_lt (a b : Mg) : cmpG a b < 0 ↔ a.pri < b.pri ∨ a.pri = b.pri ∧ a.id < b.id := by
  unfold cmpG cmpM cmpI
  repeat' split
  all_goals omega
theorem cmpG_ne {a b : Mg} (h : a.id ≠ b.id) (h2 : ¬ cmpG a b < 0) : cmpG b a < 0 := by
  rw [cmpG_lt] at *
  omega
theorem cmpG_trans {a b c : Mg} (h : cmpG a b < 0) (h2 : cmpG b c < 0) : cmpG a c < 0 := by
  rw [cmpG_lt] at *
  omega
def UpM (l : List Mg) : Prop := l.Pairwise fun a b => cmpG a b < 0
theorem add_perm (l : List Mg) (m : Mg) : (addM l m).Perm (m :: l) := by
  unfold addM
  rw [List.append_assoc]
  have h : (List.take (spotM l m) l ++ ([m] ++ List.drop (spotM l m) l)).Perm (m :: (List.take (spotM l m) l ++ List.drop (spotM l m) l)) := List.perm_middle
  rwa [List.take_append_drop] at h
theorem mem_add {l : List Mg} {m x : Mg} : x ∈ addM l m ↔ x = m ∨ x ∈ l := by
  rw [(add_perm l m).mem_iff, List.mem_cons]
theorem add_up {l : List Mg} {m : Mg} (h : UpM l) (hne : ∀ x ∈ l, m.id ≠ x.id) : UpM (addM l m) := by
  have ht : ∀ x ∈ l.take (spotM l m), cmpG x m < 0 := fun x hx => by
    obtain ⟨j, hj, rfl⟩ := List.getElem_of_mem hx
    have hj2 : j < spotM l m := by rw [List.length_take] at hj; omega
    have := List.not_of_lt_findIdx hj2
    rw [List.getElem_take]
    exact cmpG_ne (hne _ (List.getElem_mem _)) (by simpa [behM] using this)
  have hd : ∀ x ∈ l.drop (spotM l m), cmpG m x < 0 := by
    by_cases hs : spotM l m < l.length
    · have h0 : cmpG m l[spotM l m] < 0 := by
        have : behM m l[spotM l m] = true := List.findIdx_getElem (w := hs)
        simpa [behM] using this
      rw [List.drop_eq_getElem_cons hs]
      have hp := (List.pairwise_iff_getElem.1 h)
      intro x hx
      rcases List.mem_cons.1 hx with rfl | hx
      · exact h0
      · obtain ⟨j, hj, rfl⟩ := List.getElem_of_mem hx
        rw [List.getElem_drop]
        exact cmpG_trans h0 (hp _ _ hs (by rw [List.length_drop] at hj; omega) (by omega))
    · intro x hx
      rw [List.drop_of_length_le (by omega)] at hx
      cases hx
  unfold addM UpM
  rw [List.append_assoc, List.pairwise_append]
  refine ⟨h.sublist (List.take_sublist _ _), ?_, fun x hx y hy => ?_⟩
  · show (m :: l.drop (spotM l m)).Pairwise _
    rw [List.pairwise_cons]
    exact ⟨hd, h.sublist (List.drop_sublist _ _)⟩
  · rcases List.mem_append.1 hy with hy | hy
    · rw [List.mem_singleton.1 hy]; exact ht x hx
    · exact cmpG_trans (ht x hx) (hd y hy)
theorem rises_up {l : List Mg} (h : UpM l) (hn : (l.map (·.id)).Nodup) : risesM l = true := by
  unfold risesM
  rw [List.all_eq_true]
  intro i hi
  have hi := List.mem_range.1 hi
  unfold upM
  rw [List.getElem?_eq_getElem hi]
  simp only [Bool.and_eq_true, Bool.or_eq_true, Bool.not_eq_true', decide_eq_false_iff_not, beq_iff_eq]
  refine ⟨fun hm => ?_, ?_⟩
  · obtain ⟨x, hx, e⟩ := List.mem_map.1 hm
    obtain ⟨j, hj, rfl⟩ := List.getElem_of_mem hx
    rw [List.length_take] at hj
    rw [List.getElem_take] at e
    have := List.pairwise_iff_getElem.1 hn j i (by rw [List.length_map]; omega) (by rw [List.length_map]; omega) (by omega)
    rw [List.getElem_map, List.getElem_map] at this
    exact this e
  · rcases Nat.eq_zero_or_pos i with h0 | h0
    · exact .inl h0
    · refine .inr ?_
      rw [List.getElem?_eq_getElem (show i - 1 < l.length by omega)]
      exact decide_eq_true (List.pairwise_iff_getElem.1 h (i - 1) i (by omega) hi (by omega))
structure PutQ (ps : List Bool) (l : List Mg) : Prop where
  len : l.length = ps.count true
  up : UpM l
  ids : (l.map (·.id)).Nodup
  all : ∀ m ∈ l, 0 ≤ m.pri ∧ m.claimed = false ∧ ∃ k : Nat, ps[k]? = some true ∧ m.id = (k : Int) + 1
structure LeftQ (was : Mg) (l : List Mg) : Prop where
  up : UpM l
  free : ∀ m ∈ l, m.claimed = false
  behind : ∀ m ∈ l, cmpG was m < 0
end Go.Proofs.YtjfoflbaoceemaaGreat
