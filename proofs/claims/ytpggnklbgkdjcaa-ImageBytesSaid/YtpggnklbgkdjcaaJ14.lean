/- Plain: what any bytes are read as, as a state. Nothing of the program. (Values and rests apart: pairs of them are unfolded without end.). Plain: a reader that tells of a count below 0 apart from what has failed. Nothing of the program. What is handed to the library's Concat: rows of whatever structs that lie somewhere, side by side. Six cells stored one after the other. Bytes as cells. Words for memory: bytes that lie somewhere; a writer's parts; a reader. Bytes that are made. -/
import Derived.Test.YtpggnklbgkdjcaaJ13
import Derived.Test.YtpggnklbgkdjcaaJ01
import Derived.Test.YtpggnklbgkdjcaaJ03
import Derived.Test.YtpggnklbgkdjcaaProg
import Derived.WalkKit
import Derived.ProofKit
import Derived.Laws.MakeOwn
import Derived.Laws.NewBlocks
import Derived.WalkLawsBesides
set_option maxRecDepth 4000
namespace Go.Proofs.Ytpggnklbgkdjcaa
/-- what is left behind so many, and their values -/
def manyR (s : Rd → Rd) (r : Rd) : Nat → Rd
  | 0 => r
  | n + 1 => s (manyR s r n)
def manyL {α : Type} (v : Rd → α) (s : Rd → Rd) (r : Rd) : Nat → List α
  | 0 => []
  | n + 1 => manyL v s r n ++ [v (manyR s r n)]
/-- a count, and so many; a count below 0 fails -/
def cntR (s : Rd → Rd) (r : Rd) : Rd := if r.int.1 < 0 then ⟨r.int.2.rest, true⟩ else manyR s r.int.2 r.int.1.toNat
def cntL {α : Type} (v : Rd → α) (s : Rd → Rd) (r : Rd) : List α := if r.int.1 < 0 then [] else manyL v s r.int.2 r.int.1.toNat
def rowR (r : Rd) : Rd := r.text.2.text.2
def rowV (r : Rd) : Rw := (⟨r.text.1.toArray⟩, ⟨r.text.2.text.1.toArray⟩)
def headR (r : Rd) : Rd := r.text.2.int.2.int.2
def rowsR (r : Rd) : Rd := cntR rowR (headR r)
def msgsR (r : Rd) : Rd := cntR Rd.msgR (rowsR r)
def deadR (r : Rd) : Rd := cntR Rd.msgR (msgsR r)
def obV (r : Rd) : Ob := ⟨⟨r.text.1.toArray⟩, r.text.2.int.1, r.text.2.int.2.int.1, cntL rowV rowR (headR r), cntL Rd.msg Rd.msgR (rowsR r), cntL Rd.msg Rd.msgR (msgsR r)⟩
def objsR (r : Rd) : Rd := cntR deadR r.int.2
def objsV (r : Rd) : List Ob := cntL obV deadR r.int.2
/-- what is read of bytes as a state; none: ErrBytes -/
def readI (xs : List UInt8) : Option (Int × List Ob) :=
  if ((objsR ⟨xs, false⟩).done && rightS ⟨(⟨xs, false⟩ : Rd).int.1, objsV ⟨xs, false⟩⟩) = true then some ((⟨xs, false⟩ : Rd).int.1, objsV ⟨xs, false⟩) else none
/-- what fails stays failed, and what is read is read so with more behind -/
structure RdLaw {α : Type} (v : Rd → α) (s : Rd → Rd) : Prop where
  sticky : ∀ r : Rd, r.bad = true → (s r).bad = true
  ext : ∀ (r : Rd) (z : List UInt8), (s r).bad = false → s (r.ext z) = (s r).ext z ∧ v (r.ext z) = v r
section
variable {α : Type} {v : Rd → α} {s : Rd → Rd}
theorem RdLaw.ok (h : RdLaw v s) {r : Rd} (hb : (s r).bad = false) : r.bad = false := by
  cases e : r.bad
  · rfl
  · rw [h.sticky r e] at hb; cases hb
theorem many_len (r : Rd) : ∀ n, (manyL v s r n).length = n
  | 0 => rfl
  | n + 1 => by simp [manyL, many_len r n]
theorem RdLaw.manyS (h : RdLaw v s) (r : Rd) (i : Nat) (hb : (manyR s r i).bad = true) : ∀ n, i ≤ n → (manyR s r n).bad = true
  | 0, hn => by obtain rfl : i = 0 := by omega
                exact hb
  | n + 1, hn => by
    rcases Nat.lt_or_ge i (n + 1) with h2 | h2
    · exact h.sticky _ (h.manyS r i hb n (by omega))
    · obtain rfl : i = n + 1 := by omega
      exact hb
theorem RdLaw.many0 (h : RdLaw v s) (r : Rd) (hb : r.bad = true) (n : Nat) : (manyR s r n).bad = true := h.manyS r 0 hb n (Nat.zero_le _)
theorem RdLaw.manyE (h : RdLaw v s) (r : Rd) (z : List UInt8) : ∀ n, (manyR s r n).bad = false → manyR s (r.ext z) n = (manyR s r n).ext z ∧ manyL v s (r.ext z) n = manyL v s r n
  | 0, _ => ⟨rfl, rfl⟩
  | n + 1, hb => by
    have h' : (s (manyR s r n)).bad = false := hb
    obtain ⟨i1, i2⟩ := h.manyE r z n (h.ok h')
    obtain ⟨e1, e2⟩ := h.ext _ z h'
    rw [manyR, manyL, manyR, manyL, i1, i2, e1, e2]
    exact ⟨rfl, rfl⟩
theorem cnt_neg {r : Rd} (h : r.int.1 < 0) : (cntR s r).bad = true := by unfold cntR; rw [if_pos h]
theorem cntR_of {r : Rd} (h : ¬ r.int.1 < 0) : cntR s r = manyR s r.int.2 r.int.1.toNat := by unfold cntR; rw [if_neg h]
theorem cntL_of {r : Rd} (h : ¬ r.int.1 < 0) : cntL v s r = manyL v s r.int.2 r.int.1.toNat := by unfold cntL; rw [if_neg h]
theorem RdLaw.cnt (h : RdLaw v s) : RdLaw (cntL v s) (cntR s) := by
  refine ⟨fun r hb => ?_, fun r z hb => ?_⟩
  · by_cases hn : r.int.1 < 0
    · exact cnt_neg hn
    · rw [cntR_of hn]
      exact h.many0 r.int.2 (int_sticky r hb) _
  · by_cases hn : r.int.1 < 0
    · rw [cnt_neg hn] at hb; cases hb
    · rw [cntR_of hn] at hb ⊢
      rw [cntL_of hn]
      have hi : r.int.2.bad = false := by
        cases e : r.int.2.bad
        · rfl
        · rw [h.many0 r.int.2 e _] at hb; cases hb
      have he := int_ext r z hi
      have hn2 : ¬ (r.ext z).int.1 < 0 := by rw [he]; exact hn
      rw [cntR_of hn2, cntL_of hn2, he]
      exact h.manyE r.int.2 z r.int.1.toNat hb
end
theorem row_law : RdLaw rowV rowR := by
  refine ⟨fun r hb => text_sticky r.text.2 (text_sticky r hb), fun r z hb => ?_⟩
  unfold rowR rowV at *
  have h1 : r.text.2.bad = false := ok_of (r := r.text.2) text_sticky hb
  rw [text_ext r z h1]
  dsimp only
  rw [text_ext _ z hb]
  exact ⟨rfl, rfl⟩
theorem msg_law : RdLaw Rd.msg Rd.msgR := ⟨fun r hb => msg_sticky r hb, fun r z hb => ⟨(msg_ext r z hb).1, msgM_ext r z hb⟩⟩
theorem headR_sticky (r : Rd) (h : r.bad = true) : (headR r).bad = true := int_sticky r.text.2.int.2 (int_sticky r.text.2 (text_sticky r h))
theorem rowsR_sticky (r : Rd) (h : (headR r).bad = true) : (rowsR r).bad = true := by unfold rowsR; exact row_law.cnt.sticky (headR r) h
theorem msgsR_sticky (r : Rd) (h : (rowsR r).bad = true) : (msgsR r).bad = true := by unfold msgsR; exact msg_law.cnt.sticky (rowsR r) h
theorem deadR_sticky (r : Rd) (h : (msgsR r).bad = true) : (deadR r).bad = true := by unfold deadR; exact msg_law.cnt.sticky (msgsR r) h
theorem rows_ok {r : Rd} (h : (rowsR r).bad = false) : (headR r).bad = false := by unfold rowsR at h; exact row_law.cnt.ok h
theorem msgs_ok {r : Rd} (h : (msgsR r).bad = false) : (rowsR r).bad = false := by unfold msgsR at h; exact msg_law.cnt.ok h
theorem dead_ok {r : Rd} (h : (deadR r).bad = false) : (msgsR r).bad = false := by unfold deadR at h; exact msg_law.cnt.ok h
theorem headR_ext (r : Rd) (z : List UInt8) (h : (headR r).bad = false) : headR (r.ext z) = (headR r).ext z ∧ (r.ext z).text.1 = r.text.1 ∧ (r.ext z).text.2.int.1 = r.text.2.int.1 ∧ (r.ext z).text.2.int.2.int.1 = r.text.2.int.2.int.1 := by
  unfold headR at h ⊢
  have a2 : r.text.2.int.2.bad = false := ok_of (r := r.text.2.int.2) int_sticky h
  have a1 : r.text.2.bad = false := ok_of (r := r.text.2) int_sticky a2
  rw [text_ext r z a1]
  dsimp only
  rw [int_ext _ z a2]
  dsimp only
  rw [int_ext _ z h]
  exact ⟨rfl, rfl, rfl, rfl⟩
theorem rows_ext (r : Rd) (z : List UInt8) (h : (rowsR r).bad = false) : rowsR (r.ext z) = (rowsR r).ext z ∧ cntL rowV rowR (headR (r.ext z)) = cntL rowV rowR (headR r) := by
  have eh := (headR_ext r z (rows_ok h)).1
  unfold rowsR at h ⊢
  rw [eh]
  exact row_law.cnt.ext (headR r) z h
theorem msgs_ext (r : Rd) (z : List UInt8) (h : (msgsR r).bad = false) : msgsR (r.ext z) = (msgsR r).ext z ∧ cntL Rd.msg Rd.msgR (rowsR (r.ext z)) = cntL Rd.msg Rd.msgR (rowsR r) := by
  have eh := (rows_ext r z (msgs_ok h)).1
  unfold msgsR at h ⊢
  rw [eh]
  exact msg_law.cnt.ext (rowsR r) z h
theorem dead_ext (r : Rd) (z : List UInt8) (h : (deadR r).bad = false) : deadR (r.ext z) = (deadR r).ext z ∧ cntL Rd.msg Rd.msgR (msgsR (r.ext z)) = cntL Rd.msg Rd.msgR (msgsR r) := by
  have eh := (msgs_ext r z (dead_ok h)).1
  unfold deadR at h ⊢
  rw [eh]
  exact msg_law.cnt.ext (msgsR r) z h
theorem ob_law : RdLaw obV deadR := by
  refine ⟨fun r hb => deadR_sticky r (msgsR_sticky r (rowsR_sticky r (headR_sticky r hb))), fun r z h4 => ?_⟩
  have h3 := dead_ok h4
  have h2 := msgs_ok h3
  obtain ⟨_, t1, t2, t3⟩ := headR_ext r z (rows_ok h2)
  have er := (rows_ext r z h2).2
  have em := (msgs_ext r z h3).2
  obtain ⟨edr, ed⟩ := dead_ext r z h4
  unfold obV
  rw [er, em, ed, edr, t1, t2, t3]
  exact ⟨rfl, rfl⟩
theorem objs_ok {r : Rd} (h : (objsR r).bad = false) : r.int.2.bad = false := by unfold objsR at h; exact ob_law.cnt.ok h
theorem objs_ext (r : Rd) (z : List UInt8) (h : (objsR r).bad = false) : objsR (r.ext z) = (objsR r).ext z ∧ objsV (r.ext z) = objsV r := by
  have eh := int_ext r z (objs_ok h)
  unfold objsR objsV at *
  rw [eh]
  exact ob_law.cnt.ext r.int.2 z h
/-- what was written is read, and what is behind it is left -/
def Front {α : Type} (v : Rd → α) (s : Rd → Rd) (enc : α → List UInt8) (P : α → Prop) : Prop := ∀ x, P x → ∀ y, s ⟨enc x ++ y, false⟩ = ⟨y, false⟩ ∧ v ⟨enc x ++ y, false⟩ = x
theorem Front.mny {α : Type} {v : Rd → α} {s : Rd → Rd} {enc : α → List UInt8} {P : α → Prop} (h : Front v s enc P) (l : List α) (hl : ∀ x ∈ l, P x) (y : List UInt8) : ∀ j, j ≤ l.length → manyR s ⟨l.flatMap enc ++ y, false⟩ j = ⟨(l.drop j).flatMap enc ++ y, false⟩ ∧ manyL v s ⟨l.flatMap enc ++ y, false⟩ j = l.take j
  | 0, _ => ⟨rfl, rfl⟩
  | j + 1, hj => by
    have hj : j < l.length := hj
    obtain ⟨i1, i2⟩ := h.mny l hl y j (by omega)
    have e := h _ (hl _ (List.getElem_mem hj)) ((l.drop (j + 1)).flatMap enc ++ y)
    rw [manyR, manyL, i1, i2, flat_drop enc hj, List.append_assoc, e.1, e.2, List.take_succ_eq_append_getElem hj]
    exact ⟨rfl, rfl⟩
theorem Front.cnt {α : Type} {v : Rd → α} {s : Rd → Rd} {enc : α → List UInt8} {P : α → Prop} (h : Front v s enc P) (l : List α) (hl : ∀ x ∈ l, P x) (hn : l.length ≤ 1000000) (y : List UInt8) : cntR s ⟨encInt (l.length : Int) ++ (l.flatMap enc ++ y), false⟩ = ⟨y, false⟩ ∧ cntL v s ⟨encInt (l.length : Int) ++ (l.flatMap enc ++ y), false⟩ = l := by
  have e := int_front (l.length : Int) (l.flatMap enc ++ y) (by omega) (by omega)
  obtain ⟨e1, e2⟩ := h.mny l hl y l.length (Nat.le_refl _)
  generalize encInt (l.length : Int) ++ (l.flatMap enc ++ y) = xs at *
  have hn2 : ¬ (⟨xs, false⟩ : Rd).int.1 < 0 := by rw [e]; show ¬ (l.length : Int) < 0; omega
  rw [cntR_of hn2, cntL_of hn2, e]
  dsimp only
  rw [Int.toNat_natCast, e1, e2, List.take_length, List.drop_length]
  exact ⟨rfl, rfl⟩
theorem row_front : Front rowV rowR rowB fun r => r.1.size ≤ 9000 ∧ r.2.size ≤ 9000 := fun r hr y => by
  unfold rowV rowR rowB
  rw [List.append_assoc, text_whole _ hr.1]
  dsimp only
  rw [text_whole _ hr.2]
  dsimp only
  rw [bytes_of_list, bytes_of_list]
  exact ⟨rfl, rfl⟩
theorem msg_frontF : Front Rd.msg Rd.msgR Mg.bytes fun m => m.fits ∧ m.corr.size ≤ 9000 ∧ m.body.size ≤ 9000 := fun m hm y => by
  obtain ⟨e1, e2⟩ := msg_front m hm.1 hm.2.1 hm.2.2 y
  refine ⟨e1, ?_⟩
  unfold Rd.msg
  rw [e1, e2]; rfl
/-- small enough to be written whole -/
structure ObW (o : Ob) : Prop where
  name : o.name.size ≤ 9000
  kind : -9223372036854775808 ≤ o.kind ∧ o.kind ≤ 9223372036854775807
  limit : -9223372036854775808 ≤ o.limit ∧ o.limit ≤ 9223372036854775807
  rows : ∀ r ∈ o.rows, r.1.size ≤ 9000 ∧ r.2.size ≤ 9000
  msgs : ∀ m ∈ o.msgs, m.fits ∧ m.corr.size ≤ 9000 ∧ m.body.size ≤ 9000
  dead : ∀ m ∈ o.dead, m.fits ∧ m.corr.size ≤ 9000 ∧ m.body.size ≤ 9000
  short : o.short 1000000
theorem ob_front : Front obV deadR obB ObW := fun o ho y => by
  have e0 : obB o ++ y = encText o.name.data.toList ++ (encInt o.kind ++ (encInt o.limit ++ (encInt (o.rows.length : Int) ++ (o.rows.flatMap rowB ++ (encInt (o.msgs.length : Int) ++ (o.msgs.flatMap Mg.bytes ++ (encInt (o.dead.length : Int) ++ (o.dead.flatMap Mg.bytes ++ y)))))))) := by
    simp [obB, rowsB, msgsB]
  rw [e0]
  have t1 := text_whole o.name ho.name (encInt o.kind ++ (encInt o.limit ++ (encInt (o.rows.length : Int) ++ (o.rows.flatMap rowB ++ (encInt (o.msgs.length : Int) ++ (o.msgs.flatMap Mg.bytes ++ (encInt (o.dead.length : Int) ++ (o.dead.flatMap Mg.bytes ++ y))))))))
  have t2 := int_front o.kind (encInt o.limit ++ (encInt (o.rows.length : Int) ++ (o.rows.flatMap rowB ++ (encInt (o.msgs.length : Int) ++ (o.msgs.flatMap Mg.bytes ++ (encInt (o.dead.length : Int) ++ (o.dead.flatMap Mg.bytes ++ y))))))) ho.kind.1 ho.kind.2
  have t3 := int_front o.limit (encInt (o.rows.length : Int) ++ (o.rows.flatMap rowB ++ (encInt (o.msgs.length : Int) ++ (o.msgs.flatMap Mg.bytes ++ (encInt (o.dead.length : Int) ++ (o.dead.flatMap Mg.bytes ++ y)))))) ho.limit.1 ho.limit.2
  have t4 := row_front.cnt o.rows ho.rows ho.short.1 (encInt (o.msgs.length : Int) ++ (o.msgs.flatMap Mg.bytes ++ (encInt (o.dead.length : Int) ++ (o.dead.flatMap Mg.bytes ++ y))))
  have t5 := msg_frontF.cnt o.msgs ho.msgs ho.short.2.1 (encInt (o.dead.length : Int) ++ (o.dead.flatMap Mg.bytes ++ y))
  have t6 := msg_frontF.cnt o.dead ho.dead ho.short.2.2 y
  generalize encText o.name.data.toList ++ (encInt o.kind ++ (encInt o.limit ++ (encInt (o.rows.length : Int) ++ (o.rows.flatMap rowB ++ (encInt (o.msgs.length : Int) ++ (o.msgs.flatMap Mg.bytes ++ (encInt (o.dead.length : Int) ++ (o.dead.flatMap Mg.bytes ++ y)))))))) = xs at *
  have eh : headR ⟨xs, false⟩ = ⟨encInt (o.rows.length : Int) ++ (o.rows.flatMap rowB ++ (encInt (o.msgs.length : Int) ++ (o.msgs.flatMap Mg.bytes ++ (encInt (o.dead.length : Int) ++ (o.dead.flatMap Mg.bytes ++ y))))), false⟩ := by
    unfold headR
    rw [t1]
    dsimp only
    rw [t2]
    dsimp only
    rw [t3]
  have er : rowsR ⟨xs, false⟩ = ⟨encInt (o.msgs.length : Int) ++ (o.msgs.flatMap Mg.bytes ++ (encInt (o.dead.length : Int) ++ (o.dead.flatMap Mg.bytes ++ y))), false⟩ := by
    unfold rowsR
    rw [eh, t4.1]
  have em : msgsR ⟨xs, false⟩ = ⟨encInt (o.dead.length : Int) ++ (o.dead.flatMap Mg.bytes ++ y), false⟩ := by
    unfold msgsR
    rw [er, t5.1]
  have ed : deadR ⟨xs, false⟩ = ⟨y, false⟩ := by
    unfold deadR
    rw [em, t6.1]
  refine ⟨ed, ?_⟩
  unfold obV
  rw [eh, er, em, t4.2, t5.2, t6.2, t1]
  dsimp only
  rw [t2]
  dsimp only
  rw [t3]
theorem img_front {next : Int} {l : List Ob} (h1 : -9223372036854775808 ≤ next) (h2 : next ≤ 9223372036854775807) (hl : ∀ o ∈ l, ObW o) (hn : l.length ≤ 1000000) (y : List UInt8) : objsR ⟨imageB next l ++ y, false⟩ = ⟨y, false⟩ ∧ objsV ⟨imageB next l ++ y, false⟩ = l ∧ (⟨imageB next l ++ y, false⟩ : Rd).int.1 = next := by
  have e0 : imageB next l ++ y = encInt next ++ (encInt (l.length : Int) ++ (l.flatMap obB ++ y)) := by simp [imageB, obsB]
  rw [e0]
  have t1 := int_front next (encInt (l.length : Int) ++ (l.flatMap obB ++ y)) h1 h2
  have t2 := ob_front.cnt l hl hn y
  generalize encInt next ++ (encInt (l.length : Int) ++ (l.flatMap obB ++ y)) = xs at *
  unfold objsR objsV
  rw [t1]
  dsimp only
  rw [t2.1, t2.2]
  exact ⟨rfl, rfl, rfl⟩
theorem OkD.w {next : Int} {l : List Ob} {o : Ob} (h : OkD next l o) (hf : o.fits) (hs : o.short 1000000) : ObW o := by
  obtain ⟨z1, z2, z3, z4⟩ := h.sizes
  have hk := h.kind
  have hkk : o.kind = 1 ∨ o.kind = 2 := by
    by_cases h1 : o.kind = 1
    · exact .inl h1
    · exact .inr (kind_two hk h1)
  have hl : 0 ≤ o.limit ∧ o.limit ≤ 1000 := by
    unfold kindB at hk
    rcases hkk with h1 | h1 <;> rw [h1] at hk <;> simp at hk <;> omega
  refine ⟨by omega, by omega, by omega, fun r hr => ?_, fun m hm => ?_, fun m hm => ?_, hs⟩
  · have := z2 r hr; omega
  · have := z3 m hm; exact ⟨hf.1 m hm, by omega, by omega⟩
  · have := z4 m hm; exact ⟨hf.2 m hm, by omega, by omega⟩
/-- a state that may be -/
structure ImgOk (next : Int) (l : List Ob) : Prop where
  right : RightD next l
  fits : ∀ o ∈ l, o.fits
  short : ∀ o ∈ l, o.short 1000000
theorem ImgOk.front {next : Int} {l : List Ob} (h : ImgOk next l) (y : List UInt8) : objsR ⟨imageB next l ++ y, false⟩ = ⟨y, false⟩ ∧ objsV ⟨imageB next l ++ y, false⟩ = l ∧ (⟨imageB next l ++ y, false⟩ : Rd).int.1 = next := by
  have h1 := h.right.low
  have h2 := h.right.high
  have h3 := h.right.len
  exact img_front (by omega) (by omega) (fun o ho => by
    obtain ⟨i, hi, rfl⟩ := List.getElem_of_mem ho
    exact (h.right.ok i hi).w (h.fits _ (List.getElem_mem hi)) (h.short _ (List.getElem_mem hi))) (by omega) y
theorem ImgOk.back {next : Int} {l : List Ob} (h : ImgOk next l) : readI (imageB next l) = some (next, l) := by
  obtain ⟨e1, e2, e3⟩ := h.front []
  rw [List.append_nil] at e1 e2 e3
  unfold readI
  rw [e1, e2, e3, done_end, h.right.right]
  rfl
theorem ImgOk.more {next : Int} {l : List Ob} (h : ImgOk next l) (x : UInt8) : readI (imageB next l ++ [x]) = none := by
  obtain ⟨e1, e2, e3⟩ := h.front [x]
  unfold readI
  have hd : (⟨[x], false⟩ : Rd).done = false := rfl
  rw [e1, hd, Bool.false_and, if_neg Bool.false_ne_true]
/-- what failed anywhere is none -/
theorem readI_bad {xs : List UInt8} (h : (objsR ⟨xs, false⟩).bad = true) : readI xs = none := by
  unfold readI
  have hd : (objsR ⟨xs, false⟩).done = false := by rw [Rd.done, h]; rfl
  rw [hd, Bool.false_and, if_neg Bool.false_ne_true]
theorem readI_open {xs : List UInt8} (h : (objsR ⟨xs, false⟩).done = false) : readI xs = none := by
  unfold readI
  rw [h, Bool.false_and, if_neg Bool.false_ne_true]
theorem readI_at {xs : List UInt8} {i : Nat} (h0 : ¬ (⟨xs, false⟩ : Rd).int.2.int.1 < 0) (hi : i ≤ (⟨xs, false⟩ : Rd).int.2.int.1.toNat) (hb : (manyR deadR (⟨xs, false⟩ : Rd).int.2.int.2 i).bad = true) : readI xs = none := by
  refine readI_bad ?_
  unfold objsR
  rw [cntR_of h0]
  exact ob_law.manyS _ i hb _ hi
theorem ImgOk.cutO {next : Int} {l : List Ob} (h : ImgOk next l) (k : Nat) (hk : k < (imageB next l).length) : (objsR ⟨(imageB next l).take k, false⟩).done = false := by
  have e := (h.front []).1
  rw [List.append_nil] at e
  have hx : (⟨imageB next l, false⟩ : Rd) = (⟨(imageB next l).take k, false⟩ : Rd).ext ((imageB next l).drop k) := by simp [Rd.ext]
  have hd : 0 < ((imageB next l).drop k).length := by rw [List.length_drop]; omega
  generalize (imageB next l).take k = xs at *
  generalize (imageB next l).drop k = z at *
  rw [hx] at e
  cases hdn : (objsR ⟨xs, false⟩).done
  · rfl
  · exfalso
    unfold Rd.done at hdn
    simp only [Bool.and_eq_true, Bool.not_eq_true', decide_eq_true_eq] at hdn
    obtain ⟨hb, hr0⟩ := hdn
    have h3 := (objs_ext _ z hb).1
    rw [e] at h3
    have h4 := congrArg (fun p : Rd => p.rest.length) h3
    simp only [Rd.ext, List.length_append, List.length_nil] at h4
    omega
theorem ImgOk.cut {next : Int} {l : List Ob} (h : ImgOk next l) (k : Nat) (hk : k < (imageB next l).length) : readI ((imageB next l).take k) = none := readI_open (h.cutO k hk)
theorem ImgOk.moreO {next : Int} {l : List Ob} (h : ImgOk next l) (x : UInt8) : (objsR ⟨imageB next l ++ [x], false⟩).done = false := by
  rw [(h.front [x]).1]
  rfl
end Go.Proofs.Ytpggnklbgkdjcaa
namespace Go.Proofs.Ytpggnklbgkdjcaa
/-- the reader is as it is told, or both have failed -/
def Sim (low : Bool) (r' r : Rd) : Prop := (low = false ∧ r' = r) ∨ (r.bad = true ∧ (low = true ∨ r'.bad = true))
theorem Sim.refl (r : Rd) : Sim false r r := .inl ⟨rfl, rfl⟩
theorem Sim.map {s : Rd → Rd} (hs : ∀ r : Rd, r.bad = true → (s r).bad = true) {low : Bool} {r' r : Rd} (h : Sim low r' r) : Sim low (s r') (s r) := by
  rcases h with ⟨rfl, rfl⟩ | ⟨hb, h⟩
  · exact .inl ⟨rfl, rfl⟩
  · exact .inr ⟨hs _ hb, h.imp id (hs _)⟩
theorem Sim.eq {low : Bool} {r' r : Rd} (h : Sim low r' r) (hb : r.bad = false) : low = false ∧ r' = r := by
  rcases h with h | ⟨h, _⟩
  · exact h
  · rw [hb] at h; cases h
theorem Sim.dead {low : Bool} {r' r : Rd} (h : Sim low r' r) (hb : r.bad = true) : low = true ∨ r'.bad = true := by
  rcases h with ⟨_, rfl⟩ | ⟨_, h⟩
  · exact .inr hb
  · exact h
theorem Sim.bad {low : Bool} {r' r : Rd} (h : Sim low r' r) (hb : r'.bad = true) : r.bad = true := by
  rcases h with ⟨_, rfl⟩ | ⟨h, _⟩
  · exact hb
  · exact h
/-- what a step of a reader takes: so many bytes, if it has not failed -/
structure Got (a b : Rd) (k : Nat) : Prop where
  le : b.rest.length ≤ a.rest.length
  ok : b.bad = false → a.bad = false ∧ b.rest.length + k ≤ a.rest.length
theorem Got.refl (a : Rd) : Got a a 0 := ⟨Nat.le_refl _, fun h => ⟨h, by omega⟩⟩
theorem Got.trans {a b c : Rd} {k m : Nat} (h : Got a b k) (g : Got b c m) : Got a c (k + m) :=
  ⟨Nat.le_trans g.le h.le, fun hc => by
    obtain ⟨h1, h2⟩ := g.ok hc
    obtain ⟨h3, h4⟩ := h.ok h1
    exact ⟨h3, by omega⟩⟩
theorem Got.weak {a b : Rd} {k m : Nat} (h : Got a b k) (hm : m ≤ k) : Got a b m := ⟨h.le, fun hb => by
  obtain ⟨h1, h2⟩ := h.ok hb
  exact ⟨h1, by omega⟩⟩
theorem got_take (r : Rd) (n : Nat) : Got r (r.take n).2 n := by
  unfold Rd.take
  by_cases h1 : r.bad = true
  · rw [if_pos h1]
    exact ⟨Nat.le_refl _, fun h => by rw [h1] at h; cases h⟩
  · rw [if_neg h1]
    by_cases h2 : r.rest.length < n
    · rw [if_pos h2]
      exact ⟨Nat.le_refl _, fun h => by cases h⟩
    · rw [if_neg h2]
      refine ⟨by simp, fun _ => ⟨by simpa using h1, ?_⟩⟩
      simp only [List.length_drop]
      omega
theorem got_int (r : Rd) : Got r r.int.2 8 := got_take r 8
theorem got_text (r : Rd) : Got r r.text.2 2 := ((got_take r 2).trans (got_take (r.take 2).2 _)).weak (by omega)
theorem got_flag (r : Rd) : Got r r.flag.2 1 := by
  unfold Rd.flag
  have h := got_take r 1
  dsimp only
  split
  · exact ⟨h.le, fun e => by cases e⟩
  · exact h
theorem got_msg (r : Rd) : Got r r.msgR 1 := (((((((got_int r).trans (got_int _)).trans (got_int _)).trans (got_flag _)).trans (got_text _)).trans (got_text _))).weak (by omega)
theorem got_row (r : Rd) : Got r (rowR r) 1 := ((got_text r).trans (got_text _)).weak (by omega)
theorem got_head (r : Rd) : Got r (headR r) 1 := (((got_text r).trans (got_int _)).trans (got_int _)).weak (by omega)
section
variable {α : Type} {v : Rd → α} {s : Rd → Rd}
theorem list_low {low : Bool} {r' r : Rd} (hl : RdLaw v s) (h0 : Sim low r' r) (hc : r'.int.1 < 0) : Sim true r'.int.2 (cntR s r) ∧ (cntR s r).bad = true := by
  have hb : (cntR s r).bad = true := by
    rcases h0 with ⟨_, rfl⟩ | ⟨hb, _⟩
    · exact cnt_neg hc
    · exact hl.cnt.sticky r hb
  exact ⟨.inr ⟨hb, .inl rfl⟩, hb⟩
theorem list_end {β : Type} {f : β → α} (hl : RdLaw v s) {low0 low : Bool} {r' r rj : Rd} {ys : List β} {j : Nat} (h0 : Sim low0 r' r) (hc : ¬ r'.int.1 < 0) (hj : Sim low rj (manyR s r.int.2 j)) (hle : j ≤ r'.int.1.toNat) (he : j = r'.int.1.toNat ∨ rj.bad = true)
    (hv : (manyR s r.int.2 j).bad = false → ys.map f = manyL v s r.int.2 j) : Sim low rj (cntR s r) ∧ ((cntR s r).bad = false → ys.map f = cntL v s r) := by
  rcases h0 with ⟨_, rfl⟩ | ⟨hb, _⟩
  · rcases he with he | he
    · rw [cntR_of hc, cntL_of hc, ← he]
      exact ⟨hj, hv⟩
    · have hb := hl.manyS r'.int.2 j (hj.bad he) r'.int.1.toNat hle
      rw [← cntR_of hc] at hb
      exact ⟨.inr ⟨hb, .inr he⟩, fun h => by rw [hb] at h; cases h⟩
  · have hb2 := hl.cnt.sticky r hb
    refine ⟨.inr ⟨hb2, hj.dead (hl.many0 r.int.2 (int_sticky r hb) j)⟩, fun h => by rw [hb2] at h; cases h⟩
theorem sim_next {low : Bool} {r1 r2 : Rd} {j : Nat} (h : Sim low r2 (s (manyR s r1 j))) : Sim low r2 (manyR s r1 (j + 1)) := h
theorem list_next {β : Type} {f : β → α} (hl : RdLaw v s) {r1 : Rd} {ys : List β} {b : β} {j : Nat} (hv : (manyR s r1 j).bad = false → ys.map f = manyL v s r1 j) (hb : (s (manyR s r1 j)).bad = false → f b = v (manyR s r1 j)) :
    (manyR s r1 (j + 1)).bad = false → (ys ++ [b]).map f = manyL v s r1 (j + 1) := fun h => by
  have h' : (s (manyR s r1 j)).bad = false := h
  rw [List.map_append, hv (hl.ok h')]
  show _ = manyL v s r1 j ++ [v (manyR s r1 j)]
  rw [← hb h']
  rfl
end
theorem int_hi (r : Rd) : r.int.1 ≤ 9223372036854775807 := by unfold Rd.int i64of; dsimp only; omega
end Go.Proofs.Ytpggnklbgkdjcaa
namespace Go.Proofs.Ytpggnklbgkdjcaa
open Go.RowKit
section
variable {α : Type} {E : Enc α} {T : TypeId}
/-- a part of what Concat is handed -/
def PartE (E : Enc α) (w : World) (p : Value × List α) : Prop := ∃ A c K, p.1 = .slice A p.2.length c ∧ Lst w K E A p.2
theorem PartE.below {w w' : World} {p : Value × List α} (h : PartE E w p) (k : Below w.heap.size w w') : PartE E w' p := by
  obtain ⟨A, c, K, e, hr⟩ := h
  exact ⟨A, c, K, e, hr.below k⟩
def flatE : List (Value × List α) → List α
  | [] => []
  | p :: r => p.2 ++ flatE r
theorem flatE_append (l m : List (Value × List α)) : flatE (l ++ m) = flatE l ++ flatE m := by
  induction l with
  | nil => rfl
  | cons x r ih => simp [flatE, ih]
theorem flatE_succ {l : List (Value × List α)} {j : Nat} (h : j < l.length) : flatE (l.take (j + 1)) = flatE (l.take j) ++ l[j].2 := by
  rw [List.take_succ_eq_append_getElem h, flatE_append]
  simp [flatE]
theorem flatE_le (l : List (Value × List α)) (j : Nat) : (flatE (l.take j)).length ≤ (flatE l).length := by
  conv => rhs; rw [← List.take_append_drop j l, flatE_append, List.length_append]
  omega
def SumE (ps : List (Value × List α)) (k : Nat) (sz i : Value) : Prop := ∃ j, j + k = ps.length ∧ sz = .int .i64 ((flatE (ps.take j)).length : Int) ∧ i = .int .i64 (j : Int)
def CatE (E : Enc α) (T : TypeId) (w : World) (ps : List (Value × List α)) (k : Nat) (v i : Value) (wr : World) : Prop :=
  ∃ j, j + k = ps.length ∧ i = .int .i64 (j : Int) ∧ Own wr w.heap.size E T v (flatE (ps.take j)) ∧ Below w.heap.size w wr
/-- these values lie from o on in block b -/
def ValE (w : World) (b o : Nat) (ps : List (Value × List α)) : Prop := b < w.heap.size ∧ ∀ j (h : j < ps.length), w.cell? ⟨b, o + j, none⟩ = some ps[j].1
theorem ValE.below {w w' : World} {b o : Nat} {ps : List (Value × List α)} (h : ValE w b o ps) (k : Below w.heap.size w w') : ValE w' b o ps :=
  ⟨Nat.lt_of_lt_of_le h.1 k.size, fun j hj => (cell_of_heap (k.block b h.1) _).trans (h.2 j hj)⟩
theorem blk_cellsE {w : World} {g : Nat} {t : TypeId} {cs : Array Value} (h : Blk w g t cs) {ps : List (Value × List α)} (hp : cs.toList = ps.map (·.1)) : ValE w g 0 ps :=
  ⟨h.lt, fun j hj => by
    rw [h.cell, Nat.zero_add, ← Array.getElem?_toList, hp, List.getElem?_map, List.getElem?_eq_getElem hj]; rfl⟩
/-- one struct in a block of its own -/
theorem one_lst (E : Enc α) (w : World) (T : TypeId) (x : α) {cs : Array Value} (h : cs.toList = E.enc x) : Lst (w.alloc (.cells cs T)) (fun i => w.heap.size ≤ i) E (some ⟨w.heap.size, 0, none⟩) [x] := fun _ =>
  ⟨_, 0, rfl, Nat.le_refl _, by simp, fun j u hu => by
    rw [(Blk.new w T _).cell, Nat.zero_add, ← Array.getElem?_toList, h]
    simpa [cellsE] using hu⟩
end
end Go.Proofs.Ytpggnklbgkdjcaa
namespace Go.Proofs.Ytpggnklbgkdjcaa
open Go.RowKit
theorem below_six {B : Nat} {w w1 : World} (h : Below B w w1) {g : Nat} (hg : B ≤ g) (a b c d e f : Value) : Below B w ((((((w1.setCell ⟨g, 0, none⟩ a).setCell ⟨g, 1, none⟩ b).setCell ⟨g, 2, none⟩ c).setCell ⟨g, 3, none⟩ d).setCell ⟨g, 4, none⟩ e).setCell ⟨g, 5, none⟩ f) :=
  (((((h.setCell hg a).setCell hg b).setCell hg c).setCell hg d).setCell hg e).setCell hg f
/-- all other blocks are as they were -/
theorem keep_six (w : World) (g : Nat) (a b c d e f : Value) : Keep (fun i _ => i ≠ g) w ((((((w.setCell ⟨g, 0, none⟩ a).setCell ⟨g, 1, none⟩ b).setCell ⟨g, 2, none⟩ c).setCell ⟨g, 3, none⟩ d).setCell ⟨g, 4, none⟩ e).setCell ⟨g, 5, none⟩ f) := by
  have hp : ∀ o : Obj, w.heap[g]? = some o → ¬ (g ≠ g) := fun _ _ h => h rfl
  exact ((((((Keep.refl w).setCell (p := ⟨g, 0, none⟩) hp a).setCell (p := ⟨g, 1, none⟩) hp b).setCell (p := ⟨g, 2, none⟩) hp c).setCell (p := ⟨g, 3, none⟩) hp d).setCell (p := ⟨g, 4, none⟩) hp e).setCell (p := ⟨g, 5, none⟩) hp f
/-- six cells stored, in a block known whole -/
theorem blk_store6 {w : World} {g : Nat} {T : TypeId} {a b c d e f a' b' c' d' e' f' : Value} (h : Blk w g T #[a, b, c, d, e, f]) :
    Blk ((((((w.setCell ⟨g, 0, none⟩ a').setCell ⟨g, 1, none⟩ b').setCell ⟨g, 2, none⟩ c').setCell ⟨g, 3, none⟩ d').setCell ⟨g, 4, none⟩ e').setCell ⟨g, 5, none⟩ f') g T #[a', b', c', d', e', f'] := by
  have := (((((h.set_ 0 a').set_ 1 b').set_ 2 c').set_ 3 d').set_ 4 e').set_ 5 f'
  simpa using this
end Go.Proofs.Ytpggnklbgkdjcaa
namespace Go.Proofs.Ytpggnklbgkdjcaa
open Go.RowKit

abbrev u8 (b : UInt8) : Value := .int .u8 (b.toNat : Int)
def cellsB (l : List UInt8) : List Value := l.map u8
theorem cellsB_length (l : List UInt8) : (cellsB l).length = l.length := by simp [cellsB]
theorem cellsB_append (l m : List UInt8) : cellsB (l ++ m) = cellsB l ++ cellsB m := by simp [cellsB]
theorem cellsB_get (l : List UInt8) (j : Nat) : (cellsB l)[j]? = l[j]?.map u8 := by simp [cellsB]
theorem cellsB_one (l : List UInt8) : ∀ v ∈ cellsB l, v.oneCell' = true := by
  intro v hv
  obtain ⟨b, _, rfl⟩ := List.mem_map.1 hv
  rfl
end Go.Proofs.Ytpggnklbgkdjcaa
namespace Go.Proofs.Ytpggnklbgkdjcaa
open Go.RowKit

/-- the slice of address A and length n holds these bytes; they lie below block B -/
def RB (w : World) (B : Nat) (A : Option Addr) (n : Nat) (xs : List UInt8) : Prop :=
  xs.length = n ∧ (0 < n → ∃ b o, A = some ⟨b, o, none⟩ ∧ b < B ∧ ∀ j x, xs[j]? = some x → w.cell? ⟨b, o + j, none⟩ = some (u8 x))
section
variable {w w' : World} {B n : Nat} {A : Option Addr} {xs : List UInt8}
theorem RB.nil_ (A : Option Addr) : RB w B A 0 [] := ⟨rfl, fun h => absurd h (by omega)⟩
theorem RB.same (h : RB w B A n xs) (k : ∀ b o, b < B → w'.cell? ⟨b, o, none⟩ = w.cell? ⟨b, o, none⟩) : RB w' B A n xs :=
  ⟨h.1, fun hn => by
    obtain ⟨b, o, e, hb, hc⟩ := h.2 hn
    exact ⟨b, o, e, hb, fun j x hx => (k b _ hb).trans (hc j x hx)⟩⟩
theorem RB.below (h : RB w B A n xs) (k : Below B w w') : RB w' B A n xs := h.same fun b o hb => k.cell (p := ⟨b, o, none⟩) hb
theorem RB.more {B' : Nat} (h : RB w B A n xs) (hB : B ≤ B') : RB w B' A n xs :=
  ⟨h.1, fun hn => by
    obtain ⟨b, o, e, hb, hc⟩ := h.2 hn
    exact ⟨b, o, e, by omega, hc⟩⟩
theorem RB.take (h : RB w B A n xs) {k : Nat} (hk : k ≤ n) : RB w B A k (xs.take k) :=
  ⟨by rw [List.length_take, h.1]; omega, fun hn => by
    obtain ⟨b, o, e, hb, hc⟩ := h.2 (by omega)
    refine ⟨b, o, e, hb, fun j x hx => hc j x ?_⟩
    rw [List.getElem?_take] at hx
    split at hx
    · exact hx
    · cases hx⟩
theorem RB.drop (h : RB w B A n xs) {k c : Nat} (hk : k ≤ n) (hc : n ≤ c) : RB w B (if c = k then A else A.map (·.add (k * 1))) (n - k) (xs.drop k) :=
  ⟨by rw [List.length_drop, h.1], fun hn => by
    obtain ⟨b, o, e, hb, hcell⟩ := h.2 (by omega)
    rw [if_neg (by omega), e]
    refine ⟨b, o + k, ?_, hb, fun j x hx => ?_⟩
    · simp only [Option.map_some, Nat.mul_one, Addr.add]
      by_cases h0 : k = 0
      · simp [h0]
      · simp [h0]
    · rw [Nat.add_assoc]
      exact hcell _ x (by rw [← hx, List.getElem?_drop])⟩
end

/-- a reader at block g: what is left, and whether it has failed; its bytes lie below block B -/
def ReaderAt (T : TypeId) (w : World) (g B : Nat) (r : Rd) : Prop :=
  ∃ A n c, Blk w g T #[.slice A n c, .bool r.bad] ∧ n ≤ c ∧ c ≤ maxLen ∧ RB w B A n r.rest ∧ B ≤ g
theorem ReaderAt.keep {T : TypeId} {w w' : World} {g B : Nat} {r : Rd} {K : Nat → Obj → Prop} (h : ReaderAt T w g B r) (k : Keep K w w') (hk : ∀ i o, i < B ∨ i = g → K i o) : ReaderAt T w' g B r := by
  obtain ⟨A, n, c, hb, hn, hc, hr, hB⟩ := h
  have hlt := hb.lt
  exact ⟨A, n, c, hb.keep k (hk _ _ (.inr rfl)), hn, hc, hr.below (k.below (by omega) fun i o hi => hk i o (.inl hi)), hB⟩

/-- the parts that hang at this pointer, the last one first -/
def Parts (w : World) : List ByteArray → Value → Prop
  | [], q => q = .pointer none
  | t :: r, q => ∃ h q', q = .pointer (some ⟨h, 0, none⟩) ∧ Blk w h 81 #[q', .string t] ∧ Parts w r q'
def spell : List ByteArray → List UInt8
  | [] => []
  | t :: r => spell r ++ t.data.toList
theorem Parts.keep {w w' : World} {K : Nat → Obj → Prop} (k : Keep K w w') (hk : ∀ i cs, w.heap[i]? = some (.cells cs 81 (0, 0)) → K i (.cells cs 81 (0, 0))) :
    ∀ {l : List ByteArray} {q : Value}, Parts w l q → Parts w' l q
  | [], _, h => h
  | _ :: _, _, ⟨h, q', e, hb, hr⟩ => ⟨h, q', e, hb.keep k (hk _ _ hb), Parts.keep k hk hr⟩
theorem Parts.ptr {w : World} : ∀ {l : List ByteArray} {q : Value}, Parts w l q → ∃ a, q = .pointer a
  | [], _, h => ⟨none, h⟩
  | _ :: _, _, ⟨h, _, e, _, _⟩ => ⟨some ⟨h, 0, none⟩, e⟩

/-- a writer at block g: bs was written -/
def WriterAt (w : World) (g : Nat) (bs : List UInt8) : Prop :=
  ∃ l q, Blk w g 42 #[q, .int .i64 (bs.length : Int)] ∧ Parts w l q ∧ spell l = bs
theorem WriterAt.keep {w w' : World} {g : Nat} {bs : List UInt8} {K : Nat → Obj → Prop} (h : WriterAt w g bs) (k : Keep K w w')
    (hg : ∀ cs, K g (.cells cs 42 (0, 0))) (hk : ∀ i cs, w.heap[i]? = some (.cells cs 81 (0, 0)) → K i (.cells cs 81 (0, 0))) : WriterAt w' g bs := by
  obtain ⟨l, q, hb, hp, hs⟩ := h
  exact ⟨l, q, hb.keep k (hg _), hp.keep k hk, hs⟩
/-- all blocks but g -/
abbrev But (g : Nat) : Nat → Obj → Prop := fun i _ => i ≠ g
end Go.Proofs.Ytpggnklbgkdjcaa
namespace Go.Proofs.Ytpggnklbgkdjcaa
open Go.RowKit
theorem info5 : (Try.prog.info? 5).map (fun i => (i.zero, i.size, i.bytes)) = some (some (.int .u8 0), 1, 1) := by kernel_rfl
theorem made5 (n : Nat) (hn : n ≤ 1000000) (w : World) : (Instr.makeSlice 27 (.int .i64 (n : Int)) (.int .i64 (n : Int))).run Try.prog w =
    .ok (.slice (some ⟨w.heap.size, 0, none⟩) n n) (w.alloc (.cells (cellsB (List.replicate n 0)).toArray 5)) := by
  obtain ⟨i0, hi, hz0, hz1, hz2⟩ := info_parts info5
  have h := run_make (P := Try.prog) w 27 5 i0 _ Try.underlying27 hi hz0 .i64 .i64 n n (by omega) (by omega) (by rw [hz2]; omega) (by omega)
  rw [h]
  simp only [Int.toNat_natCast, hz1, Nat.mul_one]
  congr 3
  apply Array.ext
  · simp [madeCells, cellsB]
  · intro i h1 h2
    simp [madeCells, cellsB, Value.cells]
    simp [Nat.mod_one, u8]
end Go.Proofs.Ytpggnklbgkdjcaa
