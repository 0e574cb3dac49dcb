/- All of a tree. -/
import Derived.Test.YtocaaebmelhhnaaSeqA
import Derived.Laws.MakeOwn
set_option maxRecDepth 4000
namespace Go.Proofs.Ytocaaebmelhhnaa
open Go.RowKit
theorem made_rows (m : Nat) (hm : m ≤ 100000) : ∃ Z : Array Value, Z.size = m * 2 ∧ ∀ W : World, (Instr.makeSlice 22 (.int .i64 0) (.int .i64 (m : Int))).run Try.prog W = .ok (.slice (some ⟨W.heap.size, 0, none⟩) 0 m) (W.alloc (.cells Z 29)) := by
  obtain ⟨i0, hi, hz0, hz1, hz2⟩ := info_parts infoRow
  refine ⟨madeCells (Value.agg #[.string ⟨#[]⟩, .string ⟨#[]⟩]).cells (m * 2), size_madeCells _ _, fun W => ?_⟩
  have h := run_make (P := Try.prog) W 22 29 i0 _ Try.underlying22 hi hz0 .i64 .i64 0 m (Int.le_refl _) (by omega) (by rw [hz2]; omega) (by omega)
  rw [hz1] at h
  simpa using h
theorem own_made {W : World} {Z : Array Value} {m base b : Nat} (hb : Blk W b 29 Z) (hz : Z.size = m * 2) (hm : m ≤ 100000) (hbase : base ≤ b) : W.ownsRow base 29 2 (.slice (some ⟨b, 0, none⟩) 0 m) 0 (cellsR []) :=
  ⟨rfl, .inr ⟨b, m, Z, rfl, hbase, hb, Nat.zero_le _, by unfold maxLen; omega, hz, by simp [cellsR]⟩⟩
theorem cmp_empty (a : ByteArray) : 0 ≤ cmpS a ⟨#[]⟩ := by
  unfold cmpS
  have : ByteArray.toList ⟨#[]⟩ = [] := by
    rw [ByteArray.toList, ByteArray.toList.loop]
    simp only [List.reverse_nil, ite_eq_right_iff]
    intro h
    exact absurd h (by decide)
  rw [this]
  cases a.toList <;> simp [cmpL]
theorem find_empty (xs : List Rw) : findR xs ⟨#[]⟩ = 0 := by
  cases xs with
  | nil => rfl
  | cons x r => rw [findR, if_pos (cmp_empty _)]
theorem from_all {T : Te} (ok : OkTe T) (hup : Up (flatTe T)) (k : ByteArray) : fromTe T k = fromR (flatTe T) k := from_flat _ _ k ok hup
theorem from_whole {T : Te} (ok : OkTe T) (hup : Up (flatTe T)) : fromTe T ⟨#[]⟩ = flatTe T := by
  rw [from_all ok hup, fromR, find_empty]; rfl
/-- From of a tree, in whatever world is next -/
def FromP (w : World) (n₀ : Nat) (xs : List Rw) (e : Ending) (w' : World) : Prop :=
  ∃ B1 B2, e = .returned (.func (.func 33) #[] #[.pointer (some ⟨B1, 0, none⟩), .pointer (some ⟨B2, 0, none⟩)]) ∧ Below w.heap.size w w' ∧ (∀ n W2, Below w'.heap.size w' W2 → Seq n n₀ B1 B2 xs W2) ∧ ∀ (P : Rw → Prop), (∀ x ∈ xs, P x) → ∀ n W2, Below w'.heap.size w' W2 → SeqP P n n₀ B1 B2 xs W2
theorem from_seq {w : World} {K : Nat → Prop} {b n₀ : Nat} {T : Te} (a : TeAt w K b T) (ok : OkTe T) (hK : ∀ i, i < w.heap.size → K i → i < n₀) (h0 : n₀ ≤ w.heap.size) (k : ByteArray) :
    Calls Try.prog 27 #[.pointer (some ⟨b, 0, none⟩), .string k] w (FromP w n₀ (fromTe T k)) := by
  refine (from_ w b k).mono ?_
  rintro e w' ⟨rfl, rfl⟩
  have hb : Below w.heap.size w ((w.alloc (.cells #[.pointer (some ⟨b, 0, none⟩)] 25)).alloc (.cells #[.string k] 9)) := (alloc_below _ _).alloc (by simp) _
  have key : ∀ W2, Below ((w.alloc (.cells #[.pointer (some ⟨b, 0, none⟩)] 25)).alloc (.cells #[.string k] 9)).heap.size ((w.alloc (.cells #[.pointer (some ⟨b, 0, none⟩)] 25)).alloc (.cells #[.string k] 9)) W2 →
      TeAt W2 (fun i => K i ∧ i < n₀) b T ∧ n₀ ≤ W2.heap.size ∧ W2.cell? ⟨w.heap.size, 0, none⟩ = some (.pointer (some ⟨b, 0, none⟩)) ∧ W2.cell? ⟨w.heap.size + 1, 0, none⟩ = some (.string k) := fun W2 h2 => by
   have c1 := ((Blk.new w 25 #[.pointer (some ⟨b, 0, none⟩)]).alloc (.cells #[.string k] 9)).below h2 (by simp; omega)
   have c2 := (Blk.new (w.alloc (.cells #[.pointer (some ⟨b, 0, none⟩)] 25)) 9 #[.string k]).below h2 (by simp)
   have a2 : TeAt w (fun i => K i ∧ i < n₀) b T := a.more (fun i hi hk => ⟨hk, hK i hi hk⟩) (fun h => a.not h.1)
   have e2 := c2.cell 0
   exact ⟨a2.below (hb.trans (h2.mono hb.size)), Nat.le_trans h0 (Nat.le_trans hb.size h2.size), c1.cell 0, by simpa using e2⟩
  exact ⟨_, _, rfl, hb, fun n W2 h2 => from_stops (key W2 h2).1 ok (fun i _ hk => hk.2) (key W2 h2).2.1 (key W2 h2).2.2.1 (key W2 h2).2.2.2 n,
    fun P hP n W2 h2 => from_stopsP (key W2 h2).1 ok (fun i _ hk => hk.2) (key W2 h2).2.1 hP (key W2 h2).2.2.1 (key W2 h2).2.2.2 n⟩
theorem all_at {w X : World} {m B1 B2 : Nat} {v : Value} {xs : List Rw} (hX : Below w.heap.size w X) (ho : X.ownsRow w.heap.size 29 2 v 0 (cellsR [])) (hm : xs.length = m) (hs : m ≤ 10000) (hseq : ∀ W, Below X.heap.size X W → Seq 0 w.heap.size B1 B2 xs W) :
    Calls Try.prog 26 #[v, .func (.func 33) #[] #[.pointer (some ⟨B1, 0, none⟩), .pointer (some ⟨B2, 0, none⟩)]] X fun e w' => ∃ A c, e = .returned (.slice A m c) ∧ Rws w' (fun i => w.heap.size ≤ i) A xs ∧ m ≤ c ∧ (A = none → c = 0) ∧ Below w.heap.size w w' := by
  refine (appendSeq_ ho hX.size (by omega) hseq).mono ?_
  rintro e w' ⟨u, rfl, hown, hk⟩
  rw [List.nil_append, Nat.zero_add, hm] at hown
  obtain ⟨A, c, rfl, hr, _, h1, _, h2⟩ := own_rws hown
  exact ⟨A, c, rfl, hr, h1, h2, hX.trans hk⟩
set_option maxHeartbeats 2000000 in
theorem all_of {w : World} {K : Nat → Prop} {b : Nat} {T : Te} (a : TeAt w K b T) (ok : OkTe T) (hup : Up (flatTe T)) (hs : (flatTe T).length ≤ 10000) (hK : ∀ i, w.heap.size ≤ i → K i) :
    Calls Try.prog 11 #[.pointer (some ⟨b, 0, none⟩)] w fun e w' => ∃ A c, e = .returned (.slice A (flatTe T).length c) ∧ Rws w' (fun i => w.heap.size ≤ i) A (flatTe T) ∧ (flatTe T).length ≤ c ∧ (A = none → c = 0) ∧ Below w.heap.size w w' := by
  have a2 : TeAt w (fun i => K i ∧ i < w.heap.size) b T := a.more (fun i hi hk => ⟨hk, hi⟩) (fun h => a.not h.1)
  have HF : Hid (∀ X, Below w.heap.size w X → Calls Try.prog 27 #[.pointer (some ⟨b, 0, none⟩), .string ⟨#[]⟩] X (FromP X w.heap.size (flatTe T))) := fun X hb => by
    rw [← from_whole ok hup]
    exact from_seq (a2.below hb) ok (fun i _ hk => hk.2) hb.size _
  have HL := Lib.hid fun (W : World) (hb : Below w.heap.size w W) => len_ (a.below hb) (fun i hi => hK i (Nat.le_trans hb.size hi))
  generalize flatTe T = xs at *
  obtain ⟨m, hm⟩ : ∃ m, xs.length = m := ⟨_, rfl⟩
  rw [hm] at HL hs ⊢
  have HM := Lib.hid hm
  obtain ⟨Z, hz, hmk⟩ := made_rows m (by omega)
  have HZ := Lib.hid hz
  have HB0 := Lib.hid (Below.refl w.heap.size w).drew
  unfold FromP at HF
  have hm5 : m ≤ 100000 := by omega
  clear a a2 hK hm hz ok hup
  go_enter Try.func11, Try.ntmps11
  go_wp2_with fail
  go_region_with (first | (go_at_call 12; refine (HL.out _ (by first | exact HBF.out | exact HB0.out)).mono ?_; rintro e w2 ⟨rfl, hb2⟩; have HB2 := Lib.hid (show Below w.heap.size w w2 by first | exact HBF.out.trans (hb2.mono HBF.out.size) | exact HB0.out.trans (hb2.mono HB0.out.size)); have HB4 := Lib.hid hb2; clear hb2) | (go_at_call 27; refine (HF.out _ (by first | exact HB2.out.alloc HB2.out.size _ | exact HB2.out | exact HB0.out)).mono ?_; rintro e w3 ⟨B1, B2, rfl, hb3, hsq, _⟩; have HBF := Lib.hid (show Below w.heap.size w w3 by first | exact (HB2.out.alloc HB2.out.size _).trans (hb3.mono (HB2.out.alloc HB2.out.size _).size) | exact HB2.out.trans (hb3.mono HB2.out.size) | exact HB0.out.trans (hb3.mono HB0.out.size)); have HB3 := Lib.hid hb3; have HSQ := Lib.hid hsq; clear hb3 hsq) | (go_at_call 26; (first | (guard_target =~ Calls _ _ _ w3 _; refine (all_at HBF.out (own_made ((Blk.new w2 29 Z).below HB3.out (by simp)) HZ.out hm5 HB2.out.size) HM.out hs (HSQ.out 0)).mono ?_) | (guard_target =~ Calls _ _ _ (w3.alloc _) _; refine (all_at (HBF.out.alloc HBF.out.size _) (own_made (Blk.new w3 29 Z) HZ.out hm5 HBF.out.size) HM.out hs (fun W hW => HSQ.out 0 W ((alloc_below _ _).trans (hW.mono (by simp))))).mono ?_) | (guard_target =~ Calls _ _ _ (w2.alloc _) _; refine (all_at (HB2.out.alloc HB2.out.size _) (own_made (Blk.new w2 29 Z) HZ.out hm5 HB2.out.size) HM.out hs (fun W hW => HSQ.out 0 W ((HB4.out.alloc HB4.out.size _).trans (hW.mono (HB4.out.alloc HB4.out.size _).size)))).mono ?_)); rintro e w5 ⟨A5, c5, rfl, hr5, h15, h25, hb5⟩; have HR5 := Lib.hid hr5; have H25 := Lib.hid h25; have HB5 := Lib.hid hb5; clear hr5 h25 hb5))
  all_goals
    go_wp2_with fail
    go_ret
    exact ⟨A5, c5, rfl, HR5.out, h15, H25.out, HB5.out⟩
end Go.Proofs.Ytocaaebmelhhnaa
