/- A disk and the document's own one, step by step: plain facts. -/
import Derived.Test.YtkgafnfbnpbacaaRefRead
import Derived.Test.YtkgafnfbnpbacaaLastP
namespace Go.Proofs.Ytkgafnfbnpbacaa
open Go.RowKit
/-- a write that may be refused -/
def St.can (s : St) (i : Int) (x : List UInt8) : Bool := decide (0 ≤ i) && decide (i < (s.n : Int)) && x.length == 64 && !s.broken
def St.tw (s : St) (i : Int) (x : List UInt8) : St := if s.can i x then s.wr i.toNat x else s
def St.ts (s : St) : St := if s.broken then s else s.sync
def St.tb (s : St) (n : Nat) : St := if s.broken then s else s.brk n
/-- both hold the same; what is left till a Break is the same, or great -/
structure Same (j : Nat) (s r : St) : Prop where
  sure : s.sure = r.sure
  l : s.l = r.l
  count : s.count = r.count
  ends : s.ends = r.ends
  left : s.ends = true → s.left = r.left ∨ (1073741824 - j ≤ s.left ∧ 1073741824 - j ≤ r.left)
  ls : s.left ≤ 9223372036854775807
  lr : r.left ≤ 9223372036854775807
  len : s.l.length ≤ j
  cnt : s.count ≤ j
theorem Same.n {j : Nat} {s r : St} (h : Same j s r) : s.n = r.n := by rw [St.n, St.n, h.sure]
theorem Same.now {j : Nat} {s r : St} (h : Same j s r) : s.now = r.now := by rw [St.now, St.now, h.sure, h.l]
theorem Same.broken {j : Nat} {s r : St} (h : Same j s r) (hj : j ≤ 1000) : s.broken = r.broken := by
  rw [St.broken, St.broken, ← h.ends]
  cases he : s.ends
  · rfl
  · rcases h.left he with e | ⟨h1, h2⟩
    · rw [e]
    · have e1 : (s.left == 0) = false := by rw [beq_eq_false_iff_ne]; omega
      have e2 : (r.left == 0) = false := by rw [beq_eq_false_iff_ne]; omega
      rw [e1, e2]
theorem Same.can {j : Nat} {s r : St} (h : Same j s r) (hj : j ≤ 1000) (i : Int) (x : List UInt8) : s.can i x = r.can i x := by rw [St.can, St.can, h.n, h.broken hj]
theorem Same.more {j k : Nat} {s r : St} (h : Same j s r) (hjk : j ≤ k) : Same k s r :=
  ⟨h.sure, h.l, h.count, h.ends, fun he => (h.left he).imp id fun ⟨a, b⟩ => ⟨by omega, by omega⟩, h.ls, h.lr, by have := h.len; omega, by have := h.cnt; omega⟩
theorem Same.tw {j : Nat} {s r : St} (h : Same j s r) (hj : j ≤ 1000) (i : Int) (x : List UInt8) : Same (j + 1) (s.tw i x) (r.tw i x) := by
  rw [St.tw, St.tw, ← h.can hj]
  split
  · rename_i hc
    have hb : s.broken = false := by simp [St.can] at hc; exact hc.2
    have hbr : r.broken = false := by rw [← h.broken hj]; exact hb
    refine ⟨h.sure, by show _ ++ _ = _ ++ _; rw [h.l], by show _ + 1 = _ + 1; rw [h.count], h.ends, fun he => ?_, ?_, ?_, by show (s.l ++ _).length ≤ _; have := h.len; simp; omega, by show s.count + 1 ≤ _; have := h.cnt; omega⟩
    · have he' : s.ends = true := he
      have her : r.ends = true := by rw [← h.ends]; exact he'
      simp only [St.wr, he', her, if_true]
      rcases h.left he' with e | ⟨h1, h2⟩
      · left; rw [e]
      · right; omega
    · show (if s.ends then _ else _) ≤ _; have := h.ls; split <;> omega
    · show (if r.ends then _ else _) ≤ _; have := h.lr; split <;> omega
  · exact h.more (by omega)
theorem Same.ts {j : Nat} {s r : St} (h : Same j s r) (hj : j ≤ 1000) : Same (j + 1) s.ts r.ts := by
  rw [St.ts, St.ts, ← h.broken hj]
  split
  · exact h.more (by omega)
  · exact ⟨by show play _ _ = play _ _; rw [h.sure, h.l], rfl, h.count, h.ends, fun he => (h.left he).imp id fun ⟨a, b⟩ => ⟨Nat.le_trans (by omega) a, Nat.le_trans (by omega) b⟩, h.ls, h.lr, Nat.zero_le _, by have := h.cnt; show s.count ≤ _; omega⟩
theorem Same.crash {j : Nat} {s r : St} (h : Same j s r) (k : Nat → Bool) : Same (j + 1) (s.crash k) (r.rcrash k) :=
  ⟨by show settle _ _ _ _ = settle _ _ _ _; rw [h.sure, h.l], rfl, h.count, rfl, (fun he => by cases he), Nat.zero_le _, h.lr, Nat.zero_le _, by have := h.cnt; show s.count ≤ _; omega⟩
theorem Same.tb {j : Nat} {s r : St} (h : Same j s r) (hj : j ≤ 1000) {n : Int} (hn : n ≤ 9223372036854775807) : Same (j + 1) (s.tb n.toNat) (r.tb (cutI n 0 1073741824).toNat) := by
  rw [St.tb, St.tb, ← h.broken hj]
  split
  · exact h.more (by omega)
  · refine ⟨h.sure, h.l, h.count, rfl, fun _ => ?_, by show n.toNat ≤ _; omega, ?_, by have := h.len; show s.l.length ≤ _; omega, by have := h.cnt; show s.count ≤ _; omega⟩
    · show n.toNat = (cutI n 0 1073741824).toNat ∨ _
      unfold cutI
      by_cases h0 : n < 0
      · left; simp [h0]; omega
      · by_cases h1 : 1073741824 < n
        · right
          refine ⟨?_, ?_⟩
          · show 1073741824 - (j + 1) ≤ n.toNat; omega
          · show 1073741824 - (j + 1) ≤ (if n < 0 then 0 else if 1073741824 < n then 1073741824 else n).toNat
            rw [if_neg h0, if_pos h1]; omega
        · left; simp [h0, h1]
    · show (cutI n 0 1073741824).toNat ≤ _
      unfold cutI
      split
      · omega
      · split <;> omega
theorem Same.new (n : Nat) : Same 0 (St.new n) (St.new n) := ⟨rfl, rfl, rfl, rfl, fun _ => .inl rfl, Nat.zero_le _, Nat.zero_le _, Nat.le_refl _, Nat.le_refl _⟩
/-- what is read of a sector, as a string -/
def St.str (s : St) (i : Int) : ByteArray := if 0 ≤ i ∧ i < (s.n : Int) then ⟨(s.now.getD i.toNat []).toArray⟩ else ⟨#[]⟩
theorem Same.str {j : Nat} {s r : St} (h : Same j s r) (i : Int) : s.str i = r.str i := by rw [St.str, St.str, h.n, h.now]

/-! three disks side by side, and blocks that are none of theirs -/
structure ShM (w : World) (F : Nat → Prop) (Od Oo Or : Nat → Prop) (gd go gr : Nat) (s so r : St) : Prop where
  d : DiskAt w gd Od s
  o : DiskAt w go Oo so
  r : RefAt w gr Or r
  d1 : ∀ i, Od i → ¬ Oo i
  d2 : ∀ i, Od i → ¬ Or i
  d3 : ∀ i, Oo i → ¬ Or i
  ld : ∀ i, Od i → i < w.heap.size
  lo : ∀ i, Oo i → i < w.heap.size
  lr : ∀ i, Or i → i < w.heap.size
  fd : ∀ i, F i → ¬ Od i
  fo : ∀ i, F i → ¬ Oo i
  fr : ∀ i, F i → ¬ Or i
  fl : ∀ i, F i → i < w.heap.size
def Sh (w : World) (F : Nat → Prop) (gd go gr : Nat) (s so r : St) : Prop := ∃ Od Oo Or, ShM w F Od Oo Or gd go gr s so r
section
variable {w w' : World} {F : Nat → Prop} {Od Oo Or : Nat → Prop} {gd go gr : Nat} {s so r s' : St}
abbrev KF (F : Nat → Prop) : Nat → Obj → Prop := fun i _ => F i
theorem ShM.turnD (h : ShM w F Od Oo Or gd go gr s so r) (hd : DiskAt w' gd (fun i => Od i ∨ w.heap.size ≤ i) s') (hk : Keep (Out Od) w w') : Sh w' F gd go gr s' so r ∧ Keep (KF F) w w' :=
  ⟨⟨_, Oo, Or, ⟨hd.cut, h.o.keep hk fun i _ hi ho => h.d1 i ho hi, h.r.keep hk fun i _ hi ho => h.d2 i ho hi,
    fun i hi => hi.1.elim (h.d1 i) fun hn ho => by have := h.lo i ho; omega, fun i hi => hi.1.elim (h.d2 i) fun hn ho => by have := h.lr i ho; omega, h.d3,
    fun _ hi => hi.2, fun i hi => Nat.lt_of_lt_of_le (h.lo i hi) hk.size, fun i hi => Nat.lt_of_lt_of_le (h.lr i hi) hk.size,
    fun i hi ho => ho.1.elim (h.fd i hi) fun hn => by have := h.fl i hi; omega, h.fo, h.fr, fun i hi => Nat.lt_of_lt_of_le (h.fl i hi) hk.size⟩⟩, hk.mono fun i _ _ hi => h.fd i hi⟩
theorem ShM.turnO (h : ShM w F Od Oo Or gd go gr s so r) (hd : DiskAt w' go (fun i => Oo i ∨ w.heap.size ≤ i) s') (hk : Keep (Out Oo) w w') : Sh w' F gd go gr s s' r ∧ Keep (KF F) w w' :=
  ⟨⟨Od, _, Or, ⟨h.d.keep hk fun i _ hi ho => h.d1 i hi ho, hd.cut, h.r.keep hk fun i _ hi ho => h.d3 i ho hi,
    fun i hi ho => ho.1.elim (h.d1 i hi) fun hn => by have := h.ld i hi; omega, h.d2, fun i hi => hi.1.elim (h.d3 i) fun hn ho => by have := h.lr i ho; omega,
    fun i hi => Nat.lt_of_lt_of_le (h.ld i hi) hk.size, fun _ hi => hi.2, fun i hi => Nat.lt_of_lt_of_le (h.lr i hi) hk.size,
    h.fd, fun i hi ho => ho.1.elim (h.fo i hi) fun hn => by have := h.fl i hi; omega, h.fr, fun i hi => Nat.lt_of_lt_of_le (h.fl i hi) hk.size⟩⟩, hk.mono fun i _ _ hi => h.fo i hi⟩
theorem ShM.turnR (h : ShM w F Od Oo Or gd go gr s so r) (hd : RefAt w' gr (fun i => Or i ∨ w.heap.size ≤ i) s') (hk : Keep (Out Or) w w') : Sh w' F gd go gr s so s' ∧ Keep (KF F) w w' :=
  ⟨⟨Od, Oo, _, ⟨h.d.keep hk fun i _ hi ho => h.d2 i hi ho, h.o.keep hk fun i _ hi ho => h.d3 i hi ho, hd.cut,
    h.d1, fun i hi ho => ho.1.elim (h.d2 i hi) fun hn => by have := h.ld i hi; omega, fun i hi ho => ho.1.elim (h.d3 i hi) fun hn => by have := h.lo i hi; omega,
    fun i hi => Nat.lt_of_lt_of_le (h.ld i hi) hk.size, fun i hi => Nat.lt_of_lt_of_le (h.lo i hi) hk.size, fun _ hi => hi.2,
    h.fd, h.fo, fun i hi ho => ho.1.elim (h.fr i hi) fun hn => by have := h.fl i hi; omega, fun i hi => Nat.lt_of_lt_of_le (h.fl i hi) hk.size⟩⟩, hk.mono fun i _ _ hi => h.fr i hi⟩
theorem Sh.keep {K : Nat → Obj → Prop} (h : Sh w F gd go gr s so r) (hk : Keep K w w') (hK : ∀ i o, ¬ F i → i < w.heap.size → K i o) : Sh w' F gd go gr s so r := by
  obtain ⟨Od, Oo, Or, h⟩ := h
  exact ⟨Od, Oo, Or, ⟨h.d.keep hk fun i o hi => hK i o (fun hf => h.fd i hf hi) (h.ld i hi), h.o.keep hk fun i o hi => hK i o (fun hf => h.fo i hf hi) (h.lo i hi), h.r.keep hk fun i o hi => hK i o (fun hf => h.fr i hf hi) (h.lr i hi), h.d1, h.d2, h.d3,
    fun i hi => Nat.lt_of_lt_of_le (h.ld i hi) hk.size, fun i hi => Nat.lt_of_lt_of_le (h.lo i hi) hk.size, fun i hi => Nat.lt_of_lt_of_le (h.lr i hi) hk.size, h.fd, h.fo, h.fr, fun i hi => Nat.lt_of_lt_of_le (h.fl i hi) hk.size⟩⟩
theorem Sh.below (h : Sh w F gd go gr s so r) (hb : Below w.heap.size w w') : Sh w' F gd go gr s so r := h.keep (K := fun _ _ => True) (Keep.of_below hb) fun _ _ _ _ => trivial
theorem Sh.drew (h : Sh w F gd go gr s so r) : Sh w.drew F gd go gr s so r := h.keep (K := fun _ _ => True) ((Keep.refl w).drew) fun _ _ _ _ => trivial
/-- one more block that is none of theirs -/
theorem Sh.alloc (h : Sh w F gd go gr s so r) (ob : Obj) : Sh (w.alloc ob) (fun i => F i ∨ i = w.heap.size) gd go gr s so r := by
  have h2 := h.below (alloc_below w ob)
  obtain ⟨Od, Oo, Or, h0⟩ := h
  have hk : Keep (fun _ _ => True) w (w.alloc ob) := (Keep.refl w).alloc ob
  exact ⟨Od, Oo, Or, ⟨h0.d.below (alloc_below w ob), h0.o.below (alloc_below w ob), h0.r.below (alloc_below w ob), h0.d1, h0.d2, h0.d3, fun i hi => Nat.lt_of_lt_of_le (h0.ld i hi) hk.size, fun i hi => Nat.lt_of_lt_of_le (h0.lo i hi) hk.size, fun i hi => Nat.lt_of_lt_of_le (h0.lr i hi) hk.size,
    fun i hi ho => hi.elim (fun hf => h0.fd i hf ho) fun e => by have := h0.ld i ho; omega, fun i hi ho => hi.elim (fun hf => h0.fo i hf ho) fun e => by have := h0.lo i ho; omega, fun i hi ho => hi.elim (fun hf => h0.fr i hf ho) fun e => by have := h0.lr i ho; omega,
    fun i hi => hi.elim (fun hf => Nat.lt_of_lt_of_le (h0.fl i hf) hk.size) fun e => by subst e; simp⟩⟩
theorem Sh.less {F' : Nat → Prop} (h : Sh w F gd go gr s so r) (hF : ∀ i, F' i → F i) : Sh w F' gd go gr s so r := by
  obtain ⟨Od, Oo, Or, h⟩ := h
  exact ⟨Od, Oo, Or, ⟨h.d, h.o, h.r, h.d1, h.d2, h.d3, h.ld, h.lo, h.lr, fun i hi => h.fd i (hF i hi), fun i hi => h.fo i (hF i hi), fun i hi => h.fr i (hF i hi), fun i hi => h.fl i (hF i hi)⟩⟩
theorem Sh.setF (h : Sh w F gd go gr s so r) {b : Nat} (hb : F b) (i : Nat) (v : Value) : Sh (w.setCell ⟨b, i, none⟩ v) F gd go gr s so r :=
  h.keep (K := fun i _ => ¬ F i) ((Keep.refl w).setCell (p := ⟨b, i, none⟩) (fun _ _ hK => hK hb) v) fun _ _ hf _ => hf
theorem Sh.fl (h : Sh w F gd go gr s so r) : ∀ i, F i → i < w.heap.size := by obtain ⟨_, _, _, h⟩ := h; exact h.fl
end
end Go.Proofs.Ytkgafnfbnpbacaa
