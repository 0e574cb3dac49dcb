/- What each call does where three disks lie side by side. -/
import Derived.Test.YtkgafnfbnpbacaaPlayP
namespace Go.Proofs.Ytkgafnfbnpbacaa
open Go.RowKit
section
variable {w : World} {F : Nat → Prop} {gd go gr : Nat} {s so r : St}
theorem can_true {s : St} {i : Int} {x : List UInt8} (h : s.can i x = true) : 0 ≤ i ∧ i < (s.n : Int) ∧ x.length = 64 ∧ s.broken = false := by
  simp [St.can] at h
  exact ⟨h.1.1.1, h.1.1.2, h.1.2, h.2⟩
theorem can_false {s : St} {i : Int} {x : List UInt8} (h : s.can i x = false) : x.length ≠ 64 ∨ ((i < 0 ∨ (s.n : Int) ≤ i) ∨ s.broken = true) := by
  by_cases h1 : x.length = 64
  · right
    by_cases h2 : 0 ≤ i ∧ i < (s.n : Int)
    · right
      cases hb : s.broken
      · simp [St.can, h1, h2.1, h2.2, hb] at h
      · rfl
    · left; omega
  · left; exact h1
theorem pWriteD (h : Sh w F gd go gr s so r) (hl : s.l.length ≤ 1000000) (hc : s.count ≤ 1000000) (hle : s.left ≤ 9223372036854775807) (i : Int) {b n : Nat} {x : List UInt8} (hx : x.length = n) (hB : Blk w b 5 (cellsB x).toArray) :
    Calls Try.prog 10 #[ptr gd, .int .i64 i, .slice (some ⟨b, 0, none⟩) n n] w fun e w' => e = .returned (.bool (s.can i x)) ∧ Sh w' F gd go gr (s.tw i x) so r ∧ Keep (KF F) w w' := by
  subst hx
  obtain ⟨Od, Oo, Or, hm⟩ := h
  cases hcan : s.can i x
  · have e : s.tw i x = s := by simp [St.tw, hcan]
    rw [e]
    rcases can_false hcan with h1 | h1
    · exact (write_len hm.d i _ _ _ h1).mono fun _ _ ⟨a, b⟩ => ⟨a, by rw [← b]; exact ⟨Od, Oo, Or, hm⟩, by rw [← b]; exact Keep.refl w⟩
    · by_cases h64 : x.length = 64
      · rw [h64]
        exact (write_no hm.d i _ _ h1).mono fun _ _ ⟨a, b⟩ => ⟨a, by rw [← b]; exact ⟨Od, Oo, Or, hm⟩, by rw [← b]; exact Keep.refl w⟩
      · exact (write_len hm.d i _ _ _ h64).mono fun _ _ ⟨a, b⟩ => ⟨a, by rw [← b]; exact ⟨Od, Oo, Or, hm⟩, by rw [← b]; exact Keep.refl w⟩
  · obtain ⟨h0, h1, h2, h3⟩ := can_true hcan
    have e : s.tw i x = s.wr i.toNat x := by simp [St.tw, hcan]
    rw [e, h2]
    obtain ⟨k, rfl⟩ := Int.eq_ofNat_of_zero_le h0
    exact (write_ hm.d h3 hl hc hle k (by omega) b x h2 hB).mono fun _ _ ⟨a, hd, hk⟩ => ⟨a, hm.turnD hd hk⟩
theorem pWriteO (h : Sh w F gd go gr s so r) (hl : so.l.length ≤ 1000000) (hc : so.count ≤ 1000000) (hle : so.left ≤ 9223372036854775807) (i : Int) {b : Nat} {x : List UInt8} (hx : x.length = 64) (hB : Blk w b 5 (cellsB x).toArray) :
    Calls Try.prog 10 #[ptr go, .int .i64 i, .slice (some ⟨b, 0, none⟩) 64 64] w fun e w' => e = .returned (.bool (so.can i x)) ∧ Sh w' F gd go gr s (so.tw i x) r ∧ Keep (KF F) w w' := by
  obtain ⟨Od, Oo, Or, hm⟩ := h
  cases hcan : so.can i x
  · have e : so.tw i x = so := by simp [St.tw, hcan]
    rw [e]
    rcases can_false hcan with h1 | h1
    · exact absurd hx h1
    · exact (write_no hm.o i _ _ h1).mono fun _ _ ⟨a, b⟩ => ⟨a, by rw [← b]; exact ⟨Od, Oo, Or, hm⟩, by rw [← b]; exact Keep.refl w⟩
  · obtain ⟨h0, h1, h2, h3⟩ := can_true hcan
    have e : so.tw i x = so.wr i.toNat x := by simp [St.tw, hcan]
    rw [e]
    obtain ⟨k, rfl⟩ := Int.eq_ofNat_of_zero_le h0
    exact (write_ hm.o h3 hl hc hle k (by omega) b x h2 hB).mono fun _ _ ⟨a, hd, hk⟩ => ⟨a, hm.turnO hd hk⟩
theorem pWriteR (h : Sh w F gd go gr s so r) (hl : r.l.length ≤ 1000000) (hc : r.count ≤ 1000000) (hle : r.left ≤ 9223372036854775807) (i : Int) {b n : Nat} {x : List UInt8} (hx : x.length = n) (hB : Blk w b 5 (cellsB x).toArray) :
    Calls Try.prog 12 #[ptr gr, .int .i64 i, .slice (some ⟨b, 0, none⟩) n n] w fun e w' => e = .returned (.bool (r.can i x)) ∧ Sh w' F gd go gr s so (r.tw i x) ∧ Keep (KF F) w w' := by
  subst hx
  obtain ⟨Od, Oo, Or, hm⟩ := h
  cases hcan : r.can i x
  · have e : r.tw i x = r := by simp [St.tw, hcan]
    rw [e]
    by_cases h64 : x.length = 64
    · rcases can_false hcan with h1 | h1
      · exact absurd h64 h1
      · rw [h64]
        exact (rwrite_no hm.r i _ _ h1).mono fun _ _ ⟨a, b⟩ => ⟨a, by rw [← b]; exact ⟨Od, Oo, Or, hm⟩, by rw [← b]; exact Keep.refl w⟩
    · exact (rwrite_len hm.r i _ _ _ h64).mono fun _ _ ⟨a, b⟩ => ⟨a, by rw [← b]; exact ⟨Od, Oo, Or, hm⟩, by rw [← b]; exact Keep.refl w⟩
  · obtain ⟨h0, h1, h2, h3⟩ := can_true hcan
    have e : r.tw i x = r.wr i.toNat x := by simp [St.tw, hcan]
    rw [e, h2]
    obtain ⟨k, rfl⟩ := Int.eq_ofNat_of_zero_le h0
    exact (rwrite_ hm.r h3 hl hc hle k (by omega) b x h2 hB).mono fun _ _ ⟨a, hd, hk⟩ => ⟨a, hm.turnR hd hk⟩
theorem pSyncD (h : Sh w F gd go gr s so r) : Calls Try.prog 13 #[ptr gd] w fun e w' => e = .returned (.bool (!s.broken)) ∧ Sh w' F gd go gr s.ts so r ∧ Keep (KF F) w w' := by
  obtain ⟨Od, Oo, Or, hm⟩ := h
  cases hb : s.broken
  · have e : s.ts = s.sync := by simp [St.ts, hb]
    rw [e]
    exact (sync_ hm.d hb).mono fun _ _ ⟨a, hd, hk⟩ => ⟨a, hm.turnD (hd.more fun _ hi => .inl hi) hk⟩
  · have e : s.ts = s := by simp [St.ts, hb]
    rw [e]
    exact (sync_no hm.d hb).mono fun _ _ ⟨a, b⟩ => ⟨a, by rw [← b]; exact ⟨Od, Oo, Or, hm⟩, by rw [← b]; exact Keep.refl w⟩
theorem pSyncR (h : Sh w F gd go gr s so r) : Calls Try.prog 14 #[ptr gr] w fun e w' => e = .returned (.bool (!r.broken)) ∧ Sh w' F gd go gr s so r.ts ∧ Keep (KF F) w w' := by
  obtain ⟨Od, Oo, Or, hm⟩ := h
  cases hb : r.broken
  · have e : r.ts = r.sync := by simp [St.ts, hb]
    rw [e]
    exact (rsync_ hm.r hb).mono fun _ _ ⟨a, hd, hk⟩ => ⟨a, hm.turnR (hd.more fun _ hi => .inl hi) hk⟩
  · have e : r.ts = r := by simp [St.ts, hb]
    rw [e]
    exact (rsync_no hm.r hb).mono fun _ _ ⟨a, b⟩ => ⟨a, by rw [← b]; exact ⟨Od, Oo, Or, hm⟩, by rw [← b]; exact Keep.refl w⟩
theorem pBreakD (h : Sh w F gd go gr s so r) (n : Int) : Calls Try.prog 17 #[ptr gd, .int .i64 n] w fun e w' => e = .returned (.tuple #[]) ∧ Sh w' F gd go gr (s.tb n.toNat) so r ∧ Keep (KF F) w w' := by
  obtain ⟨Od, Oo, Or, hm⟩ := h
  cases hb : s.broken
  · have e : s.tb n.toNat = s.brk n.toNat := by simp [St.tb, hb]
    rw [e]
    exact (break_ hm.d hb n).mono fun _ _ ⟨a, hd, hk⟩ => ⟨a, hm.turnD (hd.more fun _ hi => .inl hi) hk⟩
  · have e : s.tb n.toNat = s := by simp [St.tb, hb]
    rw [e]
    exact (break_no hm.d hb n).mono fun _ _ ⟨a, b⟩ => ⟨a, by rw [← b]; exact ⟨Od, Oo, Or, hm⟩, by rw [← b]; exact Keep.refl w⟩
theorem pBreakR (h : Sh w F gd go gr s so r) (n : Int) : Calls Try.prog 18 #[ptr gr, .int .i64 n] w fun e w' => e = .returned (.tuple #[]) ∧ Sh w' F gd go gr s so (r.tb (cutI n 0 1073741824).toNat) ∧ Keep (KF F) w w' := by
  obtain ⟨Od, Oo, Or, hm⟩ := h
  cases hb : r.broken
  · have e : r.tb (cutI n 0 1073741824).toNat = r.brk (cutI n 0 1073741824).toNat := by simp [St.tb, hb]
    rw [e]
    exact (rbreak_ hm.r hb n).mono fun _ _ ⟨a, hd, hk⟩ => ⟨a, hm.turnR (hd.more fun _ hi => .inl hi) hk⟩
  · have e : r.tb (cutI n 0 1073741824).toNat = r := by simp [St.tb, hb]
    rw [e]
    exact (rbreak_no hm.r hb n).mono fun _ _ ⟨a, b⟩ => ⟨a, by rw [← b]; exact ⟨Od, Oo, Or, hm⟩, by rw [← b]; exact Keep.refl w⟩
theorem pCrashD (h : Sh w F gd go gr s so r) (hl : s.l.length ≤ 1000000) (A : Option Addr) (n c : Nat) (ks : List Bool) (hks : Bools w F A n ks) (hn : n ≤ 9223372036854775807) :
    Calls Try.prog 15 #[ptr gd, .slice A n c] w fun e w' => e = .returned (.tuple #[]) ∧ Sh w' F gd go gr (s.crash (stays ks)) so r ∧ Keep (KF F) w w' := by
  obtain ⟨Od, Oo, Or, hm⟩ := h
  exact (crash_ hm.d hl A n c ks (hks.more fun i _ hi => hm.fd i hi) hn).mono fun _ _ ⟨a, hd, hk⟩ => ⟨a, hm.turnD (hd.more fun _ hi => .inl hi) hk⟩
theorem pCrashR (h : Sh w F gd go gr s so r) (A : Option Addr) (n c : Nat) (ks : List Bool) (hks : Bools w F A n ks) (hn : n ≤ 9223372036854775807) :
    Calls Try.prog 16 #[ptr gr, .slice A n c] w fun e w' => e = .returned (.tuple #[]) ∧ Sh w' F gd go gr s so (r.rcrash (stays ks)) ∧ Keep (KF F) w w' := by
  obtain ⟨Od, Oo, Or, hm⟩ := h
  exact (rcrash_ hm.r A n c ks (hks.more fun i _ hi => hm.fr i hi) hn).mono fun _ _ ⟨a, hd, hk⟩ => ⟨a, hm.turnR (hd.more fun _ hi => .inl hi) hk⟩
theorem pWrites (h : Sh w F gd go gr s so r) : Calls Try.prog 19 #[ptr gd] w fun e w' => e = .returned (.int .i64 (s.count : Int)) ∧ w = w' := by
  obtain ⟨Od, Oo, Or, hm⟩ := h
  exact writes_ hm.d
theorem pLenD (h : Sh w F gd go gr s so r) : Calls Try.prog 20 #[ptr gd] w fun e w' => e = .returned (.int .i64 (s.n : Int)) ∧ w = w' := by
  obtain ⟨Od, Oo, Or, hm⟩ := h
  exact len_ hm.d
theorem pLenR (h : Sh w F gd go gr s so r) {n : Nat} (hn : r.n = n) : Calls Try.prog 21 #[ptr gr] w fun e w' => e = .returned (.int .i64 (n : Int)) ∧ w = w' := by
  subst hn
  obtain ⟨Od, Oo, Or, hm⟩ := h
  exact rlen_ hm.r
theorem pCount (h : Sh w F gd go gr s so r) : w.cell? ⟨gr, 4, none⟩ = some (.int .i64 (r.count : Int)) := by
  obtain ⟨Od, Oo, Or, hm⟩ := h
  obtain ⟨vs, vl, rs, ls, hr⟩ := hm.r
  rw [hr.head.cell]; rfl
/-- what Read answers, as a string, now and behind what is made later -/
def ReadS (w : World) (x : ByteArray) (e : Ending) (w' : World) : Prop :=
  ∃ A n c, e = .returned (.slice A n c) ∧ (∀ W, Below w'.heap.size w' W → (convert 32 9 (.slice A n c)).run Try.prog W = .ok (.string x) W) ∧ Below w.heap.size w w'
theorem pReadD (h : Sh w F gd go gr s so r) (i : Int) : Calls Try.prog 22 #[ptr gd, .int .i64 i] w (ReadS w (s.str i)) := by
  obtain ⟨Od, Oo, Or, hm⟩ := h
  by_cases hi : 0 ≤ i ∧ i < (s.n : Int)
  · have e : s.str i = ⟨(s.now.getD i.toNat []).toArray⟩ := by rw [St.str, if_pos hi]
    rw [e]
    obtain ⟨k, rfl⟩ := Int.eq_ofNat_of_zero_le hi.1
    have hk : k < s.n := by omega
    rw [Int.toNat_natCast]
    have hl : (s.now.getD k []).length = 64 := by
      obtain ⟨_, _, hmm⟩ := hm.d
      exact secs_getD hmm.ok.now (by rw [St.now_length]; exact hk)
    exact (read_ hm.d k hk).mono fun _ w' ⟨a, hb, hbel, hsz⟩ => ⟨_, _, _, a, fun W hW => convert_blk (hb.below hW (by omega)) hl 64, hbel⟩
  · have e : s.str i = ⟨#[]⟩ := by rw [St.str, if_neg hi]
    rw [e]
    exact (read_no hm.d i (by omega)).mono fun _ w' ⟨a, b⟩ => ⟨none, 0, 0, a, fun W _ => convert_none W, by rw [← b]; exact Below.refl _ _⟩
theorem pReadR (h : Sh w F gd go gr s so r) (i : Int) (hl : r.l.length ≤ 1000000) {x : ByteArray} (hx : r.str i = x) : Calls Try.prog 23 #[ptr gr, .int .i64 i] w fun e w' => ∃ A n c, e = .returned (.slice A n c) ∧ (convert 32 9 (.slice A n c)).run Try.prog w' = .ok (.string x) w' ∧ Below w.heap.size w w' := by
  subst hx
  obtain ⟨Od, Oo, Or, hm⟩ := h
  by_cases hi : 0 ≤ i ∧ i < (r.n : Int)
  · have e : r.str i = ⟨(r.now.getD i.toNat []).toArray⟩ := by rw [St.str, if_pos hi]
    rw [e]
    obtain ⟨k, rfl⟩ := Int.eq_ofNat_of_zero_le hi.1
    have hk : k < r.n := by omega
    rw [Int.toNat_natCast]
    exact (rread_ hm.r k hk hl).mono fun _ w' ⟨A, c, a, hc, hbel, _⟩ => ⟨A, 64, c, a, hc, hbel⟩
  · have e : r.str i = ⟨#[]⟩ := by rw [St.str, if_neg hi]
    rw [e]
    exact (rread_no hm.r i (by omega)).mono fun _ w' ⟨a, b⟩ => ⟨none, 0, 0, a, convert_none w', by rw [← b]; exact Below.refl _ _⟩
end
end Go.Proofs.Ytkgafnfbnpbacaa
