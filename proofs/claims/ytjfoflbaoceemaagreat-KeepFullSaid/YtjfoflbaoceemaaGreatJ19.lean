/- . . . . . -/
import Derived.Test.YtjfoflbaoceemaaGreatJ15
import Derived.Test.YtjfoflbaoceemaaGreatProg
import Derived.Test.YtjfoflbaoceemaaGreatJ01
import Derived.WalkKit
import Derived.ProofKit
import Derived.Lib.Hide
import Derived.RegionTactic
import Derived.Deep.QuietTactic
import Derived.BigQuiet
import Derived.Test.YtjfoflbaoceemaaGreatJ17
import Derived.Laws.StructEq
import Derived.Test.YtjfoflbaoceemaaGreatJ18
import Derived.Deep.RegionHeld3
import Derived.Deep.RegionWith
import Derived.Test.YtjfoflbaoceemaaGreatJ16
set_option maxRecDepth 4000
namespace Go.Proofs.YtjfoflbaoceemaaGreat
open Go.RowKit
theorem retM {a b : Bool} (h : a = b) : Ending.returned (.bool a) = .returned (.bool b) := by rw [h]
theorem within_ (n a b : Int) (w : World) : Calls Tryz.prog 220 #[.int .i64 n, .int .i64 a, .int .i64 b] w fun e w' => e = .returned (.bool (decide (a ≤ n) && decide (n ≤ b))) ∧ w = w' := by
  by_cases h1 : a ≤ n
  · have E : Hid ((decide (a ≤ n) && decide (n ≤ b)) = decide (n ≤ b)) := by
      have e : decide (a ≤ n) = true := decide_eq_true h1
      show _ = _
      rw [e, Bool.true_and]
    go_enter Tryz.func220, Tryz.ntmps220
    go_wp2
    go_ret
    exact ⟨retM E.out.symm, rfl⟩
  · have E : Hid ((decide (a ≤ n) && decide (n ≤ b)) = false) := by
      have e : decide (a ≤ n) = false := decide_eq_false h1
      show _ = _
      rw [e, Bool.false_and]
    go_enter Tryz.func220, Tryz.ntmps220
    go_wp2
    go_ret
    exact ⟨retM E.out.symm, rfl⟩
theorem inId (i : Int) (w : World) : Calls Tryz.prog 220 #[.int .i64 i, .int .i64 1, .int .i64 1099511627776] w fun e w' => e = .returned (.bool (idB i)) ∧ w = w' := within_ i 1 1099511627776 w
theorem inPri (i : Int) (w : World) : Calls Tryz.prog 220 #[.int .i64 i, .int .i64 (-1000), .int .i64 1000] w fun e w' => e = .returned (.bool (priB i)) ∧ w = w' := within_ i (-1000) 1000 w
theorem inRetry (i : Int) (w : World) : Calls Tryz.prog 220 #[.int .i64 i, .int .i64 0, .int .i64 1000] w fun e w' => e = .returned (.bool (retryB i)) ∧ w = w' := within_ i 0 1000 w
set_option maxHeartbeats 1000000 in
theorem right_ (m : Mg) (w : World) : Calls Tryz.prog 196 #[m.val] w fun e w' => e = .returned (.bool m.right) ∧ Below w.heap.size w w' := by
  obtain ⟨i, p, r, cl, c, b⟩ := m
  have HAL := Lib.hid (alloc_below w (.cells #[.int .i64 i, .int .i64 p, .int .i64 r, .bool cl, .string c, .string b] 44))
  simp only [Mg.right]
  have HI := Lib.hid (inId i)
  have HP := Lib.hid (inPri p)
  have HR := Lib.hid (inRetry r)
  have HC : Hid (corrB c = decide ((c.size : Int) ≤ 40)) := rfl
  have HB : Hid (bodyB b = decide ((b.size : Int) ≤ 100)) := rfl
  generalize idB i = b1 at *
  generalize priB p = b2 at *
  generalize retryB r = b3 at *
  generalize corrB c = b4 at *
  generalize bodyB b = b5 at *
  go_enter Tryz.func196, Tryz.ntmps196
  go_wp2_with fail
  refine (HI.out _).mono ?_
  rintro e w1 ⟨rfl, rfl⟩
  cases b1
  · go_wp2_with fail
    go_ret
    exact ⟨retM (by simp), HAL.out⟩
  go_wp2_with fail
  refine (HP.out _).mono ?_
  rintro e w2 ⟨rfl, rfl⟩
  cases b2
  · go_wp2_with fail
    go_ret
    exact ⟨retM (by simp), HAL.out⟩
  go_wp2_with fail
  refine (HR.out _).mono ?_
  rintro e w3 ⟨rfl, rfl⟩
  cases b3
  · go_wp2_with fail
    go_ret
    exact ⟨retM (by simp), HAL.out⟩
  by_cases h4 : (c.size : Int) ≤ 40
  · have E4 : Hid (b4 = true) := by have := HC.out; rw [decide_eq_true h4] at this; exact this
    go_wp2_with fail
    go_ret
    exact ⟨retM (by rw [E4.out, HB.out]; simp), HAL.out⟩
  · have E4 : Hid (b4 = false) := by have := HC.out; rw [decide_eq_false h4] at this; exact this
    go_wp2_with fail
    go_ret
    exact ⟨retM (by rw [E4.out]; simp), HAL.out⟩
end Go.Proofs.YtjfoflbaoceemaaGreat
namespace Go.Proofs.YtjfoflbaoceemaaGreat
open Go.RowKit
theorem withinE (n a b : Int) (w : World) : Calls Tryz.prog 132 #[.int .i64 n, .int .i64 a, .int .i64 b] w fun e w' => e = .returned (.bool (decide (a ≤ n) && decide (n ≤ b))) ∧ w = w' := by
  by_cases h1 : a ≤ n
  · have E : Hid ((decide (a ≤ n) && decide (n ≤ b)) = decide (n ≤ b)) := by
      have e : decide (a ≤ n) = true := decide_eq_true h1
      show _ = _
      rw [e, Bool.true_and]
    go_enter Tryz.func132, Tryz.ntmps132
    go_wp2
    go_ret
    exact ⟨retM E.out.symm, rfl⟩
  · have E : Hid ((decide (a ≤ n) && decide (n ≤ b)) = false) := by
      have e : decide (a ≤ n) = false := decide_eq_false h1
      show _ = _
      rw [e, Bool.false_and]
    go_enter Tryz.func132, Tryz.ntmps132
    go_wp2
    go_ret
    exact ⟨retM E.out.symm, rfl⟩
theorem inName (o : ByteArray) (w : World) : Calls Tryz.prog 132 #[.int .i64 (o.size : Int), .int .i64 1, .int .i64 16] w fun e w' => e = .returned (.bool (nameB o)) ∧ w = w' := withinE (o.size : Int) 1 16 w
theorem inKey (o : ByteArray) (w : World) : Calls Tryz.prog 132 #[.int .i64 (o.size : Int), .int .i64 1, .int .i64 40] w fun e w' => e = .returned (.bool (keyLB o)) ∧ w = w' := withinE (o.size : Int) 1 40 w
theorem inIdE (i : Int) (w : World) : Calls Tryz.prog 132 #[.int .i64 i, .int .i64 1, .int .i64 1099511627776] w fun e w' => e = .returned (.bool (idB i)) ∧ w = w' := withinE i 1 1099511627776 w
theorem fitsLimit_ (k l : Int) (w : World) : Calls Tryz.prog 213 #[.int .i64 k, .int .i64 l] w fun e w' => e = .returned (.bool (kindB k l)) ∧ w = w' := by
  by_cases h1 : k = 1
  · subst h1
    have E : Hid (kindB 1 l = (l == 0)) := by
      have e : kindB 1 l = (l == 0) := by simp only [kindB, if_true]; rw [Bool.eq_iff_iff]; simp
      exact e
    go_enter Tryz.func213, Tryz.ntmps213
    go_wp2
    go_ret
    exact ⟨retM E.out.symm, rfl⟩
  by_cases h2 : k = 2
  · subst h2
    have E : Hid (kindB 2 l = (decide (1 ≤ l) && decide (l ≤ 1000))) := by
      have e : kindB 2 l = (decide (1 ≤ l) && decide (l ≤ 1000)) := by simp [kindB]
      exact e
    go_enter Tryz.func213, Tryz.ntmps213
    go_wp2_with fail
    refine (withinE l 1 1000 _).mono ?_
    rintro e w1 ⟨rfl, rfl⟩
    go_wp2_with fail
    go_ret
    exact ⟨retM E.out.symm, rfl⟩
  have E : Hid (kindB k l = false) := by
    have e : kindB k l = false := by simp [kindB, h1, h2]
    exact e
  go_enter Tryz.func213, Tryz.ntmps213
  go_wp2
  go_ret
  exact ⟨retM E.out.symm, rfl⟩
theorem rightR_parts (k v : ByteArray) : rightR (k, v) = (keyLB k && bodyB v) := by
  have e1 : decide (1 ≤ (k.size : Int)) = decide (1 ≤ k.size) := decide_eq_decide.2 (by omega)
  have e2 : decide ((k.size : Int) ≤ 40) = decide (k.size ≤ 40) := decide_eq_decide.2 (by omega)
  have e3 : decide ((v.size : Int) ≤ 100) = decide (v.size ≤ 100) := decide_eq_decide.2 (by omega)
  unfold rightR keyLB bodyB
  rw [e1, e2, e3]
theorem rightRow_ (k v : ByteArray) (w : World) : Calls Tryz.prog 193 #[.agg #[.string k, .string v]] w fun e w' => e = .returned (.bool (keyLB k && bodyB v)) ∧ Below w.heap.size w w' := by
  rw [← rightR_parts]
  exact right_row (k, v) w
set_option maxHeartbeats 1000000 in
theorem efits_ (e : Ef) (w : World) : Calls Tryz.prog 186 #[e.val_] w fun x w' => x = .returned (.bool e.good) ∧ Below w.heap.size w w' := by
  obtain ⟨k, o, ky, v, n, l, t, m⟩ := e
  have HAL := Lib.hid (alloc_below w (.cells (Ef.cells ⟨k, o, ky, v, n, l, t, m⟩) 46))
  have HN := Lib.hid (inName o)
  obtain ⟨nb, hnb⟩ : ∃ b, nameB o = b := ⟨_, rfl⟩
  by_cases h1 : k = 1
  · subst h1
    have E : Hid (Ef.good ⟨1, o, ky, v, n, l, t, m⟩ = (nb && kindB n l)) := by
      have e : Ef.good ⟨1, o, ky, v, n, l, t, m⟩ = (nb && kindB n l) := by simp [Ef.good, hnb]
      exact e
    rw [E.out]
    rw [hnb] at HN
    clear E hnb
    simp only [Ef.cells] at HAL
    go_enter Tryz.func186, Tryz.ntmps186
    go_wp2_with fail
    refine (HN.out _).mono ?_
    rintro e w1 ⟨rfl, rfl⟩
    cases nb
    · go_wp2_with fail
      go_ret
      exact ⟨retM (by simp), HAL.out⟩
    go_wp2_with fail
    refine (fitsLimit_ n l _).mono ?_
    rintro e w2 ⟨rfl, rfl⟩
    go_wp2_with fail
    go_ret
    exact ⟨retM (by simp), HAL.out⟩
  by_cases h2 : k = 2
  · subst h2
    have E : Hid (Ef.good ⟨2, o, ky, v, n, l, t, m⟩ = (nb && (keyLB ky && bodyB v))) := by
      have e : Ef.good ⟨2, o, ky, v, n, l, t, m⟩ = (nb && (keyLB ky && bodyB v)) := by simp [Ef.good, hnb]
      exact e
    rw [E.out]
    rw [hnb] at HN
    clear E hnb
    simp only [Ef.cells] at HAL
    go_enter Tryz.func186, Tryz.ntmps186
    go_wp2_with fail
    refine (HN.out _).mono ?_
    rintro e w1 ⟨rfl, rfl⟩
    cases nb
    · go_wp2_with fail
      go_ret
      exact ⟨retM (by simp), HAL.out⟩
    go_wp2_with fail
    refine (rightRow_ ky v _).mono ?_
    rintro e w2 ⟨rfl, hb2⟩
    have HE := Lib.hid (HAL.out.trans (hb2.mono HAL.out.size))
    clear hb2
    go_wp2_with fail
    go_ret
    exact ⟨retM (by simp), HE.out⟩
  by_cases h3 : k = 3
  · subst h3
    have E : Hid (Ef.good ⟨3, o, ky, v, n, l, t, m⟩ = (nb && keyLB ky)) := by
      have e : Ef.good ⟨3, o, ky, v, n, l, t, m⟩ = (nb && keyLB ky) := by simp [Ef.good, hnb]
      exact e
    rw [E.out]
    rw [hnb] at HN
    clear E hnb
    simp only [Ef.cells] at HAL
    go_enter Tryz.func186, Tryz.ntmps186
    go_wp2_with fail
    refine (HN.out _).mono ?_
    rintro e w1 ⟨rfl, rfl⟩
    cases nb
    · go_wp2_with fail
      go_ret
      exact ⟨retM (by simp), HAL.out⟩
    go_wp2_with fail
    refine (inKey ky _).mono ?_
    rintro e w2 ⟨rfl, rfl⟩
    go_wp2_with fail
    go_ret
    exact ⟨retM (by simp), HAL.out⟩
  by_cases h4 : k = 4
  · subst h4
    have E : Hid (Ef.good ⟨4, o, ky, v, n, l, t, m⟩ = (nb && m.right)) := by
      have e : Ef.good ⟨4, o, ky, v, n, l, t, m⟩ = (nb && m.right) := by simp [Ef.good, hnb]
      exact e
    rw [E.out]
    rw [hnb] at HN
    clear E hnb
    obtain ⟨i, p, r, cl, c, b⟩ := m
    simp only [Ef.cells] at HAL
    go_enter Tryz.func186, Tryz.ntmps186
    go_wp2_with fail
    refine (HN.out _).mono ?_
    rintro e w1 ⟨rfl, rfl⟩
    cases nb
    · go_wp2_with fail
      go_ret
      exact ⟨retM (by simp), HAL.out⟩
    go_wp2_with fail
    refine (right_ ⟨i, p, r, cl, c, b⟩ _).mono ?_
    rintro e w2 ⟨rfl, hb2⟩
    have HE := Lib.hid (HAL.out.trans (hb2.mono HAL.out.size))
    clear hb2
    go_wp2_with fail
    go_ret
    exact ⟨retM (by simp), HE.out⟩
  by_cases h5 : k = 5
  · subst h5
    have E : Hid (Ef.good ⟨5, o, ky, v, n, l, t, m⟩ = (nb && idB n)) := by
      have e : Ef.good ⟨5, o, ky, v, n, l, t, m⟩ = (nb && idB n) := by simp [Ef.good, hnb]
      exact e
    rw [E.out]
    rw [hnb] at HN
    clear E hnb
    simp only [Ef.cells] at HAL
    go_enter Tryz.func186, Tryz.ntmps186
    go_wp2_with fail
    refine (HN.out _).mono ?_
    rintro e w1 ⟨rfl, rfl⟩
    cases nb
    · go_wp2_with fail
      go_ret
      exact ⟨retM (by simp), HAL.out⟩
    go_wp2_with fail
    refine (inIdE n _).mono ?_
    rintro e w2 ⟨rfl, rfl⟩
    go_wp2_with fail
    go_ret
    exact ⟨retM (by simp), HAL.out⟩
  by_cases h6 : k = 6
  · subst h6
    have E : Hid (Ef.good ⟨6, o, ky, v, n, l, t, m⟩ = (nb && idB n)) := by
      have e : Ef.good ⟨6, o, ky, v, n, l, t, m⟩ = (nb && idB n) := by simp [Ef.good, hnb]
      exact e
    rw [E.out]
    rw [hnb] at HN
    clear E hnb
    simp only [Ef.cells] at HAL
    go_enter Tryz.func186, Tryz.ntmps186
    go_wp2_with fail
    refine (HN.out _).mono ?_
    rintro e w1 ⟨rfl, rfl⟩
    cases nb
    · go_wp2_with fail
      go_ret
      exact ⟨retM (by simp), HAL.out⟩
    go_wp2_with fail
    refine (inIdE n _).mono ?_
    rintro e w2 ⟨rfl, rfl⟩
    go_wp2_with fail
    go_ret
    exact ⟨retM (by simp), HAL.out⟩
  by_cases h7 : k = 7
  · subst h7
    have E : Hid (Ef.good ⟨7, o, ky, v, n, l, t, m⟩ = (nb && idB n)) := by
      have e : Ef.good ⟨7, o, ky, v, n, l, t, m⟩ = (nb && idB n) := by simp [Ef.good, hnb]
      exact e
    rw [E.out]
    rw [hnb] at HN
    clear E hnb
    simp only [Ef.cells] at HAL
    go_enter Tryz.func186, Tryz.ntmps186
    go_wp2_with fail
    refine (HN.out _).mono ?_
    rintro e w1 ⟨rfl, rfl⟩
    cases nb
    · go_wp2_with fail
      go_ret
      exact ⟨retM (by simp), HAL.out⟩
    go_wp2_with fail
    refine (inIdE n _).mono ?_
    rintro e w2 ⟨rfl, rfl⟩
    go_wp2_with fail
    go_ret
    exact ⟨retM (by simp), HAL.out⟩
  by_cases h8 : k = 8
  · subst h8
    have E : Hid (Ef.good ⟨8, o, ky, v, n, l, t, m⟩ = idB n) := by
      have e : Ef.good ⟨8, o, ky, v, n, l, t, m⟩ = idB n := by simp [Ef.good]
      exact e
    rw [E.out]
    clear E hnb HN
    simp only [Ef.cells] at HAL
    go_enter Tryz.func186, Tryz.ntmps186
    go_wp2_with fail
    refine (inIdE n _).mono ?_
    rintro e w2 ⟨rfl, rfl⟩
    go_wp2_with fail
    go_ret
    exact ⟨rfl, HAL.out⟩
  have E : Hid (Ef.good ⟨k, o, ky, v, n, l, t, m⟩ = false) := by
    have e : Ef.good ⟨k, o, ky, v, n, l, t, m⟩ = false := by simp [Ef.good, h1, h2, h3, h4, h5, h6, h7, h8]
    exact e
  rw [E.out]
  rw [hnb] at HN
  clear E hnb
  simp only [Ef.cells] at HAL
  go_enter Tryz.func186, Tryz.ntmps186
  go_wp2_with fail
  refine (HN.out _).mono ?_
  rintro e w1 ⟨rfl, rfl⟩
  cases nb
  · go_wp2_with fail
    go_ret
    exact ⟨rfl, HAL.out⟩
  go_wp2_with fail
  go_ret
  exact ⟨rfl, HAL.out⟩
end Go.Proofs.YtjfoflbaoceemaaGreat
namespace Go.Proofs.YtjfoflbaoceemaaGreat
open Go.RowKit
theorem eqf_ef (e f : Ef) (W : World) : (Op.equalIn 10000 46 e.val_ f.val_).run Tryz.prog W = .ok (e.same f) W := by
  obtain ⟨k, o, ky, v, n, l, t, ⟨i, p, r, cl, c, b⟩⟩ := e
  obtain ⟨k', o', ky', v', n', l', t', ⟨i', p', r', cl', c', b'⟩⟩ := f
  simp only [Ef.same, Mg.same]
  generalize h1 : (k == k') = b1
  generalize h2 : (o.toList == o'.toList) = b2
  generalize h3 : (ky.toList == ky'.toList) = b3
  generalize h4 : (v.toList == v'.toList) = b4
  generalize h5 : (n == n') = b5
  generalize h6 : (l == l') = b6
  generalize h7 : (t == t') = b7
  generalize h8 : (i == i') = b8
  generalize h9 : (p == p') = b9
  generalize h10 : (r == r') = b10
  generalize h11 : (cl == cl') = b11
  generalize h12 : (c.toList == c'.toList) = b12
  generalize h13 : (b.toList == b'.toList) = b13
  cases b1
  · simp [go_sem, h1]
  cases b2
  · simp [go_sem, h1, h2]
  cases b3
  · simp [go_sem, h1, h2, h3]
  cases b4
  · simp [go_sem, h1, h2, h3, h4]
  cases b5
  · simp [go_sem, h1, h2, h3, h4, h5]
  cases b6
  · simp [go_sem, h1, h2, h3, h4, h5, h6]
  cases b7
  · simp [go_sem, h1, h2, h3, h4, h5, h6, h7]
  cases b8
  · simp [go_sem, h1, h2, h3, h4, h5, h6, h7, h8]
  cases b9
  · simp [go_sem, h1, h2, h3, h4, h5, h6, h7, h8, h9]
  cases b10
  · simp [go_sem, h1, h2, h3, h4, h5, h6, h7, h8, h9, h10]
  cases b11
  · simp [go_sem, h1, h2, h3, h4, h5, h6, h7, h8, h9, h10, h11]
  cases b12
  · simp [go_sem, h1, h2, h3, h4, h5, h6, h7, h8, h9, h10, h11, h12]
  cases b13
  · simp [go_sem, h1, h2, h3, h4, h5, h6, h7, h8, h9, h10, h11, h12, h13]
  simp [go_sem, h1, h2, h3, h4, h5, h6, h7, h8, h9, h10, h11, h12, h13]
theorem eqf_cells (k n l i p r k' n' l' i' p' r' : Int) (o ky v c b o' ky' v' c' b' : ByteArray) (t cl t' cl' : Bool) (W : World) :
    (Op.equalIn 10000 46 (.agg #[.int .i64 k, .string o, .string ky, .string v, .int .i64 n, .int .i64 l, .bool t, .int .i64 i, .int .i64 p, .int .i64 r, .bool cl, .string c, .string b])
      (.agg #[.int .i64 k', .string o', .string ky', .string v', .int .i64 n', .int .i64 l', .bool t', .int .i64 i', .int .i64 p', .int .i64 r', .bool cl', .string c', .string b'])).run Tryz.prog W =
      .ok (Ef.same ⟨k, o, ky, v, n, l, t, ⟨i, p, r, cl, c, b⟩⟩ ⟨k', o', ky', v', n', l', t', ⟨i', p', r', cl', c', b'⟩⟩) W := eqf_ef ⟨k, o, ky, v, n, l, t, ⟨i, p, r, cl, c, b⟩⟩ ⟨k', o', ky', v', n', l', t', ⟨i', p', r', cl', c', b'⟩⟩ W
theorem same_self (e : Ef) : e.same e = true := by simp [Ef.same, Mg.same]
end Go.Proofs.YtjfoflbaoceemaaGreat
namespace Go.Proofs.YtjfoflbaoceemaaGreat
open Go.RowKit
attribute [local go_sem ↓] eqf_cells
structure LBE (w : World) (e : Ef) (wk : World) : Prop where
  bel : Below w.heap.size w wk
  box : Blk wk w.heap.size 46 e.cells
section
variable {w wk w' : World} {e : Ef}
theorem LBE.first (w : World) (e : Ef) : LBE w e (w.alloc (.cells e.cells 46)) := ⟨alloc_below w _, Blk.new _ _ _⟩
theorem LBE.next (h : LBE w e wk) (k : Below wk.heap.size wk w') : LBE w e w' := ⟨h.bel.trans (k.mono h.bel.size), h.box.below k h.box.lt⟩
theorem LBE.drew (h : LBE w e wk) : LBE w e wk.drew := ⟨h.bel.drew, h.box.drew⟩
end
set_option maxHeartbeats 1000000 in
theorem rightE_ (e : Ef) (w : World) : Calls Tryz.prog 134 #[e.val_] w fun x w' => x = .returned (.bool e.right) ∧ Below w.heap.size w w' := by
  have HF := Lib.hid (efits_ e)
  have HB := Lib.hid (bare_ e)
  have H0 := Lib.hid (LBE.first w e)
  have hR : e.right = (e.good && e.same e.bare) := rfl
  rw [hR]
  clear hR
  generalize e.bare = f at *
  generalize e.good = g at *
  obtain ⟨k, o, ky, v, n, l, t, ⟨i, p, r, cl, c, b⟩⟩ := e
  have hS0 : Thir w.heap.size ⟨k, o, ky, v, n, l, t, ⟨i, p, r, cl, c, b⟩⟩ (w.alloc (.cells (Ef.cells ⟨k, o, ky, v, n, l, t, ⟨i, p, r, cl, c, b⟩⟩) 46)).drew := thir_of H0.out.drew.box
  have H0d := Lib.hid H0.out.drew
  cases g
  · go_enter Tryz.func134, Tryz.ntmps134
    go_wp2_with fail
    go_region_with (go_at_call 186; refine (HF.out _).mono ?_; rintro e w1 ⟨rfl, hb1⟩; have H1 := Lib.hid (H0d.out.next hb1); clear hb1)
    all_goals
      go_wp2_with fail
      go_ret
      exact ⟨rfl, H1.out.bel⟩
  · go_enter Tryz.func134, Tryz.ntmps134
    go_wp2_with fail
    go_region_held3 (fun W : World => Thir w.heap.size ⟨k, o, ky, v, n, l, t, ⟨i, p, r, cl, c, b⟩⟩ W)
      (first | exact hS0 | exact hS1 | exact hS2)
      (first | (go_at_call 186; refine (HF.out _).mono ?_; rintro e w1 ⟨rfl, hb1⟩; have H1 := Lib.hid (H0d.out.next hb1); have hS1 : Thir w.heap.size ⟨k, o, ky, v, n, l, t, ⟨i, p, r, cl, c, b⟩⟩ w1 := thir_of H1.out.box; clear hb1) | (go_at_call 187; refine (HB.out _).mono ?_; rintro e w2 ⟨rfl, hb2⟩; have H2 := Lib.hid (H1.out.next hb2); have hS2 : Thir w.heap.size ⟨k, o, ky, v, n, l, t, ⟨i, p, r, cl, c, b⟩⟩ w2 := thir_of H2.out.box; clear hb2) | (refine step_value rfl (exec_eqlE rfl (e := ⟨k, o, ky, v, n, l, t, ⟨i, p, r, cl, c, b⟩⟩) (f := f) rfl rfl _) ?_))
    go_wp2_with fail
    go_ret
    exact ⟨rfl, H2.out.bel⟩
end Go.Proofs.YtjfoflbaoceemaaGreat
namespace Go.Proofs.YtjfoflbaoceemaaGreat
open Go.RowKit
def mkEf (n : ByteArray) (k l : Int) : Ef := ⟨1, n, ⟨#[]⟩, ⟨#[]⟩, k, l, false, Mg.zero⟩
theorem mk_right (n : ByteArray) (k l : Int) : (mkEf n k l).right = (nameB n && kindB k l) := by
  have e1 : (mkEf n k l).bare = mkEf n k l := by simp [Ef.bare, mkEf]
  have e2 : (mkEf n k l).good = (nameB n && kindB k l) := by simp [Ef.good, mkEf]
  rw [Ef.right, e1, e2, same_self, Bool.and_true]
theorem enters_rr : ∀ args w, (callFunc 193 args).run Tryz.prog w = .ok (.enter 193 args) w := enters_of Tryz.func193 (by kernel_rfl) rfl
theorem enters_mr : ∀ args w, (callFunc 196 args).run Tryz.prog w = .ok (.enter 196 args) w := enters_of Tryz.func196 (by kernel_rfl) rfl
theorem enters_uc : ∀ args w, (callFunc 197 args).run Tryz.prog w = .ok (.enter 197 args) w := enters_of Tryz.func197 (by kernel_rfl) rfl
theorem unclaimed_ (w : World) (m : Mg) : Calls Tryz.prog 197 #[m.val] w fun e w' => e = .returned (.bool (freeM m)) ∧ Below w.heap.size w w' := by
  obtain ⟨x0, x1, x2, x3, x4, x5⟩ := m
  have HB := Lib.hid (alloc_below w (.cells #[.int .i64 x0, .int .i64 x1, .int .i64 x2, .bool x3, .string x4, .string x5] 44))
  go_enter Tryz.func197, Tryz.ntmps197
  go_wp2
  go_ret
  exact ⟨rfl, HB.out⟩
theorem retX {a b : Bool} (h : a = b) : Ending.returned (.bool a) = .returned (.bool b) := by rw [h]
structure ShutI (p : Prop) : Prop where out : p
theorem sum_zero (m d : Nat) : ((m : Int) + (d : Int) == 0) = decide (m + d = 0) := by
  by_cases h : m + d = 0
  · rw [decide_eq_true h]
    have : (m : Int) + (d : Int) = 0 := by omega
    simp [this]
  · rw [decide_eq_false h]
    have : ¬ (m : Int) + (d : Int) = 0 := by omega
    simpa using this
set_option maxHeartbeats 4000000 in
theorem right_object {w : World} {o : Ob} {r m d : Value} (h : ObAt w o r m d) (hn : o.short 10000) (hw : ∀ x ∈ o.msgs, Wf x.id) :
    Calls Tryz.prog 141 #[o.val r m d] w fun e w' => e = .returned (.bool o.right) ∧ Below w.heap.size w w' := by
  obtain ⟨s, k, l, rs, ms, ds⟩ := o
  obtain ⟨⟨A1, c1, rfl, l1, k1, x1, n1⟩, ⟨A2, c2, rfl, l2, k2, x2, n2⟩, ⟨A3, c3, rfl, l3, k3, x3, n3⟩⟩ := h
  obtain ⟨s1, s2, s3⟩ := hn
  simp only at l1 l2 l3 k1 k2 k3 s1 s2 s3 hw
  simp only [Ob.val, Ob.cells]
  have hb0 := alloc_below w (.cells #[.string s, .int .i64 k, .int .i64 l, .slice A1 rs.length c1, .slice A2 ms.length c2, .slice A3 ds.length c3] 77)
  have hX0 := Blk.new w 77 #[.string s, .int .i64 k, .int .i64 l, .slice A1 rs.length c1, .slice A2 ms.length c2, .slice A3 ds.length c3]
  have hR : (⟨s, k, l, rs, ms, ds⟩ : Ob).right = ((nameB s && kindB k l) && (if k = 1 then risesR rs && (rs.all rightR && decide (ms.length + ds.length = 0)) else decide (rs.length = 0) && (risesM ms && (ms.all Mg.right && (ds.all Mg.right && ds.all freeM))))) := rfl
  have he := fun W => rightE_ (mkEf s k l) W
  rw [mk_right] at he
  have f1 := fun W (hb : Below w.heap.size w W) => rises_n (c := c1) ((l1.below hb).rws) rfl (by omega)
  have f2 := fun W (hb : Below w.heap.size w W) => all_r (c := c1) (l1.below hb) rfl (by omega) enters_rr (fun W x => right_row x W)
  have g1 := fun W (hb : Below w.heap.size w W) => rises_m (c := c2) (l2.below hb) rfl s2 hw
  have g2 := fun W (hb : Below w.heap.size w W) => all_m (c := c2) (l2.below hb) rfl (by omega) enters_mr (fun W x => right_ x W)
  have g3 := fun W (hb : Below w.heap.size w W) => all_m (c := c3) (l3.below hb) rfl (by omega) enters_mr (fun W x => right_ x W)
  have g4 := fun W (hb : Below w.heap.size w W) => all_m (c := c3) (l3.below hb) rfl (by omega) enters_uc unclaimed_
  rw [hR]
  generalize (nameB s && kindB k l) = y0 at *
  generalize risesR rs = y1 at *
  generalize rs.all rightR = y2 at *
  generalize risesM ms = y3 at *
  generalize ms.all Mg.right = y4 at *
  generalize ds.all Mg.right = y5 at *
  generalize ds.all freeM = y6 at *
  generalize rs.length = m1 at *
  generalize ms.length = m2 at *
  generalize ds.length = m3 at *
  obtain ⟨z, hz⟩ : ∃ z, (y0 && (if k = 1 then y1 && (y2 && decide (m2 + m3 = 0)) else decide (m1 = 0) && (y3 && (y4 && (y5 && y6))))) = z := ⟨_, rfl⟩
  rw [hz]
  have HZ := ShutI.mk hz
  have HE := ShutI.mk he
  have F1 := ShutI.mk f1
  have F2 := ShutI.mk f2
  have G1 := ShutI.mk g1
  have G2 := ShutI.mk g2
  have G3 := ShutI.mk g3
  have G4 := ShutI.mk g4
  have HB0 := ShutI.mk hb0
  have HX0 := ShutI.mk hX0
  clear hb0 hX0 hR he f1 f2 g1 g2 g3 g4 hw l1 l2 l3 hz
  simp only [mkEf, Ef.val_, Ef.cells, Mg.zero] at HE
  have hws : IntKind.i64.wrap ((m2 : Int) + (m3 : Int)) = (m2 : Int) + (m3 : Int) := by rw [IntKind.wrap_i64]; omega
  cases y0
  · have hzf : false = z := by rw [← HZ.out]; rfl
    subst hzf
    go_enter Tryz.func141, Tryz.ntmps141
    go_wp2_with fail
    refine (HE.out _).mono ?_
    rintro e w1 ⟨rfl, hb1⟩
    have HB1 := ShutI.mk (HB0.out.trans (hb1.mono HB0.out.size))
    have hx1 := HX0.out.below hb1 HX0.out.lt
    have d1 := hx1.cell 1
    have d3 := hx1.cell 3
    have d4 := hx1.cell 4
    have d5 := hx1.cell 5
    have HX1 := ShutI.mk hx1
    simp only [List.getElem?_toArray, List.getElem?_cons_zero, List.getElem?_cons_succ] at d1 d3 d4 d5
    clear hb1 hx1 HE
    go_wp2_with fail
    go_ret
    exact ⟨retX (rfl), HB1.out⟩
  by_cases hk : k = 1
  · subst hk
    have hz1 : (y1 && (y2 && decide (m2 + m3 = 0))) = z := by rw [← HZ.out, if_pos rfl]; rfl
    have HZ1 := ShutI.mk hz1
    clear hz1 HZ G1 G2 G3 G4
    go_enter Tryz.func141, Tryz.ntmps141
    go_wp2_with fail
    refine (HE.out _).mono ?_
    rintro e w1 ⟨rfl, hb1⟩
    have HB1 := ShutI.mk (HB0.out.trans (hb1.mono HB0.out.size))
    have hx1 := HX0.out.below hb1 HX0.out.lt
    have d1 := hx1.cell 1
    have d3 := hx1.cell 3
    have d4 := hx1.cell 4
    have d5 := hx1.cell 5
    have HX1 := ShutI.mk hx1
    simp only [List.getElem?_toArray, List.getElem?_cons_zero, List.getElem?_cons_succ] at d1 d3 d4 d5
    clear hb1 hx1 HE
    go_wp2_with fail
    refine (F1.out _ HB1.out).mono ?_
    rintro e2 w2 ⟨rfl, hb2⟩
    have HB2 := ShutI.mk (HB1.out.trans (hb2.mono HB1.out.size))
    have hx2 := HX1.out.below hb2 HX1.out.lt
    have p23 := hx2.cell 3
    have p24 := hx2.cell 4
    have p25 := hx2.cell 5
    have HX2 := ShutI.mk hx2
    simp only [List.getElem?_toArray, List.getElem?_cons_zero, List.getElem?_cons_succ] at p23 p24 p25
    clear hb2 hx2 F1
    cases y1
    · have hzf : false = z := by rw [← HZ1.out]; rfl
      subst hzf
      go_wp2_with fail
      go_ret
      exact ⟨retX (rfl), HB2.out⟩
    go_wp2_with fail
    refine (F2.out _ HB2.out).mono ?_
    rintro e3 w3 ⟨rfl, hb3⟩
    have HB3 := ShutI.mk (HB2.out.trans (hb3.mono HB2.out.size))
    have hx3 := HX2.out.below hb3 HX2.out.lt
    have p33 := hx3.cell 3
    have p34 := hx3.cell 4
    have p35 := hx3.cell 5
    have HX3 := ShutI.mk hx3
    simp only [List.getElem?_toArray, List.getElem?_cons_zero, List.getElem?_cons_succ] at p33 p34 p35
    clear hb3 hx3 F2
    cases y2
    · have hzf : false = z := by rw [← HZ1.out]; rfl
      subst hzf
      go_wp2_with fail
      go_ret
      exact ⟨retX (rfl), HB3.out⟩
    have hzl : ((m2 : Int) + (m3 : Int) == 0) = z := by rw [← HZ1.out, sum_zero]; rfl
    have HZL := ShutI.mk hzl
    clear hzl
    go_wp2_with fail
    go_ret
    exact ⟨retX HZL.out, HB3.out⟩
  · have hkb : (k == 1) = false := by simpa using hk
    have hz1 : (decide (m1 = 0) && (y3 && (y4 && (y5 && y6)))) = z := by rw [← HZ.out, if_neg hk]; rfl
    have HZ1 := ShutI.mk hz1
    clear hz1 HZ F1 F2
    by_cases hm : m1 = 0
    · subst hm
      go_enter Tryz.func141, Tryz.ntmps141
      go_wp2_with fail
      refine (HE.out _).mono ?_
      rintro e w1 ⟨rfl, hb1⟩
      have HB1 := ShutI.mk (HB0.out.trans (hb1.mono HB0.out.size))
      have hx1 := HX0.out.below hb1 HX0.out.lt
      have d1 := hx1.cell 1
      have d3 := hx1.cell 3
      have d4 := hx1.cell 4
      have d5 := hx1.cell 5
      have HX1 := ShutI.mk hx1
      simp only [List.getElem?_toArray, List.getElem?_cons_zero, List.getElem?_cons_succ] at d1 d3 d4 d5
      clear hb1 hx1 HE
      go_wp2_with fail
      refine (G1.out _ HB1.out).mono ?_
      rintro e2 w2 ⟨rfl, hb2⟩
      have HB2 := ShutI.mk (HB1.out.trans (hb2.mono HB1.out.size))
      have hx2 := HX1.out.below hb2 HX1.out.lt
      have p23 := hx2.cell 3
      have p24 := hx2.cell 4
      have p25 := hx2.cell 5
      have HX2 := ShutI.mk hx2
      simp only [List.getElem?_toArray, List.getElem?_cons_zero, List.getElem?_cons_succ] at p23 p24 p25
      clear hb2 hx2 G1
      cases y3
      · have hzf : false = z := by rw [← HZ1.out]; rfl
        subst hzf
        go_wp2_with fail
        go_ret
        exact ⟨retX (rfl), HB2.out⟩
      go_wp2_with fail
      refine (G2.out _ HB2.out).mono ?_
      rintro e3 w3 ⟨rfl, hb3⟩
      have HB3 := ShutI.mk (HB2.out.trans (hb3.mono HB2.out.size))
      have hx3 := HX2.out.below hb3 HX2.out.lt
      have p33 := hx3.cell 3
      have p34 := hx3.cell 4
      have p35 := hx3.cell 5
      have HX3 := ShutI.mk hx3
      simp only [List.getElem?_toArray, List.getElem?_cons_zero, List.getElem?_cons_succ] at p33 p34 p35
      clear hb3 hx3 G2
      cases y4
      · have hzf : false = z := by rw [← HZ1.out]; rfl
        subst hzf
        go_wp2_with fail
        go_ret
        exact ⟨retX (rfl), HB3.out⟩
      go_wp2_with fail
      refine (G3.out _ HB3.out).mono ?_
      rintro e4 w4 ⟨rfl, hb4⟩
      have HB4 := ShutI.mk (HB3.out.trans (hb4.mono HB3.out.size))
      have hx4 := HX3.out.below hb4 HX3.out.lt
      have p43 := hx4.cell 3
      have p44 := hx4.cell 4
      have p45 := hx4.cell 5
      have HX4 := ShutI.mk hx4
      simp only [List.getElem?_toArray, List.getElem?_cons_zero, List.getElem?_cons_succ] at p43 p44 p45
      clear hb4 hx4 G3
      cases y5
      · have hzf : false = z := by rw [← HZ1.out]; rfl
        subst hzf
        go_wp2_with fail
        go_ret
        exact ⟨retX (rfl), HB4.out⟩
      go_wp2_with fail
      refine (G4.out _ HB4.out).mono ?_
      rintro e5 w5 ⟨rfl, hb5⟩
      have HB5 := ShutI.mk (HB4.out.trans (hb5.mono HB4.out.size))
      have hx5 := HX4.out.below hb5 HX4.out.lt
      have p53 := hx5.cell 3
      have p54 := hx5.cell 4
      have p55 := hx5.cell 5
      have HX5 := ShutI.mk hx5
      simp only [List.getElem?_toArray, List.getElem?_cons_zero, List.getElem?_cons_succ] at p53 p54 p55
      clear hb5 hx5 G4
      have hzl : y6 = z := by rw [← HZ1.out]; rfl
      subst hzl
      go_wp2_with fail
      go_ret
      exact ⟨retX (rfl), HB5.out⟩
    · have hmb : ((m1 : Int) == 0) = false := by
        have : ¬ (m1 : Int) = 0 := by omega
        simpa using this
      have hzf : false = z := by rw [← HZ1.out, decide_eq_false hm]; rfl
      subst hzf
      go_enter Tryz.func141, Tryz.ntmps141
      go_wp2_with fail
      refine (HE.out _).mono ?_
      rintro e w1 ⟨rfl, hb1⟩
      have HB1 := ShutI.mk (HB0.out.trans (hb1.mono HB0.out.size))
      have hx1 := HX0.out.below hb1 HX0.out.lt
      have d1 := hx1.cell 1
      have d3 := hx1.cell 3
      have d4 := hx1.cell 4
      have d5 := hx1.cell 5
      have HX1 := ShutI.mk hx1
      simp only [List.getElem?_toArray, List.getElem?_cons_zero, List.getElem?_cons_succ] at d1 d3 d4 d5
      clear hb1 hx1 HE
      go_wp2_with fail
      go_ret
      exact ⟨retX (rfl), HB1.out⟩
end Go.Proofs.YtjfoflbaoceemaaGreat
