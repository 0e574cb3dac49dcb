/- Are two changes one: what '==' of them answers. -/
import Derived.Test.YtlapicjbnheioaaEfE
import Derived.Test.YtlapicjbnheioaaEfP
import Derived.ProofKit
import Derived.Laws.StructEq
set_option maxRecDepth 4000
namespace Go.Proofs.Ytlapicjbnheioaa
open Go.RowKit
theorem eqf_ef (e f : Ef) (W : World) : (Op.equalIn 10000 29 e.val_ f.val_).run Try.prog W = .ok (e.same f) W := by
  obtain ⟨k, o, ky, v, n, l, t, ⟨i, p, r, cl, c, b⟩⟩ := e
  obtain ⟨k', o', ky', v', n', l', t', ⟨i', p', r', cl', c', b'⟩⟩ := f
  simp only [Ef.same, Mg.same]
  generalize h1 : (k == k') = b1
  generalize h2 : (o.toList == o'.toList) = b2
  generalize h3 : (ky.toList == ky'.toList) = b3
  generalize h4 : (v.toList == v'.toList) = b4
  generalize h5 : (n == n') = b5
  generalize h6 : (l == l') = b6
  generalize h7 : (t == t') = b7
  generalize h8 : (i == i') = b8
  generalize h9 : (p == p') = b9
  generalize h10 : (r == r') = b10
  generalize h11 : (cl == cl') = b11
  generalize h12 : (c.toList == c'.toList) = b12
  generalize h13 : (b.toList == b'.toList) = b13
  cases b1
  · simp [go_sem, h1]
  cases b2
  · simp [go_sem, h1, h2]
  cases b3
  · simp [go_sem, h1, h2, h3]
  cases b4
  · simp [go_sem, h1, h2, h3, h4]
  cases b5
  · simp [go_sem, h1, h2, h3, h4, h5]
  cases b6
  · simp [go_sem, h1, h2, h3, h4, h5, h6]
  cases b7
  · simp [go_sem, h1, h2, h3, h4, h5, h6, h7]
  cases b8
  · simp [go_sem, h1, h2, h3, h4, h5, h6, h7, h8]
  cases b9
  · simp [go_sem, h1, h2, h3, h4, h5, h6, h7, h8, h9]
  cases b10
  · simp [go_sem, h1, h2, h3, h4, h5, h6, h7, h8, h9, h10]
  cases b11
  · simp [go_sem, h1, h2, h3, h4, h5, h6, h7, h8, h9, h10, h11]
  cases b12
  · simp [go_sem, h1, h2, h3, h4, h5, h6, h7, h8, h9, h10, h11, h12]
  cases b13
  · simp [go_sem, h1, h2, h3, h4, h5, h6, h7, h8, h9, h10, h11, h12, h13]
  simp [go_sem, h1, h2, h3, h4, h5, h6, h7, h8, h9, h10, h11, h12, h13]
/-- '==' of two changes -/
theorem exec_eqlE {o : Oper} {a : Act} {x y : Operand} {t : TypeId} (ho : o.op = .binOp .eql 29 x y t) {e f : Ef} (hx : a.eval x = e.val_) (hy : a.eval y = f.val_) (W : World) : (execOp a.eval o).run Try.prog W = .ok (.value (.bool (e.same f))) W := by
  have h : (binOp .eql 29 e.val_ f.val_).run Try.prog W = .ok (.bool (e.same f)) W := by
    rw [run_eql_struct, eqf_ef]; rfl
  have hg : (eqGuard .eql 29 x y e.val_ f.val_).run Try.prog W = .ok () W := run_eqGuard_agg W .eql _ x y _ _ (by kernel_rfl)
  unfold execOp
  simp only [ho, hx, hy, Sem.run_bind, hg, h, Result.andThen_ok, Sem.run_pure]
theorem exec_neqE {o : Oper} {a : Act} {x y : Operand} {t : TypeId} (ho : o.op = .binOp .neq 29 x y t) {e f : Ef} (hx : a.eval x = e.val_) (hy : a.eval y = f.val_) (W : World) : (execOp a.eval o).run Try.prog W = .ok (.value (.bool (!e.same f))) W := by
  have h : (binOp .neq 29 e.val_ f.val_).run Try.prog W = .ok (.bool (!e.same f)) W := by
    rw [run_neq_struct, eqf_ef]; rfl
  have hg : (eqGuard .neq 29 x y e.val_ f.val_).run Try.prog W = .ok () W := run_eqGuard_agg W .neq _ x y _ _ (by kernel_rfl)
  unfold execOp
  simp only [ho, hx, hy, Sem.run_bind, hg, h, Result.andThen_ok, Sem.run_pure]
/-- one operation that gives a value, by an equation, as a step of a region that draws -/
theorem step_value {P : Program} {ops : Array Oper} {o : Oper} {a : Act} {w w' : World} {K : Act → World → Prop} {Q : Exit → Act → World → Prop} {E : Prop} (hw : Region.wanted o (yielded ops a.tmps) = true) {v : Value}
    (hr : (execOp a.eval o).run P w = .ok (.value v) w') (hK : K (a.put o.dst v) w') : if Region.wanted o (yielded ops a.tmps) = true then Oper.wp P o a w K Q else E := by
  rw [if_pos hw]
  unfold Oper.wp
  rw [hr]
  exact hK
/-- the same, cell by cell: for a walk that comes to it -/
theorem eqf_cells (k n l i p r k' n' l' i' p' r' : Int) (o ky v c b o' ky' v' c' b' : ByteArray) (t cl t' cl' : Bool) (W : World) :
    (Op.equalIn 10000 29 (.agg #[.int .i64 k, .string o, .string ky, .string v, .int .i64 n, .int .i64 l, .bool t, .int .i64 i, .int .i64 p, .int .i64 r, .bool cl, .string c, .string b])
      (.agg #[.int .i64 k', .string o', .string ky', .string v', .int .i64 n', .int .i64 l', .bool t', .int .i64 i', .int .i64 p', .int .i64 r', .bool cl', .string c', .string b'])).run Try.prog W =
      .ok (Ef.same ⟨k, o, ky, v, n, l, t, ⟨i, p, r, cl, c, b⟩⟩ ⟨k', o', ky', v', n', l', t', ⟨i', p', r', cl', c', b'⟩⟩) W := eqf_ef ⟨k, o, ky, v, n, l, t, ⟨i, p, r, cl, c, b⟩⟩ ⟨k', o', ky', v', n', l', t', ⟨i', p', r', cl', c', b'⟩⟩ W
theorem same_self (e : Ef) : e.same e = true := by simp [Ef.same, Mg.same]
end Go.Proofs.Ytlapicjbnheioaa
