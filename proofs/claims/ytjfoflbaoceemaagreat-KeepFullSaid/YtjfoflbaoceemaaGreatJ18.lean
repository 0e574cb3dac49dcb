/- . -/
import Derived.Test.YtjfoflbaoceemaaGreatJ17
import Derived.Test.YtjfoflbaoceemaaGreatJ15
import Derived.ProofKit
import Derived.RegionTactic
import Derived.Deep.QuietTactic
import Derived.BigQuiet
set_option maxRecDepth 4000
namespace Go.Proofs.YtjfoflbaoceemaaGreat
open Go.RowKit
theorem three_new (w : World) (a b c : Obj) : Below w.heap.size w (((w.alloc a).alloc b).alloc c) := by
  have h1 := alloc_below w a
  have h2 := h1.alloc h1.size b
  exact h2.alloc h2.size c
set_option maxHeartbeats 1000000 in
theorem bare_ (e : Ef) (w : World) : Calls Tryz.prog 187 #[e.val_] w fun x w' => x = .returned e.bare.val_ ∧ Below w.heap.size w w' := by
  obtain ⟨k, o, ky, v, n, l, t, ⟨i, p, r, cl, c, b⟩⟩ := e
  by_cases h1 : k = 1
  · subst h1
    have e1 : Ef.bare ⟨1, o, ky, v, n, l, t, ⟨i, p, r, cl, c, b⟩⟩ = ⟨1, o, ⟨#[]⟩, ⟨#[]⟩, n, l, false, Mg.zero⟩ := by simp [Ef.bare]
    rw [e1]
    clear e1
    go_enter Tryz.func187, Tryz.ntmps187
    go_wp2
    go_region
    go_wp2
    refine bodyPost_ret (v := .agg #[.int .i64 1, .string o, .string ⟨#[]⟩, .string ⟨#[]⟩, .int .i64 n, .int .i64 l, .bool false, .int .i64 0, .int .i64 0, .int .i64 0, .bool false, .string ⟨#[]⟩, .string ⟨#[]⟩]) (by simp [results, Tryz.results187, go_sem]) rfl ?_
    exact ⟨rfl, (three_new w _ _ _).drew⟩
  by_cases h2 : k = 2
  · subst h2
    have e1 : Ef.bare ⟨2, o, ky, v, n, l, t, ⟨i, p, r, cl, c, b⟩⟩ = ⟨2, o, ky, v, 0, 0, false, Mg.zero⟩ := by simp [Ef.bare]
    rw [e1]
    clear e1
    go_enter Tryz.func187, Tryz.ntmps187
    go_wp2
    go_region
    go_wp2
    refine bodyPost_ret (v := .agg #[.int .i64 2, .string o, .string ky, .string v, .int .i64 0, .int .i64 0, .bool false, .int .i64 0, .int .i64 0, .int .i64 0, .bool false, .string ⟨#[]⟩, .string ⟨#[]⟩]) (by simp [results, Tryz.results187, go_sem]) rfl ?_
    exact ⟨rfl, (three_new w _ _ _).drew⟩
  by_cases h3 : k = 3
  · subst h3
    have e1 : Ef.bare ⟨3, o, ky, v, n, l, t, ⟨i, p, r, cl, c, b⟩⟩ = ⟨3, o, ky, ⟨#[]⟩, 0, 0, false, Mg.zero⟩ := by simp [Ef.bare]
    rw [e1]
    clear e1
    go_enter Tryz.func187, Tryz.ntmps187
    go_wp2
    refine bodyPost_ret (v := .agg #[.int .i64 3, .string o, .string ky, .string ⟨#[]⟩, .int .i64 0, .int .i64 0, .bool false, .int .i64 0, .int .i64 0, .int .i64 0, .bool false, .string ⟨#[]⟩, .string ⟨#[]⟩]) (by simp [results, Tryz.results187, go_sem]) rfl ?_
    exact ⟨rfl, three_new w _ _ _⟩
  by_cases h4 : k = 4
  · subst h4
    have e1 : Ef.bare ⟨4, o, ky, v, n, l, t, ⟨i, p, r, cl, c, b⟩⟩ = ⟨4, o, ⟨#[]⟩, ⟨#[]⟩, 0, 0, false, ⟨i, p, r, cl, c, b⟩⟩ := by simp [Ef.bare]
    rw [e1]
    clear e1
    go_enter Tryz.func187, Tryz.ntmps187
    go_wp2
    refine bodyPost_ret (v := .agg #[.int .i64 4, .string o, .string ⟨#[]⟩, .string ⟨#[]⟩, .int .i64 0, .int .i64 0, .bool false, .int .i64 i, .int .i64 p, .int .i64 r, .bool cl, .string c, .string b]) (by simp [results, Tryz.results187, go_sem]) rfl ?_
    exact ⟨rfl, three_new w _ _ _⟩
  by_cases h5 : k = 5
  · subst h5
    have e1 : Ef.bare ⟨5, o, ky, v, n, l, t, ⟨i, p, r, cl, c, b⟩⟩ = ⟨5, o, ⟨#[]⟩, ⟨#[]⟩, n, 0, false, Mg.zero⟩ := by simp [Ef.bare]
    rw [e1]
    clear e1
    go_enter Tryz.func187, Tryz.ntmps187
    go_wp2
    refine bodyPost_ret (v := .agg #[.int .i64 5, .string o, .string ⟨#[]⟩, .string ⟨#[]⟩, .int .i64 n, .int .i64 0, .bool false, .int .i64 0, .int .i64 0, .int .i64 0, .bool false, .string ⟨#[]⟩, .string ⟨#[]⟩]) (by simp [results, Tryz.results187, go_sem]) rfl ?_
    exact ⟨rfl, three_new w _ _ _⟩
  by_cases h6 : k = 6
  · subst h6
    have e1 : Ef.bare ⟨6, o, ky, v, n, l, t, ⟨i, p, r, cl, c, b⟩⟩ = ⟨6, o, ⟨#[]⟩, ⟨#[]⟩, n, 0, false, Mg.zero⟩ := by simp [Ef.bare]
    rw [e1]
    clear e1
    go_enter Tryz.func187, Tryz.ntmps187
    go_wp2
    refine bodyPost_ret (v := .agg #[.int .i64 6, .string o, .string ⟨#[]⟩, .string ⟨#[]⟩, .int .i64 n, .int .i64 0, .bool false, .int .i64 0, .int .i64 0, .int .i64 0, .bool false, .string ⟨#[]⟩, .string ⟨#[]⟩]) (by simp [results, Tryz.results187, go_sem]) rfl ?_
    exact ⟨rfl, three_new w _ _ _⟩
  by_cases h7 : k = 7
  · subst h7
    have e1 : Ef.bare ⟨7, o, ky, v, n, l, t, ⟨i, p, r, cl, c, b⟩⟩ = ⟨7, o, ⟨#[]⟩, ⟨#[]⟩, n, 0, t, Mg.zero⟩ := by simp [Ef.bare]
    rw [e1]
    clear e1
    go_enter Tryz.func187, Tryz.ntmps187
    go_wp2
    go_region
    go_wp2
    refine bodyPost_ret (v := .agg #[.int .i64 7, .string o, .string ⟨#[]⟩, .string ⟨#[]⟩, .int .i64 n, .int .i64 0, .bool t, .int .i64 0, .int .i64 0, .int .i64 0, .bool false, .string ⟨#[]⟩, .string ⟨#[]⟩]) (by simp [results, Tryz.results187, go_sem]) rfl ?_
    exact ⟨rfl, (three_new w _ _ _).drew⟩
  by_cases h8 : k = 8
  · subst h8
    have e1 : Ef.bare ⟨8, o, ky, v, n, l, t, ⟨i, p, r, cl, c, b⟩⟩ = ⟨8, ⟨#[]⟩, ⟨#[]⟩, ⟨#[]⟩, n, 0, false, Mg.zero⟩ := by simp [Ef.bare]
    rw [e1]
    clear e1
    go_enter Tryz.func187, Tryz.ntmps187
    go_wp2
    go_region
    go_wp2
    refine bodyPost_ret (v := .agg #[.int .i64 8, .string ⟨#[]⟩, .string ⟨#[]⟩, .string ⟨#[]⟩, .int .i64 n, .int .i64 0, .bool false, .int .i64 0, .int .i64 0, .int .i64 0, .bool false, .string ⟨#[]⟩, .string ⟨#[]⟩]) (by simp [results, Tryz.results187, go_sem]) rfl ?_
    exact ⟨rfl, (three_new w _ _ _).drew⟩
  have e1 : Ef.bare ⟨k, o, ky, v, n, l, t, ⟨i, p, r, cl, c, b⟩⟩ = ⟨k, o, ⟨#[]⟩, ⟨#[]⟩, 0, 0, false, Mg.zero⟩ := by simp [Ef.bare, h1, h2, h3, h4, h5, h6, h7, h8]
  rw [e1]
  clear e1
  go_enter Tryz.func187, Tryz.ntmps187
  go_wp2
  refine bodyPost_ret (v := .agg #[.int .i64 k, .string o, .string ⟨#[]⟩, .string ⟨#[]⟩, .int .i64 0, .int .i64 0, .bool false, .int .i64 0, .int .i64 0, .int .i64 0, .bool false, .string ⟨#[]⟩, .string ⟨#[]⟩]) (by simp [results, Tryz.results187, go_sem]) rfl ?_
  exact ⟨rfl, three_new w _ _ _⟩
end Go.Proofs.YtjfoflbaoceemaaGreat
