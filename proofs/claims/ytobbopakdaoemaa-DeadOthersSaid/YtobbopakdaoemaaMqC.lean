/- Rows of messages that lie somewhere: text ..Enc's words at them; the library's Clone at them; slices of them. -/
import Derived.Test.YtobbopakdaoemaaEnc
import Derived.Test.YtobbopakdaoemaaMg
import Derived.LoopTactic
import Derived.Deep.LoopGhost
import Derived.Deep.Slices
import Derived.ChangeArms
import Derived.Laws.Cover1
set_option maxRecDepth 4000
namespace Go.Proofs.Ytobbopakdaoemaa
open Go.RowKit
def eM : Enc Mg := ⟨fun m => [.int .i64 m.id, .int .i64 m.pri, .int .i64 m.retry, .bool m.claimed, .string m.corr, .string m.body], 6, by omega, fun _ => rfl, fun _ v hv => by simp at hv; rcases hv with rfl | rfl | rfl | rfl | rfl | rfl <;> rfl⟩
theorem Lst.atM {w : World} {K : Nat → Prop} {A : Option Addr} {l : List Mg} (h : Lst w K eM A l) {j : Nat} (hj : j < l.length) :
    ∃ b o, A = some ⟨b, o, none⟩ ∧ b < w.heap.size ∧ w.cell? ⟨b, o + j * 6, none⟩ = some (.int .i64 l[j].id) ∧ w.cell? ⟨b, o + j * 6 + 1, none⟩ = some (.int .i64 l[j].pri) ∧ w.cell? ⟨b, o + j * 6 + 2, none⟩ = some (.int .i64 l[j].retry) ∧
      w.cell? ⟨b, o + j * 6 + 3, none⟩ = some (.bool l[j].claimed) ∧ w.cell? ⟨b, o + j * 6 + 4, none⟩ = some (.string l[j].corr) ∧ w.cell? ⟨b, o + j * 6 + 5, none⟩ = some (.string l[j].body) := by
  obtain ⟨b, o, e, hl, hc⟩ := h.at_ hj
  exact ⟨b, o, e, hl, hc 0 _ rfl, hc 1 _ rfl, hc 2 _ rfl, hc 3 _ rfl, hc 4 _ rfl, hc 5 _ rfl⟩
theorem Lst.atMs {w : World} {K : Nat → Prop} {b o : Nat} {l : List Mg} (h : Lst w K eM (some ⟨b, o, none⟩) l) {j : Nat} (hj : j < l.length) :
    b < w.heap.size ∧ w.cell? ⟨b, o + j * 6, none⟩ = some (.int .i64 l[j].id) ∧ w.cell? ⟨b, o + j * 6 + 1, none⟩ = some (.int .i64 l[j].pri) ∧ w.cell? ⟨b, o + j * 6 + 2, none⟩ = some (.int .i64 l[j].retry) ∧
      w.cell? ⟨b, o + j * 6 + 3, none⟩ = some (.bool l[j].claimed) ∧ w.cell? ⟨b, o + j * 6 + 4, none⟩ = some (.string l[j].corr) ∧ w.cell? ⟨b, o + j * 6 + 5, none⟩ = some (.string l[j].body) := by
  obtain ⟨b', o', e, hl, hc⟩ := h.atM hj
  injection e with e
  injection e with e1 e2
  subst e1 e2
  exact ⟨hl, hc⟩
theorem tyM : RowTy eM 34 23 := ⟨Try.underlying23, .agg #[.int .i64 0, .int .i64 0, .int .i64 0, .bool false, .string ⟨#[]⟩, .string ⟨#[]⟩], 64, by kernel_rfl, rfl, by omega⟩
theorem infoM : (Try.prog.info? 34).map (fun i => (i.zero, i.size, i.bytes)) = some (some (.agg #[.int .i64 0, .int .i64 0, .int .i64 0, .bool false, .string ⟨#[]⟩, .string ⟨#[]⟩]), 6, 64) := by kernel_rfl
abbrev OwnM (w : World) (base : Nat) (v : Value) (l : List Mg) : Prop := Own w base eM 34 v l
set_option maxHeartbeats 400000 in
theorem clone_m {w : World} {K : Nat → Prop} {A : Option Addr} {n c : Nat} {l : List Mg} (h : Lst w K eM A l) (hl : l.length = n) (hn : n ≤ 100000) (hA : A = none → c = 0) :
    Calls Try.prog 24 #[.slice A n c] w fun e w' => ∃ v, e = .returned v ∧ OwnM w' w.heap.size v l ∧ Below w.heap.size w w' := by
  rcases A with _ | a
  · have hc := hA rfl
    have hx : l = [] := h.none_
    subst hx
    simp only [List.length_nil] at hl
    subst hc hl
    clear h hA
    have hnil := fun (W : World) => Lib.run_eql_slice_nil (P := Try.prog) W 23 34 none 0 0 0 0 Try.underlying23
    simp only [Option.isNone_none] at hnil
    go_enter Try.func24, Try.ntmps24
    go_wp2
    go_ret
    exact ⟨_, rfl, own_nil _ _, Below.refl _ _⟩
  · have hnil := fun (W : World) => Lib.run_eql_slice_nil (P := Try.prog) W 23 34 (some a) n c 0 0 Try.underlying23
    simp only [Option.isNone_some] at hnil
    obtain ⟨v', W', hap, ho, hg, hat⟩ := append_own tyM (own_empty w w.heap.size (Nat.le_refl _)) (h.below (alloc_below w (.cells #[] 34))) hl c (by show 0 + n ≤ _; omega) (by simp)
    rw [List.nil_append] at ho
    have hbel : Below w.heap.size w W' := ((Below.refl _ _).alloc (Nat.le_refl _) _).grown hg (by simp) (by intro k hk; simp [Value.ownBlock] at hk; omega)
    have HBE := Lib.hid hbel
    have HO := Lib.hid ho
    clear ho hg hat hbel h hA hl
    go_enter Try.func24, Try.ntmps24
    go_wp2_with (at_builtin; refine wpList_append_run rfl (.tmp 5) (.tmp 6) 23 23 rfl _ _ rfl rfl hap ?_)
    go_ret
    exact ⟨_, rfl, HO.out, HBE.out⟩
theorem elemM : Try.prog.elem 23 = 34 := by simp [Program.elem, Try.underlying23]
theorem sizeM (w : World) : (Go.sizeOf 34).run Try.prog w = .ok 6 w := by kernel_rfl
theorem head_m (A : Option Addr) (l c q : Nat) (h : q ≤ c) (W : World) : (Instr.slice 23 (.slice A l c) none (some (.int .i64 (q : Int))) none).run Try.prog W = .ok (.slice A q c) W := by
  rw [run_slice_h W 23 _ _ _ (by rw [elemM]; exact Try.underlying23) .i64 _ (by omega) (by omega), elemM, sizeM]
  simp [Result.andThen, sliced]
  cases A <;> simp [Addr.add]
/-- messages from place q on -/
theorem tail_m {w : World} {K : Nat → Prop} {A : Option Addr} {xs : List Mg} {n c : Nat} (h : Lst w K eM A xs) (hl : xs.length = n) (hc : n ≤ c) {q m : Nat} (hq : q ≤ n) (hm : n - q = m) :
    ∃ A', (∀ W, (Instr.slice 23 (.slice A n c) (some (.int .i64 (q : Int))) none none).run Try.prog W = .ok (.slice A' m (c - q)) W) ∧ Lst w K eM A' (xs.drop q) ∧ (A' = none → A = none) := by
  subst hl hm
  refine ⟨_, fun W => ?_, h.drop (k := q) hc, fun e => by split at e <;> simpa using e⟩
  rw [run_slice_l W 23 _ _ _ (by rw [elemM]; exact Try.underlying23) .i64 _ (by omega) (by omega), elemM, sizeM]
  rfl
end Go.Proofs.Ytobbopakdaoemaa
