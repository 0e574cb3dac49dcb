/- Package waits' graph: edges taken in. -/
import Derived.Test.YtoojoldcomokhaaWtA
set_option maxRecDepth 4000
namespace Go.Proofs.Ytoojoldcomokhaa
open Go.RowKit Go.Maps
theorem of_drew {K : Nat → Obj → Prop} {w w' : World} (k : Keep K w.drew w') : Keep K w w' := ⟨k.os, k.tape, k.output, k.size, k.block⟩
def AddR (w : World) (b1 b2 base : Nat) (l : List (Int × Int)) (n k : Nat) (i : Value) (wr : World) : Prop :=
  ∃ j, j + k = n ∧ i = .int .i64 (j : Int) ∧ Graph wr b1 b2 base (l.take j) (flipE (l.take j)) ∧ Keep (KG b1 b2 base) w wr ∧ Blk wr w.heap.size 35 #[.map (some b1), .map (some b2)]
theorem kg_other {b1 b2 base i : Nat} {cs : Array Value} {t : TypeId} (h1 : i ≠ b1) (h2 : i ≠ b2) (ht : t ≠ 3) : KG b1 b2 base i (.cells cs t (0, 0)) :=
  ⟨h1, h2, .inr fun cs' e => ht (by injection e)⟩
set_option maxHeartbeats 2000000 in
theorem add_ {w : World} {b1 b2 base : Nat} {K : Nat → Prop} {A : Option Addr} {l : List (Int × Int)} {n c : Nat} (hg : Graph w b1 b2 base [] []) (hl : Lst w K eE A l) (hK : ∀ i, K i → i < base ∧ i ≠ b1 ∧ i ≠ b2) (hn : l.length = n) (hmax : n ≤ 10000) (hw : ∀ e ∈ l, Wf e.1 ∧ Wf e.2) :
    Calls Try.prog 13 #[.agg #[.map (some b1), .map (some b2)], .slice A n c] w fun e w' => e = .returned (.tuple #[]) ∧ Graph w' b1 b2 base l (flipE l) ∧ Keep (KG b1 b2 base) w w' := by
  have hl1 := hg.a1.lt
  have hl2 := hg.a2.lt
  have HL := Lib.hid hl
  have HN := Lib.hid hn
  have HW := Lib.hid hw
  have HG := Lib.hid hg
  have HKK := Lib.hid hK
  clear hl hn hw hg hK
  go_enter Try.func13, Try.ntmps13
  go_wp2_with fail
  go_loopg [8] n (fun k i wr => AddR w b1 b2 base l n k i wr)
  case atStart => exact ⟨0, by omega, rfl, HG.out.below (alloc_below _ _), Keep.of_below (alloc_below _ _), Blk.new _ _ _⟩
  case round =>
    obtain ⟨j, hj, rfl, hg, hk, hb⟩ := hrel
    have HJ := Lib.hid hj
    have hjn : j ≤ n := by omega
    have HG1 := Lib.hid hg
    have HK := Lib.hid hk
    have HB := Lib.hid hb
    clear hj hg hk hb
    by_cases hlt : j < n
    · have hx : j < l.length := by rw [HN.out]; exact hlt
      have hlst : Lst wr K eE A l := HL.out.keep HK.out fun i o _ hi => ⟨(HKK.out i hi).2.1, (HKK.out i hi).2.2, .inl (HKK.out i hi).1⟩
      obtain ⟨g, o, rfl, hgl, d0, d1⟩ := hlst.atE hx
      obtain ⟨hwa, hwb⟩ := HW.out _ (List.getElem_mem hx)
      have htk : l.take (j + 1) = l.take j ++ [l[j]] := List.take_succ_eq_append_getElem hx
      have hln : (l.take j).length ≤ 100000 := by rw [List.length_take]; omega
      have HTK := Lib.hid htk
      clear htk hlst
      generalize l[j] = e at *
      obtain ⟨a, b⟩ := e
      simp only at d0 d1 hwa hwb
      go_wp2_with fail
      have hal := alloc_below wr (.cells #[.int .i64 a, .int .i64 b] 30)
      have hbe := Blk.new wr 30 #[.int .i64 a, .int .i64 b]
      have hbx := HB.out.alloc (.cells #[.int .i64 a, .int .i64 b] 30)
      have hga := (HG1.out.below hal).drew
      generalize wr.alloc (.cells #[.int .i64 a, .int .i64 b] 30) = wA at *
      obtain ⟨v, hlook, v', w1, w2, hap, hup, hgr2, hk1, hk2⟩ := graph_push hga hln hwa hwb
      have hbx0 : w.heap.size ≠ b1 := by omega
      have hbx1 : w.heap.size ≠ b2 := by omega
      have hbe0 : wr.heap.size ≠ b1 := by have := HK.out.size; omega
      have hbe1 : wr.heap.size ≠ b2 := by have := HK.out.size; omega
      have kx : ∀ W : World, Keep (KG b1 b2 base) wA.drew W → Blk W w.heap.size 35 #[.map (some b1), .map (some b2)] := fun W k => hbx.drew.keep k (kg_other hbx0 hbx1 (by decide))
      have ke : ∀ W : World, Keep (KG b1 b2 base) wA.drew W → Blk W wr.heap.size 30 #[.int .i64 a, .int .i64 b] := fun W k => hbe.drew.keep k (kg_other hbe0 hbe1 (by decide))
      have hS : ∀ W : World, Keep (KG b1 b2 base) wA.drew W → (fun W : World => W.cell? ⟨w.heap.size, 0, none⟩ = some (.map (some b1)) ∧ W.cell? ⟨w.heap.size, 1, none⟩ = some (.map (some b2)) ∧ W.cell? ⟨wr.heap.size, 0, none⟩ = some (.int .i64 a) ∧ W.cell? ⟨wr.heap.size, 1, none⟩ = some (.int .i64 b)) W := fun W k => ⟨(kx W k).cell 0, (kx W k).cell 1, (ke W k).cell 0, (ke W k).cell 1⟩
      have hS0 := hS _ (Keep.refl _)
      have hS1 := hS _ (Keep.of_below (alloc_below wA.drew (.cells #[.int .i64 b] 3)))
      have hS2 := hS _ hk1
      have hS3 := hS _ hk2
      have hlk0 := hlook wA.drew rfl
      have hlk1 := hlook (wA.alloc (.cells #[.int .i64 b] 3)).drew ((alloc_below wA (.cells #[.int .i64 b] 3)).block b1 hga.a1.lt)
      have hap2 : (Builtin.append_ #[27, 27] 27 #[v, .slice (some ⟨wA.heap.size, 0, none⟩) 1 1]).run Try.prog (wA.alloc (.cells #[.int .i64 b] 3)).drew = .ok v' w1 := hap
      have HAP := Lib.hid hap2
      have HGR := Lib.hid hgr2
      have HK2 := Lib.hid hk2
      have HS3 := Lib.hid hS3
      have HBE := Lib.hid hbe
      have HBX := Lib.hid hbx
      have HAL := Lib.hid hal
      have HBE0 := Lib.hid hbe0
      have HBE1 := Lib.hid hbe1
      clear hlook hap hap2 hgr2 hk1 hk2 kx ke hS hbx hbe hga hal hbe0 hbe1
      go_region_held3 (fun W : World => W.cell? ⟨w.heap.size, 0, none⟩ = some (.map (some b1)) ∧ W.cell? ⟨w.heap.size, 1, none⟩ = some (.map (some b2)) ∧ W.cell? ⟨wr.heap.size, 0, none⟩ = some (.int .i64 a) ∧ W.cell? ⟨wr.heap.size, 1, none⟩ = some (.int .i64 b))
        (first | exact hS0 | exact hS1 | exact hS2 | exact hS3)
        (first | (refine step_append_at rfl (.tmp 20) (.tmp 23) 27 27 rfl _ _ rfl rfl HAP.out ?_))
      all_goals
        clear hS0 hS1 hS2 hS3 hlk0 hlk1 HAP
        have hln2 : (flipE (l.take j)).length ≤ 100000 := by rw [flip_length]; exact hln
        obtain ⟨u, hlook, u', w3, w4, hap, hup2, hgr4, hk3, hk4⟩ := graph_push HGR.out.symm.drew hln2 hwb hwa
        have k2 : Keep (KG b2 b1 base) w2.drew w3 := hk3
        have hKA : Keep (KG b1 b2 base) wA w2 := of_drew HK2.out
        have kt : ∀ W : World, Keep (KG b2 b1 base) w2.drew W → Keep (KG b1 b2 base) wA W := fun W k => hKA.trans ((of_drew k).mono fun i o _ h => h.symm)
        have kx : ∀ W : World, Keep (KG b2 b1 base) w2.drew W → Blk W w.heap.size 35 #[.map (some b1), .map (some b2)] := fun W k => HBX.out.keep (kt W k) (kg_other hbx0 hbx1 (by decide))
        have ke : ∀ W : World, Keep (KG b2 b1 base) w2.drew W → Blk W wr.heap.size 30 #[.int .i64 a, .int .i64 b] := fun W k => HBE.out.keep (kt W k) (kg_other HBE0.out HBE1.out (by decide))
        have hS : ∀ W : World, Keep (KG b2 b1 base) w2.drew W → (fun W : World => W.cell? ⟨w.heap.size, 0, none⟩ = some (.map (some b1)) ∧ W.cell? ⟨w.heap.size, 1, none⟩ = some (.map (some b2)) ∧ W.cell? ⟨wr.heap.size, 0, none⟩ = some (.int .i64 a) ∧ W.cell? ⟨wr.heap.size, 1, none⟩ = some (.int .i64 b)) W := fun W k => ⟨(kx W k).cell 0, (kx W k).cell 1, (ke W k).cell 0, (ke W k).cell 1⟩
        have hS0 := hS _ (Keep.refl _)
        have hS1 := hS _ (Keep.of_below (alloc_below w2.drew (.cells #[.int .i64 a] 3)))
        have hS2 := hS _ hk3
        have hS3 := hS _ hk4
        have hlk0 := hlook w2.drew rfl
        have hlk1 := hlook (w2.alloc (.cells #[.int .i64 a] 3)).drew ((alloc_below w2 (.cells #[.int .i64 a] 3)).block b2 HGR.out.a2.lt)
        have hap2 : (Builtin.append_ #[27, 27] 27 #[u, .slice (some ⟨w2.heap.size, 0, none⟩) 1 1]).run Try.prog (w2.alloc (.cells #[.int .i64 a] 3)).drew = .ok u' w3 := hap
        have HAP := Lib.hid hap2
        have hend : Graph w4 b1 b2 base (l.take (j + 1)) (flipE (l.take (j + 1))) := by rw [HTK.out, flip_snoc]; exact hgr4.symm
        have hblk := (kx _ hk4)
        have hkeep : Keep (KG b1 b2 base) w w4 := (HK.out.trans (Keep.of_below HAL.out)).trans (kt _ hk4)
        have HEND := Lib.hid hend
        have HBLK := Lib.hid hblk
        have HKEEP := Lib.hid hkeep
        clear hlook hap hap2 hgr4 hk3 hk4 kx ke hS hend hblk hkeep kt k2 hKA hln2
        go_wp2_with fail
        go_region_held3 (fun W : World => W.cell? ⟨w.heap.size, 0, none⟩ = some (.map (some b1)) ∧ W.cell? ⟨w.heap.size, 1, none⟩ = some (.map (some b2)) ∧ W.cell? ⟨wr.heap.size, 0, none⟩ = some (.int .i64 a) ∧ W.cell? ⟨wr.heap.size, 1, none⟩ = some (.int .i64 b))
          (first | exact hS0 | exact hS1 | exact hS2 | exact hS3)
          (first | (refine step_append_at rfl (.tmp 33) (.tmp 36) 27 27 rfl _ _ rfl rfl HAP.out ?_))
        all_goals
          go_wp2_with fail
          go_roundg (n - (j + 1))
          case measure => have := HJ.out; omega
          case rel => exact ⟨j + 1, by have := HJ.out; omega, by go_num, HEND.out, HKEEP.out, HBLK.out⟩
    · obtain rfl : j = n := by omega
      have he : l.take j = l := List.take_of_length_le (by rw [HN.out]; exact Nat.le_refl _)
      have hg := HG1.out
      rw [he] at hg
      have HG2 := Lib.hid hg
      clear hlt he hg
      go_wp2_with fail
      exact bodyPost_end (results_none rfl _ _ _) rfl ⟨rfl, HG2.out, HK.out⟩
end Go.Proofs.Ytoojoldcomokhaa
