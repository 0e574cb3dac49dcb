/- What lies in memory when one write is undone, and when one is done again. -/
import Derived.Test.YteilbaabnhogbaaWriteMem
namespace Go.Proofs.Yteilbaabnhogbaa
open Go.RowKit
section
variable {w : World} {v : Value} {u : List Wr} {gu cap : Nat} {rest : List Value}
theorem own_open (h : w.ownsRow 0 52 65 v u.length (unsL u).flatten) (hu : 0 < u.length) : ∃ gu cap rest, v = .slice (some ⟨gu, 0, none⟩) u.length cap ∧ Blk w gu 52 ((unsL u).flatten ++ rest).toArray ∧ u.length ≤ cap ∧ cap ≤ maxLen ∧ ((unsL u).flatten ++ rest).length = cap * 65 := by
  rcases h.2 with ⟨_, h0⟩ | ⟨g, cap, cur, rfl, _, hg, hn, hm, hs, ht⟩
  · omega
  · have e : (unsL u).flatten ++ cur.toList.drop (u.length * 65) = cur.toList := by rw [← ht, List.take_append_drop]
    exact ⟨g, cap, cur.toList.drop (u.length * 65), rfl, by rw [e]; exact hg, hn, hm, by rw [e]; simpa using hs⟩
theorem own_shut (hb : Blk w gu 52 ((unsL u).flatten ++ rest).toArray) {n : Nat} (hw : wrs n u) (h1 : u.length ≤ cap) (h2 : cap ≤ maxLen) (h3 : ((unsL u).flatten ++ rest).length = cap * 65) : w.ownsRow 0 52 65 (.slice (some ⟨gu, 0, none⟩) u.length cap) u.length (unsL u).flatten := by
  have hl : (unsL u).flatten.length = u.length * 65 := by rw [flat_length (unsL_each hw)]; simp [unsL]
  exact ⟨hl, .inr ⟨gu, cap, _, rfl, Nat.zero_le _, hb, h1, h2, by simpa using h3, by rw [List.toList_toArray, ← hl]; exact List.take_left⟩⟩
end
/-- what holds while one write is undone, till the first store: the head, where it was, what is there, what it put out -/
def US (g gt n gu k at_ : Nat) (X Y : List Value) (w' : World) : Prop :=
  w'.cell? ⟨g, 0, none⟩ = some (.slice (some ⟨gt, 0, none⟩) n n) ∧ w'.cell? ⟨gu, k * 65, none⟩ = some (.int .i64 (at_ : Int)) ∧ w'.rangeAt gt (at_ * 64) X ∧ w'.rangeAt gu (k * 65 + 1) Y
/-- a disk whose k-th unsure write stands at a sector, and the two are exchanged -/
theorem swap_mem {w : World} {g : Nat} {O : Nat → Prop} {gt : Nat} {v : Value} {t : List Sec} {u : List Wr} {s : St} (h : DiskM w g O gt v t u s) (ht : secs t) (htn : t.length = s.n) (hu : wrs s.n u) {k : Nat} {x : Wr} (hx : u[k]? = some x) :
    ∃ gu cap, v = .slice (some ⟨gu, 0, none⟩) u.length cap ∧ cap ≤ maxLen ∧ US g gt s.n gu k x.1 (cellsB (t.getD x.1 [])) (cellsB x.2) w ∧ w.there gu (k * 65 + 1) 64 ∧ w.there gt (x.1 * 64) 64 ∧
      DiskM ((w.setCells gu (k * 65 + 1) (cellsB (t.getD x.1 []))).setCells gt (x.1 * 64) (cellsB x.2)) g O gt v (t.set x.1 x.2) (u.set k (x.1, t.getD x.1 [])) s ∧
      Keep (Out O) w ((w.setCells gu (k * 65 + 1) (cellsB (t.getD x.1 []))).setCells gt (x.1 * 64) (cellsB x.2)) := by
  have hk : k < u.length := (List.getElem?_eq_some_iff.1 hx).1
  obtain ⟨gu, cap, rest, hv, hb, h1, h2, h3⟩ := own_open h.uns (by omega)
  have hx1 := (hu x (List.mem_of_getElem? hx)).1
  have hx2 := (hu x (List.mem_of_getElem? hx)).2
  have hxt : x.1 < t.length := by omega
  have hold := secs_getD ht hxt
  have hux : (unsL u)[k]? = some (.int .i64 (x.1 : Int) :: cellsB x.2) := by simp [unsL, hx, cellU]
  have hrg := part_range hb (unsL_each hu) hux
  have hro := part_there hb (unsL_each hu) hux
  have hgg : gu ≠ g := ne_of_types h.head hb (by decide)
  have hgt : gu ≠ gt := ne_of_types h.there hb (by decide)
  have hset := part_set_tail hb (unsL_each hu) hux (y := cellsB (t.getD x.1 [])) (by rw [cellsB_length, hold])
  have e1 : (unsL u).set k (.int .i64 (x.1 : Int) :: cellsB (t.getD x.1 [])) = unsL (u.set k (x.1, t.getD x.1 [])) := by simp [unsL, cellU]
  rw [e1] at hset
  have hset2 := hset.fars (b := gt) hgt (x.1 * 64) (cellsB x.2)
  have hth := h.there.fars (b := gu) (fun e => hgt e.symm) (k * 65 + 1) (cellsB (t.getD x.1 []))
  rw [← List.append_nil (thereL t).flatten] at hth
  have hth2 := part_set hth (thereL_each ht) (i := x.1) (by simp [thereL]; exact hxt) (y := cellsB x.2) (by rw [cellsB_length, hx2])
  have e2 : (thereL t).set x.1 (cellsB x.2) = thereL (t.set x.1 x.2) := by simp [thereL]
  rw [List.append_nil, e2] at hth2
  have hwr : wrs s.n (u.set k (x.1, t.getD x.1 [])) := fun y hy => by
    rcases List.mem_or_eq_of_mem_set hy with hy | rfl
    · exact hu y hy
    · exact ⟨hx1, hold⟩
  refine ⟨gu, cap, hv, h2, ⟨by rw [h.head.cell]; rfl, ?_, h.range ht hxt, range_tail hrg⟩, there_tail hro, h.room ht hxt, ⟨?_, hth2, ?_, h.og, h.ot, h.ou, h.ok⟩, ?_⟩
  · have := hrg 0 _ rfl; simpa using this
  · exact (h.head.fars (fun e => hgg e.symm) _ _).fars h.head_ne_there _ _
  · rw [hv]
    have := own_shut hset2 hwr (by simpa using h1) h2 (by
      rw [← h3, List.length_append, List.length_append, flat_length (unsL_each hwr), flat_length (unsL_each hu)]; simp [unsL])
    simpa using this
  · exact ((Keep.refl w).setCells (fun _ _ hK => hK (h.ou gu (by rw [hv]; rfl))) _ _).setCells (fun _ _ hK => hK h.ot) _ _
end Go.Proofs.Yteilbaabnhogbaa
