/- Plain facts for the law on what is sure. -/
import Derived.Test.YtkgafnfbnpbacaaLastP
import Derived.Test.YtkgafnfbnpbacaaOpens
import Derived.Test.YtkgafnfbnpbacaaBits
namespace Go.Proofs.Ytkgafnfbnpbacaa
open Go.RowKit
/-- each byte, as a whole sector of it -/
def secOf (xs : List UInt8) : List Sec := xs.map (List.replicate 64)
theorem secOf_set (xs : List UInt8) (k c : Nat) : (secOf xs).set k (filled c false) = secOf (xs.set k (UInt8.ofNat c)) := by
  rw [secOf, secOf, List.map_set]; rfl
theorem secOf_get {xs : List UInt8} {k : Nat} {x : UInt8} (h : xs[k]? = some x) : (secOf xs).getD k [] = filled x.toNat false := by
  rw [List.getD_eq_getElem?_getD, secOf, List.getElem?_map, h]
  show List.replicate 64 x = List.replicate 64 (UInt8.ofNat x.toNat)
  rw [UInt8.ofNat_toNat]
theorem cells_set (xs : List UInt8) (k c : Nat) (hc : c < 256) : ((cellsB xs).toArray.setIfInBounds k (.int .u8 (c : Int))) = (cellsB (xs.set k (UInt8.ofNat c))).toArray := by
  have e : (Value.int IntKind.u8 (c : Int)) = u8 (UInt8.ofNat c) := by unfold u8; congr 1; simp; omega
  rw [e, List.setIfInBounds_toArray, cellsB, cellsB, List.map_set]
theorem new_secOf (n : Nat) : (St.new n).now = secOf (zeros n) := by
  show List.replicate n (List.replicate 64 0) = _
  simp only [secOf, zeros, List.map_replicate]
theorem cell_keep {K : Nat → Obj → Prop} {w w' : World} {b : Nat} (k : Keep K w w') (hb : b < w.heap.size) (hk : ∀ o, K b o) (o : Nat) : w'.cell? ⟨b, o, none⟩ = w.cell? ⟨b, o, none⟩ := by
  refine cell_of_heap ?_ o
  rw [Array.getElem?_eq_getElem hb]
  exact k.block b _ (Array.getElem?_eq_getElem hb) (hk _)
theorem write_f {w : World} {g : Nat} {O : Nat → Prop} {s : St} (h : DiskAt w g O s) (hb : s.broken = false) (hl : s.l.length ≤ 1000000) (hc : s.count ≤ 1000000) (hleft : s.left ≤ 9223372036854775807) (i : Nat) (hi : i < s.n) (c : Nat) :
    Calls Try.prog 10 #[ptr g, .int .i64 (i : Int), .slice (some ⟨w.heap.size, 0, none⟩) 64 64] (w.alloc (.cells (cellsB (filled c false)).toArray 5)) (WriteP (w.alloc (.cells (cellsB (filled c false)).toArray 5)) g O s i (filled c false)) :=
  write_ (h.below (alloc_below w _)) hb hl hc hleft i hi _ _ (filled_length c false) (Blk.new w 5 _)
/-- 16 sectors, and want beside them: written ahead of the Sync -/
def SureA (B g gw : Nat) (w : World) (xs : List UInt8) (j : Nat) : Prop :=
  xs.length = 16 ∧ Blk w gw 5 (cellsB xs).toArray ∧ ∃ s : St, DiskAt w g (HiBut B gw) s ∧ s.n = 16 ∧ s.now = secOf xs ∧ s.l.length = j ∧ s.count = j ∧ s.ends = false ∧ s.left = 0
/-- and behind it -/
def SureB (B g gw : Nat) (ks : List Bool) (w : World) (xs : List UInt8) (j : Nat) : Prop :=
  xs.length = 16 ∧ Blk w gw 5 (cellsB xs).toArray ∧ ∃ s : St, DiskAt w g (HiBut B gw) s ∧ s.n = 16 ∧ settle (stays ks) 0 s.sure s.l = secOf xs ∧ s.l.length = j ∧ s.count ≤ 30 + j ∧ s.ends = false ∧ s.left = 0
theorem SureA.next {B g gw : Nat} {w : World} {xs : List UInt8} {j k c : Nat} {W w' : World} {s : St} (hx : xs.length = 16) (hn : s.n = 16) (hnow : s.now = secOf xs) (hl : s.l.length = j) (hco : s.count = j) (he : s.ends = false) (hle : s.left = 0)
    (hB : Blk w gw 5 (cellsB xs).toArray) (hW : W = w.drew.alloc (.cells (cellsB (filled c false)).toArray 5)) (hc : c < 256) (hgw : B ≤ gw)
    (hd : DiskAt w' g (fun i => HiBut B gw i ∨ W.heap.size ≤ i) (s.wr k (filled c false))) (hk : Keep (Out (HiBut B gw)) W w') :
    SureA B g gw (w'.setCell ⟨gw, k, none⟩ (.int .u8 (c : Int))) (xs.set k (UInt8.ofNat c)) (j + 1) := by
  have hlt := hB.lt
  have hWs : W.heap.size = w.heap.size + 1 := by rw [hW]; simp
  have hBw : Blk w' gw 5 (cellsB xs).toArray := by
    have : Blk W gw 5 (cellsB xs).toArray := by rw [hW]; exact Blk.alloc (w := w.drew) hB _
    exact this.keep hk (fun h => h.2 rfl)
  refine ⟨by simpa using hx, ?_, _, ((hd.more (O' := HiBut B gw) fun i hi => ?_).keep (K := fun i _ => i ≠ gw) ((Keep.refl w').setCell (p := ⟨gw, k, none⟩) (fun _ _ h => h rfl) _) fun i _ hi => hi.2), hn, ?_, ?_, ?_, he, ?_⟩
  · rw [← cells_set xs k c hc]; exact hBw.set_ k _
  · rcases hi with hi | hi
    · exact hi
    · exact ⟨by omega, by omega⟩
  · rw [St.wr_now, hnow, secOf_set]
  · show (s.l ++ _).length = _; simp [hl]
  · show s.count + 1 = _; rw [hco]
  · show (if s.ends then _ else _) = _; rw [he]; simp [hle]
theorem SureB.next {B g gw : Nat} {ks : List Bool} {w : World} {xs : List UInt8} {j k c : Nat} {W w' : World} {s : St} (hx : xs.length = 16) (hn : s.n = 16) (hset : settle (stays ks) 0 s.sure s.l = secOf xs) (hl : s.l.length = j) (hco : s.count ≤ 30 + j) (he : s.ends = false) (hle : s.left = 0)
    (hB : Blk w gw 5 (cellsB xs).toArray) (hW : W = w.drew.alloc (.cells (cellsB (filled c false)).toArray 5)) (hc : c < 256) (hgw : B ≤ gw)
    (hd : DiskAt w' g (fun i => HiBut B gw i ∨ W.heap.size ≤ i) (s.wr k (filled c false))) (hk : Keep (Out (HiBut B gw)) W w') :
    (stays ks j = true → SureB B g gw ks (w'.setCell ⟨gw, k, none⟩ (.int .u8 (c : Int))) (xs.set k (UInt8.ofNat c)) (j + 1)) ∧ (stays ks j = false → SureB B g gw ks w' xs (j + 1)) := by
  have hlt := hB.lt
  have hWs : W.heap.size = w.heap.size + 1 := by rw [hW]; simp
  have hBw : Blk w' gw 5 (cellsB xs).toArray := by
    have : Blk W gw 5 (cellsB xs).toArray := by rw [hW]; exact Blk.alloc (w := w.drew) hB _
    exact this.keep hk (fun h => h.2 rfl)
  have hd2 : DiskAt w' g (HiBut B gw) (s.wr k (filled c false)) := hd.more fun i hi => by
    rcases hi with hi | hi
    · exact hi
    · exact ⟨by omega, by omega⟩
  have hse : settle (stays ks) 0 (s.wr k (filled c false)).sure (s.wr k (filled c false)).l = if stays ks j then (secOf xs).set k (filled c false) else secOf xs := by
    show settle _ _ s.sure (s.l ++ [(k, filled c false)]) = _
    rw [settle_snoc, hset, Nat.zero_add, hl]
  have hl2 : (s.wr k (filled c false)).l.length = j + 1 := by show (s.l ++ _).length = _; simp [hl]
  have hc2 : (s.wr k (filled c false)).count ≤ 30 + (j + 1) := by show s.count + 1 ≤ _; omega
  have hlf : (s.wr k (filled c false)).left = 0 := by show (if s.ends then _ else _) = _; rw [he]; simp [hle]
  refine ⟨fun hst => ⟨by simpa using hx, ?_, _, hd2.keep (K := fun i _ => i ≠ gw) ((Keep.refl w').setCell (p := ⟨gw, k, none⟩) (fun _ _ h => h rfl) _) fun i _ hi => hi.2, hn, ?_, hl2, hc2, he, hlf⟩, fun hst => ⟨hx, hBw, _, hd2, hn, ?_, hl2, hc2, he, hlf⟩⟩
  · rw [← cells_set xs k c hc]; exact hBw.set_ k _
  · rw [hse, hst, if_pos rfl, secOf_set]
  · rw [hse, hst]; rfl
end Go.Proofs.Ytkgafnfbnpbacaa
