/- . . -/
import Derived.Test.YtjfoflbaoceemaaGreatJ02
import Derived.Maps.AppendAt
import Derived.OrdersHeld
import Derived.Deep.RegionHeld3
set_option maxRecDepth 4000
namespace Go.Proofs.YtjfoflbaoceemaaGreat
open Go.RowKit
theorem info56 : (Tryz.prog.info? 112).map (fun i => (i.zero, i.size, i.bytes)) = some (some (.agg (#[.int .i64 0] ++ Array.replicate 64 (.int .u8 0))), 65, 72) := by kernel_rfl
theorem size54 : (Tryz.prog.info? 110).map (·.size) = some 64 := by kernel_rfl
theorem foldl_set : ∀ (l pre old : List Value), old.length = l.length → (l.zipIdx.foldl (fun cs x => Array.setIfInBounds cs (pre.length + x.2) x.1) (pre ++ old).toArray) = (pre ++ l).toArray := by
  have key : ∀ (l pre old : List Value) (k : Nat) (mid : List Value), mid.length = k → old.length = l.length →
      ((l.zipIdx k).foldl (fun cs x => Array.setIfInBounds cs (pre.length + x.2) x.1) (pre ++ mid ++ old).toArray) = (pre ++ mid ++ l).toArray := by
    intro l
    induction l with
    | nil => intro pre old k mid _ ho; obtain rfl : old = [] := List.eq_nil_of_length_eq_zero ho; rfl
    | cons x r ih =>
      intro pre old k mid hk ho
      match old, ho with
      | y :: o, ho =>
        rw [List.zipIdx_cons, List.foldl_cons]
        have e : (pre ++ mid ++ y :: o).toArray.setIfInBounds (pre.length + k) x = (pre ++ (mid ++ [x]) ++ o).toArray := by
          simp only [List.setIfInBounds_toArray]
          congr 1
          rw [← hk, ← List.length_append, List.set_append_right _ _ (Nat.le_refl _)]
          simp
        simp only
        rw [e, ih pre o (k + 1) (mid ++ [x]) (by simp [hk]) (by simpa using ho)]
        simp
  intro l pre old ho
  have := key l pre old 0 [] rfl ho
  simpa using this
theorem fill_step {place : Nat → Option (Nat × Nat)} {cells : Array Value} {i : Nat} {v : Value} {rest : List (Nat × Value)} {off size : Nat} (h : place i = some (off, size)) (h1 : v.cells.size = size) (h2 : off + size ≤ cells.size) :
    Instr.fill place cells ((i, v) :: rest) = Instr.fill place (v.cells.zipIdx.foldl (fun cs (c, j) => cs.setIfInBounds (off + j) c) cells) rest := by
  have hc : ¬ ((decide (v.cells.size ≠ size) || decide (off + v.cells.size > cells.size)) = true) := by simp [h1]; exact h2
  rw [Instr.fill, h]
  exact if_neg hc
theorem fill56 (i : Int) (x : List Value) (hx : x.length = 64) (place : Nat → Option (Nat × Nat)) (h0 : place 0 = some (0, 1)) (h1 : place 1 = some (1, 64)) :
    Instr.fill place (#[.int .i64 0] ++ Array.replicate 64 (.int .u8 0)) [(0, .int .i64 i), (1, .agg x.toArray)] = some (.int .i64 i :: x).toArray := by
  have e0 : (#[Value.int .i64 0] ++ Array.replicate 64 (Value.int .u8 0)).setIfInBounds 0 (.int .i64 i) = ([Value.int .i64 i] ++ List.replicate 64 (Value.int .u8 0)).toArray := by
    apply Array.ext'
    simp [Array.toList_replicate]
  have e1 := foldl_set x [.int .i64 i] (List.replicate 64 (.int .u8 0)) (by rw [List.length_replicate, hx])
  generalize hZ : (#[Value.int .i64 0] ++ Array.replicate 64 (Value.int .u8 0)) = Z at *
  have hs : Z.size = 65 := by rw [← hZ]; simp
  rw [fill_step h0 rfl (by omega)]
  have z1 : ((Value.int IntKind.i64 i).cells.zipIdx.foldl (fun cs (c, j) => Array.setIfInBounds cs (0 + j) c) Z) = Z.setIfInBounds 0 (.int .i64 i) := by
    simp [Value.cells]
  rw [z1, e0, fill_step (v := .agg x.toArray) h1 (show x.toArray.size = 64 by simpa using hx) (by simp), Instr.fill]
  refine congrArg some (Eq.trans ?_ e1)
  show (x.toArray.zipIdx.foldl _ _) = _
  simp
theorem build56 (i : Int) (x : List UInt8) (hx : x.length = 64) (W : World) : (Instr.build 112 #[(0, .int .i64 i), (1, .agg (cellsB x).toArray)]).run Tryz.prog W = .ok (.agg (.int .i64 i :: cellsB x).toArray) W := by
  obtain ⟨i0, hi, hz0, hz1, hz2⟩ := info_parts info56
  obtain ⟨i3, h3⟩ : ∃ i, Tryz.prog.info? 3 = some i := by
    cases h : Tryz.prog.info? 3 with
    | some i => exact ⟨i, rfl⟩
    | none => exact absurd (show (Tryz.prog.info? 3).isSome = true by kernel_rfl) (by simp [h])
  have s3 : i3.size = 1 := by
    have : (Tryz.prog.info? 3).map (·.size) = some 1 := by kernel_rfl
    simpa [h3] using this
  obtain ⟨i4, h4⟩ : ∃ i, Tryz.prog.info? 110 = some i := by
    cases h : Tryz.prog.info? 110 with
    | some i => exact ⟨i, rfl⟩
    | none => exact absurd (show (Tryz.prog.info? 110).isSome = true by kernel_rfl) (by simp [h])
  have s4 : i4.size = 64 := by have := size54; simpa [h4] using this
  have hf := fun place h0 h1 => fill56 i (cellsB x) (by rw [cellsB_length, hx]) place h0 h1
  generalize (#[Value.int .i64 0] ++ Array.replicate 64 (.int .u8 0)) = Z at *
  simp [Instr.build, zeroValue, typeInfo, sizeOf, hi, hz0, run_underlying Tryz.underlying112, h3, h4, s3, s4, Value.cells]
  rw [hf _ rfl rfl]
  rfl
theorem buildS48 (v : List Value) (hv : v.length = 65) (W : World) : (Instr.buildSlice 81 1 #[(0, .agg v.toArray)]).run Tryz.prog W = .ok (.slice (some ⟨W.heap.size, 0, none⟩) 1 1) (W.alloc (.cells v.toArray 112)) := by
  obtain ⟨i0, hi, hz0, hz1, hz2⟩ := info_parts info56
  have hf : ∀ Z : Array Value, Z.size = 65 → ∀ place : Nat → Option (Nat × Nat), place 0 = some (0, 65) → Instr.fill place Z [(0, .agg v.toArray)] = some v.toArray := by
    intro Z hZ place h0
    rw [fill_step (v := .agg v.toArray) (cells := Z) h0 (show v.toArray.size = 65 by simpa using hv) (by omega), Instr.fill]
    have := foldl_set v [] Z.toList (by simp [hZ, hv])
    refine congrArg some (Eq.trans ?_ this)
    show (v.toArray.zipIdx.foldl _ _) = _
    simp
  generalize hZ : (#[Value.int .i64 0] ++ Array.replicate 64 (Value.int .u8 0)) = Z at *
  have hs : Z.size = 65 := by rw [← hZ]; simp
  have hf2 := hf ((Array.range 65).map (Z[· % Z.size]!)) (by simp)
  simp only [Instr.buildSlice, Sem.run_bind, run_underlying Tryz.underlying81]
  simp [zeroValue, typeInfo, sizeOf, hi, hz0, hz1, Value.cells, newRow]
  rw [hf2 _ rfl]
  simp
def WS (g gt n : Nat) (v : Value) (o : Nat) (X : List Value) (w' : World) : Prop :=
  w'.cell? ⟨g, 0, none⟩ = some (.slice (some ⟨gt, 0, none⟩) n n) ∧ w'.cell? ⟨g, 1, none⟩ = some v ∧ w'.rangeAt gt o X
theorem WS.of {w w' : World} {g gt n : Nat} {v : Value} {o : Nat} {X : List Value} (h : WS g gt n v o X w) (k : ∀ b o, b = g ∨ b = gt → w'.cell? ⟨b, o, none⟩ = w.cell? ⟨b, o, none⟩) : WS g gt n v o X w' :=
  ⟨(k _ _ (.inl rfl)).trans h.1, (k _ _ (.inl rfl)).trans h.2.1, fun j u hu => (k _ _ (.inr rfl)).trans (h.2.2 j u hu)⟩
theorem unsL_snoc (u : List Wr) (i : Nat) (x : Sec) : (unsL (u ++ [(i, x)])).flatten = (unsL u).flatten ++ (.int .i64 (i : Int) :: cellsB x) := by
  simp [unsL, cellU]
theorem write_mem {w : World} {g : Nat} {O : Nat → Prop} {gt : Nat} {v : Value} {s : Dk} (h : DiskM w g O gt v s.now (olds s.sure s.l) s) (hl : s.l.length ≤ 1000000) {i : Nat} (hi : i < s.n) {b ob cb : Nat} {xs : List UInt8} (hx : xs.length = 64) (hB : Src w O b ob xs) :
    WS g gt s.n v (i * 64) (cellsB (s.now.getD i [])) w.drew ∧
    WS g gt s.n v (i * 64) (cellsB (s.now.getD i [])) (w.drew.alloc (.cells (.int .i64 (i : Int) :: cellsB (s.now.getD i [])).toArray 112)) ∧
    ∃ v' W', (Builtin.append_ #[81, 81] 81 #[v, .slice (some ⟨w.heap.size, 0, none⟩) 1 1]).run Tryz.prog (w.drew.alloc (.cells (.int .i64 (i : Int) :: cellsB (s.now.getD i [])).toArray 112)) = .ok v' W' ∧
      WS g gt s.n v (i * 64) (cellsB (s.now.getD i [])) W' ∧ W'.frozen? ⟨g, 1, none⟩ = false ∧ (W'.setCell ⟨g, 1, none⟩ v').cell? ⟨g, 0, none⟩ = some (.slice (some ⟨gt, 0, none⟩) s.n s.n) ∧
      ∃ W3, (Builtin.copy_ #[42, 42] 3 #[.slice (some ⟨gt, i * 64, none⟩) 64 64, .slice (some ⟨b, ob, none⟩) 64 cb]).run Tryz.prog (W'.setCell ⟨g, 1, none⟩ v') = .ok (.int .i64 64) W3 ∧
        DiskM W3 g (fun i => O i ∨ w.heap.size ≤ i) gt v' (s.wr i xs).now (olds (s.wr i xs).sure (s.wr i xs).l) { s with l := s.l ++ [(i, xs)] } ∧ Keep (Out O) w W3 := by
  have hnl : i < s.now.length := by rw [Dk.now_length]; exact hi
  have hold := secs_getD h.ok.now hnl
  have hrg := h.range h.ok.now hnl
  have hgl := h.head.lt
  have htl := h.there.lt
  have hS0 : WS g gt s.n v (i * 64) (cellsB (s.now.getD i [])) w := ⟨by rw [h.head.cell]; rfl, by rw [h.head.cell]; rfl, hrg⟩
  have hU : (Value.int .i64 (i : Int) :: cellsB (s.now.getD i [])).length = 65 := by rw [List.length_cons, cellsB_length, hold]
  generalize hUe : (Value.int .i64 (i : Int) :: cellsB (s.now.getD i [])) = U at *
  generalize hW1 : w.drew.alloc (.cells U.toArray 112) = W1
  have hb1 : Below w.heap.size w W1 := by rw [← hW1]; exact ((Below.refl w.heap.size w).drew).alloc (Nat.le_refl _) _
  have hS1 : WS g gt s.n v (i * 64) (cellsB (s.now.getD i [])) W1 := hS0.of fun c o hc => cell_of_heap (hb1.block c (by rcases hc with rfl | rfl <;> assumption)) o
  have hnew : Blk W1 w.heap.size 112 U.toArray := by rw [← hW1]; exact Blk.new w.drew 112 _
  have hun1 : W1.ownsRow 0 112 65 v (olds s.sure s.l).length (unsL (olds s.sure s.l)).flatten := ownsRow_keep h.uns (Keep.of_below (K := fun _ _ => True) hb1) fun _ _ _ => trivial
  obtain ⟨i0, hi0, hz0, hz1, hz2⟩ := info_parts info56
  have hol : (olds s.sure s.l).length ≤ 1000000 := by rw [olds_length]; exact hl
  obtain ⟨v', W', hrun, hown, hgrow, _, hat⟩ := run_append_own_at (P := Tryz.prog) W1 0 81 81 112 i0 _ 65 72 Tryz.underlying81 hi0 hz0 hz1 hz2 (by simp [Value.cells]) (by omega) v _ _ hun1
    ⟨w.heap.size, 0, none⟩ 1 1 U (by omega) (fun j u hu => by rw [Addr.add_mid, hnew.cell, Nat.zero_add, List.getElem?_toArray]; exact hu) (fun u hu => by
      rw [← hUe] at hu
      rcases List.mem_cons.1 hu with rfl | hu
      · rfl
      · exact cellsB_one _ u hu) (by unfold maxLen; omega) (by omega) (Nat.zero_le _)
  have hsz1 : W1.heap.size = w.heap.size + 1 := by rw [← hW1]; simp
  have hsame : ∀ c, c < w.heap.size → (∀ k, v.ownBlock = some k → k ≠ c) → W'.heap[c]? = w.heap[c]? := fun c hc hne =>
    (hgrow.block c (by omega) (fun e => hne c e.symm rfl)).trans (hb1.block c hc)
  have hg' := hsame g hgl (own_ne h.uns h.head (by decide))
  have ht' := hsame gt htl (own_ne h.uns h.there (by decide))
  have hbb' := hsame b hB.1 fun k hk => by
    rcases hB.2.1 with hn | ⟨ds, hd⟩
    · rintro rfl; exact hn (h.ou k hk)
    · exact own_ne h.uns hd (by decide) k hk
  have hS2 : WS g gt s.n v (i * 64) (cellsB (s.now.getD i [])) W' := hS0.of fun c o hc => by 
    rcases hc with rfl | rfl
    · exact cell_of_heap hg' o
    · exact cell_of_heap ht' o
  have hhead : Blk W' g 83 _ := hg'.trans h.head
  have hthere : Blk W' gt 110 _ := ht'.trans h.there
  have hgt : g ≠ gt := h.head_ne_there
  have hgb : b ≠ g := hB.ne h.head h.og (by decide)
  have hhead2 := hhead.set_ 1 v'
  have hthere2 := hthere.far (p := ⟨g, 1, none⟩) (fun e => hgt e.symm) v'
  have hbyte2 : ∀ o, (W'.setCell ⟨g, 1, none⟩ v').cell? ⟨b, o, none⟩ = w.cell? ⟨b, o, none⟩ := fun o => cell_of_heap ((Below.heap_setCell W' ⟨g, 1, none⟩ v' b hgb).trans hbb') o
  have hlts : i < (thereL s.now).length := by simp [thereL]; exact hnl
  have hroom : (W'.setCell ⟨g, 1, none⟩ v').there gt (i * 64) 64 := by
    have h2 := hthere2
    rw [← List.append_nil (thereL s.now).flatten] at h2
    exact part_there h2 (thereL_each h.ok.now) (sec_get hnl)
  have hcp := copy_range (W := W'.setCell ⟨g, 1, none⟩ v') (b := gt) (o := i * 64) (A := some ⟨b, ob, none⟩) (n := 64) (dc := 64) (c := cb) hx (fun a ha j u hu => by
    cases ha
    rw [Addr.add_mid, hbyte2]; exact hB.2.2 j u hu) (fun h => by cases h) hroom
  have hset : Blk ((W'.setCell ⟨g, 1, none⟩ v').setCells gt (i * 64) (cellsB xs)) gt 110 (thereL (s.now.set i xs)).flatten.toArray := by
    have h2 := hthere2
    rw [← List.append_nil (thereL s.now).flatten] at h2
    have := part_set h2 (thereL_each h.ok.now) hlts (y := cellsB xs) (by rw [cellsB_length, hx])
    rw [List.append_nil] at this
    have e : (thereL s.now).set i (cellsB xs) = thereL (s.now.set i xs) := by simp [thereL]
    rwa [e] at this
  have hk : Keep (fun i _ => i ≠ g ∧ i ≠ gt) W' ((W'.setCell ⟨g, 1, none⟩ v').setCells gt (i * 64) (cellsB xs)) :=
    ((Keep.refl W').setCell (p := ⟨g, 1, none⟩) (fun _ _ hk => hk.1 rfl) v').setCells (fun _ _ hk => hk.2 rfl) _ _
  have hnewown : ∀ k, v'.ownBlock = some k → O k ∨ w.heap.size ≤ k := by
    intro k hk'
    rcases hat with e | e
    · exact .inl (h.ou k (e ▸ hk'))
    · rw [e] at hk'
      injection hk' with hk'
      exact .inr (by omega)
  have hnle : ∀ k, v'.ownBlock = some k → k ≠ g ∧ k ≠ gt := by
    intro k hk'
    rcases hat with e | e
    · exact ⟨own_ne h.uns h.head (by decide) k (e ▸ hk'), own_ne h.uns h.there (by decide) k (e ▸ hk')⟩
    · rw [e] at hk'
      injection hk' with hk'
      exact ⟨by omega, by omega⟩
  refine ⟨hS0, hS1, v', W', hrun, hS2, hhead.frozen 1, by rw [hhead2.cell]; rfl, _, hcp, ⟨?_, ?_, ?_, .inl h.og, .inl h.ot, hnewown, ?_⟩, ?_⟩
  · exact hhead2.fars hgt _ _
  · rw [Dk.wr_now]; exact hset
  · rw [Dk.wr_olds]
    have := ownsRow_keep hown hk fun i _ hi => hnle i hi
    rw [unsL_snoc, hUe, List.length_append]
    exact this
  · exact ⟨h.ok.sure, (h.ok.wr hi hx).l, h.ok.many⟩
  · have k1 : Keep (Out O) w W' := (Keep.of_below hb1).grown hgrow fun c _ hc _ hK => hK (h.ou c hc)
    exact (k1.setCell (p := ⟨g, 1, none⟩) (fun _ _ hK => hK h.og) v').setCells (fun _ _ hK => hK h.ot) _ _
end Go.Proofs.YtjfoflbaoceemaaGreat
namespace Go.Proofs.YtjfoflbaoceemaaGreat
open Go
section
variable {P : Program} {ops : Array Oper} {Q : Exit → Act → World → Prop} {md : Region.Mode} {S : World → Prop} {k : Nat}

def wpAnyK (P : Program) (md : Region.Mode) (ops : Array Oper) (Q : Exit → Act → World → Prop) (S : World → Prop) (k : Nat) : Nat → Array Bool → Act → World → Prop
  | 0, listed, a, w => Region.ready md ops listed = [] ∧ Q .normal a w
  | fuel + 1, listed, a, w =>
    (Region.ready md ops listed = [] → Q .normal a w) ∧
    ∀ i ∈ Region.ready md ops listed, wpOp P ops Q i (fun a' w' => (i ≠ k → listed.getD k true = false → S w') ∧ wpAnyK P md ops Q S k fuel (listed.setIfInBounds i true) a' w') a w
theorem wpAny_of_K : ∀ (fuel : Nat) (listed : Array Bool) (a : Act) (w : World), wpAnyK P md ops Q S k fuel listed a w → wpAny P md ops Q fuel listed a w
  | 0, _, _, _, h => h
  | fuel + 1, _, _, _, h => ⟨h.1, fun i hi => wpOp_mono (fun a' w' h' => wpAny_of_K fuel _ a' w' h'.2) (h.2 i hi)⟩
def waits (md : Region.Mode) (ops : Array Oper) (k i : Nat) : Bool := match ops[k]? with
  | some o => o.after.any fun e => Region.binds md e && e.on == i
  | none => false
theorem waits_not_ready {i : Nat} {listed : Array Bool} (h : waits md ops k i = true) (hi : i ∈ Region.ready md ops listed) : k ∉ Region.ready md ops listed := fun hk => by
  obtain ⟨_, o, ho, hall⟩ := mem_ready.1 hk
  have h0 := (mem_ready.1 hi).1
  simp only [waits, ho] at h
  obtain ⟨e, he, hb⟩ := Array.any_eq_true'.1 h
  simp only [Bool.and_eq_true, beq_iff_eq] at hb
  have h1 := hall e he hb.1
  rw [hb.2] at h1
  rcases Nat.lt_or_ge i listed.size with h' | h'
  · simp [h'] at h0 h1; rw [h0] at h1; cases h1
  · simp [Array.getElem?_eq_none h'] at h1
theorem wpAnyK_first {i : Nat} {oi : Oper} {v : Value} (hi : ops[i]? = some oi) (hsel : ∀ (j : Nat) (o : Oper) cs b, ops[j]? = some o → o.op ≠ .select cs b)
    (hQ : ∀ c a w, Q (.panic c) (a.put oi.dst v) w → Q (.panic c) a w) (hwait : waits md ops k i = true) (hik : i ≠ k) :
    ∀ (fuel : Nat) (listed : Array Bool) (a : Act) (w : World),
      (∀ j oj, ops[j]? = some oj → j ≠ i → listed.getD j true = false → (∀ e ∈ oj.after, Region.binds md e = true → e.on ≠ i) → oi.apart ops oj = true) →
      i ∈ Region.ready md ops listed → listed.getD k true = false → YieldsIf P ops S oi v a → S w →
      wpAnyK P md ops Q S k fuel (listed.setIfInBounds i true) (a.put oi.dst v) w → wpAnyK P md ops Q S k (fuel + 1) listed a w := by
  intro fuel
  induction fuel with
  | zero =>
    intro listed a w _ hr _ hy hS H
    refine ⟨fun h => (by rw [h] at hr; cases hr), fun j hj => ?_⟩
    by_cases hji : j = i
    · subst hji; exact hy.wpOp hi hS ⟨fun _ _ => hS, H⟩
    · have := ready_mono hj hji
      rw [H.1] at this
      cases this
  | succ fuel ih =>
    intro listed a w hfree hr hk hy hS H
    refine ⟨fun h => (by rw [h] at hr; cases hr), fun j hj => ?_⟩
    by_cases hji : j = i
    · subst hji; exact hy.wpOp hi hS ⟨fun _ _ => hS, H⟩
    · have hjk : j ≠ k := fun e => waits_not_ready hwait hr (e ▸ hj)
      have h1 := H.2 j (ready_mono hj hji)
      obtain ⟨hjun, oj, hoj, hall⟩ := mem_ready.1 hj
      have hnot : ∀ e ∈ oj.after, Region.binds md e = true → e.on ≠ i := fun e he hb heq => by
        have h1 := hall e he hb
        have h0 := (mem_ready.1 hr).1
        rw [heq] at h1
        rcases Nat.lt_or_ge i listed.size with h' | h'
        · simp [h'] at h0 h1; rw [h0] at h1; cases h1
        · simp [Array.getElem?_eq_none h'] at h1
      have h2 := wpOp_putIf hoj (hfree j oj hoj hji hjun hnot) (fun cs b => hsel i oi cs b hi) (fun cs b => hsel j oj cs b hoj) hQ hy h1
      have hfree' : ∀ k ok, ops[k]? = some ok → k ≠ i → (listed.setIfInBounds j true).getD k true = false →
          (∀ e ∈ ok.after, Region.binds md e = true → e.on ≠ i) → oi.apart ops ok = true := fun k ok hk hki hun hno => by
        refine hfree k ok hk hki ?_ hno
        by_cases hjk : j = k
        · subst hjk; exact hjun
        · rw [getD_set_ne true hjk] at hun; exact hun
      refine wpOp_mono (fun a' w' h3 => ?_) h2
      have hS' : S w' := h3.2.1 hjk (by rw [getD_set_ne true hik]; exact hk)
      refine ⟨fun _ _ => hS', ih (listed.setIfInBounds j true) a' w' hfree' (ready_mono hr (Ne.symm hji)) (by rw [getD_set_ne true hjk]; exact hk) h3.1 hS' ?_⟩
      rw [Array.setIfInBounds_comm _ _ hji]
      exact h3.2.2
theorem wpAnyK_take {i : Nat} {oi : Oper} {v : Value} {fuel : Nat} {listed : Array Bool} {a : Act} {w : World} (hi : ops[i]? = some oi)
    (hs : Region.noSelect ops = true) (hf : Region.free md ops listed i = true) (hr : (Region.ready md ops listed).contains i = true) (hwait : waits md ops k i = true) (hk : listed.getD k true = false)
    (hQ : ∀ c a w, Q (.panic c) (a.put oi.dst v) w → Q (.panic c) a w) (hik : i ≠ k) (hS : S w) (hw : Region.wanted oi (yielded ops a.tmps) = true) (hy : ∀ w, S w → (execOp a.eval oi).run P w = .ok (.value v) w)
    (h : wpAnyK P md ops Q S k fuel (listed.setIfInBounds i true) (a.put oi.dst v) w) : wpAnyK P md ops Q S k (fuel + 1) listed a w :=
  wpAnyK_first hi (Region.noSelect_spec hs) hQ hwait hik fuel listed a w (Region.free_spec hi hf) (by simpa using hr) hk (Or.inl ⟨hw, hy⟩) hS h
theorem wpAnyK_one {i : Nat} {o : Oper} {fuel : Nat} {listed : Array Bool} {a : Act} {w : World} (hr : Region.ready md ops listed = [i]) (ho : ops[i]? = some o)
    (hw : Region.wanted o (yielded ops a.tmps) = true) {v : Value} {w' : World} (he : (execOp a.eval o).run P w = .ok (.value v) w') (hS : S w')
    (h : wpAnyK P md ops Q S k fuel (listed.setIfInBounds i true) (a.put o.dst v) w') : wpAnyK P md ops Q S k (fuel + 1) listed a w := by
  refine ⟨fun h0 => absurd (hr ▸ h0) (by simp), fun j hj => ?_⟩
  rw [hr] at hj
  obtain rfl := List.mem_singleton.1 hj
  unfold wpOp
  simp only [ho, hw, if_true, Oper.wp, he, Oper.upon]
  exact .inl ⟨fun _ _ => hS, h⟩
theorem wpAnyK_store {i : Nat} {o : Oper} {fuel : Nat} {listed : Array Bool} {a : Act} {w : World} (hr : Region.ready md ops listed = [i]) (ho : ops[i]? = some o)
    (hw : Region.wanted o (yielded ops a.tmps) = true) {w' : World} (he : (execOp a.eval o).run P w = .ok .skip w') (hk : (i == k || listed.getD k true) = true)
    (h : wpAnyK P md ops Q S k fuel (listed.setIfInBounds i true) (a.put o.dst undef) w') : wpAnyK P md ops Q S k (fuel + 1) listed a w := by
  refine ⟨fun h0 => absurd (hr ▸ h0) (by simp), fun j hj => ?_⟩
  rw [hr] at hj
  obtain rfl := List.mem_singleton.1 hj
  unfold wpOp
  simp only [ho, hw, if_true, Oper.wp, he, Oper.upon]
  refine .inl ⟨fun h1 h2 => ?_, h⟩
  rw [h2, Bool.or_false] at hk
  exact absurd (by simpa using hk) h1
theorem wpAnyK_done {listed : Array Bool} {a : Act} {w : World} (hr : Region.ready md ops listed = []) (h : Q .normal a w) : ∀ fuel, wpAnyK P md ops Q S k fuel listed a w
  | 0 => ⟨hr, h⟩
  | _ + 1 => ⟨fun _ => h, by rw [hr]; simp⟩
theorem wp_region_K {id : Nat} {a : Act} {w : World} (hm : P.follows .mixedOrders = true)
    (h : wpAnyK P .any ops Q S k ops.size (Array.replicate ops.size false) a w.drew) : (Code.region id ops true).wp P Q a w :=
  wp_region_any hm (wpAny_of_K _ _ _ _ h)
end
end Go.Proofs.YtjfoflbaoceemaaGreat
