/- The document's words on changes: name, kind, RightRow. The document's words on a state's messages: are all of a list right (messages)? In how many places is a number (total)?. The document's words on a state's messages: in how many places is a number (total)?. The document's place of a message by its number. -/
import Derived.Test.YtpggnklbgkdjcaaJ07
import Derived.Test.YtpggnklbgkdjcaaJ09
import Derived.Test.YtpggnklbgkdjcaaJ02
import Derived.RegionTactic
import Derived.Deep.QuietTactic
import Derived.BigQuiet
set_option maxRecDepth 4000
namespace Go.Proofs.Ytpggnklbgkdjcaa
open Go.RowKit
theorem mg_ext {m k : Mg} (h1 : m.id = k.id) (h2 : m.pri = k.pri) (h3 : m.retry = k.retry) (h4 : m.claimed = k.claimed) (h5 : m.corr = k.corr) (h6 : m.body = k.body) : m = k := by
  obtain ⟨a1, a2, a3, a4, a5, a6⟩ := m
  obtain ⟨b1, b2, b3, b4, b5, b6⟩ := k
  simp only at h1 h2 h3 h4 h5 h6
  rw [h1, h2, h3, h4, h5, h6]
theorem bytes_same {a b : ByteArray} (h : a.toList = b.toList) : a = b := by
  rw [ByteArray.toList_eq, ByteArray.toList_eq] at h
  obtain ⟨⟨x⟩⟩ := a
  obtain ⟨⟨y⟩⟩ := b
  simp at h
  rw [h]
theorem msame_eq {m k : Mg} (h : m.same k = true) : m = k := by
  simp only [Mg.same, Bool.and_eq_true, beq_iff_eq] at h
  obtain ⟨h1, h2, h3, h4, h5, h6⟩ := h
  exact mg_ext h1 h2 h3 h4 (bytes_same h5) (bytes_same h6)
theorem same_eq {e f : Ef} (h : e.same f = true) : e = f := by
  simp only [Ef.same, Bool.and_eq_true, beq_iff_eq] at h
  obtain ⟨h1, h2, h3, h4, h5, h6, h7, h8⟩ := h
  have m2 := bytes_same h2
  have m3 := bytes_same h3
  have m4 := bytes_same h4
  have m8 := msame_eq h8
  obtain ⟨a1, a2, a3, a4, a5, a6, a7, a8⟩ := e
  obtain ⟨b1, b2, b3, b4, b5, b6, b7, b8⟩ := f
  simp only at h1 m2 m3 m4 h5 h6 h7 m8
  rw [h1, m2, m3, m4, h5, h6, h7, m8]
theorem same_comm (e f : Ef) : e.same f = f.same e := by
  cases h : e.same f
  · cases k : f.same e
    · rfl
    · rw [same_eq k, same_self] at h; cases h
  · rw [same_eq h, same_self]
theorem name_ (o : ByteArray) (w : World) : Calls Try.prog 22 #[.string o] w fun e w' => e = .returned (.bool (nameB o)) ∧ w = w' := by
  by_cases h1 : 1 ≤ (o.size : Int)
  · have E : Hid (nameB o = decide ((o.size : Int) ≤ 16)) := by
      have e : nameB o = decide ((o.size : Int) ≤ 16) := by unfold nameB; rw [decide_eq_true h1, Bool.true_and]
      exact e
    go_enter Try.func22, Try.ntmps22
    go_wp2
    go_ret
    exact ⟨retM E.out.symm, rfl⟩
  · have E : Hid (nameB o = false) := by
      have e : nameB o = false := by unfold nameB; rw [decide_eq_false h1, Bool.false_and]
      exact e
    go_enter Try.func22, Try.ntmps22
    go_wp2
    go_ret
    exact ⟨retM E.out.symm, rfl⟩
theorem rkind_ (k l : Int) (w : World) : Calls Try.prog 23 #[.int .i64 k, .int .i64 l] w fun e w' => e = .returned (.bool (kindB k l)) ∧ w = w' := by
  by_cases h1 : k = 1
  · subst h1
    by_cases h2 : l = 0
    · subst h2
      have E : Hid (kindB 1 0 = true) := rfl
      go_enter Try.func23, Try.ntmps23
      go_wp2
      go_ret
      exact ⟨retM E.out.symm, rfl⟩
    · have E : Hid (kindB 1 l = false) := by
        have e : kindB 1 l = false := by simp [kindB, h2]
        exact e
      have h3 : (l == 0) = false := by simpa using h2
      go_enter Try.func23, Try.ntmps23
      go_wp2
      go_ret
      exact ⟨retM E.out.symm, rfl⟩
  by_cases h2 : k = 2
  · subst h2
    by_cases h3 : 1 ≤ l
    · have E : Hid (kindB 2 l = decide (l ≤ 1000)) := by
        have e : kindB 2 l = decide (l ≤ 1000) := by simp [kindB, h3]
        exact e
      go_enter Try.func23, Try.ntmps23
      go_wp2
      go_ret
      exact ⟨retM E.out.symm, rfl⟩
    · have E : Hid (kindB 2 l = false) := by
        have e : kindB 2 l = false := by simp [kindB, h3]
        exact e
      go_enter Try.func23, Try.ntmps23
      go_wp2
      go_ret
      exact ⟨retM E.out.symm, rfl⟩
  have E : Hid (kindB k l = false) := by
    have e : kindB k l = false := by simp [kindB, h1, h2]
    exact e
  have k1 : (k == 1) = false := by simpa using h1
  have k2 : (k == 2) = false := by simpa using h2
  go_enter Try.func23, Try.ntmps23
  go_wp2
  go_ret
  exact ⟨retM E.out.symm, rfl⟩
theorem rrow_ (k v : ByteArray) (w : World) : Calls Try.prog 28 #[.agg #[.string k, .string v]] w fun e w' => e = .returned (.bool (keyLB k && bodyB v)) ∧ Below w.heap.size w w' := by
  have HAL := Lib.hid (alloc_below w (.cells #[.string k, .string v] 52))
  by_cases h1 : 1 ≤ (k.size : Int)
  rotate_left
  · have E : Hid ((keyLB k && bodyB v) = false) := by
      have e : (keyLB k && bodyB v) = false := by unfold keyLB; rw [decide_eq_false h1]; simp
      exact e
    go_enter Try.func28, Try.ntmps28
    go_wp2
    go_ret
    exact ⟨retM E.out.symm, HAL.out⟩
  by_cases h2 : (k.size : Int) ≤ 40
  rotate_left
  · have E : Hid ((keyLB k && bodyB v) = false) := by
      have e : (keyLB k && bodyB v) = false := by unfold keyLB; rw [decide_eq_false h2]; simp
      exact e
    go_enter Try.func28, Try.ntmps28
    go_wp2
    go_ret
    exact ⟨retM E.out.symm, HAL.out⟩
  have E : Hid ((keyLB k && bodyB v) = decide ((v.size : Int) ≤ 100)) := by
    have e : (keyLB k && bodyB v) = decide ((v.size : Int) ≤ 100) := by unfold keyLB bodyB; rw [decide_eq_true h1, decide_eq_true h2]; simp
    exact e
  go_enter Try.func28, Try.ntmps28
  go_wp2
  go_ret
  exact ⟨retM E.out.symm, HAL.out⟩
end Go.Proofs.Ytpggnklbgkdjcaa
namespace Go.Proofs.Ytpggnklbgkdjcaa
open Go.RowKit
def dmsg (next : Int) (dead : Bool) (m : Mg) : Bool := m.right && (decide (m.id < next) && !(dead && m.claimed))
theorem all_at {α : Type} {l : List α} {p : α → Bool} {j : Nat} (h : ∀ q (_ : q < j) (hq : q < l.length), p l[q] = true) (hj : l.length ≤ j) : l.all p = true := by
  rw [List.all_eq_true]
  intro x hx
  obtain ⟨q, hq, rfl⟩ := List.getElem_of_mem hx
  exact h q (by omega) hq
theorem all_no {α : Type} {l : List α} {p : α → Bool} {j : Nat} (hj : j < l.length) (h : p l[j] = false) : l.all p = false := by
  rw [List.all_eq_false]
  exact ⟨l[j], List.getElem_mem hj, by simp [h]⟩
def AllR (w : World) {α : Type} (l : List α) (p : α → Bool) (k : Nat) (i : Value) (wr : World) : Prop :=
  ∃ j, j + k = l.length ∧ i = .int .i64 (j : Int) ∧ (∀ q (_ : q < j) (hq : q < l.length), p l[q] = true) ∧ Below w.heap.size w wr
structure ShutM5 (p : Prop) : Prop where out : p
set_option maxHeartbeats 2000000 in
theorem messages_ {w : World} {K : Nat → Prop} {A : Option Addr} {n c : Nat} {l : List Mg} (h : Lst w K eM A l) (hl : l.length = n) (hn : n ≤ 1000000) (next : Int) (dead : Bool) :
    Calls Try.prog 27 #[.slice A n c, .int .i64 next, .bool dead] w fun e w' => e = .returned (.bool (l.all (dmsg next dead))) ∧ Below w.heap.size w w' := by
  have H := Lib.hid h
  have HL := Lib.hid hl
  clear h hl
  go_enter Try.func27, Try.ntmps27
  go_wp2_with fail
  go_loopg [7] n (fun k i wr => AllR w l (dmsg next dead) k i wr)
  case atStart => exact ⟨0, by rw [HL.out]; omega, rfl, fun q hq => absurd hq (Nat.not_lt_zero q), Below.refl _ _⟩
  case round =>
    obtain ⟨j, hj, rfl, hu, hb⟩ := hrel
    have HJ := Lib.hid hj
    have HU := ShutM5.mk hu
    have HB := Lib.hid hb
    clear hj hu hb
    by_cases hlt : j < n
    · have hx : j < l.length := by rw [HL.out]; exact hlt
      obtain ⟨b, o, rfl, hbb, c0, c1, c2, c3, c4, c5⟩ := (H.out.below HB.out).atM hx
      have hr := fun W => rright_ l[j] W
      have hd : dmsg next dead l[j] = (l[j].right && (decide (l[j].id < next) && !(dead && l[j].claimed))) := rfl
      have hno := fun h => all_no (p := dmsg next dead) hx h
      have hyes : dmsg next dead l[j] = true → ∀ q (_ : q < j + 1) (hq : q < l.length), dmsg next dead l[q] = true := fun h q hq hl => by
        rcases Nat.lt_or_ge q j with h5 | h5
        · exact HU.out q h5 hl
        · obtain rfl : q = j := by omega
          exact h
      rw [hd] at hno hyes
      obtain ⟨x, hxx⟩ : ∃ x, l[j] = x := ⟨_, rfl⟩
      rw [hxx] at c0 c1 c2 c3 c4 c5 hr hno hyes
      clear hxx hd hbb
      generalize x.right = y at *
      obtain ⟨x0, x1, x2, x3, x4, x5⟩ := x
      simp only [Mg.val, Mg.cells] at hr c0 c1 c2 c3 c4 c5 hno hyes
      have HR := ShutM5.mk hr
      have HN := ShutM5.mk hno
      have HY := ShutM5.mk hyes
      have k0 := fun W (k : Below wr.heap.size wr W) => (cell_of_heap (k.block _ (block_of_cell c0)) _).trans c0
      have k3 := fun W (k : Below wr.heap.size wr W) => (cell_of_heap (k.block _ (block_of_cell c3)) _).trans c3
      have K0 := ShutM5.mk k0
      have K3 := ShutM5.mk k3
      clear hr hno hyes k0 k3
      go_wp2_with fail
      refine (HR.out _).mono ?_
      rintro e w1 ⟨rfl, hb1⟩
      have d0 := K0.out _ hb1
      have d3 := K3.out _ hb1
      have HB1 := ShutM5.mk (HB.out.trans (hb1.mono HB.out.size))
      clear hb1 c0 c1 c2 c3 c4 c5 K0 K3 HR
      cases y
      · have e1 := HN.out rfl
        have E1 := ShutM5.mk e1
        clear e1 HN HY
        go_wp2_with fail
        go_ret
        exact ⟨by rw [E1.out]; rfl, HB1.out⟩
      · by_cases hid : next ≤ x0
        · have e1 := HN.out (by rw [decide_eq_false (by omega)]; rfl)
          have E1 := ShutM5.mk e1
          have hg : decide (next ≤ x0) = true := decide_eq_true hid
          clear e1 HN HY
          go_wp2_with fail
          go_ret
          exact ⟨by rw [E1.out]; rfl, HB1.out⟩
        · have hg : decide (next ≤ x0) = false := decide_eq_false hid
          have hdt : decide (x0 < next) = true := decide_eq_true (by omega)
          cases dead
          · have e1 := HY.out (by rw [hdt]; rfl)
            have E1 := ShutM5.mk e1
            clear e1 HN HY hdt
            go_wp2_with fail
            go_roundg (n - (j + 1))
            case measure => have := HJ.out; have := HL.out; omega
            case rel => exact ⟨j + 1, by have := HL.out; omega, by go_num, E1.out, HB1.out⟩
          · cases x3
            · have e1 := HY.out (by rw [hdt]; rfl)
              have E1 := ShutM5.mk e1
              clear e1 HN HY hdt
              go_wp2_with fail
              go_roundg (n - (j + 1))
              case measure => have := HJ.out; have := HL.out; omega
              case rel => exact ⟨j + 1, by have := HL.out; omega, by go_num, E1.out, HB1.out⟩
            · have e1 := HN.out (by rw [hdt]; rfl)
              have E1 := ShutM5.mk e1
              clear e1 HN HY hdt
              go_wp2_with fail
              go_ret
              exact ⟨by rw [E1.out]; rfl, HB1.out⟩
    · have e1 := all_at HU.out (show l.length ≤ j by rw [HL.out]; omega)
      have E1 := ShutM5.mk e1
      clear e1
      go_wp2_with fail
      go_ret
      exact ⟨by rw [E1.out]; rfl, HB.out⟩
end Go.Proofs.Ytpggnklbgkdjcaa
namespace Go.Proofs.Ytpggnklbgkdjcaa
open Go.RowKit
/-- in how many places a number is -/
def totalD (l : List Ob) (id : Int) : Nat := (idsTo l l.length).count id
def TotR (w : World) (l : List Ob) (id : Int) (c0 : Array Value) (k : Nat) (v i : Value) (wr : World) : Prop :=
  ∃ j, j + k = l.length ∧ i = .int .i64 (j : Int) ∧ v = .int .i64 (((idsTo l j).count id : Nat) : Int) ∧ Below w.heap.size w wr ∧ Blk wr w.heap.size 24 c0
def TotI (w : World) (b : Nat) (ms : List Mg) (id : Int) (c0 : Array Value) (k : Nat) (v i : Value) (wr : World) : Prop :=
  ∃ q, q + k = ms.length ∧ i = .int .i64 (q : Int) ∧ v = .int .i64 ((b + (idsL (ms.take q)).count id : Nat) : Int) ∧ Below w.heap.size w wr ∧ Blk wr w.heap.size 24 c0
theorem count_step {ms : List Mg} {id : Int} {q : Nat} (h : q < ms.length) : (idsL (ms.take (q + 1))).count id = (idsL (ms.take q)).count id + (if ms[q].id == id then 1 else 0) := by
  rw [idsL_succ h, List.count_append]
  congr 1
  rw [List.count_singleton]
set_option maxHeartbeats 8000000 in
theorem total_ {w : World} {K : Nat → Prop} {s : Sv} {xs : List Oc} (h : ObsAt w K s xs) (hx : xs.length ≤ 20) (hs : ∀ x ∈ xs, x.o.short 450) (next id : Int) :
    Calls Try.prog 29 #[.agg #[.int .i64 next, .slice s.a s.n s.c], .int .i64 id] w fun e w' => e = .returned (.int .i64 ((totalD (obsOf xs) id : Nat) : Int)) ∧ Below w.heap.size w w' := by
  obtain ⟨A, n, c⟩ := s
  have hln : n = xs.length := h.row.len
  have hol : (obsOf xs).length = n := by rw [hln]; simp [obsOf]
  have HB0 := ShutM5.mk (alloc_below w (.cells #[.int .i64 next, .slice A n c] 24))
  have HX0 := ShutM5.mk (Blk.new w 24 #[.int .i64 next, .slice A n c])
  have HH := ShutM5.mk h
  have hshort : ∀ o ∈ obsOf xs, o.short 450 := fun o ho => by
    obtain ⟨x, hx, rfl⟩ := List.mem_map.1 ho
    exact hs x hx
  have HSH := ShutM5.mk hshort
  have HLN := ShutM5.mk hln
  have HOL := ShutM5.mk hol
  have hn20 : n ≤ 20 := by omega
  obtain ⟨Z, hZ⟩ : ∃ Z, totalD (obsOf xs) id = Z := ⟨_, rfl⟩
  rw [hZ]
  have HZ := ShutM5.mk hZ
  clear h hs hshort hln hol hZ hx
  go_enter Try.func29, Try.ntmps29
  go_wp2_with fail
  go_loopg [5, 6] n (fun k v i wr => TotR w (obsOf xs) id #[.int .i64 next, .slice A n c] k v i wr)
  case atStart => exact ⟨0, by have := HOL.out; omega, rfl, by simp [idsTo], HB0.out, HX0.out⟩
  case round =>
    obtain ⟨j, hj, rfl, rfl, hb, hblk⟩ := hrel
    have HJ := ShutM5.mk hj
    have HB := ShutM5.mk hb
    have HX := ShutM5.mk hblk
    clear hj hb hblk
    by_cases hlt : j < n
    · have hjx : j < xs.length := by rw [← HLN.out]; exact hlt
      have hjo : j < (obsOf xs).length := by rw [HOL.out]; exact hlt
      have hjn : (j : Int) < (n : Int) := by omega
      have hoj := ob_of hjo
      have hids : ∀ id, (idsTo (obsOf xs) (j + 1)).count id = ((idsTo (obsOf xs) j).count id + (idsL xs[j].o.msgs).count id) + (idsL xs[j].o.dead).count id := fun id => by rw [idsTo_succ hjo, hoj, List.count_append, List.count_append]
      have hle : (idsTo (obsOf xs) j).count id ≤ 20000 := by
        have h1 := idsTo_len HSH.out j
        have h2 : (idsTo (obsOf xs) j).count id ≤ (idsTo (obsOf xs) j).length := List.count_le_length
        omega
      obtain ⟨hsj0, hsj1, hsj2⟩ := HSH.out xs[j].o (List.mem_map_of_mem (List.getElem_mem hjx))
      have hcell : ∀ W, Below w.heap.size w W → ∃ b o, A = some ⟨b, o, none⟩ ∧ W.cell? ⟨b, o + j * 6 + 4, none⟩ = some (.slice xs[j].m.a xs[j].m.n xs[j].m.c) ∧ W.cell? ⟨b, o + j * 6 + 5, none⟩ = some (.slice xs[j].d.a xs[j].d.n xs[j].d.c) := fun W k => by
        obtain ⟨b, o, e, _, _, _, _, _, c4, c5⟩ := (HH.out.row.lst.below k).atO hjx
        exact ⟨b, o, e, c4, c5⟩
      have hmm := fun W (k : Below w.heap.size w W) => ((HH.out.all _ (List.getElem_mem hjx)).below k).msgs
      have hdd := fun W (k : Below w.heap.size w W) => ((HH.out.all _ (List.getElem_mem hjx)).below k).dead
      generalize xs[j].o.msgs = ms at *
      generalize xs[j].o.dead = ds at *
      generalize xs[j].m = sm at *
      generalize xs[j].d = sd at *
      obtain ⟨ma, mn, mc⟩ := sm
      obtain ⟨da, dn, dc⟩ := sd
      simp only at hcell
      obtain ⟨b, o, eA, hz4, hz5⟩ := hcell wr HB.out
      clear hz4 hz5 hsj0
      subst eA
      have hc : ∀ W, Below w.heap.size w W → W.cell? ⟨b, o + j * 6 + 4, none⟩ = some (.slice ma mn mc) ∧ W.cell? ⟨b, o + j * 6 + 5, none⟩ = some (.slice da dn dc) := fun W k => by
        obtain ⟨b', o', e, x, y⟩ := hcell W k
        injection e with e
        injection e with e1 e2
        subst e1 e2
        exact ⟨x, y⟩
      have HC := ShutM5.mk hc
      have HMM7 := ShutM5.mk hmm
      have HMM8 := ShutM5.mk hdd
      have HS7 := ShutM5.mk (show ms.length ≤ 450 from hsj1)
      have HS8 := ShutM5.mk (show ds.length ≤ 450 from hsj2)
      have HIDS := ShutM5.mk (hids id)
      have HBD := ShutM5.mk (show (idsTo (obsOf xs) j).count id ≤ 20000 from hle)
      have d1 := HX.out.cell 1
      simp only [List.getElem?_toArray, List.getElem?_cons_zero, List.getElem?_cons_succ] at d1
      generalize hcj : (idsTo (obsOf xs) j).count id = cj at *
      clear hc hcell hmm hdd hsj1 hsj2 hids hle hjx hjo hoj hcj
      go_wp2_with fail
      clear d1
      go_loopg [5, 7] ms.length (fun k v i wr => TotI w (cj) ms id #[.int .i64 next, .slice (some ⟨b, o, none⟩) n c] k v i wr)
      case atStart => exact ⟨0, by omega, rfl, by simp [idsL], HB.out, HX.out⟩
      case round =>
        obtain ⟨q7, hq7, rfl, rfl, hb7, hblk7⟩ := hrel
        have HQ7 := ShutM5.mk hq7
        have HB7 := ShutM5.mk hb7
        have HX7 := ShutM5.mk hblk7
        have e1 := hblk7.cell 1
        obtain ⟨e4, e5⟩ := HC.out _ hb7
        simp only [List.getElem?_toArray, List.getElem?_cons_zero, List.getElem?_cons_succ] at e1
        clear hq7 hb7 hblk7
        by_cases hlq7 : q7 < ms.length
        · obtain ⟨mb, mo, em, _, i0, _⟩ := (HMM7.out _ HB7.out).lst.atM hlq7
          have em2 : ma = some ⟨mb, mo, none⟩ := em
          have hl7 := (HMM7.out _ HB7.out).len
          have hl2 : mn = ms.length := hl7
          have hst := count_step (id := id) hlq7
          have hsb := HS7.out
          have hw1 : IntKind.i64.wrap ((q7 : Int) + 1) = (q7 : Int) + 1 := by rw [IntKind.wrap_i64]; omega
          have hqi : (q7 : Int) < (mn : Int) := by omega
          have hbd : (idsL (ms.take q7)).count id ≤ 450 := by
            have h1 : (idsL (ms.take q7)).count id ≤ (idsL (ms.take q7)).length := List.count_le_length
            have h2 := idsL_len ms q7
            have h3 := HS7.out
            omega
          have HL2 := ShutM5.mk hl2
          subst em2
          generalize ms[q7].id = y at *
          cases hy : (y == id)
          · rw [hy, if_neg (by simp), Nat.add_zero] at hst
            have HST := ShutM5.mk hst
            clear hst hl7 hl2 hbd em
            go_wp2_with fail
            go_roundg (ms.length - (q7 + 1))
            case measure => have := HQ7.out; omega
            case rel => exact ⟨q7 + 1, by omega, congrArg (Value.int .i64) (by omega), congrArg (Value.int .i64) (by have hh := HST.out; omega), HB7.out, HX7.out⟩
          · rw [hy, if_pos rfl] at hst
            have HST := ShutM5.mk hst
            have hw : wrap64 (((cj + (idsL (ms.take q7)).count id : Nat) : Int) + 1) = ((cj + (idsL (ms.take (q7 + 1))).count id : Nat) : Int) := by unfold wrap64; rw [hst]; have := HBD.out; omega
            generalize cj + (idsL (ms.take q7)).count id = u0 at *
            have HW := ShutM5.mk hw
            clear hst hl7 hl2 hbd em hw
            go_wp2_with fail
            go_roundg (ms.length - (q7 + 1))
            case measure => have := HQ7.out; omega
            case rel => exact ⟨q7 + 1, by omega, congrArg (Value.int .i64) (by omega), congrArg (Value.int .i64) HW.out, HB7.out, HX7.out⟩
        · have hqe : q7 = ms.length := by have := HQ7.out; omega
          have hl2 : mn = ms.length := (HMM7.out _ HB7.out).len
          have hqi : ¬ (q7 : Int) < (mn : Int) := by omega
          have htk : ms.take q7 = ms := List.take_of_length_le (by omega)
          rw [htk]
          have HL2 := ShutM5.mk hl2
          clear htk hl2 hqe
          go_wp2_with fail
          have HBD2 := ShutM5.mk (show cj + (idsL ms).count id ≤ 21000 by
            have h1 : (idsL ms).count id ≤ (idsL ms).length := List.count_le_length
            have h2 : (idsL ms).length = ms.length := by simp [idsL]
            have h3 := HS7.out
            have h4 := HBD.out
            omega)
          generalize hcm : cj + (idsL ms).count id = cm at *
          go_loopg [5, 8] ds.length (fun k v i wr => TotI w (cm) ds id #[.int .i64 next, .slice (some ⟨b, o, none⟩) n c] k v i wr)
          case atStart => exact ⟨0, by omega, rfl, congrArg (Value.int .i64) (by rw [← hcm]; simp [idsL]), HB7.out, HX7.out⟩
          case round =>
            obtain ⟨q8, hq8, rfl, rfl, hb8, hblk8⟩ := hrel
            have HQ8 := ShutM5.mk hq8
            have HB8 := ShutM5.mk hb8
            have HX8 := ShutM5.mk hblk8
            have e1 := hblk8.cell 1
            obtain ⟨e4, e5⟩ := HC.out _ hb8
            simp only [List.getElem?_toArray, List.getElem?_cons_zero, List.getElem?_cons_succ] at e1
            clear hq8 hb8 hblk8
            by_cases hlq8 : q8 < ds.length
            · obtain ⟨mb, mo, em, _, i0, _⟩ := (HMM8.out _ HB8.out).lst.atM hlq8
              have em2 : da = some ⟨mb, mo, none⟩ := em
              have hl8 := (HMM8.out _ HB8.out).len
              have hl2 : dn = ds.length := hl8
              have hst := count_step (id := id) hlq8
              have hsb := HS8.out
              have hw1 : IntKind.i64.wrap ((q8 : Int) + 1) = (q8 : Int) + 1 := by rw [IntKind.wrap_i64]; omega
              have hqi : (q8 : Int) < (dn : Int) := by omega
              have hbd : (idsL (ds.take q8)).count id ≤ 450 := by
                have h1 : (idsL (ds.take q8)).count id ≤ (idsL (ds.take q8)).length := List.count_le_length
                have h2 := idsL_len ds q8
                have h3 := HS8.out
                omega
              have HL2 := ShutM5.mk hl2
              subst em2
              generalize ds[q8].id = y at *
              cases hy : (y == id)
              · rw [hy, if_neg (by simp), Nat.add_zero] at hst
                have HST := ShutM5.mk hst
                clear hst hl8 hl2 hbd em
                go_wp2_with fail
                go_roundg (ds.length - (q8 + 1))
                case measure => have := HQ8.out; omega
                case rel => exact ⟨q8 + 1, by omega, congrArg (Value.int .i64) (by omega), congrArg (Value.int .i64) (by have hh := HST.out; omega), HB8.out, HX8.out⟩
              · rw [hy, if_pos rfl] at hst
                have HST := ShutM5.mk hst
                have hw : wrap64 (((cm + (idsL (ds.take q8)).count id : Nat) : Int) + 1) = ((cm + (idsL (ds.take (q8 + 1))).count id : Nat) : Int) := by unfold wrap64; rw [hst]; have := HBD2.out; omega
                generalize cm + (idsL (ds.take q8)).count id = u0 at *
                have HW := ShutM5.mk hw
                clear hst hl8 hl2 hbd em hw
                go_wp2_with fail
                go_roundg (ds.length - (q8 + 1))
                case measure => have := HQ8.out; omega
                case rel => exact ⟨q8 + 1, by omega, congrArg (Value.int .i64) (by omega), congrArg (Value.int .i64) HW.out, HB8.out, HX8.out⟩
            · have hqe : q8 = ds.length := by have := HQ8.out; omega
              have hl2 : dn = ds.length := (HMM8.out _ HB8.out).len
              have hqi : ¬ (q8 : Int) < (dn : Int) := by omega
              have htk : ds.take q8 = ds := List.take_of_length_le (by omega)
              rw [htk]
              have HL2 := ShutM5.mk hl2
              clear htk hl2 hqe
              go_wp2_with fail
              go_roundg (n - (j + 1))
              case measure => have := HJ.out; have := HOL.out; omega
              case rel => exact ⟨j + 1, by have := HJ.out; have := HOL.out; omega, by go_num, by rw [HIDS.out]; exact congrArg (Value.int .i64) (Int.natCast_add _ _).symm, HB8.out, HX8.out⟩
    · have hjn : ¬ (j : Int) < (n : Int) := by omega
      have hje : (idsTo (obsOf xs) j).count id = Z := by
        rw [← HZ.out, totalD, show (obsOf xs).length = j by have := HJ.out; have := HOL.out; omega]
      rw [hje]
      have d1 := HX.out.cell 1
      simp only [List.getElem?_toArray, List.getElem?_cons_zero, List.getElem?_cons_succ] at d1
      clear hje
      go_wp2_with fail
      go_ret
      exact ⟨rfl, HB.out⟩
end Go.Proofs.Ytpggnklbgkdjcaa
namespace Go.Proofs.Ytpggnklbgkdjcaa
open Go.RowKit
def SeenM (w : World) (id : Int) (l : List Mg) (k : Nat) (i : Value) (wr : World) : Prop := ∃ j, j + k = l.length ∧ i = .int .i64 (j : Int) ∧ (∀ q (_ : q < j) (hl : q < l.length), isM id l[q] = false) ∧ w = wr
set_option maxHeartbeats 400000 in
theorem rfind_m {w : World} {K : Nat → Prop} {A : Option Addr} {n c : Nat} {l : List Mg} (h : Lst w K eM A l) (hl : l.length = n) (hn : n ≤ 1000000) (id : Int) :
    Calls Try.prog 45 #[.slice A n c, .int .i64 id] w fun e w' => e = .returned (.int .i64 (idxI (isM id) l)) ∧ w = w' := by
  have H := Lib.hid h
  have HL := Lib.hid hl
  clear h hl
  go_enter Try.func45, Try.ntmps45
  go_wp2
  go_loopg [5] n (fun m i wr => SeenM w id l m i wr)
  case atStart => exact ⟨0, by rw [HL.out]; omega, rfl, fun q hq => absurd hq (Nat.not_lt_zero q), rfl⟩
  case round =>
    obtain ⟨j, hj, rfl, h1, rfl⟩ := hrel
    have HJ := Lib.hid hj
    have H1 := Lib.hid h1
    clear hj h1
    by_cases hlt : j < n
    · have hx : j < l.length := by rw [HL.out]; exact hlt
      obtain ⟨b, o, rfl, hb, c0, c1, c2, c3, c4, c5⟩ := H.out.atM hx
      clear c1 c2 c3 c4 c5
      have e1 : idxI (isM id) l = (j : Int) ∨ isM id l[j] = false := by
        cases hpj : isM id l[j]
        · exact .inr rfl
        · exact .inl (idx_hit hx hpj fun q hq => H1.out q hq (by omega))
      have e2 : isM id l[j] = false → ∀ q (_ : q < j + 1) (hl : q < l.length), isM id l[q] = false := fun h q hq hl => by
        rcases Nat.lt_or_ge q j with h5 | h5
        · exact H1.out q h5 hl
        · obtain rfl : q = j := by omega
          exact h
      have e3 : isM id l[j] = (l[j].id == id) := rfl
      have E2 := Lib.hid e2
      have E1 := Lib.hid e1
      have E3 := Lib.hid e3
      clear e1 e2 e3 hb
      generalize l[j].id = x at *
      generalize isM id l[j] = y at *
      clear hx
      cases hxx : (x == id)
      · have hy : y = false := by rw [E3.out]; exact hxx
        have HY := Lib.hid hy
        clear hy
        go_wp2
        go_roundg (n - (j + 1))
        case measure => have := HJ.out; have := HL.out; omega
        case rel => exact ⟨j + 1, by have := HL.out; omega, by go_num, E2.out HY.out, rfl⟩
      · have hy : y = true := by rw [E3.out]; exact hxx
        have hi : idxI (isM id) l = (j : Int) := by
          rcases E1.out with h | h
          · exact h
          · rw [h] at hy; cases hy
        have HI := Lib.hid hi
        clear hy hi
        go_wp2
        go_ret
        exact ⟨by rw [HI.out]; rfl, rfl⟩
    · have e1 : idxI (isM id) l = -1 := idx_miss fun q hq => H1.out q (by have := HJ.out; have := HL.out; omega) hq
      have E1 := Lib.hid e1
      clear e1
      go_wp2
      go_ret
      exact ⟨by rw [E1.out]; rfl, rfl⟩
end Go.Proofs.Ytpggnklbgkdjcaa
