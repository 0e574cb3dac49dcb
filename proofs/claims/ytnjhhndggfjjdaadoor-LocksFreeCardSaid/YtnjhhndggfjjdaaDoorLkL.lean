/- A table of locks that a law has made, what each call of it answers and leaves: one word for all that a law carries; the document's example. -/
import Derived.Test.YtnjhhndggfjjdaaDoorLkQ
import Derived.Test.YtnjhhndggfjjdaaDoorLkE
import Derived.Test.YtnjhhndggfjjdaaDoorLkT
set_option maxRecDepth 4000
namespace Go.Proofs.YtnjhhndggfjjdaaDoor
open Go.RowKit
/-- the table at block b, made behind w0, has these locks; all that was in w0 is as it was -/
structure LG (w0 : World) (b : Nat) (s : TS) (w : World) : Prop where
  lt : LT w b (countP s : Int) s
  inv : TInv s
  tab : Tab w
  below : Below w0.heap.size w0 w
  ge : w0.heap.size ≤ b
  b0 : 0 ≠ b
theorem waits_in {l : Lk} {x y : Int} (h : y ∈ waitsP l x) : hasP l.1 y = true ∨ hasP l.2 y = true := by
  unfold waitsP at h
  split at h
  · rw [(uniqI_spec _).2] at h
    unfold rawP at h
    rcases List.mem_append.1 h with h | h
    · obtain ⟨c, hc, rfl⟩ := List.mem_map.1 h
      exact .inl (has_mem.2 (List.mem_map.2 ⟨c, (List.mem_filter.1 hc).1, rfl⟩))
    · obtain ⟨c, hc, rfl⟩ := List.mem_map.1 h
      exact .inr (has_mem.2 (List.mem_map.2 ⟨c, List.mem_of_mem_take hc, rfl⟩))
  · cases h
theorem waits_length {l : Lk} (ok : Ok l) (x : Int) : (waitsP l x).length ≤ (holdsP l).length := by
  rw [← whos_length]
  refine sub_length ?_ fun y hy => (whos_mem ok y).2 (waits_in hy)
  unfold waitsP
  split
  · exact ((uniqI_spec _).1).imp fun {a b} h => Int.ne_of_lt h
  · exact List.nodup_nil
theorem flat_length {α β : Type} {f : α → List β} {k : Nat} : ∀ {l : List α}, (∀ x ∈ l, (f x).length ≤ k) → (l.flatMap f).length ≤ l.length * k
  | [], _ => by simp
  | x :: l, h => by
    have := flat_length (f := f) (k := k) (l := l) fun y hy => h y (by simp [hy])
    have := h x (by simp)
    rw [List.flatMap_cons, List.length_append, List.length_cons, Nat.add_mul]
    omega
theorem rawE_length {s : TS} (h : TInv s) : (rawE s).length ≤ countP s * countP s := by
  have : ∀ t : TS, (∀ e ∈ t, e ∈ s) → (rawE t).length ≤ countP t * countP s := by
    intro t
    induction t with
    | nil => intro _; simp [rawE]
    | cons e r ih =>
      intro ht
      have h1 := ih fun x hx => ht x (by simp [hx])
      have he := ht e (by simp)
      have h2 : ((holdsP e.2).flatMap fun h => (waitsP e.2 h.1).map fun o => (h.1, o)).length ≤ (holdsP e.2).length * countP s := flat_length fun x _ => by
        rw [List.length_map]
        exact Nat.le_trans (waits_length (h.ok e he) _) (count_lock he)
      rw [count_cons, Nat.add_mul]
      unfold rawE at *
      rw [List.flatMap_cons, List.length_append]
      omega
  exact this s fun _ h => h
section
variable {w0 w : World} {b : Nat} {s : TS}
theorem LG.new (hT : Tab w) (h : Below w0.heap.size w0 w) : LG w0 w.heap.size [] (w.alloc (.cells #[.int .i64 0, .slice none 0 0] 50)) :=
  ⟨LT.new w, TInv.nil, hT.below (alloc_below w _), h.trans ((alloc_below w _).mono h.size), h.size, by have := hT.lt; omega⟩
theorem LG.next (g : LG w0 b s w) {w' : World} (k : Below w.heap.size w w') : LG w0 b s w' := ⟨g.lt.below k, g.inv, g.tab.below k, g.below.trans (k.mono g.below.size), g.ge, g.b0⟩
theorem LG.turn (g : LG w0 b s w) {w' : World} {s' : TS} (hl : LT w' b (countP s' : Int) s') (hi : TInv s') (k : Keep (fun i _ => i ≠ b) w w') : LG w0 b s' w' :=
  ⟨hl, hi, g.tab.keep k fun _ => g.b0, g.below.trans (k.below g.below.size fun i _ hi => by have := g.ge; omega), g.ge, g.b0⟩
theorem LG.ask (g : LG w0 b s w) (hc : countP s ≤ 1000) (who : Int) (n : Nm) (mode : Int) :
    Calls Tryd.prog 9 #[.pointer (some ⟨b, 0, none⟩), .int .i64 who, valN n, .int .i64 mode] w fun e w' => e = .returned (.int .i64 ((askN s who n mode).1 : Int)) ∧ LG w0 b (askN s who n mode).2 w' ∧ Keep (fun i _ => i ≠ b) w w' :=
  (task_ g.lt (g.inv.good (by omega)) g.tab g.b0 (by omega) who n mode fun _ _ hm0 hw => count_put g.inv hm0 hw).mono fun _ _ ⟨he, hl, hk⟩ => ⟨he, g.turn hl (inv_ask g.inv who n mode) hk, hk⟩
theorem LG.free (g : LG w0 b s w) (hc : countP s ≤ 500) (who : Int) :
    Calls Tryd.prog 12 #[.pointer (some ⟨b, 0, none⟩), .int .i64 who] w fun e w' => ∃ v, e = .returned v ∧ Own w' w.heap.size eI 3 v (freeN s who).1 ∧ LG w0 b (freeN s who).2 w' ∧ Keep (fun i _ => i ≠ b) w w' :=
  (tfree_ g.lt (g.inv.good (by omega)) g.tab g.b0 (by omega) (by have := length_count g.inv.some; omega) (fun e he => by have := g.inv.small he; omega) who).mono fun _ _ ⟨v, he, ho, hl, hk⟩ => ⟨v, he, ho, g.turn hl (inv_free g.inv who) hk, hk⟩
theorem LG.waiting (g : LG w0 b s w) (hc : countP s ≤ 1000) (who : Int) :
    Calls Tryd.prog 13 #[.pointer (some ⟨b, 0, none⟩), .int .i64 who] w fun e w' => e = .returned (.tuple #[valN ((waitN s who).getD (0, noB, noB)), .bool (waitN s who).isSome]) ∧ LG w0 b s w' ∧ Below w.heap.size w w' :=
  (waiting_all g.lt (g.inv.good (by omega)) g.tab who).mono fun _ _ ⟨he, hk⟩ => ⟨he, g.next hk, hk⟩
theorem LG.mode (g : LG w0 b s w) (hc : countP s ≤ 1000) (who : Int) (n : Nm) :
    Calls Tryd.prog 15 #[.pointer (some ⟨b, 0, none⟩), .int .i64 who, valN n] w fun e w' => e = .returned (.int .i64 (modeN s who n : Int)) ∧ LG w0 b s w' ∧ Below w.heap.size w w' :=
  (tmode_ g.lt (g.inv.good (by omega)) who n).mono fun _ _ ⟨he, hk⟩ => ⟨he, g.next hk, hk⟩
theorem LG.edges (g : LG w0 b s w) (hc : countP s ≤ 300) :
    Calls Tryd.prog 14 #[.pointer (some ⟨b, 0, none⟩)] w fun e w' => ∃ v, e = .returned v ∧ Own w' w.heap.size eE 41 v (sortedE (rawE s)) ∧ LG w0 b s w' ∧ Below w.heap.size w w' :=
  (tedges_ g.lt (g.inv.good (by omega)) g.tab (Nat.le_trans (rawE_length g.inv) (Nat.le_trans (Nat.mul_le_mul hc hc) (by omega)))).mono fun _ _ ⟨v, he, ho, hk⟩ => ⟨v, he, ho, g.next hk, hk⟩
theorem LG.count (g : LG w0 b s w) : Calls Tryd.prog 11 #[.pointer (some ⟨b, 0, none⟩)] w fun e w' => e = .returned (.int .i64 (countP s : Int)) ∧ w = w' := count_ g.lt
end
theorem num_ (k : Nat) (w : World) : Calls Tryd.prog 10 #[.int .i64 (k : Int)] w fun e w' => e = .returned (.int .i64 (k : Int)) ∧ w = w' := by
  go_enter Tryd.func10, Tryd.ntmps10
  go_wp2
  go_ret
  exact ⟨rfl, rfl⟩
/-- one lock alone -/
theorem at_one (m : Nm) (l : Lk) : atN [(m, l)] m = true ∧ spotN [(m, l)] m = 0 := by
  have h0 := (cmpN_eq m m).2 rfl
  have hs : spotN [(m, l)] m = 0 := by unfold spotN; simp [List.findIdx_cons, h0]
  refine ⟨?_, hs⟩
  unfold atN
  rw [hs]
  simp [h0]
theorem lock_one (m : Nm) (l : Lk) : lockN [(m, l)] m = l := by rw [lock_at (at_one m l).1]; simp [(at_one m l).2]
theorem put_one (m : Nm) (l l' : Lk) : putN [(m, l)] m l' = [(m, l')] := by unfold putN; rw [(at_one m l).1, (at_one m l).2]; rfl
theorem lock_nil (m : Nm) : lockN [] m = ([], []) := rfl
theorem put_nil (m : Nm) (l : Lk) : putN [] m l = [(m, l)] := rfl
theorem known_store (o r : ByteArray) : knownP (0, o, r) = some (0, noB, noB) := rfl
theorem known_object (o r : ByteArray) : knownP (1, o, r) = some (1, o, noB) := rfl
theorem known_row (o r : ByteArray) : knownP (2, o, r) = some (2, o, r) := rfl
set_option maxHeartbeats 1000000 in
theorem lalive_ (w : World) (hT : Tab w) : Calls Tryd.prog 7 #[] w fun e w' => e = .returned (.bool true) ∧ Below w.heap.size w w' := by
  have hg0 := LG.new hT (Below.refl w.heap.size w)
  have HG0 := Lib.hid hg0
  clear hg0 hT
  have e1 : askN [] 1 (0, noB, noB) 5 = (0, [((0, noB, noB), ([(1, 5)], []))]) := by
    rw [ask_asks (known_store _ _) rfl (by omega) (.inr (by decide)), lock_nil, put_nil]
    rfl
  have e2 : askN [((0, noB, noB), ([(1, 5)], []))] 2 (0, noB, noB) 1 = (13, [((0, noB, noB), ([(1, 5)], [(2, 1)]))]) := by
    rw [ask_asks (known_store _ _) rfl (by omega) (.inr (by decide)), lock_one, put_one]
    rfl
  have E1 := Lib.hid e1
  have E2 := Lib.hid e2
  clear e1 e2
  go_enter Tryd.func7, Tryd.ntmps7
  go_wp2_with fail
  refine (lnew_ w).mono ?_
  rintro e w1 ⟨rfl, hw1⟩
  have HG1 : Hid (LG w w.heap.size [] w1) := by rw [hw1]; exact HG0.out
  clear hw1 HG0
  go_wp2_with fail
  refine HG1.out.count.mono ?_
  rintro e w2 ⟨rfl, rfl⟩
  go_wp2_with fail
  have ha1 := HG1.out.ask (by decide) 1 (0, noB, noB) 5
  rw [E1.out] at ha1
  unfold valN noB at ha1
  refine ha1.mono ?_
  rintro e w3 ⟨rfl, hg3, _⟩
  have HG3 := Lib.hid hg3
  clear hg3 ha1
  go_wp2_with fail
  have ha2 := HG3.out.ask (by decide) 2 (0, noB, noB) 1
  have e2' := E2.out
  unfold noB at e2'
  unfold noB at ha2
  rw [e2'] at ha2
  unfold valN at ha2
  refine ha2.mono ?_
  rintro e w4 ⟨rfl, hg4, _⟩
  have HG4 := Lib.hid hg4
  clear hg4 ha2 e2'
  have hn0 := num_ 0
  have hn13 := num_ 13
  have hc2 := HG4.out.count
  go_wp2_with (first
    | (go_at_call 10; first | (refine (hn0 _).mono ?_; rintro e w' ⟨rfl, rfl⟩) | (refine (hn13 _).mono ?_; rintro e w' ⟨rfl, rfl⟩))
    | (go_at_call 11; refine hc2.mono ?_; rintro e w' ⟨rfl, rfl⟩))
  go_ret
  exact ⟨rfl, HG4.out.below⟩
end Go.Proofs.YtnjhhndggfjjdaaDoor
