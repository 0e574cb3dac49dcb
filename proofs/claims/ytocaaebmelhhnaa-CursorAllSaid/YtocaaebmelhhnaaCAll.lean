/- CursorAll, walked. -/
import Derived.Test.YtocaaebmelhhnaaCAlive
import Derived.Test.YtocaaebmelhhnaaRefT
import Derived.Test.YtocaaebmelhhnaaRowS
import Derived.Deep.QuietTactic
import Derived.BigQuiet
set_option maxRecDepth 4000
namespace Go.Proofs.Ytocaaebmelhhnaa
open Go.RowKit
theorem put_sub {l : List Rw} {r x : Rw} (h : x ∈ putR l r) : x = r ∨ x ∈ l := by
  unfold putR at h
  rcases List.mem_append.1 h with h | h
  · exact .inr (List.mem_of_mem_take h)
  · rcases List.mem_cons.1 h with h | h
    · exact .inl h
    · exact .inr (List.mem_of_mem_drop h)
theorem fold_sub {xs : List Rw} : ∀ {l : List Rw} {x : Rw}, x ∈ xs.foldl putR l → x ∈ l ∨ x ∈ xs := by
  induction xs with
  | nil => intro l x h; exact .inl h
  | cons y r ih =>
    intro l x h
    rcases ih h with h | h
    · rcases put_sub h with h | h
      · exact .inr (h ▸ List.mem_cons_self ..)
      · exact .inl h
    · exact .inr (List.mem_cons_of_mem _ h)
/-- while the document's rows are made: the tree, and they beside it -/
structure CW (w : World) (bt : Nat) (L M : List Rw) (A : Option Addr) (n c : Nat) (wr : World) : Prop where
  bel : Below w.heap.size w wr
  ge : w.heap.size ≤ bt
  tree : Tree wr (fun i => i ≠ bt) bt L
  now : Rws wr (fun i => i ≠ bt) A M
  len : M.length = n
  cap : n ≤ c
  keys : ∀ r ∈ M, r.1.size < maxLen
theorem CW.put {w wr w' : World} {bt : Nat} {L M M' : List Rw} {A A' : Option Addr} {n n' c c' : Nat} (h : CW w bt L M A n c wr) (k : Below wr.heap.size wr w') (hr : Rws w' (fun i => wr.heap.size ≤ i) A' M') (hl : M'.length = n') (hc : n' ≤ c') (hk : ∀ r ∈ M', r.1.size < maxLen) : CW w bt L M' A' n' c' w' :=
  ⟨h.bel.trans (k.mono h.bel.size), h.ge, h.tree.below k, hr.more fun i _ hi => by have := h.tree.lt; omega, hl, hc, hk⟩
def CRelA (w : World) (bt : Nat) (xs : List Rw) (k : Nat) (v i : Value) (wr : World) : Prop :=
  ∃ j A n c, j + k = xs.length ∧ i = .int .i64 (j : Int) ∧ v = .slice A n c ∧ n ≤ j ∧ CW w bt (xs.foldl putR []) ((xs.take j).foldl putR []) A n c wr
/-- while the cursor goes: the tree and the rows lie where the cursor does not -/
structure CC (w : World) (bt bc : Nat) (at_ : ByteArray) (M : List Rw) (A : Option Addr) (n c : Nat) (wr : World) : Prop where
  bel : Below w.heap.size w wr
  ge : w.heap.size ≤ bc
  tree : Tree wr (fun i => i ≠ bt ∧ i ≠ bc) bt M
  ne : bt ≠ bc
  now : Rws wr (fun i => i ≠ bc) A M
  cur : Cur wr bc bt at_
  len : M.length = n
  cap : n ≤ c
  keys : ∀ r ∈ M, r.1.size < maxLen
section
variable {w wr w' : World} {bt bc : Nat} {k k' : ByteArray} {M : List Rw} {A : Option Addr} {n c : Nat}
theorem CC.next (h : CC w bt bc k M A n c wr) (b : Below wr.heap.size wr w') : CC w bt bc k M A n c w' :=
  ⟨h.bel.trans (b.mono h.bel.size), h.ge, h.tree.below b, h.ne, h.now.below b, Blk.below h.cur b (Blk.lt h.cur), h.len, h.cap, h.keys⟩
theorem CC.turn (h : CC w bt bc k M A n c wr) (hc : Cur w' bc bt k') (b : Keep (fun i _ => i ≠ bc) wr w') : CC w bt bc k' M A n c w' :=
  ⟨h.bel.trans (b.below h.bel.size fun i _ hi => by have := h.ge; omega), h.ge, h.tree.keep b h.ne (fun i hi => hi.2), h.ne, h.now.keep b, hc, h.len, h.cap, h.keys⟩
theorem CC.start {L : List Rw} (h : CW w bt L M A n c wr) (e : L = M) (hc : Cur w' wr.heap.size bt k) (b : Below wr.heap.size wr w') : CC w bt wr.heap.size k M A n c w' := by
  subst e
  have hlt := h.tree.lt
  exact ⟨h.bel.trans (b.mono h.bel.size), h.bel.size, (h.tree.more (K' := fun i => i ≠ bt ∧ i ≠ wr.heap.size) (fun i hi hk => ⟨hk, by omega⟩) (fun h => h.1 rfl)).below b, by omega,
    (h.now.more (K' := fun i => i ≠ wr.heap.size) (fun i hi _ => by omega)).below b, hc, h.len, h.cap, h.keys⟩
end
def CRelT (w : World) (bt bc : Nat) (M : List Rw) (A : Option Addr) (n c : Nat) (k : Nat) (i : Value) (wr : World) : Prop :=
  ∃ t k0, t + k = 2 ∧ i = .int .i64 (t : Int) ∧ (t = 0 → k0 = ⟨#[]⟩) ∧ CC w bt bc k0 M A n c wr
def CRelK (w : World) (bt bc : Nat) (M : List Rw) (A : Option Addr) (n c : Nat) (k : Nat) (i : Value) (wr : World) : Prop :=
  ∃ j k0, j + k = n + 1 ∧ i = .int .i64 (j : Int) ∧ (j ≤ n → fromR M k0 = M.drop j) ∧ CC w bt bc k0 M A n c wr
set_option maxHeartbeats 4000000 in
theorem cursorAll (A : Option Addr) (n c : Nat) (xs : List Rw) (key : ByteArray) (w : World) {K : Nat → Prop} (h : Rws w K A xs) (hl : xs.length = n) (hz : ∀ r ∈ xs, r.1.size < maxLen) :
    Calls Try.prog 6 #[.slice A n c, .string key] w fun e w' => e = .returned (.bool true) ∧ Below w.heap.size w w' := by
  have H := Lib.hid h
  have HL := Lib.hid hl
  have HZ := Lib.hid hz
  clear h hl hz
  by_cases hg1 : n ≤ 60
  · go_enter Try.func6, Try.ntmps6
    go_wp2_with fail
    refine (alive9_ _).mono ?_
    rintro e w1 ⟨rfl, hb1⟩
    have HB1 := Lib.hid hb1
    clear hb1
    go_wp2_with fail
    refine (new_tree (H.out.below HB1.out) HL.out (by omega)).mono ?_
    rintro e w2 ⟨rfl, ht2, hb2⟩
    have hP0 : CW w w1.heap.size (xs.foldl putR []) [] none 0 0 w2 := ⟨HB1.out.trans (hb2.mono HB1.out.size), HB1.out.size, ht2, Rws.nil _ _ _, rfl, Nat.le_refl _, fun r hr => by cases hr⟩
    have HP0 := Lib.hid hP0
    generalize w1.heap.size = bt at *
    clear ht2 hb2 hP0
    go_wp2_with fail
    go_loopg [7, 8] n (fun k v i wr => CRelA w bt xs k v i wr)
    case atStart => exact ⟨0, none, 0, 0, by have := HL.out; omega, rfl, rfl, Nat.le_refl _, HP0.out⟩
    case round =>
      obtain ⟨j, A3, n3, c3, hj, rfl, rfl, hle, hp⟩ := hrel
      have HJ := Lib.hid hj
      have HP := Lib.hid hp
      clear hj hp
      by_cases hlt : j < n
      · have hx : j < xs.length := by rw [HL.out]; exact hlt
        obtain ⟨b, o, rfl, hc1, hc2⟩ := (H.out.below HP.out.bel).at_ hx
        have hfs := fold_succ hx []
        have hpu := ref_put HP.out.now HP.out.len (by omega) HP.out.cap (fun r hr => Nat.le_of_lt (HP.out.keys r hr)) xs[j]
        rw [← hfs] at hpu
        have hln := fold_len (xs.take (j + 1)) []
        have hl3 : ((xs.take (j + 1)).foldl putR []).length ≤ j + 1 := by
          have := List.length_take (i := j + 1) (l := xs); simp at hln; omega
        have hks : ∀ r ∈ (xs.take (j + 1)).foldl putR [], r.1.size < maxLen := fun r hr => by
          rcases fold_sub hr with h | h
          · cases h
          · exact HZ.out r (List.mem_of_mem_take h)
        obtain ⟨k1, v1, e1⟩ : ∃ k v, xs[j] = (k, v) := ⟨_, _, rfl⟩
        rw [e1] at hpu hc1 hc2
        simp only at hpu hc1 hc2
        have HPU := Lib.hid hpu
        have HKS := Lib.hid hks
        have HL3 := Lib.hid hl3
        clear hpu hks hl3 hfs hln e1
        go_wp2_with fail
        refine HPU.out.mono ?_
        rintro e w4 ⟨_, rfl, A4, c4, rfl, hr4, h41, h42, h43, hb4⟩
        have hP4 := HP.out.put hb4 hr4 rfl h41 HKS.out
        have HP4 := Lib.hid hP4
        clear hr4 h43 hb4 hP4
        go_wp2_with fail
        go_roundg (n - (j + 1))
        case measure => have := HJ.out; have := HL.out; omega
        case rel => exact ⟨j + 1, A4, _, c4, by have := HL.out; omega, by go_num, rfl, HL3.out, HP4.out⟩
      · have he : j = n := by have := HJ.out; have := HL.out; omega
        subst he
        have hpn := HP.out
        rw [List.take_of_length_le (by rw [HL.out]; exact Nat.le_refl _)] at hpn
        have HPN := Lib.hid hpn
        generalize xs.foldl putR [] = M at *
        clear hpn HP HP0 H HJ
        go_wp2_with fail
        refine (cur_new _ _).mono ?_
        rintro e w5 ⟨rfl, hc5, hb5⟩
        have hC5 := CC.start HPN.out rfl hc5 hb5
        have HC5 := Lib.hid hC5
        generalize wr.heap.size = bc at *
        clear hc5 hb5 hC5
        go_wp2_with fail
        go_loopg [10] 2 (fun k i wr => CRelT w bt bc M A3 n3 c3 k i wr)
        case atStart => exact ⟨0, ⟨#[]⟩, rfl, rfl, fun _ => rfl, HC5.out⟩
        case round =>
          obtain ⟨t, k0, ht, rfl, hk0, hC⟩ := hrel
          have HC0 := Lib.hid hC
          clear hC
          by_cases h2 : t = 2
          · subst h2
            clear hk0
            go_wp2_with fail
            go_ret
            exact ⟨rfl, HC0.out.bel⟩
          · rcases (show t = 0 ∨ t = 1 by omega) with rfl | rfl
            · obtain rfl := hk0 rfl
              obtain rfl : gk = 2 := by omega
              clear hk0 h2 ht
              go_wp2_with fail
              go_loopg [11] (n3 + 1 - 0) (fun k i wr => CRelK w bt bc M A3 n3 c3 k i wr)
              case atStart => exact ⟨0, ⟨#[]⟩, by omega, rfl, fun _ => by rw [from_first]; rfl, HC0.out⟩
              case round =>
                obtain ⟨j, kk, hj, rfl, hfr, hC⟩ := hrel
                have HJ := Lib.hid hj
                have HC := Lib.hid hC
                clear hj hC
                by_cases hlt : j ≤ n3
                · by_cases hlt2 : j < n3
                  · have hx : j < M.length := by rw [HC.out.len]; exact hlt2
                    have hfc := from_cons hx (hfr hlt)
                    have hfn := from_next HC.out.tree.up hx
                    have hnx := cur_next HC.out.cur HC.out.tree HC.out.keys
                    rw [hfc] at hnx
                    have hat : ∀ W, CC w bt bc (nextK M[j].1) M A3 n3 c3 W → ∃ b o, A3 = some ⟨b, o, none⟩ ∧ W.cell? ⟨b, o + j * 2, none⟩ = some (.string M[j].1) ∧ W.cell? ⟨b, o + j * 2 + 1, none⟩ = some (.string M[j].2) := fun W hW => hW.now.at_ hx
                    obtain ⟨y1, y2, e1⟩ : ∃ y1 y2, M[j] = (y1, y2) := ⟨_, _, rfl⟩
                    rw [e1] at hnx hat hfn
                    dsimp only at hat hfn
                    have HNX := Lib.hid hnx
                    have HAT := Lib.hid hat
                    have HFN := Lib.hid hfn
                    clear hfc hfn hnx hfr hat e1
                    go_wp2_with fail
                    refine HNX.out.mono ?_
                    rintro e w9 ⟨hk9, rfl, hc9⟩
                    have hC9 := HC.out.turn hc9 hk9
                    have hal := alloc_below w9 (.cells #[.string y1, .string y2] 29)
                    have hbx := Blk.new w9 29 #[.string y1, .string y2]
                    have hC10 := hC9.next hal
                    have HC10 := Lib.hid hC10
                    have q0 := hbx.cell 0
                    have q1 := hbx.cell 1
                    simp only [List.getElem?_toArray, List.getElem?_cons_succ, List.getElem?_cons_zero] at q0 q1
                    obtain ⟨b, o, rfl, c1, c2⟩ := HAT.out _ hC10
                    clear hk9 hc9 hC9 hal hbx hC10
                    go_wp2_with fail
                    go_quiet (fail)
                    go_wp2_with fail
                    go_roundg (n3 + 1 - (j + 1))
                    case measure => have := HJ.out; omega
                    case rel => exact ⟨j + 1, nextK y1, by omega, by go_num, fun _ => HFN.out, HC10.out.next (by first | exact (Below.refl _ _).drew | exact below_drewN (Below.refl _ _) _ | exact Below.refl _ _)⟩
                  · have he : j = n3 := by omega
                    subst he
                    have hfc := from_none (by rw [HC.out.len]; exact Nat.le_refl _) (hfr hlt)
                    have hnx := cur_next HC.out.cur HC.out.tree HC.out.keys
                    rw [hfc] at hnx
                    have HNX := Lib.hid hnx
                    have HFC := Lib.hid hfc
                    clear hfc hnx hfr
                    go_wp2_with fail
                    refine HNX.out.mono ?_
                    rintro e w9 h9
                    obtain ⟨rfl, hb9⟩ := next_none HC.out.cur h9
                    have hC9 := HC.out.next hb9
                    have hal := alloc_below w9 (.cells #[.string ⟨#[]⟩, .string ⟨#[]⟩] 29)
                    have HC10 := Lib.hid (hC9.next hal)
                    clear h9 hb9 hC9 hal
                    go_wp2_with fail
                    go_quiet (fail)
                    go_wp2_with fail
                    go_roundg 0
                    case measure => have := HJ.out; omega
                    case rel => exact ⟨j + 1, kk, by omega, by go_num, fun h => by omega, HC10.out.next (by first | exact (Below.refl _ _).drew | exact below_drewN (Below.refl _ _) _ | exact Below.refl _ _)⟩
                · have hgt : ¬ ((j : Int) ≤ (n3 : Int)) := by omega
                  clear hfr
                  go_wp2_with fail
                  go_roundg 1
                  case measure => omega
                  case rel => exact ⟨1, kk, by omega, by go_num, fun h => by omega, HC.out⟩
            · obtain rfl : gk = 1 := by omega
              clear hk0 h2 ht
              go_wp2_with fail
              refine (cur_seek HC0.out.cur key).mono ?_
              rintro e w6 ⟨⟨_, rfl⟩, hc6, hk6⟩
              have HC6 := Lib.hid (HC0.out.turn hc6 hk6)
              clear hc6 hk6
              go_wp2_with fail
              refine (ref_find (c := c3) HC6.out.now HC6.out.len (by omega) (fun r hr => Nat.le_of_lt (HC6.out.keys r hr)) key).mono ?_
              rintro e w7 ⟨rfl, hb7⟩
              have HC7 := Lib.hid (HC6.out.next hb7)
              have hq : findR M key ≤ n3 := by have := findR_le M key; rw [HC7.out.len] at this; exact this
              have HF7 : Hid (fromR M key = M.drop (findR M key)) := rfl
              clear hb7
              generalize findR M key = q at *
              go_wp2_with fail
              go_loopg [11] (n3 + 1 - q) (fun k i wr => CRelK w bt bc M A3 n3 c3 k i wr)
              case atStart => exact ⟨q, key, by omega, rfl, fun _ => HF7.out, HC7.out⟩
              case round =>
                obtain ⟨j, kk, hj, rfl, hfr, hC⟩ := hrel
                have HJ := Lib.hid hj
                have HC := Lib.hid hC
                clear hj hC
                by_cases hlt : j ≤ n3
                · by_cases hlt2 : j < n3
                  · have hx : j < M.length := by rw [HC.out.len]; exact hlt2
                    have hfc := from_cons hx (hfr hlt)
                    have hfn := from_next HC.out.tree.up hx
                    have hnx := cur_next HC.out.cur HC.out.tree HC.out.keys
                    rw [hfc] at hnx
                    have hat : ∀ W, CC w bt bc (nextK M[j].1) M A3 n3 c3 W → ∃ b o, A3 = some ⟨b, o, none⟩ ∧ W.cell? ⟨b, o + j * 2, none⟩ = some (.string M[j].1) ∧ W.cell? ⟨b, o + j * 2 + 1, none⟩ = some (.string M[j].2) := fun W hW => hW.now.at_ hx
                    obtain ⟨y1, y2, e1⟩ : ∃ y1 y2, M[j] = (y1, y2) := ⟨_, _, rfl⟩
                    rw [e1] at hnx hat hfn
                    dsimp only at hat hfn
                    have HNX := Lib.hid hnx
                    have HAT := Lib.hid hat
                    have HFN := Lib.hid hfn
                    clear hfc hfn hnx hfr hat e1
                    go_wp2_with fail
                    refine HNX.out.mono ?_
                    rintro e w9 ⟨hk9, rfl, hc9⟩
                    have hC9 := HC.out.turn hc9 hk9
                    have hal := alloc_below w9 (.cells #[.string y1, .string y2] 29)
                    have hbx := Blk.new w9 29 #[.string y1, .string y2]
                    have hC10 := hC9.next hal
                    have HC10 := Lib.hid hC10
                    have q0 := hbx.cell 0
                    have q1 := hbx.cell 1
                    simp only [List.getElem?_toArray, List.getElem?_cons_succ, List.getElem?_cons_zero] at q0 q1
                    obtain ⟨b, o, rfl, c1, c2⟩ := HAT.out _ hC10
                    clear hk9 hc9 hC9 hal hbx hC10
                    go_wp2_with fail
                    go_quiet (fail)
                    go_wp2_with fail
                    go_roundg (n3 + 1 - (j + 1))
                    case measure => have := HJ.out; omega
                    case rel => exact ⟨j + 1, nextK y1, by omega, by go_num, fun _ => HFN.out, HC10.out.next (by first | exact (Below.refl _ _).drew | exact below_drewN (Below.refl _ _) _ | exact Below.refl _ _)⟩
                  · have he : j = n3 := by omega
                    subst he
                    have hfc := from_none (by rw [HC.out.len]; exact Nat.le_refl _) (hfr hlt)
                    have hnx := cur_next HC.out.cur HC.out.tree HC.out.keys
                    rw [hfc] at hnx
                    have HNX := Lib.hid hnx
                    have HFC := Lib.hid hfc
                    clear hfc hnx hfr
                    go_wp2_with fail
                    refine HNX.out.mono ?_
                    rintro e w9 h9
                    obtain ⟨rfl, hb9⟩ := next_none HC.out.cur h9
                    have hC9 := HC.out.next hb9
                    have hal := alloc_below w9 (.cells #[.string ⟨#[]⟩, .string ⟨#[]⟩] 29)
                    have HC10 := Lib.hid (hC9.next hal)
                    clear h9 hb9 hC9 hal
                    go_wp2_with fail
                    go_quiet (fail)
                    go_wp2_with fail
                    go_roundg 0
                    case measure => have := HJ.out; omega
                    case rel => exact ⟨j + 1, kk, by omega, by go_num, fun h => by omega, HC10.out.next (by first | exact (Below.refl _ _).drew | exact below_drewN (Below.refl _ _) _ | exact Below.refl _ _)⟩
                · have hgt : ¬ ((j : Int) ≤ (n3 : Int)) := by omega
                  clear hfr
                  go_wp2_with fail
                  go_roundg 0
                  case measure => omega
                  case rel => exact ⟨2, kk, by omega, by go_num, fun h => by omega, HC.out⟩
  · have hg2 : 60 < n := by omega
    go_enter Try.func6, Try.ntmps6
    go_wp2_with fail
    refine (alive9_ _).mono ?_
    rintro e w1 ⟨rfl, hb1⟩
    have HB1 := Lib.hid hb1
    clear hb1
    go_wp2_with fail
    go_ret
    exact ⟨rfl, HB1.out⟩
end Go.Proofs.Ytocaaebmelhhnaa
