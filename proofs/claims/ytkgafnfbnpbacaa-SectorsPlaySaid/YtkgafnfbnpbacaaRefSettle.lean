/- What settle of the document's own disk does; its Sync and its Crash. -/
import Derived.Test.YtkgafnfbnpbacaaRefWrite
import Derived.Deep.LoopGhost
namespace Go.Proofs.Ytkgafnfbnpbacaa
open Go.RowKit
theorem cellsL_get {ls : List (Nat × Value)} {j : Nat} {p : Nat × Value} (h : ls[j]? = some p) : (cellsL ls)[j * 2]? = some (.int .i64 (p.1 : Int)) ∧ (cellsL ls)[j * 2 + 1]? = some p.2 := by
  have hx : (ls.map cellL)[j]? = some (cellL p) := by simp [h]
  obtain ⟨e, hl, _, _⟩ := flat_split (c := 2) (ls := ls.map cellL) (fun x hx => by obtain ⟨y, _, rfl⟩ := List.mem_map.1 hx; rfl) hx
  rw [cellsL, e, List.append_assoc]
  refine ⟨?_, ?_⟩
  · rw [List.getElem?_append_right (by omega), hl, Nat.sub_self]; rfl
  · rw [List.getElem?_append_right (by omega), hl, Nat.add_sub_cancel_left]; rfl
def SetS (g bs ns cs bl nl cl j at_ : Nat) (Av : Option Addr) (cv : Nat) (w' : World) : Prop :=
  w'.cell? ⟨g, 0, none⟩ = some (.slice (some ⟨bs, 0, none⟩) ns cs) ∧ w'.cell? ⟨g, 1, none⟩ = some (.slice (some ⟨bl, 0, none⟩) nl cl) ∧ w'.cell? ⟨bl, j * 2, none⟩ = some (.int .i64 (at_ : Int)) ∧ w'.cell? ⟨bl, j * 2 + 1, none⟩ = some (.slice Av 64 cv)
theorem own_block {w : World} {e size n : Nat} {A : Option Addr} {c : Nat} {xs : List Value} (h : w.ownsRow 0 e size (.slice A n c) n xs) (hn : 0 < n) : ∃ b cur, A = some ⟨b, 0, none⟩ ∧ Blk w b e cur ∧ ∀ j u, xs[j]? = some u → w.cell? ⟨b, j, none⟩ = some u := by
  rcases h.2 with ⟨_, h0⟩ | ⟨g, cap, cur, hv, _, hg, _⟩
  · omega
  · injection hv with hv1 _ hv3
    refine ⟨g, cur, hv1, hg, fun j u hu => ?_⟩
    have := h.cells (g := g) (by rw [hv1]; rfl) j u hu
    rw [Addr.add_mid, Nat.zero_add] at this
    exact this
theorem settle_round {wr : World} {g : Nat} {O : Nat → Prop} {As Al : Option Addr} {ns cs nl cl : Nat} {rs : List Value} {ls : List (Nat × Value)} {t : List Sec} {s : St} (h : RefM wr g O (.slice As ns cs) (.slice Al nl cl) rs ls t s) (hns : rs.length = ns) (hnl : ls.length = nl) (htn : t.length = s.n) {j : Nat} {x : Wr} (hx : s.l[j]? = some x) :
    ∃ bs bl Av cv, As = some ⟨bs, 0, none⟩ ∧ Al = some ⟨bl, 0, none⟩ ∧ SetS g bs ns cs bl nl cl j x.1 Av cv wr.drew ∧ (∃ u, wr.cell? ⟨bs, x.1, none⟩ = some u) ∧ wr.frozen? ⟨bs, x.1, none⟩ = false ∧ x.1 < ns ∧
      RefM (wr.drew.setCell ⟨bs, x.1, none⟩ (.slice Av 64 cv)) g O (.slice As ns cs) (.slice Al nl cl) (rs.set x.1 (.slice Av 64 cv)) ls (t.set x.1 x.2) s ∧ Keep (Out O) wr (wr.drew.setCell ⟨bs, x.1, none⟩ (.slice Av 64 cv)) := by
  subst hns hnl
  have hj := (List.getElem?_eq_some_iff.1 hx).1
  have hjl : j < ls.length := by rw [h.ll]; exact hj
  have hx1 : x.1 < t.length := by rw [htn]; exact (h.ok.l x (List.mem_of_getElem? hx)).1
  have hxr : x.1 < rs.length := by rw [h.lr]; exact hx1
  obtain ⟨p, hp⟩ := at_of_lt ls j hjl
  obtain ⟨hp1, hp2⟩ := h.wrs j p x hp hx
  obtain ⟨bv, cv, hv, _, _, _, _, _⟩ := hp2.slice
  obtain ⟨bl, curl, rfl, hbl, hcl⟩ := own_block h.own_l (by omega)
  obtain ⟨bs, curs, rfl, hbs, hcs⟩ := own_block h.own_s (by omega)
  obtain ⟨u, hu⟩ := at_of_lt rs x.1 hxr
  have c1 := hcl _ _ (cellsL_get hp).1
  have c2 := hcl _ _ (cellsL_get hp).2
  rw [hv] at c2
  rw [hp1] at c1
  have hd : RefM wr.drew g O (.slice (some ⟨bs, 0, none⟩) rs.length cs) (.slice (some ⟨bl, 0, none⟩) ls.length cl) rs ls t s := h.keep (K := fun _ _ => True) ((Keep.refl wr).drew) fun _ _ _ => trivial
  have hbsd : Blk wr.drew bs 32 curs := hbs
  have k1 : Keep (fun i _ => i ≠ bs) wr.drew (wr.drew.setCell ⟨bs, x.1, none⟩ (.slice (some ⟨bv, 0, none⟩) 64 cv)) := (Keep.refl _).setCell (p := ⟨bs, x.1, none⟩) (fun _ _ hk => hk rfl) _
  have hsg : bs ≠ g := ne_of_types h.head hbs (by decide)
  refine ⟨bs, bl, some ⟨bv, 0, none⟩, cv, rfl, rfl, ⟨?_, ?_, c1, c2⟩, ⟨u, hcs _ _ hu⟩, hbs.frozen _, hxr, ⟨hd.head.keep k1 (fun e => hsg e.symm), ?_, ownsRow_keep hd.own_l k1 (fun i _ hi => own_ne' hd.own_l hbsd (by decide) i hi), by simp [h.lr], ?_, h.ll, fun i q y h1 h2 => ⟨(hd.wrs i q y h1 h2).1, (hd.wrs i q y h1 h2).2.keep_ne k1 hbsd⟩, h.og, h.os, h.ol, h.ok⟩, ?_⟩
  · have := hd.head.cell 0; simpa using this
  · have := hd.head.cell 1; simpa using this
  · have := own_set hd.own_s x.1 (.slice (some ⟨bv, 0, none⟩) 64 cv)
    rw [List.length_set]; exact this
  · intro i v y h1 h2
    rw [List.getElem?_set] at h1 h2
    by_cases e : x.1 = i
    · rw [if_pos e, if_pos (by omega)] at h1 h2
      simp at h1 h2
      subst h1 h2
      have := hd.wrs j p x hp hx
      rw [hv] at this
      exact this.2.keep_ne k1 hbsd
    · rw [if_neg e] at h1 h2
      exact (hd.rows i v y h1 h2).keep_ne k1 hbsd
  · exact ((Keep.refl wr).drew).setCell (p := ⟨bs, x.1, none⟩) (fun _ _ hK => hK (h.os bs rfl)) _
theorem settle_end {wr : World} {g : Nat} {O : Nat → Prop} {vs vl : Value} {rs : List Value} {ls : List (Nat × Value)} {s : St} {k : Nat → Bool} (h : RefM wr g O vs vl rs ls (settle k 0 s.sure s.l) s) :
    RefAt (wr.setCell ⟨g, 1, none⟩ (.slice none 0 0)) g O { s with sure := settle k 0 s.sure s.l, l := [] } ∧ Keep (Out O) wr (wr.setCell ⟨g, 1, none⟩ (.slice none 0 0)) := by
  have k1 : Keep (fun i _ => i ≠ g) wr (wr.setCell ⟨g, 1, none⟩ (.slice none 0 0)) := (Keep.refl _).setCell (p := ⟨g, 1, none⟩) (fun _ _ hk => hk rfl) _
  refine ⟨⟨vs, .slice none 0 0, rs, [], ⟨h.head.set_ 1 (.slice none 0 0), ownsRow_keep h.own_s k1 (fun i _ hi => own_ne' h.own_s h.head (by decide) i hi), World.ownsRow_nil _ _ _ _, h.lr, fun i v x h1 h2 => (h.rows i v x h1 h2).keep_ne k1 h.head, rfl, (fun i p x h1 => by simp at h1), h.og, h.os, (fun k hk => by cases hk), ⟨secs_settle k h.ok.sure h.ok.l, (fun x hx => by cases hx), ?_⟩⟩⟩, k1.mono fun i _ _ hi e => hi (e ▸ h.og)⟩
  show (settle k 0 s.sure s.l).length ≤ _
  rw [settle_length]; exact h.ok.many
def SetRel (w : World) (g : Nat) (O : Nat → Prop) (vs vl : Value) (ls : List (Nat × Value)) (s : St) (kf : Nat → Bool) (k : Nat) (i : Value) (wr : World) : Prop :=
  ∃ j, j + k = s.l.length ∧ i = .int .i64 (j : Int) ∧ (∃ rs, RefM wr g O vs vl rs ls (settle kf 0 s.sure (s.l.take j)) s) ∧ Keep (Out O) w wr
def SetP (w : World) (g : Nat) (O : Nat → Prop) (s : St) (kf : Nat → Bool) (e : Ending) (w' : World) : Prop :=
  e = .returned (.tuple #[]) ∧ RefAt w' g O { s with sure := settle kf 0 s.sure s.l, l := [] } ∧ Keep (Out O) w w'
set_option maxRecDepth 100000 in
set_option maxHeartbeats 2000000 in
theorem settle_ {w : World} {g : Nat} {O : Nat → Prop} {s : St} (h : RefAt w g O s) (A : Option Addr) (n c : Nat) (ks : List Bool) (all : Bool) (hks : Bools w (fun i => ¬ O i) A n ks) (hn : n ≤ 9223372036854775807) :
    Calls Try.prog 28 #[ptr g, .slice A n c, .bool all] w (SetP w g O s (fun i => all || stays ks i)) := by
  obtain ⟨vs, vl, rs, ls, h⟩ := h
  obtain ⟨Al, cl, rfl, hcl1, hcl2⟩ := own_slice h.own_l
  obtain ⟨As, cs, rfl, hcs1, hcs2⟩ := own_slice h.own_s
  have hrn : rs.length = s.n := h.lr
  have hll := h.ll
  rw [hrn] at h hcs1
  rw [hll] at h hcl1
  have hn4 : s.n ≤ 4096 := h.ok.many
  have HOK := Lib.hid h.ok
  have HM := Lib.hid h
  have HKS := Lib.hid hks
  have HLL := Lib.hid hll
  unfold maxLen at hcl2 hcs2
  clear h hks hrn hll
  go_enter Try.func28, Try.ntmps28
  go_wp2
  go_loopg [6] s.l.length (fun k i wr => SetRel w g O (.slice As s.n cs) (.slice Al s.l.length cl) ls s (fun i => all || stays ks i) k i wr)
  case atStart => exact ⟨0, by omega, rfl, ⟨rs, by rw [List.take_zero]; exact HM.out⟩, Keep.refl w⟩
  case round =>
    obtain ⟨j, hj, rfl, ⟨rs1, hM⟩, hK⟩ := hrel
    have HJ := Lib.hid hj
    have HM1 := Lib.hid hM
    have HK := Lib.hid hK
    have e1 := hM.head.cell 1
    have g1 := hM.head.frozen 1
    simp at e1
    clear hj hK
    by_cases hlt : j < s.l.length
    · obtain ⟨x, hx⟩ := at_of_lt s.l j hlt
      have hts := settle_snoc (fun i => all || stays ks i) (s.l.take j) 0 s.sure x
      rw [← take_snoc' s.l j x hx, Nat.zero_add, List.length_take, Nat.min_eq_left (by omega)] at hts
      have hrn1 : rs1.length = s.n := by rw [hM.lr, settle_length]; rfl
      obtain ⟨bs, bl, Av, cv, rfl, rfl, hS, ⟨u, hu⟩, hfu, hxn, hM2, hK2⟩ := settle_round hM hrn1 HLL.out (by rw [settle_length]; rfl) hx
      have HTS := Lib.hid hts
      have HS := Lib.hid hS
      have HM2 := Lib.hid hM2
      have HK2 := Lib.hid hK2
      have HBK := Lib.hid (HKS.out.keep HK.out)
      clear hts hS hM2 hK2 hM hx hrn1
      cases all
      · by_cases hjn : j < n
        · obtain ⟨kb, ko, rfl, _, _, hkc⟩ := HBK.out.2 (by omega)
          obtain ⟨y, hy⟩ := at_of_lt ks j (by have := HBK.out.1; omega)
          have hcell := hkc j y hy
          have hst0 : stays ks j = y := by
            unfold stays
            rw [List.getD_eq_getElem?_getD, hy]; rfl
          have HF := Lib.hid hst0
          clear hst0 hy hkc
          cases y
          · go_wp2
            go_roundg (s.l.length - (j + 1))
            case measure => have := HJ.out; omega
            case rel => exact ⟨j + 1, by omega, by go_num, ⟨rs1, by rw [HTS.out, HF.out]; exact HM1.out⟩, HK.out⟩
          · go_wp2
            refine wp_region_noPanic ?_
            refine wp_region_K (k := 21) (S := SetS g bs s.n cs bl s.l.length cl j x.1 Av cv) (by kernel_rfl) ?_
            refine wpAnyK_takeW (i := 0) (oi := { dst := some 29, op := Op.move (Operand.tmp 0), type := 26, pos := "disk.go:204", after := #[], guard := none }) (v := ptr g) rfl (by kernel_rfl) (by kernel_rfl) (by kernel_rfl) (fun _ _ _ h => h) (by decide) HS.out (by rfl) ?_ ?_
            · intro W; go_simp
            try simp only [Act.put, List.setIfInBounds_toArray, List.set_cons_zero, List.set_cons_succ]
            refine wpAnyK_takeW (i := 1) (oi := { dst := some 30, op := Op.nilCheck (Operand.tmp 29), type := 0, pos := "disk.go:204", after := #[{ on := 0, ground := Ground.data }], guard := none }) (v := ptr g) rfl (by kernel_rfl) (by kernel_rfl) (by kernel_rfl) (fun _ _ _ h => h) (by decide) HS.out (by rfl) ?_ ?_
            · intro W; go_simp
            try simp only [Act.put, List.setIfInBounds_toArray, List.set_cons_zero, List.set_cons_succ]
            refine wpAnyK_takeW (i := 2) (oi := { dst := some 31, op := Op.fieldAddr 40 (Operand.tmp 30) 0, type := 0, pos := "disk.go:204", after := #[{ on := 1, ground := Ground.data }], guard := none }) (v := .pointer (some ⟨g, 0, none⟩)) rfl (by kernel_rfl) (by kernel_rfl) (by kernel_rfl) (fun _ _ _ h => h) (by decide) HS.out (by rfl) ?_ ?_
            · intro W; go_simp
            try simp only [Act.put, List.setIfInBounds_toArray, List.set_cons_zero, List.set_cons_succ]
            refine wpAnyK_take (i := 3) (oi := { dst := some 32, op := Op.load 37 (Operand.tmp 31), type := 37, pos := "disk.go:204", after := #[{ on := 2, ground := Ground.data }], guard := none }) (v := .slice (some ⟨bs, 0, none⟩) s.n cs) rfl (by kernel_rfl) (by kernel_rfl) (by kernel_rfl) (by kernel_rfl) (by kernel_rfl) (fun _ _ _ h => h) (by decide) HS.out (by rfl) ?_ ?_
            · intro W hSw; obtain ⟨q0, q1, q2, q3⟩ := hSw; go_simp
            try simp only [Act.put, List.setIfInBounds_toArray, List.set_cons_zero, List.set_cons_succ]
            refine wpAnyK_takeW (i := 4) (oi := { dst := some 33, op := Op.move (Operand.tmp 0), type := 26, pos := "disk.go:204", after := #[], guard := none }) (v := ptr g) rfl (by kernel_rfl) (by kernel_rfl) (by kernel_rfl) (fun _ _ _ h => h) (by decide) HS.out (by rfl) ?_ ?_
            · intro W; go_simp
            try simp only [Act.put, List.setIfInBounds_toArray, List.set_cons_zero, List.set_cons_succ]
            refine wpAnyK_takeW (i := 5) (oi := { dst := some 34, op := Op.nilCheck (Operand.tmp 33), type := 0, pos := "disk.go:204", after := #[{ on := 4, ground := Ground.data }], guard := none }) (v := ptr g) rfl (by kernel_rfl) (by kernel_rfl) (by kernel_rfl) (fun _ _ _ h => h) (by decide) HS.out (by rfl) ?_ ?_
            · intro W; go_simp
            try simp only [Act.put, List.setIfInBounds_toArray, List.set_cons_zero, List.set_cons_succ]
            refine wpAnyK_takeW (i := 6) (oi := { dst := some 35, op := Op.fieldAddr 40 (Operand.tmp 34) 1, type := 0, pos := "disk.go:204", after := #[{ on := 5, ground := Ground.data }], guard := none }) (v := .pointer (some ⟨g, 1, none⟩)) rfl (by kernel_rfl) (by kernel_rfl) (by kernel_rfl) (fun _ _ _ h => h) (by decide) HS.out (by rfl) ?_ ?_
            · intro W; go_simp
            try simp only [Act.put, List.setIfInBounds_toArray, List.set_cons_zero, List.set_cons_succ]
            refine wpAnyK_take (i := 7) (oi := { dst := some 36, op := Op.load 38 (Operand.tmp 35), type := 38, pos := "disk.go:204", after := #[{ on := 6, ground := Ground.data }], guard := none }) (v := .slice (some ⟨bl, 0, none⟩) s.l.length cl) rfl (by kernel_rfl) (by kernel_rfl) (by kernel_rfl) (by kernel_rfl) (by kernel_rfl) (fun _ _ _ h => h) (by decide) HS.out (by rfl) ?_ ?_
            · intro W hSw; obtain ⟨q0, q1, q2, q3⟩ := hSw; go_simp
            try simp only [Act.put, List.setIfInBounds_toArray, List.set_cons_zero, List.set_cons_succ]
            refine wpAnyK_takeW (i := 8) (oi := { dst := some 37, op := Op.move (Operand.tmp 6), type := 3, pos := "disk.go:204", after := #[], guard := none }) (v := .int .i64 (j : Int)) rfl (by kernel_rfl) (by kernel_rfl) (by kernel_rfl) (fun _ _ _ h => h) (by decide) HS.out (by rfl) ?_ ?_
            · intro W; go_simp
            try simp only [Act.put, List.setIfInBounds_toArray, List.set_cons_zero, List.set_cons_succ]
            refine wpAnyK_takeW (i := 9) (oi := { dst := some 38, op := Op.indexAddr 38 (Operand.tmp 36) (Operand.tmp 37), type := 0, pos := "disk.go:204", after := #[{ on := 7, ground := Ground.data }, { on := 8, ground := Ground.data }], guard := none }) (v := .pointer (some ⟨bl, j * 2, none⟩)) rfl (by kernel_rfl) (by kernel_rfl) (by kernel_rfl) (fun _ _ _ h => h) (by decide) HS.out (by rfl) ?_ ?_
            · intro W; go_simp
            try simp only [Act.put, List.setIfInBounds_toArray, List.set_cons_zero, List.set_cons_succ]
            refine wpAnyK_takeW (i := 10) (oi := { dst := some 39, op := Op.fieldAddr 58 (Operand.tmp 38) 0, type := 0, pos := "disk.go:204", after := #[{ on := 9, ground := Ground.data }], guard := none }) (v := .pointer (some ⟨bl, j * 2, none⟩)) rfl (by kernel_rfl) (by kernel_rfl) (by kernel_rfl) (fun _ _ _ h => h) (by decide) HS.out (by rfl) ?_ ?_
            · intro W; go_simp
            try simp only [Act.put, List.setIfInBounds_toArray, List.set_cons_zero, List.set_cons_succ]
            refine wpAnyK_take (i := 11) (oi := { dst := some 40, op := Op.load 3 (Operand.tmp 39), type := 3, pos := "disk.go:204", after := #[{ on := 10, ground := Ground.data }], guard := none }) (v := .int .i64 (x.1 : Int)) rfl (by kernel_rfl) (by kernel_rfl) (by kernel_rfl) (by kernel_rfl) (by kernel_rfl) (fun _ _ _ h => h) (by decide) HS.out (by rfl) ?_ ?_
            · intro W hSw; obtain ⟨q0, q1, q2, q3⟩ := hSw; go_simp
            try simp only [Act.put, List.setIfInBounds_toArray, List.set_cons_zero, List.set_cons_succ]
            refine wpAnyK_takeW (i := 12) (oi := { dst := some 41, op := Op.move (Operand.tmp 0), type := 26, pos := "disk.go:204", after := #[], guard := none }) (v := ptr g) rfl (by kernel_rfl) (by kernel_rfl) (by kernel_rfl) (fun _ _ _ h => h) (by decide) HS.out (by rfl) ?_ ?_
            · intro W; go_simp
            try simp only [Act.put, List.setIfInBounds_toArray, List.set_cons_zero, List.set_cons_succ]
            refine wpAnyK_takeW (i := 13) (oi := { dst := some 42, op := Op.nilCheck (Operand.tmp 41), type := 0, pos := "disk.go:204", after := #[{ on := 12, ground := Ground.data }], guard := none }) (v := ptr g) rfl (by kernel_rfl) (by kernel_rfl) (by kernel_rfl) (fun _ _ _ h => h) (by decide) HS.out (by rfl) ?_ ?_
            · intro W; go_simp
            try simp only [Act.put, List.setIfInBounds_toArray, List.set_cons_zero, List.set_cons_succ]
            refine wpAnyK_takeW (i := 14) (oi := { dst := some 43, op := Op.fieldAddr 40 (Operand.tmp 42) 1, type := 0, pos := "disk.go:204", after := #[{ on := 13, ground := Ground.data }], guard := none }) (v := .pointer (some ⟨g, 1, none⟩)) rfl (by kernel_rfl) (by kernel_rfl) (by kernel_rfl) (fun _ _ _ h => h) (by decide) HS.out (by rfl) ?_ ?_
            · intro W; go_simp
            try simp only [Act.put, List.setIfInBounds_toArray, List.set_cons_zero, List.set_cons_succ]
            refine wpAnyK_take (i := 15) (oi := { dst := some 44, op := Op.load 38 (Operand.tmp 43), type := 38, pos := "disk.go:204", after := #[{ on := 14, ground := Ground.data }], guard := none }) (v := .slice (some ⟨bl, 0, none⟩) s.l.length cl) rfl (by kernel_rfl) (by kernel_rfl) (by kernel_rfl) (by kernel_rfl) (by kernel_rfl) (fun _ _ _ h => h) (by decide) HS.out (by rfl) ?_ ?_
            · intro W hSw; obtain ⟨q0, q1, q2, q3⟩ := hSw; go_simp
            try simp only [Act.put, List.setIfInBounds_toArray, List.set_cons_zero, List.set_cons_succ]
            refine wpAnyK_takeW (i := 16) (oi := { dst := some 45, op := Op.move (Operand.tmp 6), type := 3, pos := "disk.go:204", after := #[], guard := none }) (v := .int .i64 (j : Int)) rfl (by kernel_rfl) (by kernel_rfl) (by kernel_rfl) (fun _ _ _ h => h) (by decide) HS.out (by rfl) ?_ ?_
            · intro W; go_simp
            try simp only [Act.put, List.setIfInBounds_toArray, List.set_cons_zero, List.set_cons_succ]
            refine wpAnyK_takeW (i := 17) (oi := { dst := some 46, op := Op.indexAddr 38 (Operand.tmp 44) (Operand.tmp 45), type := 0, pos := "disk.go:204", after := #[{ on := 15, ground := Ground.data }, { on := 16, ground := Ground.data }], guard := none }) (v := .pointer (some ⟨bl, j * 2, none⟩)) rfl (by kernel_rfl) (by kernel_rfl) (by kernel_rfl) (fun _ _ _ h => h) (by decide) HS.out (by rfl) ?_ ?_
            · intro W; go_simp
            try simp only [Act.put, List.setIfInBounds_toArray, List.set_cons_zero, List.set_cons_succ]
            refine wpAnyK_takeW (i := 18) (oi := { dst := some 47, op := Op.fieldAddr 58 (Operand.tmp 46) 1, type := 0, pos := "disk.go:204", after := #[{ on := 17, ground := Ground.data }], guard := none }) (v := .pointer (some ⟨bl, j * 2 + 1, none⟩)) rfl (by kernel_rfl) (by kernel_rfl) (by kernel_rfl) (fun _ _ _ h => h) (by decide) HS.out (by rfl) ?_ ?_
            · intro W; go_simp
            try simp only [Act.put, List.setIfInBounds_toArray, List.set_cons_zero, List.set_cons_succ]
            refine wpAnyK_take (i := 19) (oi := { dst := some 48, op := Op.load 32 (Operand.tmp 47), type := 32, pos := "disk.go:204", after := #[{ on := 18, ground := Ground.data }], guard := none }) (v := .slice Av 64 cv) rfl (by kernel_rfl) (by kernel_rfl) (by kernel_rfl) (by kernel_rfl) (by kernel_rfl) (fun _ _ _ h => h) (by decide) HS.out (by rfl) ?_ ?_
            · intro W hSw; obtain ⟨q0, q1, q2, q3⟩ := hSw; go_simp
            try simp only [Act.put, List.setIfInBounds_toArray, List.set_cons_zero, List.set_cons_succ]
            refine wpAnyK_one (i := 20) (o := { dst := some 49, op := Op.indexAddr 37 (Operand.tmp 32) (Operand.tmp 40), type := 0, pos := "disk.go:204", after := #[{ on := 3, ground := Ground.data }, { on := 11, ground := Ground.data }, { on := 0, ground := Ground.phase }, { on := 1, ground := Ground.phase }, { on := 2, ground := Ground.phase }, { on := 3, ground := Ground.phase }, { on := 4, ground := Ground.phase }, { on := 5, ground := Ground.phase }, { on := 6, ground := Ground.phase }, { on := 7, ground := Ground.phase }, { on := 8, ground := Ground.phase }, { on := 9, ground := Ground.phase }, { on := 10, ground := Ground.phase }, { on := 11, ground := Ground.phase }, { on := 12, ground := Ground.phase }, { on := 13, ground := Ground.phase }, { on := 14, ground := Ground.phase }, { on := 15, ground := Ground.phase }, { on := 16, ground := Ground.phase }, { on := 17, ground := Ground.phase }, { on := 18, ground := Ground.phase }, { on := 19, ground := Ground.phase }], guard := none }) (v := .pointer (some ⟨bs, x.1, none⟩)) (w' := wr.drew) (by kernel_rfl) rfl (by rfl) (by go_simp) (HS.out) ?_
            try simp only [Act.put, List.setIfInBounds_toArray, List.set_cons_zero, List.set_cons_succ]
            refine wpAnyK_store (i := 21) (o := { dst := none, op := Op.store 32 (Operand.tmp 49) (Operand.tmp 48), type := 0, pos := "disk.go:204", after := #[{ on := 20, ground := Ground.data }, { on := 19, ground := Ground.data }, { on := 0, ground := Ground.phase }, { on := 1, ground := Ground.phase }, { on := 2, ground := Ground.phase }, { on := 3, ground := Ground.phase }, { on := 4, ground := Ground.phase }, { on := 5, ground := Ground.phase }, { on := 6, ground := Ground.phase }, { on := 7, ground := Ground.phase }, { on := 8, ground := Ground.phase }, { on := 9, ground := Ground.phase }, { on := 10, ground := Ground.phase }, { on := 11, ground := Ground.phase }, { on := 12, ground := Ground.phase }, { on := 13, ground := Ground.phase }, { on := 14, ground := Ground.phase }, { on := 15, ground := Ground.phase }, { on := 16, ground := Ground.phase }, { on := 17, ground := Ground.phase }, { on := 18, ground := Ground.phase }, { on := 19, ground := Ground.phase }], guard := none }) (w' := wr.drew.setCell ⟨bs, x.1, none⟩ (.slice Av 64 cv)) (by kernel_rfl) rfl (by rfl) (by go_simp) (by kernel_rfl) ?_
            try simp only [Act.put]
            refine wpAnyK_done (by kernel_rfl) ?_ _
            refine NoPanic.normal ?_
            go_wp2
            go_roundg (s.l.length - (j + 1))
            case measure => have := HJ.out; omega
            case rel => exact ⟨j + 1, by omega, by go_num, ⟨_, by rw [HTS.out, HF.out]; exact HM2.out⟩, HK.out.trans HK2.out⟩
        · have hst0 : stays ks j = false := by
            unfold stays
            rw [List.getD_eq_getElem?_getD, List.getElem?_eq_none (by have := HBK.out.1; omega)]; rfl
          have HF := Lib.hid hst0
          clear hst0
          go_wp2
          go_roundg (s.l.length - (j + 1))
          case measure => have := HJ.out; omega
          case rel => exact ⟨j + 1, by omega, by go_num, ⟨rs1, by rw [HTS.out, HF.out]; exact HM1.out⟩, HK.out⟩
      · go_wp2
        refine wp_region_noPanic ?_
        refine wp_region_K (k := 21) (S := SetS g bs s.n cs bl s.l.length cl j x.1 Av cv) (by kernel_rfl) ?_
        refine wpAnyK_takeW (i := 0) (oi := { dst := some 29, op := Op.move (Operand.tmp 0), type := 26, pos := "disk.go:204", after := #[], guard := none }) (v := ptr g) rfl (by kernel_rfl) (by kernel_rfl) (by kernel_rfl) (fun _ _ _ h => h) (by decide) HS.out (by rfl) ?_ ?_
        · intro W; go_simp
        try simp only [Act.put, List.setIfInBounds_toArray, List.set_cons_zero, List.set_cons_succ]
        refine wpAnyK_takeW (i := 1) (oi := { dst := some 30, op := Op.nilCheck (Operand.tmp 29), type := 0, pos := "disk.go:204", after := #[{ on := 0, ground := Ground.data }], guard := none }) (v := ptr g) rfl (by kernel_rfl) (by kernel_rfl) (by kernel_rfl) (fun _ _ _ h => h) (by decide) HS.out (by rfl) ?_ ?_
        · intro W; go_simp
        try simp only [Act.put, List.setIfInBounds_toArray, List.set_cons_zero, List.set_cons_succ]
        refine wpAnyK_takeW (i := 2) (oi := { dst := some 31, op := Op.fieldAddr 40 (Operand.tmp 30) 0, type := 0, pos := "disk.go:204", after := #[{ on := 1, ground := Ground.data }], guard := none }) (v := .pointer (some ⟨g, 0, none⟩)) rfl (by kernel_rfl) (by kernel_rfl) (by kernel_rfl) (fun _ _ _ h => h) (by decide) HS.out (by rfl) ?_ ?_
        · intro W; go_simp
        try simp only [Act.put, List.setIfInBounds_toArray, List.set_cons_zero, List.set_cons_succ]
        refine wpAnyK_take (i := 3) (oi := { dst := some 32, op := Op.load 37 (Operand.tmp 31), type := 37, pos := "disk.go:204", after := #[{ on := 2, ground := Ground.data }], guard := none }) (v := .slice (some ⟨bs, 0, none⟩) s.n cs) rfl (by kernel_rfl) (by kernel_rfl) (by kernel_rfl) (by kernel_rfl) (by kernel_rfl) (fun _ _ _ h => h) (by decide) HS.out (by rfl) ?_ ?_
        · intro W hSw; obtain ⟨q0, q1, q2, q3⟩ := hSw; go_simp
        try simp only [Act.put, List.setIfInBounds_toArray, List.set_cons_zero, List.set_cons_succ]
        refine wpAnyK_takeW (i := 4) (oi := { dst := some 33, op := Op.move (Operand.tmp 0), type := 26, pos := "disk.go:204", after := #[], guard := none }) (v := ptr g) rfl (by kernel_rfl) (by kernel_rfl) (by kernel_rfl) (fun _ _ _ h => h) (by decide) HS.out (by rfl) ?_ ?_
        · intro W; go_simp
        try simp only [Act.put, List.setIfInBounds_toArray, List.set_cons_zero, List.set_cons_succ]
        refine wpAnyK_takeW (i := 5) (oi := { dst := some 34, op := Op.nilCheck (Operand.tmp 33), type := 0, pos := "disk.go:204", after := #[{ on := 4, ground := Ground.data }], guard := none }) (v := ptr g) rfl (by kernel_rfl) (by kernel_rfl) (by kernel_rfl) (fun _ _ _ h => h) (by decide) HS.out (by rfl) ?_ ?_
        · intro W; go_simp
        try simp only [Act.put, List.setIfInBounds_toArray, List.set_cons_zero, List.set_cons_succ]
        refine wpAnyK_takeW (i := 6) (oi := { dst := some 35, op := Op.fieldAddr 40 (Operand.tmp 34) 1, type := 0, pos := "disk.go:204", after := #[{ on := 5, ground := Ground.data }], guard := none }) (v := .pointer (some ⟨g, 1, none⟩)) rfl (by kernel_rfl) (by kernel_rfl) (by kernel_rfl) (fun _ _ _ h => h) (by decide) HS.out (by rfl) ?_ ?_
        · intro W; go_simp
        try simp only [Act.put, List.setIfInBounds_toArray, List.set_cons_zero, List.set_cons_succ]
        refine wpAnyK_take (i := 7) (oi := { dst := some 36, op := Op.load 38 (Operand.tmp 35), type := 38, pos := "disk.go:204", after := #[{ on := 6, ground := Ground.data }], guard := none }) (v := .slice (some ⟨bl, 0, none⟩) s.l.length cl) rfl (by kernel_rfl) (by kernel_rfl) (by kernel_rfl) (by kernel_rfl) (by kernel_rfl) (fun _ _ _ h => h) (by decide) HS.out (by rfl) ?_ ?_
        · intro W hSw; obtain ⟨q0, q1, q2, q3⟩ := hSw; go_simp
        try simp only [Act.put, List.setIfInBounds_toArray, List.set_cons_zero, List.set_cons_succ]
        refine wpAnyK_takeW (i := 8) (oi := { dst := some 37, op := Op.move (Operand.tmp 6), type := 3, pos := "disk.go:204", after := #[], guard := none }) (v := .int .i64 (j : Int)) rfl (by kernel_rfl) (by kernel_rfl) (by kernel_rfl) (fun _ _ _ h => h) (by decide) HS.out (by rfl) ?_ ?_
        · intro W; go_simp
        try simp only [Act.put, List.setIfInBounds_toArray, List.set_cons_zero, List.set_cons_succ]
        refine wpAnyK_takeW (i := 9) (oi := { dst := some 38, op := Op.indexAddr 38 (Operand.tmp 36) (Operand.tmp 37), type := 0, pos := "disk.go:204", after := #[{ on := 7, ground := Ground.data }, { on := 8, ground := Ground.data }], guard := none }) (v := .pointer (some ⟨bl, j * 2, none⟩)) rfl (by kernel_rfl) (by kernel_rfl) (by kernel_rfl) (fun _ _ _ h => h) (by decide) HS.out (by rfl) ?_ ?_
        · intro W; go_simp
        try simp only [Act.put, List.setIfInBounds_toArray, List.set_cons_zero, List.set_cons_succ]
        refine wpAnyK_takeW (i := 10) (oi := { dst := some 39, op := Op.fieldAddr 58 (Operand.tmp 38) 0, type := 0, pos := "disk.go:204", after := #[{ on := 9, ground := Ground.data }], guard := none }) (v := .pointer (some ⟨bl, j * 2, none⟩)) rfl (by kernel_rfl) (by kernel_rfl) (by kernel_rfl) (fun _ _ _ h => h) (by decide) HS.out (by rfl) ?_ ?_
        · intro W; go_simp
        try simp only [Act.put, List.setIfInBounds_toArray, List.set_cons_zero, List.set_cons_succ]
        refine wpAnyK_take (i := 11) (oi := { dst := some 40, op := Op.load 3 (Operand.tmp 39), type := 3, pos := "disk.go:204", after := #[{ on := 10, ground := Ground.data }], guard := none }) (v := .int .i64 (x.1 : Int)) rfl (by kernel_rfl) (by kernel_rfl) (by kernel_rfl) (by kernel_rfl) (by kernel_rfl) (fun _ _ _ h => h) (by decide) HS.out (by rfl) ?_ ?_
        · intro W hSw; obtain ⟨q0, q1, q2, q3⟩ := hSw; go_simp
        try simp only [Act.put, List.setIfInBounds_toArray, List.set_cons_zero, List.set_cons_succ]
        refine wpAnyK_takeW (i := 12) (oi := { dst := some 41, op := Op.move (Operand.tmp 0), type := 26, pos := "disk.go:204", after := #[], guard := none }) (v := ptr g) rfl (by kernel_rfl) (by kernel_rfl) (by kernel_rfl) (fun _ _ _ h => h) (by decide) HS.out (by rfl) ?_ ?_
        · intro W; go_simp
        try simp only [Act.put, List.setIfInBounds_toArray, List.set_cons_zero, List.set_cons_succ]
        refine wpAnyK_takeW (i := 13) (oi := { dst := some 42, op := Op.nilCheck (Operand.tmp 41), type := 0, pos := "disk.go:204", after := #[{ on := 12, ground := Ground.data }], guard := none }) (v := ptr g) rfl (by kernel_rfl) (by kernel_rfl) (by kernel_rfl) (fun _ _ _ h => h) (by decide) HS.out (by rfl) ?_ ?_
        · intro W; go_simp
        try simp only [Act.put, List.setIfInBounds_toArray, List.set_cons_zero, List.set_cons_succ]
        refine wpAnyK_takeW (i := 14) (oi := { dst := some 43, op := Op.fieldAddr 40 (Operand.tmp 42) 1, type := 0, pos := "disk.go:204", after := #[{ on := 13, ground := Ground.data }], guard := none }) (v := .pointer (some ⟨g, 1, none⟩)) rfl (by kernel_rfl) (by kernel_rfl) (by kernel_rfl) (fun _ _ _ h => h) (by decide) HS.out (by rfl) ?_ ?_
        · intro W; go_simp
        try simp only [Act.put, List.setIfInBounds_toArray, List.set_cons_zero, List.set_cons_succ]
        refine wpAnyK_take (i := 15) (oi := { dst := some 44, op := Op.load 38 (Operand.tmp 43), type := 38, pos := "disk.go:204", after := #[{ on := 14, ground := Ground.data }], guard := none }) (v := .slice (some ⟨bl, 0, none⟩) s.l.length cl) rfl (by kernel_rfl) (by kernel_rfl) (by kernel_rfl) (by kernel_rfl) (by kernel_rfl) (fun _ _ _ h => h) (by decide) HS.out (by rfl) ?_ ?_
        · intro W hSw; obtain ⟨q0, q1, q2, q3⟩ := hSw; go_simp
        try simp only [Act.put, List.setIfInBounds_toArray, List.set_cons_zero, List.set_cons_succ]
        refine wpAnyK_takeW (i := 16) (oi := { dst := some 45, op := Op.move (Operand.tmp 6), type := 3, pos := "disk.go:204", after := #[], guard := none }) (v := .int .i64 (j : Int)) rfl (by kernel_rfl) (by kernel_rfl) (by kernel_rfl) (fun _ _ _ h => h) (by decide) HS.out (by rfl) ?_ ?_
        · intro W; go_simp
        try simp only [Act.put, List.setIfInBounds_toArray, List.set_cons_zero, List.set_cons_succ]
        refine wpAnyK_takeW (i := 17) (oi := { dst := some 46, op := Op.indexAddr 38 (Operand.tmp 44) (Operand.tmp 45), type := 0, pos := "disk.go:204", after := #[{ on := 15, ground := Ground.data }, { on := 16, ground := Ground.data }], guard := none }) (v := .pointer (some ⟨bl, j * 2, none⟩)) rfl (by kernel_rfl) (by kernel_rfl) (by kernel_rfl) (fun _ _ _ h => h) (by decide) HS.out (by rfl) ?_ ?_
        · intro W; go_simp
        try simp only [Act.put, List.setIfInBounds_toArray, List.set_cons_zero, List.set_cons_succ]
        refine wpAnyK_takeW (i := 18) (oi := { dst := some 47, op := Op.fieldAddr 58 (Operand.tmp 46) 1, type := 0, pos := "disk.go:204", after := #[{ on := 17, ground := Ground.data }], guard := none }) (v := .pointer (some ⟨bl, j * 2 + 1, none⟩)) rfl (by kernel_rfl) (by kernel_rfl) (by kernel_rfl) (fun _ _ _ h => h) (by decide) HS.out (by rfl) ?_ ?_
        · intro W; go_simp
        try simp only [Act.put, List.setIfInBounds_toArray, List.set_cons_zero, List.set_cons_succ]
        refine wpAnyK_take (i := 19) (oi := { dst := some 48, op := Op.load 32 (Operand.tmp 47), type := 32, pos := "disk.go:204", after := #[{ on := 18, ground := Ground.data }], guard := none }) (v := .slice Av 64 cv) rfl (by kernel_rfl) (by kernel_rfl) (by kernel_rfl) (by kernel_rfl) (by kernel_rfl) (fun _ _ _ h => h) (by decide) HS.out (by rfl) ?_ ?_
        · intro W hSw; obtain ⟨q0, q1, q2, q3⟩ := hSw; go_simp
        try simp only [Act.put, List.setIfInBounds_toArray, List.set_cons_zero, List.set_cons_succ]
        refine wpAnyK_one (i := 20) (o := { dst := some 49, op := Op.indexAddr 37 (Operand.tmp 32) (Operand.tmp 40), type := 0, pos := "disk.go:204", after := #[{ on := 3, ground := Ground.data }, { on := 11, ground := Ground.data }, { on := 0, ground := Ground.phase }, { on := 1, ground := Ground.phase }, { on := 2, ground := Ground.phase }, { on := 3, ground := Ground.phase }, { on := 4, ground := Ground.phase }, { on := 5, ground := Ground.phase }, { on := 6, ground := Ground.phase }, { on := 7, ground := Ground.phase }, { on := 8, ground := Ground.phase }, { on := 9, ground := Ground.phase }, { on := 10, ground := Ground.phase }, { on := 11, ground := Ground.phase }, { on := 12, ground := Ground.phase }, { on := 13, ground := Ground.phase }, { on := 14, ground := Ground.phase }, { on := 15, ground := Ground.phase }, { on := 16, ground := Ground.phase }, { on := 17, ground := Ground.phase }, { on := 18, ground := Ground.phase }, { on := 19, ground := Ground.phase }], guard := none }) (v := .pointer (some ⟨bs, x.1, none⟩)) (w' := wr.drew) (by kernel_rfl) rfl (by rfl) (by go_simp) (HS.out) ?_
        try simp only [Act.put, List.setIfInBounds_toArray, List.set_cons_zero, List.set_cons_succ]
        refine wpAnyK_store (i := 21) (o := { dst := none, op := Op.store 32 (Operand.tmp 49) (Operand.tmp 48), type := 0, pos := "disk.go:204", after := #[{ on := 20, ground := Ground.data }, { on := 19, ground := Ground.data }, { on := 0, ground := Ground.phase }, { on := 1, ground := Ground.phase }, { on := 2, ground := Ground.phase }, { on := 3, ground := Ground.phase }, { on := 4, ground := Ground.phase }, { on := 5, ground := Ground.phase }, { on := 6, ground := Ground.phase }, { on := 7, ground := Ground.phase }, { on := 8, ground := Ground.phase }, { on := 9, ground := Ground.phase }, { on := 10, ground := Ground.phase }, { on := 11, ground := Ground.phase }, { on := 12, ground := Ground.phase }, { on := 13, ground := Ground.phase }, { on := 14, ground := Ground.phase }, { on := 15, ground := Ground.phase }, { on := 16, ground := Ground.phase }, { on := 17, ground := Ground.phase }, { on := 18, ground := Ground.phase }, { on := 19, ground := Ground.phase }], guard := none }) (w' := wr.drew.setCell ⟨bs, x.1, none⟩ (.slice Av 64 cv)) (by kernel_rfl) rfl (by rfl) (by go_simp) (by kernel_rfl) ?_
        try simp only [Act.put]
        refine wpAnyK_done (by kernel_rfl) ?_ _
        refine NoPanic.normal ?_
        go_wp2
        go_roundg (s.l.length - (j + 1))
        case measure => have := HJ.out; omega
        case rel => exact ⟨j + 1, by omega, by go_num, ⟨_, by rw [HTS.out]; exact HM2.out⟩, HK.out.trans HK2.out⟩
    · obtain rfl : j = s.l.length := by have := HJ.out; omega
      have hE := HM1.out
      rw [List.take_length] at hE
      have HE := Lib.hid (settle_end hE)
      clear hE hM hlt
      go_wp2
      go_end0
      exact ⟨rfl, HE.out.1, HK.out.trans HE.out.2⟩
def St.rcrash (s : St) (k : Nat → Bool) : St := { s with sure := settle k 0 s.sure s.l, l := [], ends := false }
section
variable {w : World} {g : Nat} {O : Nat → Prop} {s : St}
theorem rsync_no (h : RefAt w g O s) (hb : s.broken = true) : Calls Try.prog 14 #[ptr g] w fun e w' => e = .returned (.bool false) ∧ w = w' := by
  have H := Lib.hid h
  have HB := Lib.hid hb
  clear h hb
  go_enter Try.func14, Try.ntmps14
  go_wp2_with (go_at_call 27; refine (rbroken_is H.out HB.out).mono ?_; rintro e w' ⟨rfl, rfl⟩)
  go_ret
  exact ⟨rfl, rfl⟩
theorem rsync_ (h : RefAt w g O s) (hb : s.broken = false) : Calls Try.prog 14 #[ptr g] w fun e w' => e = .returned (.bool true) ∧ RefAt w' g O s.sync ∧ Keep (Out O) w w' := by
  have H := Lib.hid h
  have HB := Lib.hid hb
  clear h hb
  go_enter Try.func14, Try.ntmps14
  go_wp2_with fail
  refine (rbroken_is H.out HB.out).mono ?_
  rintro e w' ⟨rfl, rfl⟩
  go_wp2_with fail
  refine (settle_ H.out none 0 0 [] true (Bools.nil_ _ _ _) (by omega)).mono ?_
  rintro e w1 ⟨rfl, hr, hk⟩
  have e : (fun i => true || stays [] i) = (fun _ => true) := by funext i; simp
  rw [e, settle_all] at hr
  have HR := Lib.hid hr
  have HK := Lib.hid hk
  clear hr hk e
  go_wp2
  go_ret
  exact ⟨rfl, HR.out, HK.out⟩
theorem rcrash_ (h : RefAt w g O s) (A : Option Addr) (n c : Nat) (ks : List Bool) (hks : Bools w (fun i => ¬ O i) A n ks) (hn : n ≤ 9223372036854775807) :
    Calls Try.prog 16 #[ptr g, .slice A n c] w fun e w' => e = .returned (.tuple #[]) ∧ RefAt w' g O (s.rcrash (stays ks)) ∧ Keep (Out O) w w' := by
  have H := Lib.hid h
  have HKS := Lib.hid hks
  clear h hks
  go_enter Try.func16, Try.ntmps16
  go_wp2_with fail
  refine (settle_ H.out A n c ks false HKS.out hn).mono ?_
  rintro e w1 ⟨rfl, hr, hk⟩
  have e : (fun i => false || stays ks i) = stays ks := by funext i; simp
  rw [e] at hr
  obtain ⟨vs, vl, rs, ls, hm⟩ := hr
  have c3 := hm.head.cell 3
  have f3 := hm.head.frozen 3
  simp at c3
  have k1 : Keep (fun i _ => i ≠ g) w1 (w1.setCell ⟨g, 3, none⟩ (.bool false)) := (Keep.refl _).setCell (p := ⟨g, 3, none⟩) (fun _ _ hk => hk rfl) _
  have HR := Lib.hid (hm.set (s' := s.rcrash (stays ks)) k1 (hm.head.set_ 3 (.bool false)) rfl ⟨hm.ok.sure, hm.ok.l, hm.ok.many⟩)
  have HK := Lib.hid (hk.trans (k1.mono fun i _ _ hi e => hi (e ▸ hm.og)))
  clear hm hk k1 e
  go_wp2
  go_end0
  exact ⟨rfl, ⟨_, _, _, _, HR.out⟩, HK.out⟩
end
end Go.Proofs.Ytkgafnfbnpbacaa
