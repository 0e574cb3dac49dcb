/- . . . . . -/
import Derived.Test.YtjfoflbaoceemaaGreatJ35
import Derived.Test.YtjfoflbaoceemaaGreatJ36
import Derived.Test.YtjfoflbaoceemaaGreatJ32
set_option maxRecDepth 4000
namespace Go.Proofs.YtjfoflbaoceemaaGreat
theorem rises_upR : ∀ {l : List Rw}, risesR l = true → Up l
  | [], _ => List.Pairwise.nil
  | [_], _ => by simp [Up]
  | x :: y :: r, h => by
    rw [risesR, Bool.and_eq_true, decide_eq_true_eq] at h
    have ih := rises_upR h.2
    refine List.pairwise_cons.2 ⟨fun z hz => ?_, ih⟩
    rcases List.mem_cons.1 hz with rfl | hz
    · exact h.1
    · exact cmpS_lt_trans h.1 (ih.head z hz)
theorem upM_of {l : List Mg} (h : risesM l = true) : UpM l := by
  have hs : ∀ i (hi : i + 1 < l.length), cmpG l[i] l[i + 1] < 0 := fun i hi => by
    have hu := List.all_eq_true.1 h (i + 1) (List.mem_range.2 hi)
    unfold upM at hu
    rw [List.getElem?_eq_getElem hi] at hu
    simp only [Bool.and_eq_true, Bool.or_eq_true, beq_iff_eq, Nat.add_sub_cancel] at hu
    rcases hu.2 with h | h
    · omega
    · rw [List.getElem?_eq_getElem (show i < l.length by omega)] at h
      simpa using h
  have ht : ∀ (k i : Nat) (hi : i + k + 1 < l.length), cmpG l[i] l[i + k + 1] < 0 := fun k => by
    induction k with
    | zero => exact fun i hi => hs i hi
    | succ k ih => exact fun i hi => cmpG_trans (ih i (by omega)) (hs (i + k + 1) hi)
  refine List.pairwise_iff_getElem.2 fun i j hi hj hij => ?_
  obtain ⟨k, rfl⟩ : ∃ k, j = i + k + 1 := ⟨j - i - 1, by omega⟩
  exact ht k i hj
structure ObN (next : Int) (o : Ob) : Prop where
  name : nameB o.name = true
  kind : kindB o.kind o.limit = true
  table : o.kind = 1 → o.msgs = [] ∧ o.dead = []
  queue : o.kind = 2 → o.rows = []
  up : Up o.rows
  rows : ∀ r ∈ o.rows, rightR r = true
  upm : UpM o.msgs
  msgs : ∀ m ∈ o.msgs, m.right = true ∧ m.id < next
  dead : ∀ m ∈ o.dead, m.right = true ∧ m.id < next ∧ m.claimed = false
def idsO (o : Ob) : List Int := idsL o.msgs ++ idsL o.dead
def idsA (l : List Ob) : List Int := l.flatMap idsO
structure RightN (next : Int) (l : List Ob) : Prop where
  low : 1 ≤ next
  high : next ≤ 1099511627776
  len : l.length ≤ 20
  ok : ∀ o ∈ l, ObN next o
  names : l.Pairwise fun a b => cmpS a.name b.name < 0
  ids : (idsA l).Nodup
theorem ids_all (l : List Ob) : idsTo l l.length = idsA l := by unfold idsTo idsA idsO; rw [List.take_length]
theorem right_n {next : Int} {l : List Ob} (h : RightD next l) : RightN next l := by
  have hr := h.right
  have hn := all_nodup hr l.length (Nat.le_refl _)
  rw [ids_all] at hn
  refine ⟨h.low, h.high, h.len, fun o ho => ?_, List.pairwise_iff_getElem.2 fun i j hi hj hij => ?_, hn⟩
  · obtain ⟨i, hi, rfl⟩ := List.getElem_of_mem ho
    have d := h.ok i hi
    refine ⟨d.name, d.kind, fun hk => ?_, fun hk => List.eq_nil_of_length_eq_zero (d.queue hk), rises_upR d.rises, fun r hr => List.all_eq_true.1 d.rows r hr, upM_of (risesM_of d.up), fun m hm => ?_, fun m hm => ?_⟩
    · have := d.table hk
      exact ⟨List.eq_nil_of_length_eq_zero (by omega), List.eq_nil_of_length_eq_zero (by omega)⟩
    · obtain ⟨a, b, _⟩ := dmsg_of (List.all_eq_true.1 d.msgs m hm)
      exact ⟨a, b⟩
    · obtain ⟨a, b, c⟩ := dmsg_of (List.all_eq_true.1 d.dead m hm)
      exact ⟨a, b, by simpa using c⟩
  · obtain ⟨k, rfl⟩ : ∃ k, j = i + k + 1 := ⟨j - i - 1, by omega⟩
    exact names_lt h.names i k hj
theorem idsO_sub {l : List Ob} {o : Ob} (h : o ∈ l) : (idsO o).Sublist (idsA l) := by
  obtain ⟨a, b, rfl⟩ := List.append_of_mem h
  unfold idsA
  rw [List.flatMap_append, List.flatMap_cons]
  exact (List.sublist_append_left _ _).trans (List.sublist_append_right _ _)
theorem mem_ids {l : List Ob} {o : Ob} (h : o ∈ l) {x : Int} (hx : x ∈ idsO o) : x ∈ idsA l := List.mem_flatMap.2 ⟨o, h, hx⟩
theorem RightN.d {next : Int} {l : List Ob} (h : RightN next l) : RightD next l := by
  refine ⟨h.low, h.high, h.len, fun i hi => ?_, fun i hi => List.pairwise_iff_getElem.1 h.names i (i + 1) (by omega) hi (by omega)⟩
  have d := h.ok l[i] (List.getElem_mem hi)
  have hone : ∀ x ∈ idsO l[i], totalD l x = 1 := fun x hx => by
    unfold totalD
    rw [ids_all]
    exact count_one h.ids (mem_ids (List.getElem_mem hi) hx)
  have hnd : (idsO l[i]).Nodup := List.Sublist.nodup (idsO_sub (List.getElem_mem hi)) h.ids
  refine ⟨d.name, d.kind, fun hk => by obtain ⟨a, b⟩ := d.table hk; rw [a, b]; rfl, fun hk => by rw [d.queue hk]; rfl, up_rises d.up, risesD_of (rises_up d.upm (List.nodup_append.1 hnd).1), List.all_eq_true.2 fun m hm => ?_, List.all_eq_true.2 fun m hm => ?_, List.all_eq_true.2 d.rows, fun m hm => hone _ (List.mem_append_left _ (List.mem_map_of_mem hm)), fun m hm => hone _ (List.mem_append_right _ (List.mem_map_of_mem hm))⟩
  · obtain ⟨a, b⟩ := d.msgs m hm
    exact dmsg_right a b rfl
  · obtain ⟨a, b, c⟩ := d.dead m hm
    exact dmsg_right a b (by rw [c]; rfl)
theorem right_iff_n {next : Int} {l : List Ob} : rightS ⟨next, l⟩ = true ↔ RightN next l := ⟨fun h => right_n (right_of h), fun h => h.d.right⟩
theorem ObN.next {next n2 : Int} {o : Ob} (h : ObN next o) (hn : next ≤ n2) : ObN n2 o :=
  ⟨h.name, h.kind, h.table, h.queue, h.up, h.rows, h.upm, fun m hm => ⟨(h.msgs m hm).1, Int.lt_of_lt_of_le (h.msgs m hm).2 hn⟩, fun m hm => ⟨(h.dead m hm).1, Int.lt_of_lt_of_le (h.dead m hm).2.1 hn, (h.dead m hm).2.2⟩⟩
theorem RightN.set {next : Int} {l : List Ob} (h : RightN next l) {i : Nat} (hi : i < l.length) {o : Ob} (ho : ObN next o) (hn : o.name = l[i].name) (hd : (idsO o).Nodup) (hids : ∀ x ∈ idsO o, x ∈ idsO l[i] ∨ x ∉ idsA l) : RightN next (l.set i o) := by
  have e : l.set i o = l.take i ++ o :: l.drop (i + 1) := by rw [List.set_eq_take_append_cons_drop, if_pos hi]
  have el : l = l.take i ++ l[i] :: l.drop (i + 1) := by rw [← List.drop_eq_getElem_cons hi, List.take_append_drop]
  refine ⟨h.low, h.high, by rw [List.length_set]; exact h.len, fun x hx => ?_, ?_, ?_⟩
  · rcases List.mem_or_eq_of_mem_set hx with hx | rfl
    · exact h.ok x hx
    · exact ho
  · have hp := h.names
    rw [el] at hp
    rw [e]
    rw [List.pairwise_append, List.pairwise_cons] at hp ⊢
    obtain ⟨h1, ⟨h2, h3⟩, h4⟩ := hp
    refine ⟨h1, ⟨fun y hy => by rw [hn]; exact h2 y hy, h3⟩, fun x hx y hy => ?_⟩
    rcases List.mem_cons.1 hy with rfl | hy
    · rw [hn]; exact h4 x hx _ (List.mem_cons_self ..)
    · exact h4 x hx y (List.mem_cons_of_mem _ hy)
  · have hp := h.ids
    have hA : ∀ x, x ∈ idsA (l.take i) → x ∈ idsA l := fun x hx => by
      obtain ⟨p, hp, hx⟩ := List.mem_flatMap.1 hx
      exact mem_ids (List.mem_of_mem_take hp) hx
    have hB : ∀ x, x ∈ idsA (l.drop (i + 1)) → x ∈ idsA l := fun x hx => by
      obtain ⟨p, hp, hx⟩ := List.mem_flatMap.1 hx
      exact mem_ids (List.mem_of_mem_drop hp) hx
    rw [e]
    rw [el] at hp
    have ex : ∀ q : Ob, idsA (l.take i ++ q :: l.drop (i + 1)) = idsA (l.take i) ++ (idsO q ++ idsA (l.drop (i + 1))) := fun q => by simp [idsA]
    rw [ex, List.nodup_append, List.nodup_append] at hp ⊢
    obtain ⟨h1, ⟨h2, h3, h4⟩, h5⟩ := hp
    refine ⟨h1, ⟨hd, h3, fun a ha b hb e => ?_⟩, fun a ha b hb e => ?_⟩
    · subst e
      rcases hids a ha with h | h
      · exact h4 a h a hb rfl
      · exact h (hB a hb)
    · subst e
      rcases List.mem_append.1 hb with hb | hb
      · rcases hids a hb with h | h
        · exact h5 a ha a (List.mem_append_left _ h) rfl
        · exact h (hA a ha)
      · exact h5 a ha a (List.mem_append_right _ hb) rfl
theorem nodup_of_mem {l : List Ob} {o : Ob} (h : (idsA l).Nodup) (ho : o ∈ l) : (idsO o).Nodup := List.Sublist.nodup (idsO_sub ho) h
end Go.Proofs.YtjfoflbaoceemaaGreat
namespace Go.Proofs.YtjfoflbaoceemaaGreat
def keyM (m : Mg) : Int × Int := (m.pri, m.id)
theorem upM_key (l : List Mg) : UpM l ↔ (l.map keyM).Pairwise fun a b => cmpM a.1 a.2 b.1 b.2 < 0 := by
  unfold UpM
  rw [List.pairwise_map]
  exact Iff.rfl
theorem set_map {α β : Type} (f : α → β) {l : List α} {q : Nat} {x y : α} (hx : l[q]? = some x) (h : f y = f x) : (l.set q y).map f = l.map f := by
  rw [List.map_set, h]
  obtain ⟨hq, e⟩ := List.getElem?_eq_some_iff.1 hx
  apply List.ext_getElem (by simp)
  intro i h1 h2
  rw [List.getElem_set]
  split
  · rename_i e2; subst e2; simp [e]
  · rfl
theorem set_up {l : List Mg} {q : Nat} {x y : Mg} (h : UpM l) (hx : l[q]? = some x) (h1 : y.pri = x.pri) (h2 : y.id = x.id) : UpM (l.set q y) := by
  rw [upM_key, set_map keyM hx (by unfold keyM; rw [h1, h2]), ← upM_key]
  exact h
theorem set_ids {l : List Mg} {q : Nat} {x y : Mg} (hx : l[q]? = some x) (h2 : y.id = x.id) : idsL (l.set q y) = idsL l := set_map Mg.id hx h2
theorem hasM_iff {l : List Mg} {id : Int} : hasM l id = true ↔ id ∈ idsL l := by
  unfold hasM idsL isM
  rw [List.any_eq_true, List.mem_map]
  constructor
  · rintro ⟨m, hm, e⟩
    exact ⟨m, hm, by simpa using e⟩
  · rintro ⟨m, hm, e⟩
    exact ⟨m, hm, by simpa using e⟩
theorem hasS_iff {l : List Ob} {id : Int} : hasS l id = true ↔ id ∈ idsA l := by
  unfold hasS idsA
  rw [List.any_eq_true, List.mem_flatMap]
  have : ∀ o : Ob, (!(whereO o id == 0)) = true ↔ id ∈ idsO o := fun o => by
    unfold whereO idsO
    rw [List.mem_append, ← hasM_iff, ← hasM_iff]
    cases hasM o.msgs id <;> cases hasM o.dead id <;> simp
  constructor
  · rintro ⟨o, ho, e⟩
    exact ⟨o, ho, (this o).1 e⟩
  · rintro ⟨o, ho, e⟩
    exact ⟨o, ho, (this o).2 e⟩
theorem off_right {m : Mg} (h : m.right = true) (b : Bool) : ({ m with claimed := b } : Mg).right = true := h
theorem more_range {r : Int} (h : 0 ≤ r) (h2 : r ≤ 1000) : 0 ≤ more1 r ∧ more1 r ≤ 1000 := by unfold more1; split <;> omega
theorem tried_right {m : Mg} (h : m.right = true) : m.tried.right = true := by
  unfold Mg.right retryB at h ⊢
  simp only [Bool.and_eq_true, decide_eq_true_eq] at h ⊢
  obtain ⟨⟨⟨⟨h1, h2⟩, h3⟩, h4⟩, h5⟩ := h
  obtain ⟨a, b⟩ := more_range h3.1 h3.2
  exact ⟨⟨⟨⟨h1, h2⟩, a, b⟩, h4⟩, h5⟩
theorem msg_at {o : Ob} {id : Int} (h : hasM o.msgs id = true) : ∃ m, o.msgs[o.msgs.findIdx (isM id)]? = some m ∧ m ∈ o.msgs := by
  have hl : o.msgs.findIdx (isM id) < o.msgs.length := List.findIdx_lt_length.2 (by simpa [hasM, List.any_eq_true] using h)
  exact ⟨_, List.getElem?_eq_getElem hl, List.getElem_mem hl⟩
theorem ObN.turn {next : Int} {o : Ob} (h : ObN next o) (hk : o.kind = 2) {ms ds : List Mg} (hu : UpM ms) (hm : ∀ m ∈ ms, m.right = true ∧ m.id < next) (hd : ∀ m ∈ ds, m.right = true ∧ m.id < next ∧ m.claimed = false) : ObN next { o with msgs := ms, dead := ds } :=
  ⟨h.name, h.kind, fun h1 => absurd (hk.symm.trans h1) (by decide), h.queue, h.up, h.rows, hu, hm, hd⟩
theorem ObN.row {next : Int} {o : Ob} (h : ObN next o) (hk : o.kind = 1) {rs : List Rw} (hu : Up rs) (hr : ∀ r ∈ rs, rightR r = true) : ObN next { o with rows := rs } :=
  ⟨h.name, h.kind, h.table, fun h1 => absurd (hk.symm.trans h1) (by decide), hu, hr, h.upm, h.msgs, h.dead⟩
theorem good_of {e : Ef} (h : e.right = true) : e.good = true := by
  unfold Ef.right at h
  rw [Bool.and_eq_true] at h
  exact h.1
theorem kind_of {e : Ef} (h : e.right = true) : 1 ≤ e.kind ∧ e.kind ≤ 8 := by
  have g := good_of h
  unfold Ef.good at g
  by_cases h1 : e.kind = 1
  · omega
  · rw [if_neg h1] at g
    by_cases h2 : e.kind = 2
    · omega
    · rw [if_neg h2] at g
      by_cases h3 : e.kind = 3
      · omega
      · rw [if_neg h3] at g
        by_cases h4 : e.kind = 4
        · omega
        · rw [if_neg h4] at g
          by_cases h5 : e.kind = 5
          · omega
          · rw [if_neg h5] at g
            by_cases h6 : e.kind = 6
            · omega
            · rw [if_neg h6] at g
              by_cases h7 : e.kind = 7
              · omega
              · rw [if_neg h7] at g
                by_cases h8 : e.kind = 8
                · omega
                · rw [if_neg h8] at g
                  cases g
def WithN (next : Int) (l : List Ob) (o o' : Ob) : Prop := ObN next o' ∧ o'.name = o.name ∧ (idsO o').Nodup ∧ ∀ x ∈ idsO o', x ∈ idsO o ∨ x ∉ idsA l
section
variable {next : Int} {l : List Ob} {o : Ob} {e : Ef}
theorem WithN.row (h : ObN next o) (hd : (idsO o).Nodup) (hk : o.kind = 1) {rs : List Rw} (hu : Up rs) (hr : ∀ r ∈ rs, rightR r = true) : WithN next l o { o with rows := rs } :=
  ⟨h.row hk hu hr, rfl, hd, fun _ hx => .inl hx⟩
theorem WithN.same (h : ObN next o) (hd : (idsO o).Nodup) (hk : o.kind = 2) {ms : List Mg} (hu : UpM ms) (hm : ∀ m ∈ ms, m.right = true ∧ m.id < next) (hi : (idsL ms).Sublist (idsL o.msgs)) : WithN next l o { o with msgs := ms } :=
  ⟨h.turn hk hu hm h.dead, rfl, List.Sublist.nodup (List.Sublist.append hi (List.Sublist.refl _)) hd, fun _ hx => .inl ((List.Sublist.append hi (List.Sublist.refl (idsL o.dead))).mem hx)⟩
theorem with_put (h : ObN next o) (hd : (idsO o).Nodup) (hk : o.kind = 1) (he : e.right = true) (h2 : e.kind = 2) : WithN next l o { o with rows := putR o.rows (e.key, e.val) } := by
  have g := good_of he
  unfold Ef.good at g
  rw [if_neg (by omega), if_pos h2, Bool.and_eq_true] at g
  refine WithN.row h hd hk (h.up.put _) fun r hr => ?_
  rcases (mem_put h.up _ _).1 hr with rfl | ⟨hr, _⟩
  · exact rightR_of g.2
  · exact h.rows r hr
theorem with_del (h : ObN next o) (hd : (idsO o).Nodup) (hk : o.kind = 1) (k : ByteArray) : WithN next l o { o with rows := cutRw o.rows k } :=
  WithN.row h hd hk (h.up.cut _) fun r hr => h.rows r ((cut_sub o.rows k).mem hr)
theorem with_add (h : ObN next o) (hd : (idsO o).Nodup) (ho : o ∈ l) (hk : o.kind = 2) (he : e.right = true) (h4 : e.kind = 4) (hn : ¬ next ≤ e.msg.id) (hs : hasS l e.msg.id = false) : WithN next l o { o with msgs := addM o.msgs e.msg } := by
  have g := good_of he
  unfold Ef.good at g
  rw [if_neg (by omega), if_neg (by omega), if_neg (by omega), if_pos h4, Bool.and_eq_true] at g
  have hno : e.msg.id ∉ idsA l := fun hm => by rw [hasS_iff.2 hm] at hs; cases hs
  have hnO : e.msg.id ∉ idsO o := fun hm => hno (mem_ids ho hm)
  have hp : (idsO { o with msgs := addM o.msgs e.msg }).Perm (e.msg.id :: idsO o) := by
    unfold idsO idsL
    have := ((add_perm o.msgs e.msg).map (·.id)).append_right (o.dead.map (·.id))
    simpa using this
  refine ⟨h.turn hk (add_up h.upm fun x hx e2 => hnO (List.mem_append_left _ (e2 ▸ List.mem_map_of_mem hx))) (fun m hm => ?_) h.dead, rfl, ?_, fun x hx => ?_⟩
  · rcases mem_add.1 hm with rfl | hm
    · exact ⟨g.2, by omega⟩
    · exact h.msgs m hm
  · exact hp.nodup_iff.2 (List.nodup_cons.2 ⟨hnO, hd⟩)
  · rcases List.mem_cons.1 (hp.mem_iff.1 hx) with rfl | hx
    · exact .inr hno
    · exact .inl hx
theorem with_take (h : ObN next o) (hd : (idsO o).Nodup) (hk : o.kind = 2) (id : Int) : WithN next l o { o with msgs := cutM o.msgs id } := by
  have hs : (cutM o.msgs id).Sublist o.msgs := List.eraseIdx_sublist _ _
  exact WithN.same h hd hk (List.Pairwise.sublist hs h.upm) (fun m hm => h.msgs m (hs.mem hm)) (hs.map _)
theorem with_set (h : ObN next o) (hd : (idsO o).Nodup) (hk : o.kind = 2) {q : Nat} {m m2 : Mg} (hm : o.msgs[q]? = some m) (h1 : m2.pri = m.pri) (h2 : m2.id = m.id) (hr : m2.right = true) : WithN next l o { o with msgs := o.msgs.set q m2 } := by
  refine WithN.same h hd hk (set_up h.upm hm h1 h2) (fun x hx => ?_) (by rw [set_ids hm h2]; exact List.Sublist.refl _)
  rcases List.mem_or_eq_of_mem_set hx with hx | rfl
  · exact h.msgs x hx
  · exact ⟨hr, by rw [h2]; exact (h.msgs m (List.mem_of_getElem? hm)).2⟩
theorem with_dead (h : ObN next o) (hd : (idsO o).Nodup) (hk : o.kind = 2) {q : Nat} {m : Mg} (hm : o.msgs[q]? = some m) : WithN next l o { o with msgs := o.msgs.eraseIdx q, dead := o.dead ++ [m.tried] } := by
  have hin := List.mem_of_getElem? hm
  have hs : (o.msgs.eraseIdx q).Sublist o.msgs := List.eraseIdx_sublist _ _
  obtain ⟨hq, e⟩ := List.getElem?_eq_some_iff.1 hm
  have hp : (idsO { o with msgs := o.msgs.eraseIdx q, dead := o.dead ++ [m.tried] }).Perm (idsO o) := by
    unfold idsO idsL
    have h1 : o.msgs.Perm (m :: o.msgs.eraseIdx q) := by
      rw [← e, List.eraseIdx_eq_take_drop_succ]
      conv => lhs; rw [← List.take_append_drop q o.msgs, List.drop_eq_getElem_cons hq]
      exact List.perm_middle
    have h2 := (h1.map (·.id)).append_right (o.dead.map (·.id))
    refine List.Perm.trans ?_ h2.symm
    simp only [List.map_append, List.map_cons, List.map_nil]
    rw [← List.append_assoc]
    exact List.perm_append_comm.trans (by rfl)
  refine ⟨h.turn hk (List.Pairwise.sublist hs h.upm) (fun x hx => h.msgs x (hs.mem hx)) (fun x hx => ?_), rfl, hp.nodup_iff.2 hd, fun x hx => .inl (hp.mem_iff.1 hx)⟩
  rcases List.mem_append.1 hx with hx | hx
  · exact h.dead x hx
  · rw [List.mem_singleton] at hx
    subst hx
    exact ⟨tried_right (h.msgs m hin).1, (h.msgs m hin).2, rfl⟩
theorem with_claim (h : ObN next o) (hd : (idsO o).Nodup) (hk : o.kind = 2) {id : Int} (hc : hasM o.msgs id = true) (on : Bool) : WithN next l o { o with msgs := claimM o.msgs id on } := by
  obtain ⟨m, hm, hin⟩ := msg_at hc
  have e : claimM o.msgs id on = o.msgs.set (o.msgs.findIdx (isM id)) { m with claimed := on } := by
    unfold claimM
    apply List.ext_getElem?
    intro i
    rw [List.getElem?_modify, List.getElem?_set]
    split
    · rename_i e; subst e
      rw [hm, if_pos (List.getElem?_eq_some_iff.1 hm).1]; rfl
    · simp
  rw [e]
  exact with_set h hd hk hm rfl rfl (off_right (h.msgs m hin).1 on)
theorem with_free (h : ObN next o) (hd : (idsO o).Nodup) (hk : o.kind = 2) {id : Int} (hc : freeOk o id = true) (t : Bool) : WithN next l o (freeO o id t) := by
  obtain ⟨q, hq⟩ : ∃ q, o.msgs.findIdx (isM id) = q := ⟨_, rfl⟩
  have hc2 := hc
  unfold freeOk at hc2
  rw [hq] at hc2
  cases hm : o.msgs[q]? with
  | none => rw [hm] at hc2; cases hc2
  | some m =>
    rw [hm] at hc2
    have hin := List.mem_of_getElem? hm
    cases t
    · rw [(free_back hq hm hc2).2]
      exact with_set h hd hk hm rfl rfl (off_right (h.msgs m hin).1 false)
    · cases ht : triedB m.retry o.limit
      · rw [(free_stay hq hm hc2 ht).2]
        exact with_set h hd hk hm rfl rfl (tried_right (h.msgs m hin).1)
      · rw [(free_dead hq hm hc2 ht).2]
        exact with_dead h hd hk hm
end
theorem within_n {next : Int} {l : List Ob} {o : Ob} {e : Ef} (h : ObN next o) (hd : (idsO o).Nodup) (ho : o ∈ l) (he : e.right = true) (hk2 : 2 ≤ e.kind) (hk7 : e.kind ≤ 7) (hk : o.kind = kindE e.kind) (hz : (withinO next l o e).1 = 0) : WithN next l o (withinO next l o e).2 := by
  unfold withinO at hz ⊢
  by_cases h2 : e.kind = 2
  · rw [if_pos h2]
    exact with_put h hd (by rw [hk, h2]; rfl) he h2
  rw [if_neg h2] at hz ⊢
  by_cases h3 : e.kind = 3
  · rw [if_pos h3] at hz ⊢
    split
    · exact with_del h hd (by rw [hk, h3]; rfl) _
    · rename_i hf; rw [if_neg hf] at hz; cases hz
  rw [if_neg h3] at hz ⊢
  have hq : o.kind = 2 := by rw [hk]; unfold kindE; rw [if_neg h2, if_neg h3]
  by_cases h4 : e.kind = 4
  · rw [if_pos h4] at hz ⊢
    split
    · rename_i hf; rw [if_pos hf] at hz; cases hz
    · rename_i hf
      rw [if_neg hf] at hz
      split
      · rename_i hf2; rw [if_pos hf2] at hz; cases hz
      · rename_i hf2
        exact with_add h hd ho hq he h4 (fun x => hf (.inl x)) (by simpa using hf2)
  rw [if_neg h4] at hz ⊢
  by_cases h5 : e.kind = 5
  · rw [if_pos h5] at hz ⊢
    split
    · exact with_take h hd hq _
    · rename_i hf; rw [if_neg hf] at hz; cases hz
  rw [if_neg h5] at hz ⊢
  by_cases h6 : e.kind = 6
  · rw [if_pos h6] at hz ⊢
    split
    · rename_i hf
      rw [if_pos hf] at hz
      split
      · exact with_claim h hd hq hf true
      · rename_i hf2; rw [if_neg hf2] at hz; cases hz
    · rename_i hf; rw [if_neg hf] at hz; cases hz
  rw [if_neg h6] at hz ⊢
  by_cases h7 : e.kind = 7
  · rw [if_pos h7] at hz ⊢
    split
    · rename_i hf
      exact with_free h hd hq hf _
    · rename_i hf; rw [if_neg hf] at hz; cases hz
  omega
theorem make_n {next : Int} {l : List Ob} {e : Ef} (h : RightN next l) (he : e.right = true) (h1 : e.kind = 1) (hz : (makeO l e).1 = 0) : RightN next (makeO l e).2 := by
  have g := good_of he
  unfold Ef.good at g
  rw [if_pos h1, Bool.and_eq_true] at g
  unfold makeO at hz ⊢
  split
  · rename_i hf; rw [if_pos hf] at hz; cases hz
  rename_i hf
  rw [if_neg hf] at hz
  split
  · rename_i hf2; rw [if_pos hf2] at hz; cases hz
  rename_i hf2
  have hne : ∀ o ∈ l, cmpS o.name e.obj ≠ 0 := fun o ho h0 => hf (List.any_eq_true.2 ⟨o, ho, by
    have := (cmpS_eq o.name e.obj).1 h0
    unfold isN
    rw [this]
    simp⟩)
  have hlo : ∀ o ∈ l.take (spotO l e.obj), cmpS o.name e.obj < 0 := fun o ho => by
    obtain ⟨i, hi, rfl⟩ := List.getElem_of_mem ho
    rw [List.length_take] at hi
    have hi2 : i < l.findIdx fun o => decide (0 ≤ cmpS o.name e.obj) := by unfold spotO at hi; omega
    have := List.not_of_lt_findIdx hi2
    rw [List.getElem_take]
    simpa using this
  have hhi : ∀ o ∈ l.drop (spotO l e.obj), cmpS e.obj o.name < 0 := fun o ho => by
    have hlt : spotO l e.obj < l.length := by
      rcases Nat.lt_or_ge (spotO l e.obj) l.length with h | h
      · exact h
      · rw [List.drop_eq_nil_of_le h] at ho; cases ho
    have h0 : 0 ≤ cmpS l[spotO l e.obj].name e.obj := by
      exact of_decide_eq_true (List.findIdx_getElem (xs := l) (p := fun o : Ob => decide (0 ≤ cmpS o.name e.obj)) (w := hlt))
    have h0 : cmpS e.obj l[spotO l e.obj].name < 0 := by
      have := hne _ (List.getElem_mem hlt)
      have := cmpS_turn l[spotO l e.obj].name e.obj
      omega
    rw [List.drop_eq_getElem_cons hlt] at ho
    rcases List.mem_cons.1 ho with rfl | ho
    · exact h0
    · have hp := h.names
      rw [← List.take_append_drop (spotO l e.obj) l, List.pairwise_append, List.drop_eq_getElem_cons hlt, List.pairwise_cons] at hp
      exact cmpS_lt_trans h0 (hp.2.1.1 o ho)
  have hp := h.names
  have hi := h.ids
  rw [← List.take_append_drop (spotO l e.obj) l] at hp hi
  rw [List.pairwise_append] at hp
  refine ⟨h.low, h.high, ?_, fun o ho => ?_, ?_, ?_⟩
  · have := h.len
    rw [List.length_append, List.length_take, List.length_cons, List.length_drop]
    omega
  · rcases List.mem_append.1 ho with ho | ho
    · exact h.ok o (List.mem_of_mem_take ho)
    · rcases List.mem_cons.1 ho with rfl | ho
      · exact ⟨g.1, g.2, fun _ => ⟨rfl, rfl⟩, fun _ => rfl, List.Pairwise.nil, fun r hr => (by cases hr), List.Pairwise.nil, fun m hm => (by cases hm), fun m hm => (by cases hm)⟩
      · exact h.ok o (List.mem_of_mem_drop ho)
  · rw [List.pairwise_append, List.pairwise_cons]
    refine ⟨hp.1, ⟨hhi, hp.2.1⟩, fun a ha b hb => ?_⟩
    rcases List.mem_cons.1 hb with rfl | hb
    · exact hlo a ha
    · exact hp.2.2 a ha b hb
  · unfold idsA idsO at hi ⊢
    rw [List.flatMap_append] at hi ⊢
    simpa [idsL] using hi
theorem one_n {s : St} {e : Ef} (h : RightN s.next s.objs) (hz : (oneS s e).1 = 0) : RightN (oneS s e).2.next (oneS s e).2.objs := by
  unfold oneS at hz ⊢
  split
  · rename_i hf; rw [if_pos hf] at hz; cases hz
  rename_i hf
  have he : e.right = true := by simpa using hf
  have hk := kind_of he
  rw [if_neg hf] at hz
  split
  · rename_i h1
    rw [if_pos h1] at hz
    exact make_n h he h1 hz
  rename_i h1
  rw [if_neg h1] at hz
  split
  · rename_i h8
    rw [if_pos h8] at hz
    split
    · rename_i hf2; rw [if_pos hf2] at hz; cases hz
    · rename_i hn
      have g := good_of he
      unfold Ef.good at g
      rw [h8] at g
      have g : 1 ≤ e.n ∧ e.n ≤ 1099511627776 := by simpa [idB] using g
      exact ⟨g.1, g.2, h.len, fun o ho => (h.ok o ho).next (show s.next ≤ e.n by omega), h.names, h.ids⟩
  rename_i h8
  rw [if_neg h8] at hz
  generalize hi : s.objs.findIdx (isN e.obj) = i at hz ⊢
  cases ho : s.objs[i]? with
  | none => rw [ho] at hz; cases hz
  | some o =>
    rw [ho] at hz
    simp only at hz ⊢
    obtain ⟨hl, e2⟩ := List.getElem?_eq_some_iff.1 ho
    split
    · rename_i hkd
      rw [if_pos hkd] at hz
      have hin := List.mem_of_getElem? ho
      obtain ⟨a, b, c, d⟩ := within_n (h.ok o hin) (nodup_of_mem h.ids hin) hin he (by omega) (by omega) hkd hz
      exact h.set hl a (by rw [b, e2]) c (by rw [e2]; exact d)
    · rename_i hkd
      rw [if_neg hkd] at hz
      cases hz
theorem run_n : ∀ {l : List Ef} {s : St}, RightN s.next s.objs → (runS s l).1 = 0 → RightN (runS s l).2.next (runS s l).2.objs
  | [], _, h, _ => h
  | e :: l, s, h, hz => by
    rw [runS] at hz ⊢
    split
    · rename_i h0
      rw [if_pos h0] at hz
      exact run_n (one_n h h0) hz
    · rename_i h0
      rw [if_neg h0] at hz
      exact absurd hz h0
theorem apply_n {s : St} {l : List Ef} (hz : (applyS s l).1 = 0) : RightN s.next s.objs ∧ RightN (applyS s l).2.next (applyS s l).2.objs := by
  unfold applyS at hz ⊢
  split
  · rename_i h
    rw [if_pos h] at hz
    have hr : RightN s.next s.objs := right_iff_n.1 h
    exact ⟨hr, run_n hr hz⟩
  · rename_i h
    rw [if_neg h] at hz
    cases hz
theorem apply_run {s : St} {l : List Ef} (h : RightN s.next s.objs) : applyS s l = runS s l := by
  unfold applyS
  rw [if_pos (show rightS s = true from right_iff_n.2 h)]
theorem apply_nil {s : St} (h : RightN s.next s.objs) : applyS s [] = (0, s) := apply_run h
end Go.Proofs.YtjfoflbaoceemaaGreat
namespace Go.Proofs.YtjfoflbaoceemaaGreat
theorem freeE_right {n : ByteArray} {m : Mg} (h1 : nameB n = true) (h2 : idB m.id = true) : (freeE n m).right = true := by
  have e1 : (freeE n m).bare = freeE n m := by simp [Ef.bare, freeE]
  have e2 : (freeE n m).good = true := by simp [Ef.good, freeE, h1, h2]
  rw [Ef.right, e1, e2, same_self]; rfl
def endO (o : Ob) : Ob := partO o o.msgs.length
structure GoodF (l : List Ob) : Prop where
  names : ∀ i j (hi : i < l.length) (hj : j < l.length), i < j → (l[i].name.toList == l[j].name.toList) = false
  name : ∀ o ∈ l, nameB o.name = true
  ids : ∀ o ∈ l, ∀ m ∈ o.msgs, idB m.id = true
  kind : ∀ o ∈ l, o.msgs ≠ [] → o.kind = 2
  once : ∀ o ∈ l, (idsL o.msgs ++ idsL o.dead).Nodup
def stF (l : List Ob) (i q : Nat) (h : i < l.length) : List Ob := (l.take i).map endO ++ partO l[i] q :: l.drop (i + 1)
theorem stF_find {l : List Ob} (hg : GoodF l) {i q : Nat} (h : i < l.length) : (stF l i q h).findIdx (isN l[i].name) = i := by
  have hlen : ((l.take i).map endO).length = i := by simp; omega
  unfold stF
  have hlt : i < ((l.take i).map endO ++ partO l[i] q :: l.drop (i + 1)).length := by simp; omega
  rw [List.findIdx_eq hlt]
  constructor
  · rw [List.getElem_append_right (by omega)]
    simp only [hlen, Nat.sub_self, List.getElem_cons_zero, isN, partO]
    exact beq_self_eq_true _
  · intro j hj
    rw [List.getElem_append_left (by omega), List.getElem_map, List.getElem_take]
    exact hg.names j i (by omega) h hj
theorem stF_at {l : List Ob} {i q : Nat} (h : i < l.length) : (stF l i q h)[i]? = some (partO l[i] q) := by
  have hlen : ((l.take i).map endO).length = i := by simp; omega
  unfold stF
  rw [List.getElem?_append_right (by omega), hlen, Nat.sub_self]
  rfl
theorem stF_set {l : List Ob} {i q q' : Nat} (h : i < l.length) : (stF l i q h).set i (partO l[i] q') = stF l i q' h := by
  have hlen : ((l.take i).map endO).length = i := by simp; omega
  unfold stF
  rw [List.set_append, if_neg (by omega), hlen, Nat.sub_self]
  rfl
theorem one_free {l : List Ob} (hg : GoodF l) (next : Int) {i q : Nat} (h : i < l.length) (hq : q < l[i].msgs.length) (hc : l[i].msgs[q].claimed = true) :
    oneS ⟨next, stF l i q h⟩ (freeE l[i].name l[i].msgs[q]) = (0, ⟨next, stF l i (q + 1) h⟩) := by
  have ho := List.getElem_mem h
  have hr := freeE_right (hg.name _ ho) (hg.ids _ ho _ (List.getElem_mem hq))
  have hk : (partO l[i] q).kind = kindE (freeE l[i].name l[i].msgs[q]).kind := by
    show l[i].kind = 2
    exact hg.kind _ ho fun e => by rw [e] at hq; simp at hq
  have hn : (idsL l[i].msgs).Nodup := (List.nodup_append.1 (hg.once _ ho)).1
  obtain ⟨h1, h2⟩ := free_part hq hc hn
  have hf := stF_find hg (q := q) h
  have hw : withinO next (stF l i q h) (partO l[i] q) (freeE l[i].name l[i].msgs[q]) = (0, partO l[i] (q + 1)) := by
    have k7 : (freeE l[i].name l[i].msgs[q]).kind = 7 := rfl
    rw [withinO, if_neg (by rw [k7]; decide), if_neg (by rw [k7]; decide), if_neg (by rw [k7]; decide), if_neg (by rw [k7]; decide), if_neg (by rw [k7]; decide), if_pos k7]
    have e1 : (freeE l[i].name l[i].msgs[q]).n = l[i].msgs[q].id := rfl
    have e2 : (freeE l[i].name l[i].msgs[q]).tried = true := rfl
    rw [e1, e2, if_pos h1, h2]
  have k7 : (freeE l[i].name l[i].msgs[q]).kind = 7 := rfl
  have ko : (freeE l[i].name l[i].msgs[q]).obj = l[i].name := rfl
  rw [oneS, if_neg (by rw [hr]; decide), if_neg (by rw [k7]; decide), if_neg (by rw [k7]; decide)]
  simp only [ko, hf, stF_at h]
  rw [if_pos hk, hw, stF_set h]
theorem run_cons {s s' : St} {e : Ef} {l : List Ef} (h : oneS s e = (0, s')) : runS s (e :: l) = runS s' l := by
  rw [runS, h]; rfl
theorem run_obj {l : List Ob} (hg : GoodF l) (next : Int) {i : Nat} (h : i < l.length) (rest : List Ef) : ∀ (k q : Nat), q + k = l[i].msgs.length →
    runS ⟨next, stF l i q h⟩ (((l[i].msgs.drop q).filter (·.claimed)).map (freeE l[i].name) ++ rest) = runS ⟨next, stF l i l[i].msgs.length h⟩ rest
  | 0, q, hk => by
    have : q = l[i].msgs.length := by omega
    subst this
    simp
  | k + 1, q, hk => by
    have hq : q < l[i].msgs.length := by omega
    rw [List.drop_eq_getElem_cons hq, List.filter_cons]
    cases hc : l[i].msgs[q].claimed
    · have e : stF l i q h = stF l i (q + 1) h := by unfold stF; rw [part_idle hq hc]
      rw [e, if_neg (by simp)]
      exact run_obj hg next h rest k (q + 1) (by omega)
    · rw [if_pos rfl, List.map_cons, List.cons_append, run_cons (one_free hg next h hq hc)]
      exact run_obj hg next h rest k (q + 1) (by omega)
theorem stF_end {l : List Ob} {i : Nat} (h : i < l.length) : stF l i l[i].msgs.length h = (l.take (i + 1)).map endO ++ l.drop (i + 1) := by
  unfold stF
  rw [List.take_succ_eq_append_getElem h, List.map_append]
  simp [endO]
theorem run_from {l : List Ob} (hg : GoodF l) (next : Int) : ∀ (k i : Nat), i + k = l.length →
    runS ⟨next, (l.take i).map endO ++ l.drop i⟩ (claimsS (l.drop i)) = (0, ⟨next, l.map endO⟩)
  | 0, i, hk => by
    have : i = l.length := by omega
    subst this
    simp [claimsS, runS]
  | k + 1, i, hk => by
    have h : i < l.length := by omega
    have e1 : l.drop i = l[i] :: l.drop (i + 1) := List.drop_eq_getElem_cons h
    have e2 : (l.take i).map endO ++ l.drop i = stF l i 0 h := by rw [e1]; unfold stF; rw [part_zero]
    have e3 : claimsS (l.drop i) = ((l[i].msgs.drop 0).filter (·.claimed)).map (freeE l[i].name) ++ claimsS (l.drop (i + 1)) := by rw [e1]; rfl
    rw [e2, e3, run_obj hg next h _ l[i].msgs.length 0 (by omega), stF_end h]
    exact run_from hg next k (i + 1) (by omega)
theorem claims_run {l : List Ob} (hg : GoodF l) (next : Int) : runS ⟨next, l⟩ (claimsS l) = (0, ⟨next, l.map endO⟩) := by
  have := run_from hg next l.length 0 (by omega)
  simpa using this
end Go.Proofs.YtjfoflbaoceemaaGreat
namespace Go.Proofs.YtjfoflbaoceemaaGreat
theorem RightD.good {next : Int} {l : List Ob} (h : RightD next l) : GoodF l := by
  have hmem : ∀ o ∈ l, OkD next l o := fun o ho => by
    obtain ⟨i, hi, rfl⟩ := List.getElem_of_mem ho
    exact h.ok i hi
  refine ⟨fun i j hi hj hij => ?_, fun o ho => (hmem o ho).name, fun o ho m hm => id_of_right (dmsg_of (List.all_eq_true.1 (hmem o ho).msgs m hm)).1, fun o ho hne => ?_, fun o ho => ?_⟩
  · obtain ⟨k, rfl⟩ : ∃ k, j = i + k + 1 := ⟨j - i - 1, by omega⟩
    have hlt := names_lt h.names i k hj
    cases hb : (l[i].name.toList == l[i + k + 1].name.toList)
    · rfl
    · have := (cmpS_eq _ _).2 (beq_iff_eq.1 hb)
      omega
  · by_cases h1 : o.kind = 1
    · have := (hmem o ho).table h1
      exact absurd (List.length_eq_zero_iff.1 (by omega)) hne
    · exact kind_two (hmem o ho).kind h1
  · obtain ⟨i, hi, rfl⟩ := List.getElem_of_mem ho
    exact h.once hi
end Go.Proofs.YtjfoflbaoceemaaGreat
namespace Go.Proofs.YtjfoflbaoceemaaGreat
theorem end_msgs (o : Ob) : (endO o).msgs = o.msgs.filterMap (leftM o.limit) := by
  unfold endO partO
  simp
theorem end_dead (o : Ob) : (endO o).dead = o.dead ++ o.msgs.filterMap (goneM o.limit) := by
  unfold endO partO
  simp
end Go.Proofs.YtjfoflbaoceemaaGreat
