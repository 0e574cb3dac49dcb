/- The law on which bytes any items are, walked: the writing. -/
import Derived.Test.YtbpipjkfgijjcaaRefWrites
import Derived.Test.YtbpipjkfgijjcaaRead
import Derived.Deep.QuietTactic
import Derived.BigQuiet
import Derived.RegionTactic
import Derived.Deep.RegionHeld3
namespace Go.Proofs.Ytbpipjkfgijjcaa
open Go.RowKit
def encItem (x : It) : List UInt8 := if x.way = 0 then encInt x.n else if x.way = 1 then encText x.s.data.toList else if x.way = 2 then encFlag x.ok else []
def encUpto (it : Nat → It) : Nat → List UInt8
  | 0 => []
  | j + 1 => encUpto it j ++ encItem (it j)
def encRange (it : Nat → It) : Nat → Nat → List UInt8
  | _, 0 => []
  | j, n + 1 => encItem (it j) ++ encRange it (j + 1) n
theorem enc_join (it : Nat → It) : ∀ n j, encUpto it j ++ encRange it j n = encUpto it (j + n)
  | 0, j => by simp [encRange]
  | n + 1, j => by
    rw [encRange, ← List.append_assoc, show encUpto it j ++ encItem (it j) = encUpto it (j + 1) from rfl, enc_join it n (j + 1)]
    congr 1; omega
theorem encItem_len (x : It) (h : x.s.size ≤ 300) : (encItem x).length ≤ 302 := by
  unfold encItem
  split
  · rw [encInt_len]; omega
  · split
    · rw [encText_len, List.length_take]; simp; omega
    · split
      · rw [encFlag_len]; omega
      · simp
theorem encUpto_len (it : Nat → It) : ∀ j, (∀ i, i < j → (it i).s.size ≤ 300) → (encUpto it j).length ≤ j * 302
  | 0, _ => by simp [encUpto]
  | j + 1, h => by
    have h1 := encUpto_len it j (fun i hi => h i (by omega))
    have h2 := encItem_len (it j) (h j (by omega))
    simp only [encUpto, List.length_append]
    omega
theorem RefAt.keep {w w' : World} {N g : Nat} {bs : List UInt8} {K : Nat → Obj → Prop} (h : RefAt w N g bs) (k : Keep K w w') (hg : ∀ cs, K g (.cells cs 31 (0, 0))) (h5 : ∀ i cs, w.heap[i]? = some (.cells cs 5 (0, 0)) → K i (.cells cs 5 (0, 0))) :
    RefAt w' N g bs := by
  obtain ⟨v, hb, ho, hN⟩ := h
  refine ⟨v, hb.keep k (hg _), ⟨ho.1, ?_⟩, hN⟩
  rcases ho.2 with h | ⟨q, cap, cur, h1, h2, h3, h4⟩
  · exact .inl h
  · exact .inr ⟨q, cap, cur, h1, h2, k.block q _ h3 (h5 q _ h3), h4⟩
theorem ref_but {w w' : World} {N g g1 : Nat} {bs bs1 : List UInt8} (h : RefAt w N g bs) (hw : WriterAt w g1 bs1) (k : Keep (But g1) w w') (hne : g ≠ g1) : RefAt w' N g bs := by
  obtain ⟨l, q, hb, _⟩ := hw
  exact h.keep k (fun _ => hne) (fun i cs hi => ne_of_types hb hi (by decide))
theorem writer_rf {w w' : World} {N g1 : Nat} {bs : List UInt8} (hw : WriterAt w g1 bs) (k : Keep (Rf N) w w') : WriterAt w' g1 bs :=
  hw.keep k (fun cs => .inr ⟨cs, 27, rfl, by decide, by decide⟩) (fun i cs _ => .inr ⟨cs, 52, rfl, by decide, by decide⟩)
theorem Keep.rfLo {N : Nat} {w w' : World} (k : Keep (Rf N) w w') : Keep (Lo N) w w' := k.mono fun _ _ h => .inl h
/-- both writers hold the first j items' bytes -/
def WRel (N g1 g2 k : Nat) (it : Nat → It) (w : World) (i : Value) (wr : World) : Prop :=
  ∃ j : Nat, j ≤ k ∧ i = .int .i64 (j : Int) ∧ (∀ i, i < j → (it i).s.size ≤ 300) ∧ WriterAt wr g1 (encUpto it j) ∧ RefAt wr N g2 (encUpto it j) ∧ Keep (Lo N) w wr
theorem ref_new (w : World) (N : Nat) (hN : N ≤ w.heap.size) : RefAt (w.alloc (.cells #[.slice none 0 0] 31)) N w.heap.size [] :=
  ⟨.slice none 0 0, Blk.new w 31 _, ⟨rfl, .inl ⟨rfl, rfl⟩⟩, hN⟩
theorem rdText_s {w : World} {g B : Nat} {r r' : Rd} {s : ByteArray} (h : ReaderAt 55 w g B r) (e : r.text = (s.data.toList, r')) :
    Calls Try.prog 17 #[.pointer (some ⟨g, 0, none⟩)] w fun x w' => x = .returned (.string s) ∧ ReaderAt 55 w' g B r' ∧ Keep (But g) w w' :=
  (rdText_at h e).mono fun _ _ ⟨h1, h2, h3⟩ => ⟨by rw [h1], h2, h3⟩
theorem text_small (s : ByteArray) (y : List UInt8) (h : s.size ≤ 300) : (⟨encText s.data.toList ++ y, false⟩ : Rd).text = (s.data.toList, ⟨y, false⟩) := by
  rw [text_front, List.take_of_length_le (by simp; omega)]
theorem cell_but {W W' : World} {g b : Nat} (hk : Keep (But g) W W') (hb : b ≠ g) {o : Nat} {x : Value} (h : W.cell? ⟨b, o, none⟩ = some x) : W'.cell? ⟨b, o, none⟩ = some x := by
  have hlt : b < W.heap.size := by
    rcases Nat.lt_or_ge b W.heap.size with hlt | hge
    · exact hlt
    · simp [World.cell?, Array.getElem?_eq_none hge] at h
  have hh := hk.block b _ (Array.getElem?_eq_getElem hlt) hb
  rw [World.cell?_of_block (w := W) (a := ⟨b, o, none⟩) (by rw [hh, Array.getElem?_eq_getElem hlt])]
  exact h
theorem cells_but {W W' : World} {g b : Nat} (hb : b ≠ g) {o o' : Nat} {x x' : Value} (hk : Keep (But g) W W') (h : W.cell? ⟨b, o, none⟩ = some x ∧ W.cell? ⟨b, o', none⟩ = some x') :
    W'.cell? ⟨b, o, none⟩ = some x ∧ W'.cell? ⟨b, o', none⟩ = some x' := ⟨cell_but hk hb h.1, cell_but hk hb h.2⟩
/-- the reader has the bytes of the items from the j-th on -/
def DRel (N g k : Nat) (it : Nat → It) (w : World) (i : Value) (wr : World) : Prop :=
  ∃ j : Nat, j ≤ k ∧ i = .int .i64 (j : Int) ∧ ReaderAt 55 wr g g ⟨encRange it j (k - j), false⟩ ∧ Keep (Lo N) w wr
theorem enc_all (it : Nat → It) (k : Nat) : encRange it 0 (k - 0) = encUpto it k := by
  have := enc_join it k 0
  rw [Nat.zero_add] at this
  exact this
theorem enc_step (it : Nat → It) (j k : Nat) (h : j < k) : encRange it j (k - j) = encItem (it j) ++ encRange it (j + 1) (k - (j + 1)) := by
  rw [show k - j = (k - (j + 1)) + 1 by omega]; rfl
set_option maxRecDepth 100000 in
set_option maxHeartbeats 20000000 in
theorem bytesWrite (L : Option Addr) (k ck : Nat) (it : Nat → It) (w : World)
    (hl : ItemsAt w w.heap.size L k it) (hwf : ∀ i, i < k → (-9223372036854775808 ≤ (it i).n ∧ (it i).n ≤ 9223372036854775807 ∧ (it i).s.size ≤ maxLen)) (_hk : k ≤ ck) (_hck : ck ≤ maxLen) :
    Calls Try.prog 3 #[.slice L k ck] w fun e w' => e = .returned (.bool true) ∧ Below w.heap.size w w' := by
  unfold maxLen at _hck
  have HI := Lib.hid hl
  have HWF := Lib.hid hwf
  clear hl hwf
  by_cases h : 60 < k
  · go_enter Try.func3, Try.ntmps3
    go_wp2_with (go_at_call 7; refine (alive _).mono ?_; rintro e w' ⟨rfl, hb⟩)
    go_ret
    exact ⟨rfl, hb⟩
  · go_enter Try.func3, Try.ntmps3
    go_wp2_with fail
    refine (alive _).mono ?_
    rintro e w1 ⟨rfl, hb⟩
    have K1 := Lib.hid (Keep.of_below (K := Lo w.heap.size) hb)
    have hs1 : w.heap.size ≤ w1.heap.size := hb.size
    clear hb
    go_wp2_with fail
    have W2 := Lib.hid (writer_below (writer_new w1) (alloc_below _ (.cells #[.slice none 0 0] 31)))
    have V2 := Lib.hid (ref_new (w1.alloc (.cells #[.pointer none, .int .i64 0] 27)) w.heap.size (by simp; omega))
    have K2 := Lib.hid (K1.out.trans ((Keep.of_below (K := Lo w.heap.size) (alloc_below w1 (.cells #[.pointer none, .int .i64 0] 27))).trans (Keep.of_below (alloc_below _ (.cells #[.slice none 0 0] 31)))))
    clear K1
    go_loopw [6] (fun i wr => WRel w.heap.size w1.heap.size (w1.heap.size + 1) k it w i wr) (fun i _ => k - (intOf i).toNat)
    case atStart => exact ⟨0, Nat.zero_le _, rfl, fun i hi => absurd hi (by omega), W2.out, by have := V2.out; show RefAt _ _ _ []; simpa using this, K2.out⟩
    case round =>
      obtain ⟨j, hj, rfl, hss, hW, hV, hK⟩ := hrel
      have HSS := Lib.hid hss
      have HW := Lib.hid hW
      have HV := Lib.hid hV
      have HK := Lib.hid hK
      clear hss hW hV hK W2 V2 K2
      generalize w1.heap.size = g1 at *
      by_cases hlt : j < k
      · obtain ⟨b, o, rfl, hbN, e0, e1, e2, e3⟩ := HI.out j hlt
        rcases hx0 : it j with ⟨way, n, s, ok⟩
        rw [hx0] at e0 e1 e2 e3
        simp only at e0 e1 e2 e3
        have ei : ∀ W, Keep (Lo w.heap.size) w W → W.cell? ⟨b, o + j * 4, none⟩ = some (.int .i64 way) ∧ W.cell? ⟨b, o + j * 4 + 1, none⟩ = some (.int .i64 n) ∧ W.cell? ⟨b, o + j * 4 + 2, none⟩ = some (.string s) ∧ W.cell? ⟨b, o + j * 4 + 3, none⟩ = some (.bool ok) := fun W hW =>
          ⟨(hW.end.cell (p := ⟨b, o + j * 4, none⟩) hbN).trans e0, (hW.end.cell (p := ⟨b, o + j * 4 + 1, none⟩) hbN).trans e1, (hW.end.cell (p := ⟨b, o + j * 4 + 2, none⟩) hbN).trans e2, (hW.end.cell (p := ⟨b, o + j * 4 + 3, none⟩) hbN).trans e3⟩
        have EI := Lib.hid ei
        have hsm : s.size ≤ 9223372036854775807 := by have := (HWF.out j hlt).2.2; rw [hx0] at this; unfold maxLen at this; exact this
        have hx := Lib.hid hx0
        clear ei e0 e1 e2 e3 hx0
        obtain ⟨d0, d1, d2, d3⟩ := EI.out wr HK.out
        by_cases hS : 300 < s.size
        · go_wp2
          go_ret
          exact ⟨rfl, HK.out.end⟩
        · have hss1 : ∀ i, i < j + 1 → (it i).s.size ≤ 300 := fun i hi => by
            by_cases he : i = j
            · subst he; rw [hx.out]; show s.size ≤ 300; omega
            · exact HSS.out i (by omega)
          have HSS1 := Lib.hid hss1
          have hlen : (encUpto it j).length ≤ 20000 := by have := encUpto_len it j HSS.out; omega
          clear hss1
          by_cases hw0 : way = 0
          · subst hw0
            go_wp2_with fail
            refine (wInt wr g1 _ n HW.out (by omega)).mono ?_
            rintro e wa ⟨rfl, hwa, hka⟩
            have HWa := Lib.hid hwa
            have HVa := Lib.hid (ref_but HV.out HW.out hka (by omega))
            have HKa := Lib.hid (HK.out.trans (hka.lo hs1))
            clear hwa hka HW HV HK d0 d1 d2 d3
            obtain ⟨d0, d1, d2, d3⟩ := EI.out wa HKa.out
            go_wp2_with fail
            refine (vInt wa w.heap.size _ _ n HVa.out (by omega)).mono ?_
            rintro e wb ⟨rfl, hvb, hkb⟩
            have HVb := Lib.hid hvb
            have HWb := Lib.hid (writer_rf HWa.out hkb)
            have HKb := Lib.hid (HKa.out.trans hkb.rfLo)
            clear hvb hkb HWa HVa HKa d0 d1 d2 d3
            have hen : encUpto it (j + 1) = encUpto it j ++ encInt n := by simp [encUpto, hx.out, encItem]
            have HEN := Lib.hid hen
            clear hen
            go_wp2
            go_roundw
            case rel => exact ⟨j + 1, by omega, by go_num, HSS1.out, by rw [HEN.out]; exact HWb.out, by rw [HEN.out]; exact HVb.out, HKb.out⟩
            case measure => simp [intOf]; omega
          · by_cases hw1 : way = 1
            · subst hw1
              go_wp2_with fail
              refine (wText wr g1 _ s HW.out (by omega) (by omega)).mono ?_
              rintro e wa ⟨rfl, hwa, hka⟩
              have HWa := Lib.hid hwa
              have HVa := Lib.hid (ref_but HV.out HW.out hka (by omega))
              have HKa := Lib.hid (HK.out.trans (hka.lo hs1))
              clear hwa hka HW HV HK d0 d1 d2 d3
              obtain ⟨d0, d1, d2, d3⟩ := EI.out wa HKa.out
              go_wp2_with fail
              refine (vText wa w.heap.size _ _ s HVa.out (by omega) (by omega)).mono ?_
              rintro e wb ⟨rfl, hvb, hkb⟩
              have HVb := Lib.hid hvb
              have HWb := Lib.hid (writer_rf HWa.out hkb)
              have HKb := Lib.hid (HKa.out.trans hkb.rfLo)
              clear hvb hkb HWa HVa HKa d0 d1 d2 d3
              have hen : encUpto it (j + 1) = encUpto it j ++ encText s.data.toList := by simp [encUpto, hx.out, encItem]
              have HEN := Lib.hid hen
              clear hen
              go_wp2
              go_roundw
              case rel => exact ⟨j + 1, by omega, by go_num, HSS1.out, by rw [HEN.out]; exact HWb.out, by rw [HEN.out]; exact HVb.out, HKb.out⟩
              case measure => simp [intOf]; omega
            · by_cases hw2 : way = 2
              · subst hw2
                go_wp2_with fail
                refine (wFlag wr g1 _ ok HW.out (by omega)).mono ?_
                rintro e wa ⟨rfl, hwa, hka⟩
                have HWa := Lib.hid hwa
                have HVa := Lib.hid (ref_but HV.out HW.out hka (by omega))
                have HKa := Lib.hid (HK.out.trans (hka.lo hs1))
                clear hwa hka HW HV HK d0 d1 d2 d3
                obtain ⟨d0, d1, d2, d3⟩ := EI.out wa HKa.out
                go_wp2_with fail
                refine (vFlag wa w.heap.size _ _ ok HVa.out (by omega)).mono ?_
                rintro e wb ⟨rfl, hvb, hkb⟩
                have HVb := Lib.hid hvb
                have HWb := Lib.hid (writer_rf HWa.out hkb)
                have HKb := Lib.hid (HKa.out.trans hkb.rfLo)
                clear hvb hkb HWa HVa HKa d0 d1 d2 d3
                have hen : encUpto it (j + 1) = encUpto it j ++ encFlag ok := by simp [encUpto, hx.out, encItem]
                have HEN := Lib.hid hen
                clear hen
                go_wp2
                go_roundw
                case rel => exact ⟨j + 1, by omega, by go_num, HSS1.out, by rw [HEN.out]; exact HWb.out, by rw [HEN.out]; exact HVb.out, HKb.out⟩
                case measure => simp [intOf]; omega
              · have f0 : (way == 0) = false := beq_eq_false_iff_ne.2 hw0
                have f1 : (way == 1) = false := beq_eq_false_iff_ne.2 hw1
                have f2 : (way == 2) = false := beq_eq_false_iff_ne.2 hw2
                have hen : encUpto it (j + 1) = encUpto it j := by simp [encUpto, hx.out, encItem, hw0, hw1, hw2]
                have HEN := Lib.hid hen
                clear hen
                go_wp2
                go_roundw
                case rel => exact ⟨j + 1, by omega, by go_num, HSS1.out, by rw [HEN.out]; exact HW.out, by rw [HEN.out]; exact HV.out, HK.out⟩
                case measure => simp [intOf]; omega
      · obtain rfl : j = k := by omega
        have hlen : (encUpto it j).length ≤ 20000 := by have := encUpto_len it j HSS.out; omega
        have h300 : ∀ i, i < j → (it i).s.size ≤ 300 := HSS.out
        have H300 := Lib.hid h300
        clear h300 HSS
        generalize hbs : encUpto it j = bs at *
        have HBS := Lib.hid hbs
        clear hbs
        go_wp2_with fail
        refine (wBytes wr g1 _ HW.out (by omega)).mono ?_
        rintro e wb ⟨rfl, hbb, hB⟩
        have BB := Lib.hid hbb
        obtain ⟨v, hvb, hvo, _⟩ := ref_but (g1 := g1) HV.out HW.out (Keep.of_below hB) (by omega)
        obtain ⟨VA, vc, rfl, hvr, _, _⟩ := own_rb hvo
        have c0 := hvb.cell 0
        simp at c0
        have hcv1 := convert_row bs wb.drew _ _ _ bs.length (blk_rb hbb hbb.lt)
        have hcv2 := convert_row bs wb.drew VA wb.heap.size bs.length vc hvr
        have KB := Lib.hid (HK.out.trans (Keep.of_below hB))
        clear hbb hB hvb hvo hvr HW HV HK
        go_wp2_with fail
        go_region
        clear hcv1 hcv2 c0
        have BD : Hid (Blk wb.drew wr.heap.size 5 (cellsB bs).toArray) := BB.out
        have KD := Lib.hid KB.out.drew
        generalize wb.drew = wd at *
        clear BB KB
        go_wp2_with fail
        refine (newReader_of BD.out (by omega) rfl).mono ?_
        rintro e we ⟨g, rfl, hg, hre, hbe⟩
        have hre' : ReaderAt 55 we g g ⟨encRange it 0 (j - 0), false⟩ := by rw [enc_all, HBS.out]; exact hre
        have RE := Lib.hid hre'
        have KE := Lib.hid (KD.out.trans (Keep.of_below hbe))
        have hg0 : w.heap.size ≤ g := by have := KD.out.size; omega
        clear hre hre' hbe BD KD hg
        go_wp2_with fail
        go_loopw [9] (fun i wr => DRel w.heap.size g j it w i wr) (fun i _ => j - (intOf i).toNat)
        case atStart => exact ⟨0, Nat.zero_le _, rfl, RE.out, KE.out⟩
        case round =>
          obtain ⟨j', hj', rfl, hR, hK⟩ := hrel
          have HR := Lib.hid hR
          have HK := Lib.hid hK
          clear hR hK RE KE
          by_cases hlt : j' < j
          · obtain ⟨b, o, rfl, hbN, e0, e1, e2, e3⟩ := HI.out j' hlt
            rcases hx0 : it j' with ⟨way, n, s, ok⟩
            rw [hx0] at e0 e1 e2 e3
            simp only at e0 e1 e2 e3
            obtain ⟨hn1, hn2, _⟩ := HWF.out j' hlt
            rw [hx0] at hn1 hn2
            have hs3 := H300.out j' hlt
            rw [hx0] at hs3
            simp only at hn1 hn2 hs3
            have hst := enc_step it j' j hlt
            rw [hx0] at hst
            have hbg : b ≠ g := by omega
            have HN1 := Lib.hid hn1
            have HN2 := Lib.hid hn2
            clear hn1 hn2 hx0
            have d0 : wr.cell? ⟨b, o + j' * 4, none⟩ = some (.int .i64 way) := (HK.out.end.cell (p := ⟨b, o + j' * 4, none⟩) hbN).trans e0
            have d1 : wr.cell? ⟨b, o + j' * 4 + 1, none⟩ = some (.int .i64 n) := (HK.out.end.cell (p := ⟨b, o + j' * 4 + 1, none⟩) hbN).trans e1
            have d2 : wr.cell? ⟨b, o + j' * 4 + 2, none⟩ = some (.string s) := (HK.out.end.cell (p := ⟨b, o + j' * 4 + 2, none⟩) hbN).trans e2
            have d3 : wr.cell? ⟨b, o + j' * 4 + 3, none⟩ = some (.bool ok) := (HK.out.end.cell (p := ⟨b, o + j' * 4 + 3, none⟩) hbN).trans e3
            clear e0 e1 e2 e3
            generalize hrest : encRange it (j' + 1) (j - (j' + 1)) = rest at *
            have HREST := Lib.hid hrest
            have hR2 := HR.out
            rw [hst] at hR2
            clear hrest hst HR
            by_cases hw0 : way = 0
            · subst hw0
              have hrd : ReaderAt 55 wr.drew g g ⟨encInt n ++ rest, false⟩ := hR2
              have HRD := Lib.hid hrd
              have HKD := Lib.hid HK.out.drew
              have EF := Lib.hid (int_front n rest HN1.out HN2.out)
              clear hR2 hrd HK
              go_wp2_with fail
              refine wp_region_held_drew (S := fun w' => w'.cell? ⟨b, o + j' * 4, none⟩ = some (.int .i64 0) ∧ w'.cell? ⟨b, o + j' * 4 + 1, none⟩ = some (.int .i64 n)) (by kernel_rfl) ?_ (fun hHeld => ?_)
              · exact ⟨d0, d1⟩
              refine wpAnyH_take (i := 0) (oi := { dst := some 109, op := Op.move (Operand.tmp 0), type := 22, pos := "law.go:58", after := #[], guard := none }) (v := .slice (some ⟨b, o, none⟩) j ck) rfl (by kernel_rfl) (by kernel_rfl) (by kernel_rfl) (fun _ _ _ h => h) (Or.inl ⟨by rfl, ?_⟩) (by assumption) ?_
              · intro W hSw; (try dsimp only at hSw); go_simp
              try simp only [Act.put, List.setIfInBounds_toArray, List.set_cons_zero, List.set_cons_succ]
              refine wpAnyH_take (i := 1) (oi := { dst := some 110, op := Op.move (Operand.tmp 9), type := 3, pos := "law.go:58", after := #[], guard := none }) (v := .int .i64 (j' : Int)) rfl (by kernel_rfl) (by kernel_rfl) (by kernel_rfl) (fun _ _ _ h => h) (Or.inl ⟨by rfl, ?_⟩) (by assumption) ?_
              · intro W hSw; (try dsimp only at hSw); go_simp
              try simp only [Act.put, List.setIfInBounds_toArray, List.set_cons_zero, List.set_cons_succ]
              refine wpAnyH_take (i := 2) (oi := { dst := some 111, op := Op.indexAddr 22 (Operand.tmp 109) (Operand.tmp 110), type := 0, pos := "law.go:58", after := #[{ on := 0, ground := Ground.data }, { on := 1, ground := Ground.data }], guard := none }) (v := .pointer (some ⟨b, o + j' * 4, none⟩)) rfl (by kernel_rfl) (by kernel_rfl) (by kernel_rfl) (fun _ _ _ h => h) (Or.inl ⟨by rfl, ?_⟩) (by assumption) ?_
              · intro W hSw; (try dsimp only at hSw); go_simp
              try simp only [Act.put, List.setIfInBounds_toArray, List.set_cons_zero, List.set_cons_succ]
              refine wpAnyH_take (i := 3) (oi := { dst := some 112, op := Op.fieldAddr 33 (Operand.tmp 111) 0, type := 0, pos := "law.go:58", after := #[{ on := 2, ground := Ground.data }], guard := none }) (v := .pointer (some ⟨b, o + j' * 4, none⟩)) rfl (by kernel_rfl) (by kernel_rfl) (by kernel_rfl) (fun _ _ _ h => h) (Or.inl ⟨by rfl, ?_⟩) (by assumption) ?_
              · intro W hSw; (try dsimp only at hSw); go_simp
              try simp only [Act.put, List.setIfInBounds_toArray, List.set_cons_zero, List.set_cons_succ]
              refine wpAnyH_take (i := 4) (oi := { dst := some 113, op := Op.load 3 (Operand.tmp 112), type := 3, pos := "law.go:58", after := #[{ on := 3, ground := Ground.data }], guard := none }) (v := .int .i64 0) rfl (by kernel_rfl) (by kernel_rfl) (by kernel_rfl) (fun _ _ _ h => h) (Or.inl ⟨by rfl, ?_⟩) (by assumption) ?_
              · intro W hSw; (try dsimp only at hSw); go_simp
              try simp only [Act.put, List.setIfInBounds_toArray, List.set_cons_zero, List.set_cons_succ]
              refine wpAnyH_take (i := 5) (oi := { dst := some 114, op := Op.binOp BinOp.eql 3 (Operand.tmp 113) (Operand.const (Value.int IntKind.i64 0)) 3, type := 4, pos := "law.go:58", after := #[{ on := 4, ground := Ground.data }], guard := none }) (v := .bool true) rfl (by kernel_rfl) (by kernel_rfl) (by kernel_rfl) (fun _ _ _ h => h) (Or.inl ⟨by rfl, ?_⟩) (by assumption) ?_
              · intro W hSw; (try dsimp only at hSw); go_simp
              try simp only [Act.put, List.setIfInBounds_toArray, List.set_cons_zero, List.set_cons_succ]
              refine wpAnyH_take (i := 6) (oi := { dst := some 115, op := Op.move (Operand.tmp 114), type := 4, pos := "law.go:58", after := #[{ on := 5, ground := Ground.data }], guard := none }) (v := .bool true) rfl (by kernel_rfl) (by kernel_rfl) (by kernel_rfl) (fun _ _ _ h => h) (Or.inl ⟨by rfl, ?_⟩) (by assumption) ?_
              · intro W hSw; (try dsimp only at hSw); go_simp
              try simp only [Act.put, List.setIfInBounds_toArray, List.set_cons_zero, List.set_cons_succ]
              refine wpAnyH_take (i := 7) (oi := { dst := some 116, op := Op.move (Operand.tmp 8), type := 38, pos := "law.go:58", after := #[{ on := 6, ground := Ground.guard }], guard := some (6, true) }) (v := .pointer (some ⟨g, 0, none⟩)) rfl (by kernel_rfl) (by kernel_rfl) (by kernel_rfl) (fun _ _ _ h => h) (Or.inl ⟨by rfl, ?_⟩) (by assumption) ?_
              · intro W hSw; (try dsimp only at hSw); go_simp
              try simp only [Act.put, List.setIfInBounds_toArray, List.set_cons_zero, List.set_cons_succ]
              refine wpAnyH_take (i := 9) (oi := { dst := some 118, op := Op.move (Operand.tmp 0), type := 22, pos := "law.go:58", after := #[{ on := 6, ground := Ground.guard }], guard := some (6, true) }) (v := .slice (some ⟨b, o, none⟩) j ck) rfl (by kernel_rfl) (by kernel_rfl) (by kernel_rfl) (fun _ _ _ h => h) (Or.inl ⟨by rfl, ?_⟩) (by assumption) ?_
              · intro W hSw; (try dsimp only at hSw); go_simp
              try simp only [Act.put, List.setIfInBounds_toArray, List.set_cons_zero, List.set_cons_succ]
              refine wpAnyH_take (i := 10) (oi := { dst := some 119, op := Op.move (Operand.tmp 9), type := 3, pos := "law.go:58", after := #[{ on := 6, ground := Ground.guard }], guard := some (6, true) }) (v := .int .i64 (j' : Int)) rfl (by kernel_rfl) (by kernel_rfl) (by kernel_rfl) (fun _ _ _ h => h) (Or.inl ⟨by rfl, ?_⟩) (by assumption) ?_
              · intro W hSw; (try dsimp only at hSw); go_simp
              try simp only [Act.put, List.setIfInBounds_toArray, List.set_cons_zero, List.set_cons_succ]
              refine wpAnyH_take (i := 11) (oi := { dst := some 120, op := Op.indexAddr 22 (Operand.tmp 118) (Operand.tmp 119), type := 0, pos := "law.go:58", after := #[{ on := 9, ground := Ground.data }, { on := 10, ground := Ground.data }, { on := 6, ground := Ground.guard }], guard := some (6, true) }) (v := .pointer (some ⟨b, o + j' * 4, none⟩)) rfl (by kernel_rfl) (by kernel_rfl) (by kernel_rfl) (fun _ _ _ h => h) (Or.inl ⟨by rfl, ?_⟩) (by assumption) ?_
              · intro W hSw; (try dsimp only at hSw); go_simp
              try simp only [Act.put, List.setIfInBounds_toArray, List.set_cons_zero, List.set_cons_succ]
              refine wpAnyH_take (i := 12) (oi := { dst := some 121, op := Op.fieldAddr 33 (Operand.tmp 120) 1, type := 0, pos := "law.go:58", after := #[{ on := 11, ground := Ground.data }, { on := 6, ground := Ground.guard }], guard := some (6, true) }) (v := .pointer (some ⟨b, o + j' * 4 + 1, none⟩)) rfl (by kernel_rfl) (by kernel_rfl) (by kernel_rfl) (fun _ _ _ h => h) (Or.inl ⟨by rfl, ?_⟩) (by assumption) ?_
              · intro W hSw; (try dsimp only at hSw); go_simp
              try simp only [Act.put, List.setIfInBounds_toArray, List.set_cons_zero, List.set_cons_succ]
              refine wpAnyH_take (i := 13) (oi := { dst := some 122, op := Op.load 3 (Operand.tmp 121), type := 3, pos := "law.go:58", after := #[{ on := 12, ground := Ground.data }, { on := 6, ground := Ground.guard }], guard := some (6, true) }) (v := .int .i64 n) rfl (by kernel_rfl) (by kernel_rfl) (by kernel_rfl) (fun _ _ _ h => h) (Or.inl ⟨by rfl, ?_⟩) (by assumption) ?_
              · intro W hSw; (try dsimp only at hSw); go_simp
              try simp only [Act.put, List.setIfInBounds_toArray, List.set_cons_zero, List.set_cons_succ]
              refine wpAnyH_ready (rs := [8]) (by kernel_rfl) (by simp) ?_
              refine AllReadyH.cons (o := { dst := some 117, op := Op.call { callee := Callee.value (Operand.func 16), args := #[Operand.tmp 116], argTypes := #[38] }, type := 3, pos := "law.go:58", after := #[{ on := 7, ground := Ground.data }, { on := 6, ground := Ground.chain }, { on := 6, ground := Ground.guard }], guard := some (6, true) }) rfl (fun K hK => ?_) AllReadyH.nil
              go_simp
              refine (rdInt_at HRD.out EF.out).mono ?_
              rintro e w' ⟨rfl, hr', hk'⟩
              try dsimp only
              refine hK.out _ _ ?_ (fun hHeld2 => ?_)
              · exact cells_but hbg hk' hHeld
              clear hK K hHeld
              try simp only [Act.put, List.setIfInBounds_toArray, List.set_cons_zero, List.set_cons_succ]
              refine wpAnyH_take (i := 14) (oi := { dst := some 123, op := Op.binOp BinOp.neq 3 (Operand.tmp 117) (Operand.tmp 122) 3, type := 4, pos := "law.go:58", after := #[{ on := 8, ground := Ground.data }, { on := 13, ground := Ground.data }, { on := 6, ground := Ground.guard }], guard := some (6, true) }) (v := .bool false) rfl (by kernel_rfl) (by kernel_rfl) (by kernel_rfl) (fun _ _ _ h => h) (Or.inl ⟨by rfl, ?_⟩) (by assumption) ?_
              · intro W hSw; (try dsimp only at hSw); go_simp
              try simp only [Act.put, List.setIfInBounds_toArray, List.set_cons_zero, List.set_cons_succ]
              refine wpAnyH_take (i := 15) (oi := { dst := some 124, op := Op.pick (Operand.tmp 115) (Operand.tmp 123) (Operand.const (Value.bool false)), type := 4, pos := "law.go:58", after := #[{ on := 6, ground := Ground.data }, { on := 14, ground := Ground.data }], guard := none }) (v := .bool false) rfl (by kernel_rfl) (by kernel_rfl) (by kernel_rfl) (fun _ _ _ h => h) (Or.inl ⟨by rfl, ?_⟩) (by assumption) ?_
              · intro W hSw; (try dsimp only at hSw); go_simp
              try simp only [Act.put, List.setIfInBounds_toArray, List.set_cons_zero, List.set_cons_succ]
              refine wpAnyH_take (i := 16) (oi := { dst := some 125, op := Op.move (Operand.tmp 124), type := 4, pos := "law.go:58", after := #[{ on := 15, ground := Ground.data }, { on := 8, ground := Ground.chain }], guard := none }) (v := .bool false) rfl (by kernel_rfl) (by kernel_rfl) (by kernel_rfl) (fun _ _ _ h => h) (Or.inl ⟨by rfl, ?_⟩) (by assumption) ?_
              · intro W hSw; (try dsimp only at hSw); go_simp
              try simp only [Act.put, List.setIfInBounds_toArray, List.set_cons_zero, List.set_cons_succ]
              refine wpAnyH_take (i := 17) (oi := { dst := some 126, op := Op.move (Operand.tmp 0), type := 22, pos := "law.go:58", after := #[{ on := 16, ground := Ground.guard }], guard := some (16, false) }) (v := .slice (some ⟨b, o, none⟩) j ck) rfl (by kernel_rfl) (by kernel_rfl) (by kernel_rfl) (fun _ _ _ h => h) (Or.inl ⟨by rfl, ?_⟩) (by assumption) ?_
              · intro W hSw; (try dsimp only at hSw); go_simp
              try simp only [Act.put, List.setIfInBounds_toArray, List.set_cons_zero, List.set_cons_succ]
              refine wpAnyH_take (i := 18) (oi := { dst := some 127, op := Op.move (Operand.tmp 9), type := 3, pos := "law.go:58", after := #[{ on := 16, ground := Ground.guard }], guard := some (16, false) }) (v := .int .i64 (j' : Int)) rfl (by kernel_rfl) (by kernel_rfl) (by kernel_rfl) (fun _ _ _ h => h) (Or.inl ⟨by rfl, ?_⟩) (by assumption) ?_
              · intro W hSw; (try dsimp only at hSw); go_simp
              try simp only [Act.put, List.setIfInBounds_toArray, List.set_cons_zero, List.set_cons_succ]
              refine wpAnyH_take (i := 19) (oi := { dst := some 128, op := Op.indexAddr 22 (Operand.tmp 126) (Operand.tmp 127), type := 0, pos := "law.go:58", after := #[{ on := 17, ground := Ground.data }, { on := 18, ground := Ground.data }, { on := 16, ground := Ground.guard }], guard := some (16, false) }) (v := .pointer (some ⟨b, o + j' * 4, none⟩)) rfl (by kernel_rfl) (by kernel_rfl) (by kernel_rfl) (fun _ _ _ h => h) (Or.inl ⟨by rfl, ?_⟩) (by assumption) ?_
              · intro W hSw; (try dsimp only at hSw); go_simp
              try simp only [Act.put, List.setIfInBounds_toArray, List.set_cons_zero, List.set_cons_succ]
              refine wpAnyH_take (i := 20) (oi := { dst := some 129, op := Op.fieldAddr 33 (Operand.tmp 128) 0, type := 0, pos := "law.go:58", after := #[{ on := 19, ground := Ground.data }, { on := 16, ground := Ground.guard }], guard := some (16, false) }) (v := .pointer (some ⟨b, o + j' * 4, none⟩)) rfl (by kernel_rfl) (by kernel_rfl) (by kernel_rfl) (fun _ _ _ h => h) (Or.inl ⟨by rfl, ?_⟩) (by assumption) ?_
              · intro W hSw; (try dsimp only at hSw); go_simp
              try simp only [Act.put, List.setIfInBounds_toArray, List.set_cons_zero, List.set_cons_succ]
              refine wpAnyH_take (i := 21) (oi := { dst := some 130, op := Op.load 3 (Operand.tmp 129), type := 3, pos := "law.go:58", after := #[{ on := 20, ground := Ground.data }, { on := 16, ground := Ground.guard }], guard := some (16, false) }) (v := .int .i64 0) rfl (by kernel_rfl) (by kernel_rfl) (by kernel_rfl) (fun _ _ _ h => h) (Or.inl ⟨by rfl, ?_⟩) (by assumption) ?_
              · intro W hSw; (try dsimp only at hSw); go_simp
              try simp only [Act.put, List.setIfInBounds_toArray, List.set_cons_zero, List.set_cons_succ]
              refine wpAnyH_take (i := 22) (oi := { dst := some 131, op := Op.binOp BinOp.eql 3 (Operand.tmp 130) (Operand.const (Value.int IntKind.i64 1)) 3, type := 4, pos := "law.go:58", after := #[{ on := 21, ground := Ground.data }, { on := 16, ground := Ground.guard }], guard := some (16, false) }) (v := .bool false) rfl (by kernel_rfl) (by kernel_rfl) (by kernel_rfl) (fun _ _ _ h => h) (Or.inl ⟨by rfl, ?_⟩) (by assumption) ?_
              · intro W hSw; (try dsimp only at hSw); go_simp
              try simp only [Act.put, List.setIfInBounds_toArray, List.set_cons_zero, List.set_cons_succ]
              refine wpAnyH_take (i := 23) (oi := { dst := some 132, op := Op.move (Operand.tmp 131), type := 4, pos := "law.go:58", after := #[{ on := 22, ground := Ground.data }, { on := 16, ground := Ground.chain }, { on := 16, ground := Ground.guard }], guard := some (16, false) }) (v := .bool false) rfl (by kernel_rfl) (by kernel_rfl) (by kernel_rfl) (fun _ _ _ h => h) (Or.inl ⟨by rfl, ?_⟩) (by assumption) ?_
              · intro W hSw; (try dsimp only at hSw); go_simp
              try simp only [Act.put, List.setIfInBounds_toArray, List.set_cons_zero, List.set_cons_succ]
              refine wpAnyH_take (i := 24) (oi := { dst := some 133, op := Op.move (Operand.tmp 8), type := 38, pos := "law.go:58", after := #[{ on := 23, ground := Ground.guard }], guard := some (23, true) }) (v := undef) rfl (by kernel_rfl) (by kernel_rfl) (by kernel_rfl) (fun _ _ _ h => h) (Or.inr ⟨by rfl, rfl⟩) (by assumption) ?_
              try simp only [Act.put, List.setIfInBounds_toArray, List.set_cons_zero, List.set_cons_succ]
              refine wpAnyH_take (i := 25) (oi := { dst := some 134, op := Op.call { callee := Callee.value (Operand.func 17), args := #[Operand.tmp 133], argTypes := #[38] }, type := 9, pos := "law.go:58", after := #[{ on := 24, ground := Ground.data }, { on := 23, ground := Ground.chain }, { on := 23, ground := Ground.guard }], guard := some (23, true) }) (v := undef) rfl (by kernel_rfl) (by kernel_rfl) (by kernel_rfl) (fun _ _ _ h => h) (Or.inr ⟨by rfl, rfl⟩) (by assumption) ?_
              try simp only [Act.put, List.setIfInBounds_toArray, List.set_cons_zero, List.set_cons_succ]
              refine wpAnyH_take (i := 26) (oi := { dst := some 135, op := Op.move (Operand.tmp 0), type := 22, pos := "law.go:58", after := #[{ on := 23, ground := Ground.guard }], guard := some (23, true) }) (v := undef) rfl (by kernel_rfl) (by kernel_rfl) (by kernel_rfl) (fun _ _ _ h => h) (Or.inr ⟨by rfl, rfl⟩) (by assumption) ?_
              try simp only [Act.put, List.setIfInBounds_toArray, List.set_cons_zero, List.set_cons_succ]
              refine wpAnyH_take (i := 27) (oi := { dst := some 136, op := Op.move (Operand.tmp 9), type := 3, pos := "law.go:58", after := #[{ on := 23, ground := Ground.guard }], guard := some (23, true) }) (v := undef) rfl (by kernel_rfl) (by kernel_rfl) (by kernel_rfl) (fun _ _ _ h => h) (Or.inr ⟨by rfl, rfl⟩) (by assumption) ?_
              try simp only [Act.put, List.setIfInBounds_toArray, List.set_cons_zero, List.set_cons_succ]
              refine wpAnyH_take (i := 28) (oi := { dst := some 137, op := Op.indexAddr 22 (Operand.tmp 135) (Operand.tmp 136), type := 0, pos := "law.go:58", after := #[{ on := 26, ground := Ground.data }, { on := 27, ground := Ground.data }, { on := 23, ground := Ground.guard }], guard := some (23, true) }) (v := undef) rfl (by kernel_rfl) (by kernel_rfl) (by kernel_rfl) (fun _ _ _ h => h) (Or.inr ⟨by rfl, rfl⟩) (by assumption) ?_
              try simp only [Act.put, List.setIfInBounds_toArray, List.set_cons_zero, List.set_cons_succ]
              refine wpAnyH_take (i := 29) (oi := { dst := some 138, op := Op.fieldAddr 33 (Operand.tmp 137) 2, type := 0, pos := "law.go:58", after := #[{ on := 28, ground := Ground.data }, { on := 23, ground := Ground.guard }], guard := some (23, true) }) (v := undef) rfl (by kernel_rfl) (by kernel_rfl) (by kernel_rfl) (fun _ _ _ h => h) (Or.inr ⟨by rfl, rfl⟩) (by assumption) ?_
              try simp only [Act.put, List.setIfInBounds_toArray, List.set_cons_zero, List.set_cons_succ]
              refine wpAnyH_take (i := 30) (oi := { dst := some 139, op := Op.load 9 (Operand.tmp 138), type := 9, pos := "law.go:58", after := #[{ on := 29, ground := Ground.data }, { on := 23, ground := Ground.guard }], guard := some (23, true) }) (v := undef) rfl (by kernel_rfl) (by kernel_rfl) (by kernel_rfl) (fun _ _ _ h => h) (Or.inr ⟨by rfl, rfl⟩) (by assumption) ?_
              try simp only [Act.put, List.setIfInBounds_toArray, List.set_cons_zero, List.set_cons_succ]
              refine wpAnyH_take (i := 31) (oi := { dst := some 140, op := Op.binOp BinOp.neq 9 (Operand.tmp 134) (Operand.tmp 139) 9, type := 4, pos := "law.go:58", after := #[{ on := 25, ground := Ground.data }, { on := 30, ground := Ground.data }, { on := 23, ground := Ground.guard }], guard := some (23, true) }) (v := undef) rfl (by kernel_rfl) (by kernel_rfl) (by kernel_rfl) (fun _ _ _ h => h) (Or.inr ⟨by rfl, rfl⟩) (by assumption) ?_
              try simp only [Act.put, List.setIfInBounds_toArray, List.set_cons_zero, List.set_cons_succ]
              refine wpAnyH_take (i := 32) (oi := { dst := some 141, op := Op.pick (Operand.tmp 132) (Operand.tmp 140) (Operand.const (Value.bool false)), type := 4, pos := "law.go:58", after := #[{ on := 23, ground := Ground.data }, { on := 31, ground := Ground.data }, { on := 16, ground := Ground.guard }], guard := some (16, false) }) (v := .bool false) rfl (by kernel_rfl) (by kernel_rfl) (by kernel_rfl) (fun _ _ _ h => h) (Or.inl ⟨by rfl, ?_⟩) (by assumption) ?_
              · intro W hSw; (try dsimp only at hSw); go_simp
              try simp only [Act.put, List.setIfInBounds_toArray, List.set_cons_zero, List.set_cons_succ]
              refine wpAnyH_take (i := 33) (oi := { dst := some 142, op := Op.pick (Operand.tmp 125) (Operand.const (Value.bool true)) (Operand.tmp 141), type := 4, pos := "law.go:58", after := #[{ on := 16, ground := Ground.data }, { on := 32, ground := Ground.data }], guard := none }) (v := .bool false) rfl (by kernel_rfl) (by kernel_rfl) (by kernel_rfl) (fun _ _ _ h => h) (Or.inl ⟨by rfl, ?_⟩) (by assumption) ?_
              · intro W hSw; (try dsimp only at hSw); go_simp
              try simp only [Act.put, List.setIfInBounds_toArray, List.set_cons_zero, List.set_cons_succ]
              refine wpAnyH_take (i := 34) (oi := { dst := some 143, op := Op.move (Operand.tmp 142), type := 4, pos := "law.go:58", after := #[{ on := 33, ground := Ground.data }, { on := 25, ground := Ground.chain }], guard := none }) (v := .bool false) rfl (by kernel_rfl) (by kernel_rfl) (by kernel_rfl) (fun _ _ _ h => h) (Or.inl ⟨by rfl, ?_⟩) (by assumption) ?_
              · intro W hSw; (try dsimp only at hSw); go_simp
              try simp only [Act.put, List.setIfInBounds_toArray, List.set_cons_zero, List.set_cons_succ]
              refine wpAnyH_take (i := 35) (oi := { dst := some 144, op := Op.move (Operand.tmp 0), type := 22, pos := "law.go:58", after := #[{ on := 34, ground := Ground.guard }], guard := some (34, false) }) (v := .slice (some ⟨b, o, none⟩) j ck) rfl (by kernel_rfl) (by kernel_rfl) (by kernel_rfl) (fun _ _ _ h => h) (Or.inl ⟨by rfl, ?_⟩) (by assumption) ?_
              · intro W hSw; (try dsimp only at hSw); go_simp
              try simp only [Act.put, List.setIfInBounds_toArray, List.set_cons_zero, List.set_cons_succ]
              refine wpAnyH_take (i := 36) (oi := { dst := some 145, op := Op.move (Operand.tmp 9), type := 3, pos := "law.go:58", after := #[{ on := 34, ground := Ground.guard }], guard := some (34, false) }) (v := .int .i64 (j' : Int)) rfl (by kernel_rfl) (by kernel_rfl) (by kernel_rfl) (fun _ _ _ h => h) (Or.inl ⟨by rfl, ?_⟩) (by assumption) ?_
              · intro W hSw; (try dsimp only at hSw); go_simp
              try simp only [Act.put, List.setIfInBounds_toArray, List.set_cons_zero, List.set_cons_succ]
              refine wpAnyH_take (i := 37) (oi := { dst := some 146, op := Op.indexAddr 22 (Operand.tmp 144) (Operand.tmp 145), type := 0, pos := "law.go:58", after := #[{ on := 35, ground := Ground.data }, { on := 36, ground := Ground.data }, { on := 34, ground := Ground.guard }], guard := some (34, false) }) (v := .pointer (some ⟨b, o + j' * 4, none⟩)) rfl (by kernel_rfl) (by kernel_rfl) (by kernel_rfl) (fun _ _ _ h => h) (Or.inl ⟨by rfl, ?_⟩) (by assumption) ?_
              · intro W hSw; (try dsimp only at hSw); go_simp
              try simp only [Act.put, List.setIfInBounds_toArray, List.set_cons_zero, List.set_cons_succ]
              refine wpAnyH_take (i := 38) (oi := { dst := some 147, op := Op.fieldAddr 33 (Operand.tmp 146) 0, type := 0, pos := "law.go:58", after := #[{ on := 37, ground := Ground.data }, { on := 34, ground := Ground.guard }], guard := some (34, false) }) (v := .pointer (some ⟨b, o + j' * 4, none⟩)) rfl (by kernel_rfl) (by kernel_rfl) (by kernel_rfl) (fun _ _ _ h => h) (Or.inl ⟨by rfl, ?_⟩) (by assumption) ?_
              · intro W hSw; (try dsimp only at hSw); go_simp
              try simp only [Act.put, List.setIfInBounds_toArray, List.set_cons_zero, List.set_cons_succ]
              refine wpAnyH_take (i := 39) (oi := { dst := some 148, op := Op.load 3 (Operand.tmp 147), type := 3, pos := "law.go:58", after := #[{ on := 38, ground := Ground.data }, { on := 34, ground := Ground.guard }], guard := some (34, false) }) (v := .int .i64 0) rfl (by kernel_rfl) (by kernel_rfl) (by kernel_rfl) (fun _ _ _ h => h) (Or.inl ⟨by rfl, ?_⟩) (by assumption) ?_
              · intro W hSw; (try dsimp only at hSw); go_simp
              try simp only [Act.put, List.setIfInBounds_toArray, List.set_cons_zero, List.set_cons_succ]
              refine wpAnyH_take (i := 40) (oi := { dst := some 149, op := Op.binOp BinOp.eql 3 (Operand.tmp 148) (Operand.const (Value.int IntKind.i64 2)) 3, type := 4, pos := "law.go:58", after := #[{ on := 39, ground := Ground.data }, { on := 34, ground := Ground.guard }], guard := some (34, false) }) (v := .bool false) rfl (by kernel_rfl) (by kernel_rfl) (by kernel_rfl) (fun _ _ _ h => h) (Or.inl ⟨by rfl, ?_⟩) (by assumption) ?_
              · intro W hSw; (try dsimp only at hSw); go_simp
              try simp only [Act.put, List.setIfInBounds_toArray, List.set_cons_zero, List.set_cons_succ]
              refine wpAnyH_take (i := 41) (oi := { dst := some 150, op := Op.move (Operand.tmp 149), type := 4, pos := "law.go:58", after := #[{ on := 40, ground := Ground.data }, { on := 34, ground := Ground.chain }, { on := 34, ground := Ground.guard }], guard := some (34, false) }) (v := .bool false) rfl (by kernel_rfl) (by kernel_rfl) (by kernel_rfl) (fun _ _ _ h => h) (Or.inl ⟨by rfl, ?_⟩) (by assumption) ?_
              · intro W hSw; (try dsimp only at hSw); go_simp
              try simp only [Act.put, List.setIfInBounds_toArray, List.set_cons_zero, List.set_cons_succ]
              refine wpAnyH_take (i := 42) (oi := { dst := some 151, op := Op.move (Operand.tmp 8), type := 38, pos := "law.go:58", after := #[{ on := 41, ground := Ground.guard }], guard := some (41, true) }) (v := undef) rfl (by kernel_rfl) (by kernel_rfl) (by kernel_rfl) (fun _ _ _ h => h) (Or.inr ⟨by rfl, rfl⟩) (by assumption) ?_
              try simp only [Act.put, List.setIfInBounds_toArray, List.set_cons_zero, List.set_cons_succ]
              refine wpAnyH_take (i := 43) (oi := { dst := some 152, op := Op.call { callee := Callee.value (Operand.func 18), args := #[Operand.tmp 151], argTypes := #[38] }, type := 4, pos := "law.go:58", after := #[{ on := 42, ground := Ground.data }, { on := 41, ground := Ground.chain }, { on := 41, ground := Ground.guard }], guard := some (41, true) }) (v := undef) rfl (by kernel_rfl) (by kernel_rfl) (by kernel_rfl) (fun _ _ _ h => h) (Or.inr ⟨by rfl, rfl⟩) (by assumption) ?_
              try simp only [Act.put, List.setIfInBounds_toArray, List.set_cons_zero, List.set_cons_succ]
              refine wpAnyH_take (i := 44) (oi := { dst := some 153, op := Op.move (Operand.tmp 0), type := 22, pos := "law.go:58", after := #[{ on := 41, ground := Ground.guard }], guard := some (41, true) }) (v := undef) rfl (by kernel_rfl) (by kernel_rfl) (by kernel_rfl) (fun _ _ _ h => h) (Or.inr ⟨by rfl, rfl⟩) (by assumption) ?_
              try simp only [Act.put, List.setIfInBounds_toArray, List.set_cons_zero, List.set_cons_succ]
              refine wpAnyH_take (i := 45) (oi := { dst := some 154, op := Op.move (Operand.tmp 9), type := 3, pos := "law.go:58", after := #[{ on := 41, ground := Ground.guard }], guard := some (41, true) }) (v := undef) rfl (by kernel_rfl) (by kernel_rfl) (by kernel_rfl) (fun _ _ _ h => h) (Or.inr ⟨by rfl, rfl⟩) (by assumption) ?_
              try simp only [Act.put, List.setIfInBounds_toArray, List.set_cons_zero, List.set_cons_succ]
              refine wpAnyH_take (i := 46) (oi := { dst := some 155, op := Op.indexAddr 22 (Operand.tmp 153) (Operand.tmp 154), type := 0, pos := "law.go:58", after := #[{ on := 44, ground := Ground.data }, { on := 45, ground := Ground.data }, { on := 41, ground := Ground.guard }], guard := some (41, true) }) (v := undef) rfl (by kernel_rfl) (by kernel_rfl) (by kernel_rfl) (fun _ _ _ h => h) (Or.inr ⟨by rfl, rfl⟩) (by assumption) ?_
              try simp only [Act.put, List.setIfInBounds_toArray, List.set_cons_zero, List.set_cons_succ]
              refine wpAnyH_take (i := 47) (oi := { dst := some 156, op := Op.fieldAddr 33 (Operand.tmp 155) 3, type := 0, pos := "law.go:58", after := #[{ on := 46, ground := Ground.data }, { on := 41, ground := Ground.guard }], guard := some (41, true) }) (v := undef) rfl (by kernel_rfl) (by kernel_rfl) (by kernel_rfl) (fun _ _ _ h => h) (Or.inr ⟨by rfl, rfl⟩) (by assumption) ?_
              try simp only [Act.put, List.setIfInBounds_toArray, List.set_cons_zero, List.set_cons_succ]
              refine wpAnyH_take (i := 48) (oi := { dst := some 157, op := Op.load 4 (Operand.tmp 156), type := 4, pos := "law.go:58", after := #[{ on := 47, ground := Ground.data }, { on := 41, ground := Ground.guard }], guard := some (41, true) }) (v := undef) rfl (by kernel_rfl) (by kernel_rfl) (by kernel_rfl) (fun _ _ _ h => h) (Or.inr ⟨by rfl, rfl⟩) (by assumption) ?_
              try simp only [Act.put, List.setIfInBounds_toArray, List.set_cons_zero, List.set_cons_succ]
              refine wpAnyH_take (i := 49) (oi := { dst := some 158, op := Op.binOp BinOp.neq 4 (Operand.tmp 152) (Operand.tmp 157) 4, type := 4, pos := "law.go:58", after := #[{ on := 43, ground := Ground.data }, { on := 48, ground := Ground.data }, { on := 41, ground := Ground.guard }], guard := some (41, true) }) (v := undef) rfl (by kernel_rfl) (by kernel_rfl) (by kernel_rfl) (fun _ _ _ h => h) (Or.inr ⟨by rfl, rfl⟩) (by assumption) ?_
              try simp only [Act.put, List.setIfInBounds_toArray, List.set_cons_zero, List.set_cons_succ]
              refine wpAnyH_take (i := 50) (oi := { dst := some 159, op := Op.pick (Operand.tmp 150) (Operand.tmp 158) (Operand.const (Value.bool false)), type := 4, pos := "law.go:58", after := #[{ on := 41, ground := Ground.data }, { on := 49, ground := Ground.data }, { on := 34, ground := Ground.guard }], guard := some (34, false) }) (v := .bool false) rfl (by kernel_rfl) (by kernel_rfl) (by kernel_rfl) (fun _ _ _ h => h) (Or.inl ⟨by rfl, ?_⟩) (by assumption) ?_
              · intro W hSw; (try dsimp only at hSw); go_simp
              try simp only [Act.put, List.setIfInBounds_toArray, List.set_cons_zero, List.set_cons_succ]
              refine wpAnyH_take (i := 51) (oi := { dst := some 160, op := Op.pick (Operand.tmp 143) (Operand.const (Value.bool true)) (Operand.tmp 159), type := 4, pos := "law.go:58", after := #[{ on := 34, ground := Ground.data }, { on := 50, ground := Ground.data }], guard := none }) (v := .bool false) rfl (by kernel_rfl) (by kernel_rfl) (by kernel_rfl) (fun _ _ _ h => h) (Or.inl ⟨by rfl, ?_⟩) (by assumption) ?_
              · intro W hSw; (try dsimp only at hSw); go_simp
              try simp only [Act.put, List.setIfInBounds_toArray, List.set_cons_zero, List.set_cons_succ]
              refine wpAnyH_done (by kernel_rfl) ?_ _
              have R' := Lib.hid hr'
              have K' := Lib.hid (HKD.out.trans (hk'.lo hg0))
              clear hr' hk' hHeld2 d0 d1 d2 d3 HRD HKD EF
              go_wp2
              go_roundw
              case rel => exact ⟨j' + 1, by omega, by go_num, by rw [HREST.out]; exact R'.out, K'.out⟩
              case measure => simp [intOf]; omega
            · by_cases hw1 : way = 1
              · subst hw1
                have hrd : ReaderAt 55 wr.drew g g ⟨encText s.data.toList ++ rest, false⟩ := hR2
                have HRD := Lib.hid hrd
                have HKD := Lib.hid HK.out.drew
                have EF := Lib.hid (text_small s rest hs3)
                clear hR2 hrd HK
                go_wp2_with fail
                refine wp_region_held_drew (S := fun w' => w'.cell? ⟨b, o + j' * 4, none⟩ = some (.int .i64 1) ∧ w'.cell? ⟨b, o + j' * 4 + 2, none⟩ = some (.string s)) (by kernel_rfl) ?_ (fun hHeld => ?_)
                · exact ⟨d0, d2⟩
                refine wpAnyH_take (i := 0) (oi := { dst := some 109, op := Op.move (Operand.tmp 0), type := 22, pos := "law.go:58", after := #[], guard := none }) (v := .slice (some ⟨b, o, none⟩) j ck) rfl (by kernel_rfl) (by kernel_rfl) (by kernel_rfl) (fun _ _ _ h => h) (Or.inl ⟨by rfl, ?_⟩) (by assumption) ?_
                · intro W hSw; (try dsimp only at hSw); go_simp
                try simp only [Act.put, List.setIfInBounds_toArray, List.set_cons_zero, List.set_cons_succ]
                refine wpAnyH_take (i := 1) (oi := { dst := some 110, op := Op.move (Operand.tmp 9), type := 3, pos := "law.go:58", after := #[], guard := none }) (v := .int .i64 (j' : Int)) rfl (by kernel_rfl) (by kernel_rfl) (by kernel_rfl) (fun _ _ _ h => h) (Or.inl ⟨by rfl, ?_⟩) (by assumption) ?_
                · intro W hSw; (try dsimp only at hSw); go_simp
                try simp only [Act.put, List.setIfInBounds_toArray, List.set_cons_zero, List.set_cons_succ]
                refine wpAnyH_take (i := 2) (oi := { dst := some 111, op := Op.indexAddr 22 (Operand.tmp 109) (Operand.tmp 110), type := 0, pos := "law.go:58", after := #[{ on := 0, ground := Ground.data }, { on := 1, ground := Ground.data }], guard := none }) (v := .pointer (some ⟨b, o + j' * 4, none⟩)) rfl (by kernel_rfl) (by kernel_rfl) (by kernel_rfl) (fun _ _ _ h => h) (Or.inl ⟨by rfl, ?_⟩) (by assumption) ?_
                · intro W hSw; (try dsimp only at hSw); go_simp
                try simp only [Act.put, List.setIfInBounds_toArray, List.set_cons_zero, List.set_cons_succ]
                refine wpAnyH_take (i := 3) (oi := { dst := some 112, op := Op.fieldAddr 33 (Operand.tmp 111) 0, type := 0, pos := "law.go:58", after := #[{ on := 2, ground := Ground.data }], guard := none }) (v := .pointer (some ⟨b, o + j' * 4, none⟩)) rfl (by kernel_rfl) (by kernel_rfl) (by kernel_rfl) (fun _ _ _ h => h) (Or.inl ⟨by rfl, ?_⟩) (by assumption) ?_
                · intro W hSw; (try dsimp only at hSw); go_simp
                try simp only [Act.put, List.setIfInBounds_toArray, List.set_cons_zero, List.set_cons_succ]
                refine wpAnyH_take (i := 4) (oi := { dst := some 113, op := Op.load 3 (Operand.tmp 112), type := 3, pos := "law.go:58", after := #[{ on := 3, ground := Ground.data }], guard := none }) (v := .int .i64 1) rfl (by kernel_rfl) (by kernel_rfl) (by kernel_rfl) (fun _ _ _ h => h) (Or.inl ⟨by rfl, ?_⟩) (by assumption) ?_
                · intro W hSw; (try dsimp only at hSw); go_simp
                try simp only [Act.put, List.setIfInBounds_toArray, List.set_cons_zero, List.set_cons_succ]
                refine wpAnyH_take (i := 5) (oi := { dst := some 114, op := Op.binOp BinOp.eql 3 (Operand.tmp 113) (Operand.const (Value.int IntKind.i64 0)) 3, type := 4, pos := "law.go:58", after := #[{ on := 4, ground := Ground.data }], guard := none }) (v := .bool false) rfl (by kernel_rfl) (by kernel_rfl) (by kernel_rfl) (fun _ _ _ h => h) (Or.inl ⟨by rfl, ?_⟩) (by assumption) ?_
                · intro W hSw; (try dsimp only at hSw); go_simp
                try simp only [Act.put, List.setIfInBounds_toArray, List.set_cons_zero, List.set_cons_succ]
                refine wpAnyH_take (i := 6) (oi := { dst := some 115, op := Op.move (Operand.tmp 114), type := 4, pos := "law.go:58", after := #[{ on := 5, ground := Ground.data }], guard := none }) (v := .bool false) rfl (by kernel_rfl) (by kernel_rfl) (by kernel_rfl) (fun _ _ _ h => h) (Or.inl ⟨by rfl, ?_⟩) (by assumption) ?_
                · intro W hSw; (try dsimp only at hSw); go_simp
                try simp only [Act.put, List.setIfInBounds_toArray, List.set_cons_zero, List.set_cons_succ]
                refine wpAnyH_take (i := 7) (oi := { dst := some 116, op := Op.move (Operand.tmp 8), type := 38, pos := "law.go:58", after := #[{ on := 6, ground := Ground.guard }], guard := some (6, true) }) (v := undef) rfl (by kernel_rfl) (by kernel_rfl) (by kernel_rfl) (fun _ _ _ h => h) (Or.inr ⟨by rfl, rfl⟩) (by assumption) ?_
                try simp only [Act.put, List.setIfInBounds_toArray, List.set_cons_zero, List.set_cons_succ]
                refine wpAnyH_take (i := 8) (oi := { dst := some 117, op := Op.call { callee := Callee.value (Operand.func 16), args := #[Operand.tmp 116], argTypes := #[38] }, type := 3, pos := "law.go:58", after := #[{ on := 7, ground := Ground.data }, { on := 6, ground := Ground.chain }, { on := 6, ground := Ground.guard }], guard := some (6, true) }) (v := undef) rfl (by kernel_rfl) (by kernel_rfl) (by kernel_rfl) (fun _ _ _ h => h) (Or.inr ⟨by rfl, rfl⟩) (by assumption) ?_
                try simp only [Act.put, List.setIfInBounds_toArray, List.set_cons_zero, List.set_cons_succ]
                refine wpAnyH_take (i := 9) (oi := { dst := some 118, op := Op.move (Operand.tmp 0), type := 22, pos := "law.go:58", after := #[{ on := 6, ground := Ground.guard }], guard := some (6, true) }) (v := undef) rfl (by kernel_rfl) (by kernel_rfl) (by kernel_rfl) (fun _ _ _ h => h) (Or.inr ⟨by rfl, rfl⟩) (by assumption) ?_
                try simp only [Act.put, List.setIfInBounds_toArray, List.set_cons_zero, List.set_cons_succ]
                refine wpAnyH_take (i := 10) (oi := { dst := some 119, op := Op.move (Operand.tmp 9), type := 3, pos := "law.go:58", after := #[{ on := 6, ground := Ground.guard }], guard := some (6, true) }) (v := undef) rfl (by kernel_rfl) (by kernel_rfl) (by kernel_rfl) (fun _ _ _ h => h) (Or.inr ⟨by rfl, rfl⟩) (by assumption) ?_
                try simp only [Act.put, List.setIfInBounds_toArray, List.set_cons_zero, List.set_cons_succ]
                refine wpAnyH_take (i := 11) (oi := { dst := some 120, op := Op.indexAddr 22 (Operand.tmp 118) (Operand.tmp 119), type := 0, pos := "law.go:58", after := #[{ on := 9, ground := Ground.data }, { on := 10, ground := Ground.data }, { on := 6, ground := Ground.guard }], guard := some (6, true) }) (v := undef) rfl (by kernel_rfl) (by kernel_rfl) (by kernel_rfl) (fun _ _ _ h => h) (Or.inr ⟨by rfl, rfl⟩) (by assumption) ?_
                try simp only [Act.put, List.setIfInBounds_toArray, List.set_cons_zero, List.set_cons_succ]
                refine wpAnyH_take (i := 12) (oi := { dst := some 121, op := Op.fieldAddr 33 (Operand.tmp 120) 1, type := 0, pos := "law.go:58", after := #[{ on := 11, ground := Ground.data }, { on := 6, ground := Ground.guard }], guard := some (6, true) }) (v := undef) rfl (by kernel_rfl) (by kernel_rfl) (by kernel_rfl) (fun _ _ _ h => h) (Or.inr ⟨by rfl, rfl⟩) (by assumption) ?_
                try simp only [Act.put, List.setIfInBounds_toArray, List.set_cons_zero, List.set_cons_succ]
                refine wpAnyH_take (i := 13) (oi := { dst := some 122, op := Op.load 3 (Operand.tmp 121), type := 3, pos := "law.go:58", after := #[{ on := 12, ground := Ground.data }, { on := 6, ground := Ground.guard }], guard := some (6, true) }) (v := undef) rfl (by kernel_rfl) (by kernel_rfl) (by kernel_rfl) (fun _ _ _ h => h) (Or.inr ⟨by rfl, rfl⟩) (by assumption) ?_
                try simp only [Act.put, List.setIfInBounds_toArray, List.set_cons_zero, List.set_cons_succ]
                refine wpAnyH_take (i := 14) (oi := { dst := some 123, op := Op.binOp BinOp.neq 3 (Operand.tmp 117) (Operand.tmp 122) 3, type := 4, pos := "law.go:58", after := #[{ on := 8, ground := Ground.data }, { on := 13, ground := Ground.data }, { on := 6, ground := Ground.guard }], guard := some (6, true) }) (v := undef) rfl (by kernel_rfl) (by kernel_rfl) (by kernel_rfl) (fun _ _ _ h => h) (Or.inr ⟨by rfl, rfl⟩) (by assumption) ?_
                try simp only [Act.put, List.setIfInBounds_toArray, List.set_cons_zero, List.set_cons_succ]
                refine wpAnyH_take (i := 15) (oi := { dst := some 124, op := Op.pick (Operand.tmp 115) (Operand.tmp 123) (Operand.const (Value.bool false)), type := 4, pos := "law.go:58", after := #[{ on := 6, ground := Ground.data }, { on := 14, ground := Ground.data }], guard := none }) (v := .bool false) rfl (by kernel_rfl) (by kernel_rfl) (by kernel_rfl) (fun _ _ _ h => h) (Or.inl ⟨by rfl, ?_⟩) (by assumption) ?_
                · intro W hSw; (try dsimp only at hSw); go_simp
                try simp only [Act.put, List.setIfInBounds_toArray, List.set_cons_zero, List.set_cons_succ]
                refine wpAnyH_take (i := 16) (oi := { dst := some 125, op := Op.move (Operand.tmp 124), type := 4, pos := "law.go:58", after := #[{ on := 15, ground := Ground.data }, { on := 8, ground := Ground.chain }], guard := none }) (v := .bool false) rfl (by kernel_rfl) (by kernel_rfl) (by kernel_rfl) (fun _ _ _ h => h) (Or.inl ⟨by rfl, ?_⟩) (by assumption) ?_
                · intro W hSw; (try dsimp only at hSw); go_simp
                try simp only [Act.put, List.setIfInBounds_toArray, List.set_cons_zero, List.set_cons_succ]
                refine wpAnyH_take (i := 17) (oi := { dst := some 126, op := Op.move (Operand.tmp 0), type := 22, pos := "law.go:58", after := #[{ on := 16, ground := Ground.guard }], guard := some (16, false) }) (v := .slice (some ⟨b, o, none⟩) j ck) rfl (by kernel_rfl) (by kernel_rfl) (by kernel_rfl) (fun _ _ _ h => h) (Or.inl ⟨by rfl, ?_⟩) (by assumption) ?_
                · intro W hSw; (try dsimp only at hSw); go_simp
                try simp only [Act.put, List.setIfInBounds_toArray, List.set_cons_zero, List.set_cons_succ]
                refine wpAnyH_take (i := 18) (oi := { dst := some 127, op := Op.move (Operand.tmp 9), type := 3, pos := "law.go:58", after := #[{ on := 16, ground := Ground.guard }], guard := some (16, false) }) (v := .int .i64 (j' : Int)) rfl (by kernel_rfl) (by kernel_rfl) (by kernel_rfl) (fun _ _ _ h => h) (Or.inl ⟨by rfl, ?_⟩) (by assumption) ?_
                · intro W hSw; (try dsimp only at hSw); go_simp
                try simp only [Act.put, List.setIfInBounds_toArray, List.set_cons_zero, List.set_cons_succ]
                refine wpAnyH_take (i := 19) (oi := { dst := some 128, op := Op.indexAddr 22 (Operand.tmp 126) (Operand.tmp 127), type := 0, pos := "law.go:58", after := #[{ on := 17, ground := Ground.data }, { on := 18, ground := Ground.data }, { on := 16, ground := Ground.guard }], guard := some (16, false) }) (v := .pointer (some ⟨b, o + j' * 4, none⟩)) rfl (by kernel_rfl) (by kernel_rfl) (by kernel_rfl) (fun _ _ _ h => h) (Or.inl ⟨by rfl, ?_⟩) (by assumption) ?_
                · intro W hSw; (try dsimp only at hSw); go_simp
                try simp only [Act.put, List.setIfInBounds_toArray, List.set_cons_zero, List.set_cons_succ]
                refine wpAnyH_take (i := 20) (oi := { dst := some 129, op := Op.fieldAddr 33 (Operand.tmp 128) 0, type := 0, pos := "law.go:58", after := #[{ on := 19, ground := Ground.data }, { on := 16, ground := Ground.guard }], guard := some (16, false) }) (v := .pointer (some ⟨b, o + j' * 4, none⟩)) rfl (by kernel_rfl) (by kernel_rfl) (by kernel_rfl) (fun _ _ _ h => h) (Or.inl ⟨by rfl, ?_⟩) (by assumption) ?_
                · intro W hSw; (try dsimp only at hSw); go_simp
                try simp only [Act.put, List.setIfInBounds_toArray, List.set_cons_zero, List.set_cons_succ]
                refine wpAnyH_take (i := 21) (oi := { dst := some 130, op := Op.load 3 (Operand.tmp 129), type := 3, pos := "law.go:58", after := #[{ on := 20, ground := Ground.data }, { on := 16, ground := Ground.guard }], guard := some (16, false) }) (v := .int .i64 1) rfl (by kernel_rfl) (by kernel_rfl) (by kernel_rfl) (fun _ _ _ h => h) (Or.inl ⟨by rfl, ?_⟩) (by assumption) ?_
                · intro W hSw; (try dsimp only at hSw); go_simp
                try simp only [Act.put, List.setIfInBounds_toArray, List.set_cons_zero, List.set_cons_succ]
                refine wpAnyH_take (i := 22) (oi := { dst := some 131, op := Op.binOp BinOp.eql 3 (Operand.tmp 130) (Operand.const (Value.int IntKind.i64 1)) 3, type := 4, pos := "law.go:58", after := #[{ on := 21, ground := Ground.data }, { on := 16, ground := Ground.guard }], guard := some (16, false) }) (v := .bool true) rfl (by kernel_rfl) (by kernel_rfl) (by kernel_rfl) (fun _ _ _ h => h) (Or.inl ⟨by rfl, ?_⟩) (by assumption) ?_
                · intro W hSw; (try dsimp only at hSw); go_simp
                try simp only [Act.put, List.setIfInBounds_toArray, List.set_cons_zero, List.set_cons_succ]
                refine wpAnyH_take (i := 23) (oi := { dst := some 132, op := Op.move (Operand.tmp 131), type := 4, pos := "law.go:58", after := #[{ on := 22, ground := Ground.data }, { on := 16, ground := Ground.chain }, { on := 16, ground := Ground.guard }], guard := some (16, false) }) (v := .bool true) rfl (by kernel_rfl) (by kernel_rfl) (by kernel_rfl) (fun _ _ _ h => h) (Or.inl ⟨by rfl, ?_⟩) (by assumption) ?_
                · intro W hSw; (try dsimp only at hSw); go_simp
                try simp only [Act.put, List.setIfInBounds_toArray, List.set_cons_zero, List.set_cons_succ]
                refine wpAnyH_take (i := 24) (oi := { dst := some 133, op := Op.move (Operand.tmp 8), type := 38, pos := "law.go:58", after := #[{ on := 23, ground := Ground.guard }], guard := some (23, true) }) (v := .pointer (some ⟨g, 0, none⟩)) rfl (by kernel_rfl) (by kernel_rfl) (by kernel_rfl) (fun _ _ _ h => h) (Or.inl ⟨by rfl, ?_⟩) (by assumption) ?_
                · intro W hSw; (try dsimp only at hSw); go_simp
                try simp only [Act.put, List.setIfInBounds_toArray, List.set_cons_zero, List.set_cons_succ]
                refine wpAnyH_take (i := 26) (oi := { dst := some 135, op := Op.move (Operand.tmp 0), type := 22, pos := "law.go:58", after := #[{ on := 23, ground := Ground.guard }], guard := some (23, true) }) (v := .slice (some ⟨b, o, none⟩) j ck) rfl (by kernel_rfl) (by kernel_rfl) (by kernel_rfl) (fun _ _ _ h => h) (Or.inl ⟨by rfl, ?_⟩) (by assumption) ?_
                · intro W hSw; (try dsimp only at hSw); go_simp
                try simp only [Act.put, List.setIfInBounds_toArray, List.set_cons_zero, List.set_cons_succ]
                refine wpAnyH_take (i := 27) (oi := { dst := some 136, op := Op.move (Operand.tmp 9), type := 3, pos := "law.go:58", after := #[{ on := 23, ground := Ground.guard }], guard := some (23, true) }) (v := .int .i64 (j' : Int)) rfl (by kernel_rfl) (by kernel_rfl) (by kernel_rfl) (fun _ _ _ h => h) (Or.inl ⟨by rfl, ?_⟩) (by assumption) ?_
                · intro W hSw; (try dsimp only at hSw); go_simp
                try simp only [Act.put, List.setIfInBounds_toArray, List.set_cons_zero, List.set_cons_succ]
                refine wpAnyH_take (i := 28) (oi := { dst := some 137, op := Op.indexAddr 22 (Operand.tmp 135) (Operand.tmp 136), type := 0, pos := "law.go:58", after := #[{ on := 26, ground := Ground.data }, { on := 27, ground := Ground.data }, { on := 23, ground := Ground.guard }], guard := some (23, true) }) (v := .pointer (some ⟨b, o + j' * 4, none⟩)) rfl (by kernel_rfl) (by kernel_rfl) (by kernel_rfl) (fun _ _ _ h => h) (Or.inl ⟨by rfl, ?_⟩) (by assumption) ?_
                · intro W hSw; (try dsimp only at hSw); go_simp
                try simp only [Act.put, List.setIfInBounds_toArray, List.set_cons_zero, List.set_cons_succ]
                refine wpAnyH_take (i := 29) (oi := { dst := some 138, op := Op.fieldAddr 33 (Operand.tmp 137) 2, type := 0, pos := "law.go:58", after := #[{ on := 28, ground := Ground.data }, { on := 23, ground := Ground.guard }], guard := some (23, true) }) (v := .pointer (some ⟨b, o + j' * 4 + 2, none⟩)) rfl (by kernel_rfl) (by kernel_rfl) (by kernel_rfl) (fun _ _ _ h => h) (Or.inl ⟨by rfl, ?_⟩) (by assumption) ?_
                · intro W hSw; (try dsimp only at hSw); go_simp
                try simp only [Act.put, List.setIfInBounds_toArray, List.set_cons_zero, List.set_cons_succ]
                refine wpAnyH_take (i := 30) (oi := { dst := some 139, op := Op.load 9 (Operand.tmp 138), type := 9, pos := "law.go:58", after := #[{ on := 29, ground := Ground.data }, { on := 23, ground := Ground.guard }], guard := some (23, true) }) (v := .string s) rfl (by kernel_rfl) (by kernel_rfl) (by kernel_rfl) (fun _ _ _ h => h) (Or.inl ⟨by rfl, ?_⟩) (by assumption) ?_
                · intro W hSw; (try dsimp only at hSw); go_simp
                try simp only [Act.put, List.setIfInBounds_toArray, List.set_cons_zero, List.set_cons_succ]
                refine wpAnyH_ready (rs := [25]) (by kernel_rfl) (by simp) ?_
                refine AllReadyH.cons (o := { dst := some 134, op := Op.call { callee := Callee.value (Operand.func 17), args := #[Operand.tmp 133], argTypes := #[38] }, type := 9, pos := "law.go:58", after := #[{ on := 24, ground := Ground.data }, { on := 23, ground := Ground.chain }, { on := 23, ground := Ground.guard }], guard := some (23, true) }) rfl (fun K hK => ?_) AllReadyH.nil
                go_simp
                refine (rdText_s HRD.out EF.out).mono ?_
                rintro e w' ⟨rfl, hr', hk'⟩
                try dsimp only
                refine hK.out _ _ ?_ (fun hHeld2 => ?_)
                · exact cells_but hbg hk' hHeld
                clear hK K hHeld
                try simp only [Act.put, List.setIfInBounds_toArray, List.set_cons_zero, List.set_cons_succ]
                refine wpAnyH_take (i := 31) (oi := { dst := some 140, op := Op.binOp BinOp.neq 9 (Operand.tmp 134) (Operand.tmp 139) 9, type := 4, pos := "law.go:58", after := #[{ on := 25, ground := Ground.data }, { on := 30, ground := Ground.data }, { on := 23, ground := Ground.guard }], guard := some (23, true) }) (v := .bool false) rfl (by kernel_rfl) (by kernel_rfl) (by kernel_rfl) (fun _ _ _ h => h) (Or.inl ⟨by rfl, ?_⟩) (by assumption) ?_
                · intro W hSw; (try dsimp only at hSw); go_simp
                try simp only [Act.put, List.setIfInBounds_toArray, List.set_cons_zero, List.set_cons_succ]
                refine wpAnyH_take (i := 32) (oi := { dst := some 141, op := Op.pick (Operand.tmp 132) (Operand.tmp 140) (Operand.const (Value.bool false)), type := 4, pos := "law.go:58", after := #[{ on := 23, ground := Ground.data }, { on := 31, ground := Ground.data }, { on := 16, ground := Ground.guard }], guard := some (16, false) }) (v := .bool false) rfl (by kernel_rfl) (by kernel_rfl) (by kernel_rfl) (fun _ _ _ h => h) (Or.inl ⟨by rfl, ?_⟩) (by assumption) ?_
                · intro W hSw; (try dsimp only at hSw); go_simp
                try simp only [Act.put, List.setIfInBounds_toArray, List.set_cons_zero, List.set_cons_succ]
                refine wpAnyH_take (i := 33) (oi := { dst := some 142, op := Op.pick (Operand.tmp 125) (Operand.const (Value.bool true)) (Operand.tmp 141), type := 4, pos := "law.go:58", after := #[{ on := 16, ground := Ground.data }, { on := 32, ground := Ground.data }], guard := none }) (v := .bool false) rfl (by kernel_rfl) (by kernel_rfl) (by kernel_rfl) (fun _ _ _ h => h) (Or.inl ⟨by rfl, ?_⟩) (by assumption) ?_
                · intro W hSw; (try dsimp only at hSw); go_simp
                try simp only [Act.put, List.setIfInBounds_toArray, List.set_cons_zero, List.set_cons_succ]
                refine wpAnyH_take (i := 34) (oi := { dst := some 143, op := Op.move (Operand.tmp 142), type := 4, pos := "law.go:58", after := #[{ on := 33, ground := Ground.data }, { on := 25, ground := Ground.chain }], guard := none }) (v := .bool false) rfl (by kernel_rfl) (by kernel_rfl) (by kernel_rfl) (fun _ _ _ h => h) (Or.inl ⟨by rfl, ?_⟩) (by assumption) ?_
                · intro W hSw; (try dsimp only at hSw); go_simp
                try simp only [Act.put, List.setIfInBounds_toArray, List.set_cons_zero, List.set_cons_succ]
                refine wpAnyH_take (i := 35) (oi := { dst := some 144, op := Op.move (Operand.tmp 0), type := 22, pos := "law.go:58", after := #[{ on := 34, ground := Ground.guard }], guard := some (34, false) }) (v := .slice (some ⟨b, o, none⟩) j ck) rfl (by kernel_rfl) (by kernel_rfl) (by kernel_rfl) (fun _ _ _ h => h) (Or.inl ⟨by rfl, ?_⟩) (by assumption) ?_
                · intro W hSw; (try dsimp only at hSw); go_simp
                try simp only [Act.put, List.setIfInBounds_toArray, List.set_cons_zero, List.set_cons_succ]
                refine wpAnyH_take (i := 36) (oi := { dst := some 145, op := Op.move (Operand.tmp 9), type := 3, pos := "law.go:58", after := #[{ on := 34, ground := Ground.guard }], guard := some (34, false) }) (v := .int .i64 (j' : Int)) rfl (by kernel_rfl) (by kernel_rfl) (by kernel_rfl) (fun _ _ _ h => h) (Or.inl ⟨by rfl, ?_⟩) (by assumption) ?_
                · intro W hSw; (try dsimp only at hSw); go_simp
                try simp only [Act.put, List.setIfInBounds_toArray, List.set_cons_zero, List.set_cons_succ]
                refine wpAnyH_take (i := 37) (oi := { dst := some 146, op := Op.indexAddr 22 (Operand.tmp 144) (Operand.tmp 145), type := 0, pos := "law.go:58", after := #[{ on := 35, ground := Ground.data }, { on := 36, ground := Ground.data }, { on := 34, ground := Ground.guard }], guard := some (34, false) }) (v := .pointer (some ⟨b, o + j' * 4, none⟩)) rfl (by kernel_rfl) (by kernel_rfl) (by kernel_rfl) (fun _ _ _ h => h) (Or.inl ⟨by rfl, ?_⟩) (by assumption) ?_
                · intro W hSw; (try dsimp only at hSw); go_simp
                try simp only [Act.put, List.setIfInBounds_toArray, List.set_cons_zero, List.set_cons_succ]
                refine wpAnyH_take (i := 38) (oi := { dst := some 147, op := Op.fieldAddr 33 (Operand.tmp 146) 0, type := 0, pos := "law.go:58", after := #[{ on := 37, ground := Ground.data }, { on := 34, ground := Ground.guard }], guard := some (34, false) }) (v := .pointer (some ⟨b, o + j' * 4, none⟩)) rfl (by kernel_rfl) (by kernel_rfl) (by kernel_rfl) (fun _ _ _ h => h) (Or.inl ⟨by rfl, ?_⟩) (by assumption) ?_
                · intro W hSw; (try dsimp only at hSw); go_simp
                try simp only [Act.put, List.setIfInBounds_toArray, List.set_cons_zero, List.set_cons_succ]
                refine wpAnyH_take (i := 39) (oi := { dst := some 148, op := Op.load 3 (Operand.tmp 147), type := 3, pos := "law.go:58", after := #[{ on := 38, ground := Ground.data }, { on := 34, ground := Ground.guard }], guard := some (34, false) }) (v := .int .i64 1) rfl (by kernel_rfl) (by kernel_rfl) (by kernel_rfl) (fun _ _ _ h => h) (Or.inl ⟨by rfl, ?_⟩) (by assumption) ?_
                · intro W hSw; (try dsimp only at hSw); go_simp
                try simp only [Act.put, List.setIfInBounds_toArray, List.set_cons_zero, List.set_cons_succ]
                refine wpAnyH_take (i := 40) (oi := { dst := some 149, op := Op.binOp BinOp.eql 3 (Operand.tmp 148) (Operand.const (Value.int IntKind.i64 2)) 3, type := 4, pos := "law.go:58", after := #[{ on := 39, ground := Ground.data }, { on := 34, ground := Ground.guard }], guard := some (34, false) }) (v := .bool false) rfl (by kernel_rfl) (by kernel_rfl) (by kernel_rfl) (fun _ _ _ h => h) (Or.inl ⟨by rfl, ?_⟩) (by assumption) ?_
                · intro W hSw; (try dsimp only at hSw); go_simp
                try simp only [Act.put, List.setIfInBounds_toArray, List.set_cons_zero, List.set_cons_succ]
                refine wpAnyH_take (i := 41) (oi := { dst := some 150, op := Op.move (Operand.tmp 149), type := 4, pos := "law.go:58", after := #[{ on := 40, ground := Ground.data }, { on := 34, ground := Ground.chain }, { on := 34, ground := Ground.guard }], guard := some (34, false) }) (v := .bool false) rfl (by kernel_rfl) (by kernel_rfl) (by kernel_rfl) (fun _ _ _ h => h) (Or.inl ⟨by rfl, ?_⟩) (by assumption) ?_
                · intro W hSw; (try dsimp only at hSw); go_simp
                try simp only [Act.put, List.setIfInBounds_toArray, List.set_cons_zero, List.set_cons_succ]
                refine wpAnyH_take (i := 42) (oi := { dst := some 151, op := Op.move (Operand.tmp 8), type := 38, pos := "law.go:58", after := #[{ on := 41, ground := Ground.guard }], guard := some (41, true) }) (v := undef) rfl (by kernel_rfl) (by kernel_rfl) (by kernel_rfl) (fun _ _ _ h => h) (Or.inr ⟨by rfl, rfl⟩) (by assumption) ?_
                try simp only [Act.put, List.setIfInBounds_toArray, List.set_cons_zero, List.set_cons_succ]
                refine wpAnyH_take (i := 43) (oi := { dst := some 152, op := Op.call { callee := Callee.value (Operand.func 18), args := #[Operand.tmp 151], argTypes := #[38] }, type := 4, pos := "law.go:58", after := #[{ on := 42, ground := Ground.data }, { on := 41, ground := Ground.chain }, { on := 41, ground := Ground.guard }], guard := some (41, true) }) (v := undef) rfl (by kernel_rfl) (by kernel_rfl) (by kernel_rfl) (fun _ _ _ h => h) (Or.inr ⟨by rfl, rfl⟩) (by assumption) ?_
                try simp only [Act.put, List.setIfInBounds_toArray, List.set_cons_zero, List.set_cons_succ]
                refine wpAnyH_take (i := 44) (oi := { dst := some 153, op := Op.move (Operand.tmp 0), type := 22, pos := "law.go:58", after := #[{ on := 41, ground := Ground.guard }], guard := some (41, true) }) (v := undef) rfl (by kernel_rfl) (by kernel_rfl) (by kernel_rfl) (fun _ _ _ h => h) (Or.inr ⟨by rfl, rfl⟩) (by assumption) ?_
                try simp only [Act.put, List.setIfInBounds_toArray, List.set_cons_zero, List.set_cons_succ]
                refine wpAnyH_take (i := 45) (oi := { dst := some 154, op := Op.move (Operand.tmp 9), type := 3, pos := "law.go:58", after := #[{ on := 41, ground := Ground.guard }], guard := some (41, true) }) (v := undef) rfl (by kernel_rfl) (by kernel_rfl) (by kernel_rfl) (fun _ _ _ h => h) (Or.inr ⟨by rfl, rfl⟩) (by assumption) ?_
                try simp only [Act.put, List.setIfInBounds_toArray, List.set_cons_zero, List.set_cons_succ]
                refine wpAnyH_take (i := 46) (oi := { dst := some 155, op := Op.indexAddr 22 (Operand.tmp 153) (Operand.tmp 154), type := 0, pos := "law.go:58", after := #[{ on := 44, ground := Ground.data }, { on := 45, ground := Ground.data }, { on := 41, ground := Ground.guard }], guard := some (41, true) }) (v := undef) rfl (by kernel_rfl) (by kernel_rfl) (by kernel_rfl) (fun _ _ _ h => h) (Or.inr ⟨by rfl, rfl⟩) (by assumption) ?_
                try simp only [Act.put, List.setIfInBounds_toArray, List.set_cons_zero, List.set_cons_succ]
                refine wpAnyH_take (i := 47) (oi := { dst := some 156, op := Op.fieldAddr 33 (Operand.tmp 155) 3, type := 0, pos := "law.go:58", after := #[{ on := 46, ground := Ground.data }, { on := 41, ground := Ground.guard }], guard := some (41, true) }) (v := undef) rfl (by kernel_rfl) (by kernel_rfl) (by kernel_rfl) (fun _ _ _ h => h) (Or.inr ⟨by rfl, rfl⟩) (by assumption) ?_
                try simp only [Act.put, List.setIfInBounds_toArray, List.set_cons_zero, List.set_cons_succ]
                refine wpAnyH_take (i := 48) (oi := { dst := some 157, op := Op.load 4 (Operand.tmp 156), type := 4, pos := "law.go:58", after := #[{ on := 47, ground := Ground.data }, { on := 41, ground := Ground.guard }], guard := some (41, true) }) (v := undef) rfl (by kernel_rfl) (by kernel_rfl) (by kernel_rfl) (fun _ _ _ h => h) (Or.inr ⟨by rfl, rfl⟩) (by assumption) ?_
                try simp only [Act.put, List.setIfInBounds_toArray, List.set_cons_zero, List.set_cons_succ]
                refine wpAnyH_take (i := 49) (oi := { dst := some 158, op := Op.binOp BinOp.neq 4 (Operand.tmp 152) (Operand.tmp 157) 4, type := 4, pos := "law.go:58", after := #[{ on := 43, ground := Ground.data }, { on := 48, ground := Ground.data }, { on := 41, ground := Ground.guard }], guard := some (41, true) }) (v := undef) rfl (by kernel_rfl) (by kernel_rfl) (by kernel_rfl) (fun _ _ _ h => h) (Or.inr ⟨by rfl, rfl⟩) (by assumption) ?_
                try simp only [Act.put, List.setIfInBounds_toArray, List.set_cons_zero, List.set_cons_succ]
                refine wpAnyH_take (i := 50) (oi := { dst := some 159, op := Op.pick (Operand.tmp 150) (Operand.tmp 158) (Operand.const (Value.bool false)), type := 4, pos := "law.go:58", after := #[{ on := 41, ground := Ground.data }, { on := 49, ground := Ground.data }, { on := 34, ground := Ground.guard }], guard := some (34, false) }) (v := .bool false) rfl (by kernel_rfl) (by kernel_rfl) (by kernel_rfl) (fun _ _ _ h => h) (Or.inl ⟨by rfl, ?_⟩) (by assumption) ?_
                · intro W hSw; (try dsimp only at hSw); go_simp
                try simp only [Act.put, List.setIfInBounds_toArray, List.set_cons_zero, List.set_cons_succ]
                refine wpAnyH_take (i := 51) (oi := { dst := some 160, op := Op.pick (Operand.tmp 143) (Operand.const (Value.bool true)) (Operand.tmp 159), type := 4, pos := "law.go:58", after := #[{ on := 34, ground := Ground.data }, { on := 50, ground := Ground.data }], guard := none }) (v := .bool false) rfl (by kernel_rfl) (by kernel_rfl) (by kernel_rfl) (fun _ _ _ h => h) (Or.inl ⟨by rfl, ?_⟩) (by assumption) ?_
                · intro W hSw; (try dsimp only at hSw); go_simp
                try simp only [Act.put, List.setIfInBounds_toArray, List.set_cons_zero, List.set_cons_succ]
                refine wpAnyH_done (by kernel_rfl) ?_ _
                have R' := Lib.hid hr'
                have K' := Lib.hid (HKD.out.trans (hk'.lo hg0))
                clear hr' hk' hHeld2 d0 d1 d2 d3 HRD HKD EF
                go_wp2
                go_roundw
                case rel => exact ⟨j' + 1, by omega, by go_num, by rw [HREST.out]; exact R'.out, K'.out⟩
                case measure => simp [intOf]; omega
              · by_cases hw2 : way = 2
                · subst hw2
                  have hrd : ReaderAt 55 wr.drew g g ⟨encFlag ok ++ rest, false⟩ := hR2
                  have HRD := Lib.hid hrd
                  have HKD := Lib.hid HK.out.drew
                  have EF := Lib.hid (flag_front ok rest)
                  clear hR2 hrd HK
                  go_wp2_with fail
                  refine wp_region_held_drew (S := fun w' => w'.cell? ⟨b, o + j' * 4, none⟩ = some (.int .i64 2) ∧ w'.cell? ⟨b, o + j' * 4 + 3, none⟩ = some (.bool ok)) (by kernel_rfl) ?_ (fun hHeld => ?_)
                  · exact ⟨d0, d3⟩
                  refine wpAnyH_take (i := 0) (oi := { dst := some 109, op := Op.move (Operand.tmp 0), type := 22, pos := "law.go:58", after := #[], guard := none }) (v := .slice (some ⟨b, o, none⟩) j ck) rfl (by kernel_rfl) (by kernel_rfl) (by kernel_rfl) (fun _ _ _ h => h) (Or.inl ⟨by rfl, ?_⟩) (by assumption) ?_
                  · intro W hSw; (try dsimp only at hSw); go_simp
                  try simp only [Act.put, List.setIfInBounds_toArray, List.set_cons_zero, List.set_cons_succ]
                  refine wpAnyH_take (i := 1) (oi := { dst := some 110, op := Op.move (Operand.tmp 9), type := 3, pos := "law.go:58", after := #[], guard := none }) (v := .int .i64 (j' : Int)) rfl (by kernel_rfl) (by kernel_rfl) (by kernel_rfl) (fun _ _ _ h => h) (Or.inl ⟨by rfl, ?_⟩) (by assumption) ?_
                  · intro W hSw; (try dsimp only at hSw); go_simp
                  try simp only [Act.put, List.setIfInBounds_toArray, List.set_cons_zero, List.set_cons_succ]
                  refine wpAnyH_take (i := 2) (oi := { dst := some 111, op := Op.indexAddr 22 (Operand.tmp 109) (Operand.tmp 110), type := 0, pos := "law.go:58", after := #[{ on := 0, ground := Ground.data }, { on := 1, ground := Ground.data }], guard := none }) (v := .pointer (some ⟨b, o + j' * 4, none⟩)) rfl (by kernel_rfl) (by kernel_rfl) (by kernel_rfl) (fun _ _ _ h => h) (Or.inl ⟨by rfl, ?_⟩) (by assumption) ?_
                  · intro W hSw; (try dsimp only at hSw); go_simp
                  try simp only [Act.put, List.setIfInBounds_toArray, List.set_cons_zero, List.set_cons_succ]
                  refine wpAnyH_take (i := 3) (oi := { dst := some 112, op := Op.fieldAddr 33 (Operand.tmp 111) 0, type := 0, pos := "law.go:58", after := #[{ on := 2, ground := Ground.data }], guard := none }) (v := .pointer (some ⟨b, o + j' * 4, none⟩)) rfl (by kernel_rfl) (by kernel_rfl) (by kernel_rfl) (fun _ _ _ h => h) (Or.inl ⟨by rfl, ?_⟩) (by assumption) ?_
                  · intro W hSw; (try dsimp only at hSw); go_simp
                  try simp only [Act.put, List.setIfInBounds_toArray, List.set_cons_zero, List.set_cons_succ]
                  refine wpAnyH_take (i := 4) (oi := { dst := some 113, op := Op.load 3 (Operand.tmp 112), type := 3, pos := "law.go:58", after := #[{ on := 3, ground := Ground.data }], guard := none }) (v := .int .i64 2) rfl (by kernel_rfl) (by kernel_rfl) (by kernel_rfl) (fun _ _ _ h => h) (Or.inl ⟨by rfl, ?_⟩) (by assumption) ?_
                  · intro W hSw; (try dsimp only at hSw); go_simp
                  try simp only [Act.put, List.setIfInBounds_toArray, List.set_cons_zero, List.set_cons_succ]
                  refine wpAnyH_take (i := 5) (oi := { dst := some 114, op := Op.binOp BinOp.eql 3 (Operand.tmp 113) (Operand.const (Value.int IntKind.i64 0)) 3, type := 4, pos := "law.go:58", after := #[{ on := 4, ground := Ground.data }], guard := none }) (v := .bool false) rfl (by kernel_rfl) (by kernel_rfl) (by kernel_rfl) (fun _ _ _ h => h) (Or.inl ⟨by rfl, ?_⟩) (by assumption) ?_
                  · intro W hSw; (try dsimp only at hSw); go_simp
                  try simp only [Act.put, List.setIfInBounds_toArray, List.set_cons_zero, List.set_cons_succ]
                  refine wpAnyH_take (i := 6) (oi := { dst := some 115, op := Op.move (Operand.tmp 114), type := 4, pos := "law.go:58", after := #[{ on := 5, ground := Ground.data }], guard := none }) (v := .bool false) rfl (by kernel_rfl) (by kernel_rfl) (by kernel_rfl) (fun _ _ _ h => h) (Or.inl ⟨by rfl, ?_⟩) (by assumption) ?_
                  · intro W hSw; (try dsimp only at hSw); go_simp
                  try simp only [Act.put, List.setIfInBounds_toArray, List.set_cons_zero, List.set_cons_succ]
                  refine wpAnyH_take (i := 7) (oi := { dst := some 116, op := Op.move (Operand.tmp 8), type := 38, pos := "law.go:58", after := #[{ on := 6, ground := Ground.guard }], guard := some (6, true) }) (v := undef) rfl (by kernel_rfl) (by kernel_rfl) (by kernel_rfl) (fun _ _ _ h => h) (Or.inr ⟨by rfl, rfl⟩) (by assumption) ?_
                  try simp only [Act.put, List.setIfInBounds_toArray, List.set_cons_zero, List.set_cons_succ]
                  refine wpAnyH_take (i := 8) (oi := { dst := some 117, op := Op.call { callee := Callee.value (Operand.func 16), args := #[Operand.tmp 116], argTypes := #[38] }, type := 3, pos := "law.go:58", after := #[{ on := 7, ground := Ground.data }, { on := 6, ground := Ground.chain }, { on := 6, ground := Ground.guard }], guard := some (6, true) }) (v := undef) rfl (by kernel_rfl) (by kernel_rfl) (by kernel_rfl) (fun _ _ _ h => h) (Or.inr ⟨by rfl, rfl⟩) (by assumption) ?_
                  try simp only [Act.put, List.setIfInBounds_toArray, List.set_cons_zero, List.set_cons_succ]
                  refine wpAnyH_take (i := 9) (oi := { dst := some 118, op := Op.move (Operand.tmp 0), type := 22, pos := "law.go:58", after := #[{ on := 6, ground := Ground.guard }], guard := some (6, true) }) (v := undef) rfl (by kernel_rfl) (by kernel_rfl) (by kernel_rfl) (fun _ _ _ h => h) (Or.inr ⟨by rfl, rfl⟩) (by assumption) ?_
                  try simp only [Act.put, List.setIfInBounds_toArray, List.set_cons_zero, List.set_cons_succ]
                  refine wpAnyH_take (i := 10) (oi := { dst := some 119, op := Op.move (Operand.tmp 9), type := 3, pos := "law.go:58", after := #[{ on := 6, ground := Ground.guard }], guard := some (6, true) }) (v := undef) rfl (by kernel_rfl) (by kernel_rfl) (by kernel_rfl) (fun _ _ _ h => h) (Or.inr ⟨by rfl, rfl⟩) (by assumption) ?_
                  try simp only [Act.put, List.setIfInBounds_toArray, List.set_cons_zero, List.set_cons_succ]
                  refine wpAnyH_take (i := 11) (oi := { dst := some 120, op := Op.indexAddr 22 (Operand.tmp 118) (Operand.tmp 119), type := 0, pos := "law.go:58", after := #[{ on := 9, ground := Ground.data }, { on := 10, ground := Ground.data }, { on := 6, ground := Ground.guard }], guard := some (6, true) }) (v := undef) rfl (by kernel_rfl) (by kernel_rfl) (by kernel_rfl) (fun _ _ _ h => h) (Or.inr ⟨by rfl, rfl⟩) (by assumption) ?_
                  try simp only [Act.put, List.setIfInBounds_toArray, List.set_cons_zero, List.set_cons_succ]
                  refine wpAnyH_take (i := 12) (oi := { dst := some 121, op := Op.fieldAddr 33 (Operand.tmp 120) 1, type := 0, pos := "law.go:58", after := #[{ on := 11, ground := Ground.data }, { on := 6, ground := Ground.guard }], guard := some (6, true) }) (v := undef) rfl (by kernel_rfl) (by kernel_rfl) (by kernel_rfl) (fun _ _ _ h => h) (Or.inr ⟨by rfl, rfl⟩) (by assumption) ?_
                  try simp only [Act.put, List.setIfInBounds_toArray, List.set_cons_zero, List.set_cons_succ]
                  refine wpAnyH_take (i := 13) (oi := { dst := some 122, op := Op.load 3 (Operand.tmp 121), type := 3, pos := "law.go:58", after := #[{ on := 12, ground := Ground.data }, { on := 6, ground := Ground.guard }], guard := some (6, true) }) (v := undef) rfl (by kernel_rfl) (by kernel_rfl) (by kernel_rfl) (fun _ _ _ h => h) (Or.inr ⟨by rfl, rfl⟩) (by assumption) ?_
                  try simp only [Act.put, List.setIfInBounds_toArray, List.set_cons_zero, List.set_cons_succ]
                  refine wpAnyH_take (i := 14) (oi := { dst := some 123, op := Op.binOp BinOp.neq 3 (Operand.tmp 117) (Operand.tmp 122) 3, type := 4, pos := "law.go:58", after := #[{ on := 8, ground := Ground.data }, { on := 13, ground := Ground.data }, { on := 6, ground := Ground.guard }], guard := some (6, true) }) (v := undef) rfl (by kernel_rfl) (by kernel_rfl) (by kernel_rfl) (fun _ _ _ h => h) (Or.inr ⟨by rfl, rfl⟩) (by assumption) ?_
                  try simp only [Act.put, List.setIfInBounds_toArray, List.set_cons_zero, List.set_cons_succ]
                  refine wpAnyH_take (i := 15) (oi := { dst := some 124, op := Op.pick (Operand.tmp 115) (Operand.tmp 123) (Operand.const (Value.bool false)), type := 4, pos := "law.go:58", after := #[{ on := 6, ground := Ground.data }, { on := 14, ground := Ground.data }], guard := none }) (v := .bool false) rfl (by kernel_rfl) (by kernel_rfl) (by kernel_rfl) (fun _ _ _ h => h) (Or.inl ⟨by rfl, ?_⟩) (by assumption) ?_
                  · intro W hSw; (try dsimp only at hSw); go_simp
                  try simp only [Act.put, List.setIfInBounds_toArray, List.set_cons_zero, List.set_cons_succ]
                  refine wpAnyH_take (i := 16) (oi := { dst := some 125, op := Op.move (Operand.tmp 124), type := 4, pos := "law.go:58", after := #[{ on := 15, ground := Ground.data }, { on := 8, ground := Ground.chain }], guard := none }) (v := .bool false) rfl (by kernel_rfl) (by kernel_rfl) (by kernel_rfl) (fun _ _ _ h => h) (Or.inl ⟨by rfl, ?_⟩) (by assumption) ?_
                  · intro W hSw; (try dsimp only at hSw); go_simp
                  try simp only [Act.put, List.setIfInBounds_toArray, List.set_cons_zero, List.set_cons_succ]
                  refine wpAnyH_take (i := 17) (oi := { dst := some 126, op := Op.move (Operand.tmp 0), type := 22, pos := "law.go:58", after := #[{ on := 16, ground := Ground.guard }], guard := some (16, false) }) (v := .slice (some ⟨b, o, none⟩) j ck) rfl (by kernel_rfl) (by kernel_rfl) (by kernel_rfl) (fun _ _ _ h => h) (Or.inl ⟨by rfl, ?_⟩) (by assumption) ?_
                  · intro W hSw; (try dsimp only at hSw); go_simp
                  try simp only [Act.put, List.setIfInBounds_toArray, List.set_cons_zero, List.set_cons_succ]
                  refine wpAnyH_take (i := 18) (oi := { dst := some 127, op := Op.move (Operand.tmp 9), type := 3, pos := "law.go:58", after := #[{ on := 16, ground := Ground.guard }], guard := some (16, false) }) (v := .int .i64 (j' : Int)) rfl (by kernel_rfl) (by kernel_rfl) (by kernel_rfl) (fun _ _ _ h => h) (Or.inl ⟨by rfl, ?_⟩) (by assumption) ?_
                  · intro W hSw; (try dsimp only at hSw); go_simp
                  try simp only [Act.put, List.setIfInBounds_toArray, List.set_cons_zero, List.set_cons_succ]
                  refine wpAnyH_take (i := 19) (oi := { dst := some 128, op := Op.indexAddr 22 (Operand.tmp 126) (Operand.tmp 127), type := 0, pos := "law.go:58", after := #[{ on := 17, ground := Ground.data }, { on := 18, ground := Ground.data }, { on := 16, ground := Ground.guard }], guard := some (16, false) }) (v := .pointer (some ⟨b, o + j' * 4, none⟩)) rfl (by kernel_rfl) (by kernel_rfl) (by kernel_rfl) (fun _ _ _ h => h) (Or.inl ⟨by rfl, ?_⟩) (by assumption) ?_
                  · intro W hSw; (try dsimp only at hSw); go_simp
                  try simp only [Act.put, List.setIfInBounds_toArray, List.set_cons_zero, List.set_cons_succ]
                  refine wpAnyH_take (i := 20) (oi := { dst := some 129, op := Op.fieldAddr 33 (Operand.tmp 128) 0, type := 0, pos := "law.go:58", after := #[{ on := 19, ground := Ground.data }, { on := 16, ground := Ground.guard }], guard := some (16, false) }) (v := .pointer (some ⟨b, o + j' * 4, none⟩)) rfl (by kernel_rfl) (by kernel_rfl) (by kernel_rfl) (fun _ _ _ h => h) (Or.inl ⟨by rfl, ?_⟩) (by assumption) ?_
                  · intro W hSw; (try dsimp only at hSw); go_simp
                  try simp only [Act.put, List.setIfInBounds_toArray, List.set_cons_zero, List.set_cons_succ]
                  refine wpAnyH_take (i := 21) (oi := { dst := some 130, op := Op.load 3 (Operand.tmp 129), type := 3, pos := "law.go:58", after := #[{ on := 20, ground := Ground.data }, { on := 16, ground := Ground.guard }], guard := some (16, false) }) (v := .int .i64 2) rfl (by kernel_rfl) (by kernel_rfl) (by kernel_rfl) (fun _ _ _ h => h) (Or.inl ⟨by rfl, ?_⟩) (by assumption) ?_
                  · intro W hSw; (try dsimp only at hSw); go_simp
                  try simp only [Act.put, List.setIfInBounds_toArray, List.set_cons_zero, List.set_cons_succ]
                  refine wpAnyH_take (i := 22) (oi := { dst := some 131, op := Op.binOp BinOp.eql 3 (Operand.tmp 130) (Operand.const (Value.int IntKind.i64 1)) 3, type := 4, pos := "law.go:58", after := #[{ on := 21, ground := Ground.data }, { on := 16, ground := Ground.guard }], guard := some (16, false) }) (v := .bool false) rfl (by kernel_rfl) (by kernel_rfl) (by kernel_rfl) (fun _ _ _ h => h) (Or.inl ⟨by rfl, ?_⟩) (by assumption) ?_
                  · intro W hSw; (try dsimp only at hSw); go_simp
                  try simp only [Act.put, List.setIfInBounds_toArray, List.set_cons_zero, List.set_cons_succ]
                  refine wpAnyH_take (i := 23) (oi := { dst := some 132, op := Op.move (Operand.tmp 131), type := 4, pos := "law.go:58", after := #[{ on := 22, ground := Ground.data }, { on := 16, ground := Ground.chain }, { on := 16, ground := Ground.guard }], guard := some (16, false) }) (v := .bool false) rfl (by kernel_rfl) (by kernel_rfl) (by kernel_rfl) (fun _ _ _ h => h) (Or.inl ⟨by rfl, ?_⟩) (by assumption) ?_
                  · intro W hSw; (try dsimp only at hSw); go_simp
                  try simp only [Act.put, List.setIfInBounds_toArray, List.set_cons_zero, List.set_cons_succ]
                  refine wpAnyH_take (i := 24) (oi := { dst := some 133, op := Op.move (Operand.tmp 8), type := 38, pos := "law.go:58", after := #[{ on := 23, ground := Ground.guard }], guard := some (23, true) }) (v := undef) rfl (by kernel_rfl) (by kernel_rfl) (by kernel_rfl) (fun _ _ _ h => h) (Or.inr ⟨by rfl, rfl⟩) (by assumption) ?_
                  try simp only [Act.put, List.setIfInBounds_toArray, List.set_cons_zero, List.set_cons_succ]
                  refine wpAnyH_take (i := 25) (oi := { dst := some 134, op := Op.call { callee := Callee.value (Operand.func 17), args := #[Operand.tmp 133], argTypes := #[38] }, type := 9, pos := "law.go:58", after := #[{ on := 24, ground := Ground.data }, { on := 23, ground := Ground.chain }, { on := 23, ground := Ground.guard }], guard := some (23, true) }) (v := undef) rfl (by kernel_rfl) (by kernel_rfl) (by kernel_rfl) (fun _ _ _ h => h) (Or.inr ⟨by rfl, rfl⟩) (by assumption) ?_
                  try simp only [Act.put, List.setIfInBounds_toArray, List.set_cons_zero, List.set_cons_succ]
                  refine wpAnyH_take (i := 26) (oi := { dst := some 135, op := Op.move (Operand.tmp 0), type := 22, pos := "law.go:58", after := #[{ on := 23, ground := Ground.guard }], guard := some (23, true) }) (v := undef) rfl (by kernel_rfl) (by kernel_rfl) (by kernel_rfl) (fun _ _ _ h => h) (Or.inr ⟨by rfl, rfl⟩) (by assumption) ?_
                  try simp only [Act.put, List.setIfInBounds_toArray, List.set_cons_zero, List.set_cons_succ]
                  refine wpAnyH_take (i := 27) (oi := { dst := some 136, op := Op.move (Operand.tmp 9), type := 3, pos := "law.go:58", after := #[{ on := 23, ground := Ground.guard }], guard := some (23, true) }) (v := undef) rfl (by kernel_rfl) (by kernel_rfl) (by kernel_rfl) (fun _ _ _ h => h) (Or.inr ⟨by rfl, rfl⟩) (by assumption) ?_
                  try simp only [Act.put, List.setIfInBounds_toArray, List.set_cons_zero, List.set_cons_succ]
                  refine wpAnyH_take (i := 28) (oi := { dst := some 137, op := Op.indexAddr 22 (Operand.tmp 135) (Operand.tmp 136), type := 0, pos := "law.go:58", after := #[{ on := 26, ground := Ground.data }, { on := 27, ground := Ground.data }, { on := 23, ground := Ground.guard }], guard := some (23, true) }) (v := undef) rfl (by kernel_rfl) (by kernel_rfl) (by kernel_rfl) (fun _ _ _ h => h) (Or.inr ⟨by rfl, rfl⟩) (by assumption) ?_
                  try simp only [Act.put, List.setIfInBounds_toArray, List.set_cons_zero, List.set_cons_succ]
                  refine wpAnyH_take (i := 29) (oi := { dst := some 138, op := Op.fieldAddr 33 (Operand.tmp 137) 2, type := 0, pos := "law.go:58", after := #[{ on := 28, ground := Ground.data }, { on := 23, ground := Ground.guard }], guard := some (23, true) }) (v := undef) rfl (by kernel_rfl) (by kernel_rfl) (by kernel_rfl) (fun _ _ _ h => h) (Or.inr ⟨by rfl, rfl⟩) (by assumption) ?_
                  try simp only [Act.put, List.setIfInBounds_toArray, List.set_cons_zero, List.set_cons_succ]
                  refine wpAnyH_take (i := 30) (oi := { dst := some 139, op := Op.load 9 (Operand.tmp 138), type := 9, pos := "law.go:58", after := #[{ on := 29, ground := Ground.data }, { on := 23, ground := Ground.guard }], guard := some (23, true) }) (v := undef) rfl (by kernel_rfl) (by kernel_rfl) (by kernel_rfl) (fun _ _ _ h => h) (Or.inr ⟨by rfl, rfl⟩) (by assumption) ?_
                  try simp only [Act.put, List.setIfInBounds_toArray, List.set_cons_zero, List.set_cons_succ]
                  refine wpAnyH_take (i := 31) (oi := { dst := some 140, op := Op.binOp BinOp.neq 9 (Operand.tmp 134) (Operand.tmp 139) 9, type := 4, pos := "law.go:58", after := #[{ on := 25, ground := Ground.data }, { on := 30, ground := Ground.data }, { on := 23, ground := Ground.guard }], guard := some (23, true) }) (v := undef) rfl (by kernel_rfl) (by kernel_rfl) (by kernel_rfl) (fun _ _ _ h => h) (Or.inr ⟨by rfl, rfl⟩) (by assumption) ?_
                  try simp only [Act.put, List.setIfInBounds_toArray, List.set_cons_zero, List.set_cons_succ]
                  refine wpAnyH_take (i := 32) (oi := { dst := some 141, op := Op.pick (Operand.tmp 132) (Operand.tmp 140) (Operand.const (Value.bool false)), type := 4, pos := "law.go:58", after := #[{ on := 23, ground := Ground.data }, { on := 31, ground := Ground.data }, { on := 16, ground := Ground.guard }], guard := some (16, false) }) (v := .bool false) rfl (by kernel_rfl) (by kernel_rfl) (by kernel_rfl) (fun _ _ _ h => h) (Or.inl ⟨by rfl, ?_⟩) (by assumption) ?_
                  · intro W hSw; (try dsimp only at hSw); go_simp
                  try simp only [Act.put, List.setIfInBounds_toArray, List.set_cons_zero, List.set_cons_succ]
                  refine wpAnyH_take (i := 33) (oi := { dst := some 142, op := Op.pick (Operand.tmp 125) (Operand.const (Value.bool true)) (Operand.tmp 141), type := 4, pos := "law.go:58", after := #[{ on := 16, ground := Ground.data }, { on := 32, ground := Ground.data }], guard := none }) (v := .bool false) rfl (by kernel_rfl) (by kernel_rfl) (by kernel_rfl) (fun _ _ _ h => h) (Or.inl ⟨by rfl, ?_⟩) (by assumption) ?_
                  · intro W hSw; (try dsimp only at hSw); go_simp
                  try simp only [Act.put, List.setIfInBounds_toArray, List.set_cons_zero, List.set_cons_succ]
                  refine wpAnyH_take (i := 34) (oi := { dst := some 143, op := Op.move (Operand.tmp 142), type := 4, pos := "law.go:58", after := #[{ on := 33, ground := Ground.data }, { on := 25, ground := Ground.chain }], guard := none }) (v := .bool false) rfl (by kernel_rfl) (by kernel_rfl) (by kernel_rfl) (fun _ _ _ h => h) (Or.inl ⟨by rfl, ?_⟩) (by assumption) ?_
                  · intro W hSw; (try dsimp only at hSw); go_simp
                  try simp only [Act.put, List.setIfInBounds_toArray, List.set_cons_zero, List.set_cons_succ]
                  refine wpAnyH_take (i := 35) (oi := { dst := some 144, op := Op.move (Operand.tmp 0), type := 22, pos := "law.go:58", after := #[{ on := 34, ground := Ground.guard }], guard := some (34, false) }) (v := .slice (some ⟨b, o, none⟩) j ck) rfl (by kernel_rfl) (by kernel_rfl) (by kernel_rfl) (fun _ _ _ h => h) (Or.inl ⟨by rfl, ?_⟩) (by assumption) ?_
                  · intro W hSw; (try dsimp only at hSw); go_simp
                  try simp only [Act.put, List.setIfInBounds_toArray, List.set_cons_zero, List.set_cons_succ]
                  refine wpAnyH_take (i := 36) (oi := { dst := some 145, op := Op.move (Operand.tmp 9), type := 3, pos := "law.go:58", after := #[{ on := 34, ground := Ground.guard }], guard := some (34, false) }) (v := .int .i64 (j' : Int)) rfl (by kernel_rfl) (by kernel_rfl) (by kernel_rfl) (fun _ _ _ h => h) (Or.inl ⟨by rfl, ?_⟩) (by assumption) ?_
                  · intro W hSw; (try dsimp only at hSw); go_simp
                  try simp only [Act.put, List.setIfInBounds_toArray, List.set_cons_zero, List.set_cons_succ]
                  refine wpAnyH_take (i := 37) (oi := { dst := some 146, op := Op.indexAddr 22 (Operand.tmp 144) (Operand.tmp 145), type := 0, pos := "law.go:58", after := #[{ on := 35, ground := Ground.data }, { on := 36, ground := Ground.data }, { on := 34, ground := Ground.guard }], guard := some (34, false) }) (v := .pointer (some ⟨b, o + j' * 4, none⟩)) rfl (by kernel_rfl) (by kernel_rfl) (by kernel_rfl) (fun _ _ _ h => h) (Or.inl ⟨by rfl, ?_⟩) (by assumption) ?_
                  · intro W hSw; (try dsimp only at hSw); go_simp
                  try simp only [Act.put, List.setIfInBounds_toArray, List.set_cons_zero, List.set_cons_succ]
                  refine wpAnyH_take (i := 38) (oi := { dst := some 147, op := Op.fieldAddr 33 (Operand.tmp 146) 0, type := 0, pos := "law.go:58", after := #[{ on := 37, ground := Ground.data }, { on := 34, ground := Ground.guard }], guard := some (34, false) }) (v := .pointer (some ⟨b, o + j' * 4, none⟩)) rfl (by kernel_rfl) (by kernel_rfl) (by kernel_rfl) (fun _ _ _ h => h) (Or.inl ⟨by rfl, ?_⟩) (by assumption) ?_
                  · intro W hSw; (try dsimp only at hSw); go_simp
                  try simp only [Act.put, List.setIfInBounds_toArray, List.set_cons_zero, List.set_cons_succ]
                  refine wpAnyH_take (i := 39) (oi := { dst := some 148, op := Op.load 3 (Operand.tmp 147), type := 3, pos := "law.go:58", after := #[{ on := 38, ground := Ground.data }, { on := 34, ground := Ground.guard }], guard := some (34, false) }) (v := .int .i64 2) rfl (by kernel_rfl) (by kernel_rfl) (by kernel_rfl) (fun _ _ _ h => h) (Or.inl ⟨by rfl, ?_⟩) (by assumption) ?_
                  · intro W hSw; (try dsimp only at hSw); go_simp
                  try simp only [Act.put, List.setIfInBounds_toArray, List.set_cons_zero, List.set_cons_succ]
                  refine wpAnyH_take (i := 40) (oi := { dst := some 149, op := Op.binOp BinOp.eql 3 (Operand.tmp 148) (Operand.const (Value.int IntKind.i64 2)) 3, type := 4, pos := "law.go:58", after := #[{ on := 39, ground := Ground.data }, { on := 34, ground := Ground.guard }], guard := some (34, false) }) (v := .bool true) rfl (by kernel_rfl) (by kernel_rfl) (by kernel_rfl) (fun _ _ _ h => h) (Or.inl ⟨by rfl, ?_⟩) (by assumption) ?_
                  · intro W hSw; (try dsimp only at hSw); go_simp
                  try simp only [Act.put, List.setIfInBounds_toArray, List.set_cons_zero, List.set_cons_succ]
                  refine wpAnyH_take (i := 41) (oi := { dst := some 150, op := Op.move (Operand.tmp 149), type := 4, pos := "law.go:58", after := #[{ on := 40, ground := Ground.data }, { on := 34, ground := Ground.chain }, { on := 34, ground := Ground.guard }], guard := some (34, false) }) (v := .bool true) rfl (by kernel_rfl) (by kernel_rfl) (by kernel_rfl) (fun _ _ _ h => h) (Or.inl ⟨by rfl, ?_⟩) (by assumption) ?_
                  · intro W hSw; (try dsimp only at hSw); go_simp
                  try simp only [Act.put, List.setIfInBounds_toArray, List.set_cons_zero, List.set_cons_succ]
                  refine wpAnyH_take (i := 42) (oi := { dst := some 151, op := Op.move (Operand.tmp 8), type := 38, pos := "law.go:58", after := #[{ on := 41, ground := Ground.guard }], guard := some (41, true) }) (v := .pointer (some ⟨g, 0, none⟩)) rfl (by kernel_rfl) (by kernel_rfl) (by kernel_rfl) (fun _ _ _ h => h) (Or.inl ⟨by rfl, ?_⟩) (by assumption) ?_
                  · intro W hSw; (try dsimp only at hSw); go_simp
                  try simp only [Act.put, List.setIfInBounds_toArray, List.set_cons_zero, List.set_cons_succ]
                  refine wpAnyH_take (i := 44) (oi := { dst := some 153, op := Op.move (Operand.tmp 0), type := 22, pos := "law.go:58", after := #[{ on := 41, ground := Ground.guard }], guard := some (41, true) }) (v := .slice (some ⟨b, o, none⟩) j ck) rfl (by kernel_rfl) (by kernel_rfl) (by kernel_rfl) (fun _ _ _ h => h) (Or.inl ⟨by rfl, ?_⟩) (by assumption) ?_
                  · intro W hSw; (try dsimp only at hSw); go_simp
                  try simp only [Act.put, List.setIfInBounds_toArray, List.set_cons_zero, List.set_cons_succ]
                  refine wpAnyH_take (i := 45) (oi := { dst := some 154, op := Op.move (Operand.tmp 9), type := 3, pos := "law.go:58", after := #[{ on := 41, ground := Ground.guard }], guard := some (41, true) }) (v := .int .i64 (j' : Int)) rfl (by kernel_rfl) (by kernel_rfl) (by kernel_rfl) (fun _ _ _ h => h) (Or.inl ⟨by rfl, ?_⟩) (by assumption) ?_
                  · intro W hSw; (try dsimp only at hSw); go_simp
                  try simp only [Act.put, List.setIfInBounds_toArray, List.set_cons_zero, List.set_cons_succ]
                  refine wpAnyH_take (i := 46) (oi := { dst := some 155, op := Op.indexAddr 22 (Operand.tmp 153) (Operand.tmp 154), type := 0, pos := "law.go:58", after := #[{ on := 44, ground := Ground.data }, { on := 45, ground := Ground.data }, { on := 41, ground := Ground.guard }], guard := some (41, true) }) (v := .pointer (some ⟨b, o + j' * 4, none⟩)) rfl (by kernel_rfl) (by kernel_rfl) (by kernel_rfl) (fun _ _ _ h => h) (Or.inl ⟨by rfl, ?_⟩) (by assumption) ?_
                  · intro W hSw; (try dsimp only at hSw); go_simp
                  try simp only [Act.put, List.setIfInBounds_toArray, List.set_cons_zero, List.set_cons_succ]
                  refine wpAnyH_take (i := 47) (oi := { dst := some 156, op := Op.fieldAddr 33 (Operand.tmp 155) 3, type := 0, pos := "law.go:58", after := #[{ on := 46, ground := Ground.data }, { on := 41, ground := Ground.guard }], guard := some (41, true) }) (v := .pointer (some ⟨b, o + j' * 4 + 3, none⟩)) rfl (by kernel_rfl) (by kernel_rfl) (by kernel_rfl) (fun _ _ _ h => h) (Or.inl ⟨by rfl, ?_⟩) (by assumption) ?_
                  · intro W hSw; (try dsimp only at hSw); go_simp
                  try simp only [Act.put, List.setIfInBounds_toArray, List.set_cons_zero, List.set_cons_succ]
                  refine wpAnyH_take (i := 48) (oi := { dst := some 157, op := Op.load 4 (Operand.tmp 156), type := 4, pos := "law.go:58", after := #[{ on := 47, ground := Ground.data }, { on := 41, ground := Ground.guard }], guard := some (41, true) }) (v := .bool ok) rfl (by kernel_rfl) (by kernel_rfl) (by kernel_rfl) (fun _ _ _ h => h) (Or.inl ⟨by rfl, ?_⟩) (by assumption) ?_
                  · intro W hSw; (try dsimp only at hSw); go_simp
                  try simp only [Act.put, List.setIfInBounds_toArray, List.set_cons_zero, List.set_cons_succ]
                  refine wpAnyH_ready (rs := [43]) (by kernel_rfl) (by simp) ?_
                  refine AllReadyH.cons (o := { dst := some 152, op := Op.call { callee := Callee.value (Operand.func 18), args := #[Operand.tmp 151], argTypes := #[38] }, type := 4, pos := "law.go:58", after := #[{ on := 42, ground := Ground.data }, { on := 41, ground := Ground.chain }, { on := 41, ground := Ground.guard }], guard := some (41, true) }) rfl (fun K hK => ?_) AllReadyH.nil
                  go_simp
                  refine (rdFlag_at HRD.out EF.out).mono ?_
                  rintro e w' ⟨rfl, hr', hk'⟩
                  try dsimp only
                  refine hK.out _ _ ?_ (fun hHeld2 => ?_)
                  · exact cells_but hbg hk' hHeld
                  clear hK K hHeld
                  try simp only [Act.put, List.setIfInBounds_toArray, List.set_cons_zero, List.set_cons_succ]
                  refine wpAnyH_take (i := 49) (oi := { dst := some 158, op := Op.binOp BinOp.neq 4 (Operand.tmp 152) (Operand.tmp 157) 4, type := 4, pos := "law.go:58", after := #[{ on := 43, ground := Ground.data }, { on := 48, ground := Ground.data }, { on := 41, ground := Ground.guard }], guard := some (41, true) }) (v := .bool false) rfl (by kernel_rfl) (by kernel_rfl) (by kernel_rfl) (fun _ _ _ h => h) (Or.inl ⟨by rfl, ?_⟩) (by assumption) ?_
                  · intro W hSw; (try dsimp only at hSw); go_simp
                  try simp only [Act.put, List.setIfInBounds_toArray, List.set_cons_zero, List.set_cons_succ]
                  refine wpAnyH_take (i := 50) (oi := { dst := some 159, op := Op.pick (Operand.tmp 150) (Operand.tmp 158) (Operand.const (Value.bool false)), type := 4, pos := "law.go:58", after := #[{ on := 41, ground := Ground.data }, { on := 49, ground := Ground.data }, { on := 34, ground := Ground.guard }], guard := some (34, false) }) (v := .bool false) rfl (by kernel_rfl) (by kernel_rfl) (by kernel_rfl) (fun _ _ _ h => h) (Or.inl ⟨by rfl, ?_⟩) (by assumption) ?_
                  · intro W hSw; (try dsimp only at hSw); go_simp
                  try simp only [Act.put, List.setIfInBounds_toArray, List.set_cons_zero, List.set_cons_succ]
                  refine wpAnyH_take (i := 51) (oi := { dst := some 160, op := Op.pick (Operand.tmp 143) (Operand.const (Value.bool true)) (Operand.tmp 159), type := 4, pos := "law.go:58", after := #[{ on := 34, ground := Ground.data }, { on := 50, ground := Ground.data }], guard := none }) (v := .bool false) rfl (by kernel_rfl) (by kernel_rfl) (by kernel_rfl) (fun _ _ _ h => h) (Or.inl ⟨by rfl, ?_⟩) (by assumption) ?_
                  · intro W hSw; (try dsimp only at hSw); go_simp
                  try simp only [Act.put, List.setIfInBounds_toArray, List.set_cons_zero, List.set_cons_succ]
                  refine wpAnyH_done (by kernel_rfl) ?_ _
                  have R' := Lib.hid hr'
                  have K' := Lib.hid (HKD.out.trans (hk'.lo hg0))
                  clear hr' hk' hHeld2 d0 d1 d2 d3 HRD HKD EF
                  go_wp2
                  go_roundw
                  case rel => exact ⟨j' + 1, by omega, by go_num, by rw [HREST.out]; exact R'.out, K'.out⟩
                  case measure => simp [intOf]; omega
                · have f0 : (way == 0) = false := beq_eq_false_iff_ne.2 hw0
                  have f1 : (way == 1) = false := beq_eq_false_iff_ne.2 hw1
                  have f2 : (way == 2) = false := beq_eq_false_iff_ne.2 hw2
                  have HR3 := Lib.hid hR2
                  clear hR2
                  have en : encItem ⟨way, n, s, ok⟩ = [] := by simp [encItem, hw0, hw1, hw2]
                  have EN := Lib.hid en
                  clear en
                  go_wp2_with fail
                  go_quiet (fail)
                  go_wp2
                  go_roundw
                  case rel => exact ⟨j' + 1, by omega, by go_num, by have := HR3.out; rw [EN.out] at this; rw [HREST.out]; exact this, by exact HK.out.drewN _⟩
                  case measure => simp [intOf]; omega
          · obtain rfl : j' = j := by omega
            have hr0 : ReaderAt 55 wr g g ⟨[], false⟩ := by have := HR.out; rw [Nat.sub_self] at this; exact this
            have HR0 := Lib.hid hr0
            clear hr0 HR
            go_wp2_with fail
            refine (rdDone_at HR0.out done_end).mono ?_
            rintro e wf ⟨rfl, rfl⟩
            go_wp2
            go_ret
            exact ⟨rfl, HK.out.end⟩
end Go.Proofs.Ytbpipjkfgijjcaa
