/- impl.CsvText writes rows of cells with commas. Conditions: at most 1048576 elements in all; utf8's two tables hold what Go's text lays. -/
import Derived.Test.YtjklnfcoaakkgaaDoorSpecCsvT
import Derived.Test.YtjklnfcoaakkgaaDoorBld2
namespace Go.Proofs.YtjklnfcoaakkgaaDoor
set_option linter.unusedVariables false
open Go.RowKit
open Go.Lib (byteCells)

def IRRel (rs : List (List ByteArray)) (R : Option (List UInt8)) (p : Nat) (w : World) (i : Value) (wr : World) : Prop :=
  ∃ (k : Nat) (acc : List UInt8), k ≤ rs.length ∧ i = .int .i64 k ∧ acc.length ≤ 4000 ∧ Bld p acc wr ∧ p < wr.heap.size ∧ Hid (rowsFrom sepC csvCell acc (rs.drop k) = R) ∧ Below w.heap.size w wr
def IR2Rel (xs : List ByteArray) (T : List UInt8) (p : Nat) (w : World) (i : Value) (wr : World) : Prop :=
  ∃ (q : Nat) (acc : List UInt8), q ≤ xs.length ∧ i = .int .i64 q ∧ acc.length ≤ 4000 + 2003 * q ∧ Bld p acc wr ∧ p < wr.heap.size ∧ Hid (cellsFrom sepC csvCell (decide (q = 0)) acc (xs.drop q) = T) ∧ Below w.heap.size w wr

set_option maxHeartbeats 4000000 in
set_option maxRecDepth 100000 in
theorem rowsText_any (A : Option Addr) (c : Nat) (rs : List (List ByteArray)) (w : World) (hS : SmallR rs) (hN : Rws w w.heap.size A rs) (hT : Tabs w) :
    Calls Tryd.prog 25 #[.slice A rs.length c, .string ⟨#[44]⟩, .func (.func 26) #[] #[]] w (JoinIs (csvTextR rs) w) := by
  have hl := hS.1
  obtain ⟨R, hR⟩ : ∃ R, csvTextR rs = R := ⟨_, rfl⟩
  rw [hR]
  have HN := Lib.hid hN
  have HT := Lib.hid hT
  have HS := Lib.hid hS
  have HR : Hid (rowsFrom sepC csvCell [] (rs.drop 0) = R) := hR
  clear hN hS hT hR
  obtain ⟨p, hp⟩ : ∃ p, w.heap.size = p := ⟨_, rfl⟩
  have hpw : w.heap.size ≤ p := by rw [← hp]; exact Nat.le_refl _
  have HB0 : Hid (Bld p [] (w.alloc (.cells #[.pointer none, .slice none 0 0] 70))) := by rw [← hp]; exact bld_new w
  have HW0 : Hid (Below w.heap.size w (w.alloc (.cells #[.pointer none, .slice none 0 0] 70))) := (Below.refl _ _).alloc (Nat.le_refl _) _
  have HZ0 : Hid (p < (w.alloc (.cells #[.pointer none, .slice none 0 0] 70)).heap.size) := by show p < _; simp; omega
  go_enter Tryd.func25, Tryd.ntmps25
  go_wp2
  clear hp
  go_loopw [15] (fun i wr => IRRel rs R p w i wr) (fun i _ => rs.length - (intOf i).toNat)
  case atStart => exact ⟨0, [], Nat.zero_le _, rfl, by simp, HB0.out, HZ0.out, HR, HW0.out⟩
  case round =>
    clear HR HB0 HW0 HZ0
    obtain ⟨k, acc, hk, rfl, hal, hbld, hpz, hgo, hbel⟩ := hrel
    have HBel := Lib.hid hbel
    have HBld := Lib.hid hbld
    have hwz := hbel.size
    clear hbld
    by_cases hlt : k < rs.length
    · obtain ⟨b, o, A2, c2, rfl, hb, hc0, hs⟩ := HN.out k hlt
      have hcr := (hbel.cell (p := ⟨b, o + k, none⟩) hb).trans hc0
      have f := HS.out.2 _ (List.getElem_mem hlt)
      have cX : ∀ W, Below wr.heap.size wr W → Calls Tryd.prog 42 #[.agg #[.slice A2 rs[k].length c2]] W (BoolIs (rowOkB rs[k]) W) := fun W hW =>
        have hB := HBel.out.trans (hW.mono HBel.out.size)
        implRowOk A2 c2 rs[k] W f.1 f.2 ((hs.below hB).up hB.size) (HT.out.below hB)
      have HBad : Hid (rowOkB rs[k] = false → R = none) := fun h => hgo.out.symm.trans (rows_bad hlt h)
      have HLong : Hid (rowOkB rs[k] = true → 4000 < (cellsFrom sepC csvCell true acc rs[k] ++ [10]).length → R = none) := fun hrow h => hgo.out.symm.trans (rows_long hlt hrow h)
      have HOn : Hid (rowOkB rs[k] = true → ¬ 4000 < (cellsFrom sepC csvCell true acc rs[k] ++ [10]).length → rowsFrom sepC csvCell (cellsFrom sepC csvCell true acc rs[k] ++ [10]) (rs.drop (k + 1)) = R) := fun hrow h => (rows_on hlt hrow h).symm.trans hgo.out
      obtain ⟨xs, hx⟩ : ∃ xs, rs[k] = xs := ⟨_, rfl⟩
      rw [hx] at hcr cX HLong HOn HBad hs
      have HSt := Lib.hid hs
      have hltz : (k : Int) < (rs.length : Int) := by omega
      clear hc0 hx hs f hbel hgo
      cases htx : rowOkB xs with
      | false =>
        rw [htx] at cX
        have HRn := Lib.hid (HBad.out htx)
        clear htx HLong HOn HBad
        go_wp2_with (go_at_call 42; refine (cX _ ((Below.refl _ _).alloc (Nat.le_refl _) _)).mono ?_; rintro e w2 ⟨rfl, b2⟩)
        go_ret2
        exact JoinIs.no HRn.out (HBel.out.trans ((((Below.refl _ _).alloc (Nat.le_refl _) _).trans (b2.mono (by simp))).mono hwz))
      | true =>
        rw [htx] at cX
        have hbd := rowOk_bounds htx
        have hxl := hbd.1
        have HBd := Lib.hid hbd.2
        have HL1 : Hid (4000 < (cellsFrom sepC csvCell true acc xs ++ [10]).length → R = none) := HLong.out htx
        have HO1 : Hid (¬ 4000 < (cellsFrom sepC csvCell true acc xs ++ [10]).length → rowsFrom sepC csvCell (cellsFrom sepC csvCell true acc xs ++ [10]) (rs.drop (k + 1)) = R) := HOn.out htx
        obtain ⟨T, hT⟩ : ∃ T, cellsFrom sepC csvCell true acc xs = T := ⟨_, rfl⟩
        rw [hT] at HL1 HO1
        have HTT : Hid (cellsFrom sepC csvCell (decide (0 = 0)) acc (xs.drop 0) = T) := hT
        clear htx HLong HOn HBad hbd hT
        go_wp2_with (go_at_call 42; refine (cX _ ((Below.refl _ _).alloc (Nat.le_refl _) _)).mono ?_; rintro e w2 ⟨rfl, b2⟩; have hrow2 : w2.cell? ⟨wr.heap.size, 0, none⟩ = some (.slice A2 xs.length c2) := (b2.cell (p := ⟨wr.heap.size, 0, none⟩) (by simp)).trans (by rw [cell_of_row _ _ _ _ _ _ (heap_alloc_new wr _)]; rfl))
        have b12 : Below wr.heap.size wr w2 := ((Below.refl _ _).alloc (Nat.le_refl _) _).trans (b2.mono (by simp))
        have HB2 := Lib.hid (HBel.out.trans (b12.mono hwz))
        have HBl2 := Lib.hid (bld_below HBld.out b12)
        have hp2 : p < w2.heap.size := Nat.lt_of_lt_of_le hpz b12.size
        clear cX b2 b12 hcr hrow2
        go_loopw [25] (fun i wq => IR2Rel xs T p w i wq) (fun i _ => xs.length - (intOf i).toNat)
        case atStart => exact ⟨0, acc, Nat.zero_le _, rfl, by omega, HBl2.out, hp2, HTT, HB2.out⟩
        case round =>
          clear HB2 HBl2 HTT
          obtain ⟨q, acc2, hq, rfl, hal2, hbld2, hpz2, hgo2, hbel2⟩ := hrel
          have HBel2 := Lib.hid hbel2
          have hz := hbel2.size
          by_cases hlt2 : q < xs.length
          · obtain ⟨b2, o2, rfl, hb2, hc2⟩ := HSt.out q hlt2
            have hcx := (hbel2.cell (p := ⟨b2, o2 + q, none⟩) hb2).trans hc2
            have hsz := (HBd.out _ (List.getElem_mem hlt2)).1
            have HF : Hid (q = 0 → cellsFrom sepC csvCell (decide (q + 1 = 0)) (acc2 ++ (csvCell xs[q]).data.toList) (xs.drop (q + 1)) = T) := fun h0 => by
              have h1 := hgo2.out
              rw [decide_eq_true h0, cells_first hlt2] at h1
              rw [show decide (q + 1 = 0) = false by simp]
              exact h1
            have HX : Hid (¬ q = 0 → cellsFrom sepC csvCell (decide (q + 1 = 0)) ((acc2 ++ (⟨#[44]⟩ : ByteArray).data.toList) ++ (csvCell xs[q]).data.toList) (xs.drop (q + 1)) = T) := fun h0 => by
              have h1 := hgo2.out
              rw [decide_eq_false h0, cells_next hlt2] at h1
              rw [show decide (q + 1 = 0) = false by simp]
              exact h1
            obtain ⟨x, hx⟩ : ∃ x, xs[q] = x := ⟨_, rfl⟩
            rw [hx] at hcx hsz HF HX
            have cC : ∀ W, Calls Tryd.prog 26 #[.string x] W fun e w' => e = .returned (.string (csvCell x)) ∧ Below W.heap.size W w' := fun W => implCell x W hsz
            have hcl := csvCell_len x
            obtain ⟨y, hy⟩ : ∃ y, csvCell x = y := ⟨_, rfl⟩
            rw [hy] at cC hcl HF HX
            have hltz2 : (q : Int) < (xs.length : Int) := by omega
            clear hc2 hx hy hgo2 hbel2
            by_cases h0 : q = 0
            · have h0z : ¬ (0 : Int) < (q : Int) := by omega
              have HG0 := HF.out h0
              obtain ⟨t, ht⟩ : ∃ t, acc2 ++ y.data.toList = t := ⟨_, rfl⟩
              have htl : t.length ≤ 4000 + 2003 * (q + 1) := by rw [← ht, List.length_append, list_size]; omega
              rw [ht] at HG0
              have HG := Lib.hid HG0
              have HJ := Lib.hid ht
              have HTl := Lib.hid htl
              have hbd : acc2.length + y.size ≤ 1000000 := by omega
              have HBd2 := Lib.hid hbd
              clear h0 HF HX ht HG0 htl hbd
              go_wp2_with (first
                | (go_at_call 26; refine (cC _).mono ?_; rintro e w3 ⟨rfl, b3⟩; have B3 := HBel2.out.trans (b3.mono hz); have hl3 := bld_below hbld2 b3; have hp3 := Nat.lt_of_lt_of_le hpz2 b3.size)
                | (go_at_call 48; refine (bld_write p acc2 y _ hl3 HBd2.out hp3).mono ?_; rintro e w4 ⟨rfl, hl4, b4⟩; rw [HJ.out] at hl4; have B4 := B3.trans (b4.mono hpw); have hp4 := Nat.lt_of_lt_of_le hp3 b4.size))
              have HX4 := Lib.hid B4
              have HY4 := Lib.hid hl4
              clear B4 hl4 b4 b3 B3 hl3 cC
              go_roundw
              case rel => exact ⟨q + 1, t, hlt2, by go_num, HTl.out, HY4.out, hp4, HG, HX4.out⟩
              case measure => simp [intOf]; omega
            · have h0z : (0 : Int) < (q : Int) := by omega
              have HG0 := HX.out h0
              obtain ⟨t1, ht1⟩ : ∃ t1, acc2 ++ (⟨#[44]⟩ : ByteArray).data.toList = t1 := ⟨_, rfl⟩
              have ht1l : t1.length = acc2.length + 1 := by rw [← ht1, List.length_append]; rfl
              obtain ⟨t, ht⟩ : ∃ t, t1 ++ y.data.toList = t := ⟨_, rfl⟩
              have htl : t.length ≤ 4000 + 2003 * (q + 1) := by rw [← ht, List.length_append, list_size]; omega
              rw [ht1, ht] at HG0
              have HG := Lib.hid HG0
              have HJ := Lib.hid ht
              have HJ1 := Lib.hid ht1
              have HTl := Lib.hid htl
              have HBd2 := Lib.hid (show t1.length + y.size ≤ 1000000 by omega)
              have HBd1 := Lib.hid (show acc2.length + (⟨#[44]⟩ : ByteArray).size ≤ 1000000 by show acc2.length + 1 ≤ _; omega)
              clear h0 HF HX ht ht1 HG0 htl ht1l
              go_wp2_with (first
                | (go_at_call 26; refine (cC _).mono ?_; rintro e w3 ⟨rfl, b3⟩; have B3 := B5.trans (b3.mono B5.size); have hl3 := bld_below hl5 b3; have hp3 := Nat.lt_of_lt_of_le hp5 b3.size; clear hl5)
                | (go_at_call 48; refine (bld_write p t1 y _ hl3 HBd2.out hp3).mono ?_; rintro e w4 ⟨rfl, hl4, b4⟩; rw [HJ.out] at hl4; have B4 := B3.trans (b4.mono hpw); have hp4 := Nat.lt_of_lt_of_le hp3 b4.size)
                | (go_at_call 48; refine (bld_write p acc2 ⟨#[44]⟩ _ hbld2 HBd1.out hpz2).mono ?_; rintro e w5 ⟨rfl, hl5, b5⟩; rw [HJ1.out] at hl5; have B5 := HBel2.out.trans (b5.mono hpw); have hp5 := Nat.lt_of_lt_of_le hpz2 b5.size; have hcx5 : w5.cell? ⟨b2, o2 + q, none⟩ = some (.string x) := (b5.cell (p := ⟨b2, o2 + q, none⟩) (Nat.lt_of_lt_of_le hb2 hpw)).trans hcx))
              have HX4 := Lib.hid B4
              have HY4 := Lib.hid hl4
              clear B4 hl4 b4 b3 B3 hl3 cC B5 b5
              go_roundw
              case rel => exact ⟨q + 1, t, hlt2, by go_num, HTl.out, HY4.out, hp4, HG, HX4.out⟩
              case measure => simp [intOf]; omega
          · have HE := Lib.hid ((cells_end (by omega)).symm.trans hgo2.out)
            have hltz2 : ¬ (q : Int) < (xs.length : Int) := by omega
            have hbd : acc2.length ≤ 1000000 := by omega
            obtain ⟨t, ht⟩ : ∃ t, acc2 ++ [(10 : UInt8)] = t := ⟨_, rfl⟩
            obtain ⟨m, hm⟩ : ∃ m, t.length = m := ⟨_, rfl⟩
            have HL2 : Hid (4000 < m → R = none) := fun h => HL1.out (by rw [← HE.out, ht, hm]; exact h)
            have HO2 : Hid (¬ 4000 < m → rowsFrom sepC csvCell t (rs.drop (k + 1)) = R) := fun h => by have := HO1.out (by rw [← HE.out, ht, hm]; exact h); rw [← HE.out, ht] at this; exact this
            have HTt := Lib.hid ht
            have HM := Lib.hid hm
            have hcb : ∀ W, Bld p acc2 W → p < W.heap.size → Calls Tryd.prog 49 #[.pointer (some ⟨p, 0, none⟩), .int .u8 10] W fun e w' => e = .returned .nilIface ∧ (Bld p (acc2 ++ [10]) w' ∧ Below p W w') := fun W h1 h2 => bld_byte p acc2 10 W h1 hbd h2
            rw [ht] at hcb
            clear hgo2 hbel2 hm ht HL1 HO1 HE hbd
            by_cases hL : 4000 < m
            all_goals
              have hLz : ((4000 : Int) < (m : Int)) = (4000 < m) := by apply propext; omega
              go_wp2_with (first
                | (go_at_call 49; refine (hcb _ hbld2 hpz2).mono ?_; rintro e w4 ⟨rfl, hl4, b4⟩; have B4 := HBel2.out.trans (b4.mono hpw); have hp4 := Nat.lt_of_lt_of_le hpz2 b4.size; have cL := bld_len p t w4 hl4; rw [HM.out] at cL)
                | (go_at_call 50; refine cL.mono ?_; rintro e w5 ⟨rfl, hw5⟩; subst hw5))
            · go_ret2
              exact JoinIs.no (HL2.out hL) B4
            · have HX4 := Lib.hid B4
              have HY4 := Lib.hid hl4
              clear B4 hl4 b4 cL hcb
              go_roundw
              case rel => exact ⟨k + 1, t, hlt, by go_num, by rw [HM.out]; omega, HY4.out, hp4, HO2.out hL, HX4.out⟩
              case measure => simp [intOf]; omega
    · have HE := Lib.hid (hgo.out.symm.trans (rows_end (by omega)))
      have cS := bld_str p acc wr HBld.out (Nat.le_of_lt hpz)
      clear hgo hbel
      go_wp2_with (go_at_call 51; refine cS.mono ?_; rintro e w2 ⟨rfl, b2⟩)
      go_ret2
      exact JoinIs.yes HE.out (HBel.out.trans (b2.mono hpw))

theorem implCsvText (A : Option Addr) (c : Nat) (rs : List (List ByteArray)) (w : World) (hS : SmallR rs) (hN : Rws w w.heap.size A rs) (hT : Tabs w) :
    Calls Tryd.prog 10 #[.slice A rs.length c] w (JoinIs (csvTextR rs) w) := by
  have cT := rowsText_any A c rs w hS hN hT
  generalize csvTextR rs = R at cT ⊢
  unfold JoinIs at cT ⊢
  generalize R.isSome = f at cT ⊢
  obtain ⟨y, hy⟩ : ∃ y : ByteArray, (⟨(R.getD []).toArray⟩ : ByteArray) = y := ⟨_, rfl⟩
  rw [hy] at cT ⊢
  clear hy hN hT hS
  go_enter Tryd.func10, Tryd.ntmps10
  go_wp2_with (go_at_call 25; refine cT.mono ?_; rintro e w2 ⟨rfl, b2⟩)
  go_ret2
  exact ⟨rfl, b2⟩

end Go.Proofs.YtjklnfcoaakkgaaDoor
