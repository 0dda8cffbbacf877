/- spec.CsvText writes rows of cells with commas. Conditions: at most 1048576 elements in all. -/
import Derived.Test.YtjklnfcoaakkgaaDoorSpecCell
import Derived.Test.YtjklnfcoaakkgaaDoorByteRow
namespace Go.Proofs.YtjklnfcoaakkgaaDoor
set_option linter.unusedVariables false
open Go.RowKit
open Go.Lib (byteCells)

def sepC : ByteArray := ⟨#[44]⟩
theorem csvText_eq (rs : List (List ByteArray)) : csvTextR rs = rowsFrom sepC csvCell [] rs := rfl
def SCRel (rs : List (List ByteArray)) (R : Option (List UInt8)) (w : World) (v i : Value) (wr : World) : Prop :=
  ∃ (k : Nat) (acc : List UInt8), k ≤ rs.length ∧ i = .int .i64 k ∧ acc.length ≤ 4000 ∧ BytesR wr w.heap.size v acc ∧ Hid (rowsFrom sepC csvCell acc (rs.drop k) = R) ∧ Below w.heap.size w wr
def SC2Rel (xs : List ByteArray) (T : List UInt8) (w : World) (v i : Value) (wr : World) : Prop :=
  ∃ (q : Nat) (acc : List UInt8), q ≤ xs.length ∧ i = .int .i64 q ∧ acc.length ≤ 4000 + 2003 * q ∧ BytesR wr w.heap.size v acc ∧ Hid (cellsFrom sepC csvCell (decide (q = 0)) acc (xs.drop q) = T) ∧ Below w.heap.size w wr

set_option maxHeartbeats 1000000 in
set_option maxRecDepth 100000 in
theorem specCsvText (A : Option Addr) (c : Nat) (rs : List (List ByteArray)) (w : World) (hS : SmallR rs) (hN : Rws w w.heap.size A rs) :
    Calls Tryd.prog 11 #[.slice A rs.length c] w (JoinIs (csvTextR rs) w) := by
  have hl := hS.1
  have cO := specRowsOk A c rs w hS hN
  obtain ⟨R, hR⟩ : ∃ R, csvTextR rs = R := ⟨_, rfl⟩
  rw [hR]
  have HN := Lib.hid hN
  clear hN hS
  cases hok : rowsOkB rs with
  | false =>
    rw [hok] at cO
    have HE := Lib.hid (hR.symm.trans (rows_none hok))
    clear hR hok
    go_enter Tryd.func11, Tryd.ntmps11
    go_wp2_with (go_at_call 21; refine cO.mono ?_; rintro e w1 ⟨rfl, b1⟩)
    go_ret2
    exact JoinIs.no HE.out b1
  | true =>
    rw [hok] at cO
    have HR : Hid (rowsFrom sepC csvCell [] (rs.drop 0) = R) := hR
    have HK := Lib.hid hok
    clear hR hok
    go_enter Tryd.func11, Tryd.ntmps11
    go_wp2_with (go_at_call 21; refine cO.mono ?_; rintro e w1 ⟨rfl, b1⟩)
    clear cO
    go_loopw [4, 5] (fun v i wr => SCRel rs R w v i wr) (fun _ i _ => rs.length - (intOf i).toNat)
    case atStart => exact ⟨0, [], Nat.zero_le _, rfl, by simp, own_empty w w1 _ b1.size, HR, b1.alloc b1.size _⟩
    case round =>
      obtain ⟨k, acc, hk, rfl, hal, hown, hgo, hbel⟩ := hrel
      have HOwn := Lib.hid hown
      have HBel := Lib.hid hbel
      obtain ⟨A1, c1, rfl⟩ := hown.form
      clear hown HR b1
      by_cases hlt : k < rs.length
      · obtain ⟨b, o, A2, c2, rfl, hb, hc0, hs⟩ := HN.out k hlt
        have hrow := rowsOk_at HK.out hlt
        have hbd := rowOk_bounds hrow
        have HLong : Hid (4000 < (cellsFrom sepC csvCell true acc rs[k] ++ [10]).length → R = none) := fun h => hgo.out.symm.trans (rows_long hlt hrow h)
        have HOn : Hid (¬ 4000 < (cellsFrom sepC csvCell true acc rs[k] ++ [10]).length → rowsFrom sepC csvCell (cellsFrom sepC csvCell true acc rs[k] ++ [10]) (rs.drop (k + 1)) = R) := fun h => (rows_on hlt hrow h).symm.trans hgo.out
        obtain ⟨xs, hx⟩ : ∃ xs, rs[k] = xs := ⟨_, rfl⟩
        rw [hx] at hc0 hs hbd HLong HOn
        have hcW : Hid (∀ W, Below w.heap.size w W → W.cell? ⟨b, o + k, none⟩ = some (.slice A2 xs.length c2)) := fun W h => (h.cell (p := ⟨b, o + k, none⟩) hb).trans hc0
        have hcr := hcW.out wr hbel
        have hltz : (k : Int) < (rs.length : Int) := by omega
        have hxl := hbd.1
        have HBd := Lib.hid hbd.2
        have HSt := Lib.hid hs
        obtain ⟨T, hT⟩ : ∃ T, cellsFrom sepC csvCell true acc xs = T := ⟨_, rfl⟩
        rw [hT] at HLong HOn
        have HT : Hid (cellsFrom sepC csvCell (decide (0 = 0)) acc (xs.drop 0) = T) := hT
        clear hc0 hx hs hbd hrow hgo hT hbel
        go_wp2_with fail
        go_loopw [4, 6] (fun v i wq => SC2Rel xs T w v i wq) (fun _ i _ => xs.length - (intOf i).toNat)
        case atStart => exact ⟨0, acc, Nat.zero_le _, rfl, by omega, HOwn.out, HT, HBel.out⟩
        case round =>
          clear hcr HOwn HBel HT
          obtain ⟨q, acc2, hq, rfl, hal2, hown2, hgo2, hbel2⟩ := hrel
          have hcr := hcW.out _ hbel2
          have HOwn := Lib.hid hown2
          have HBel := Lib.hid hbel2
          have hz := hbel2.size
          obtain ⟨A3, c3, rfl⟩ := hown2.form
          clear hown2
          by_cases hlt2 : q < xs.length
          · obtain ⟨b2, o2, rfl, hb2, hc2⟩ := HSt.out q hlt2
            have hcxW : Hid (∀ W, Below w.heap.size w W → W.cell? ⟨b2, o2 + q, none⟩ = some (.string xs[q])) := fun W h => (h.cell (p := ⟨b2, o2 + q, none⟩) hb2).trans hc2
            have hsz := (HBd.out _ (List.getElem_mem hlt2)).1
            have HF : Hid (q = 0 → cellsFrom sepC csvCell (decide (q + 1 = 0)) (acc2 ++ (csvCell xs[q]).data.toList) (xs.drop (q + 1)) = T) := fun h0 => by
              have h1 := hgo2.out
              rw [decide_eq_true h0, cells_first hlt2] at h1
              rw [show decide (q + 1 = 0) = false by simp]
              exact h1
            have HX : Hid (¬ q = 0 → cellsFrom sepC csvCell (decide (q + 1 = 0)) ((acc2 ++ [44]) ++ (csvCell xs[q]).data.toList) (xs.drop (q + 1)) = T) := fun h0 => by
              have h1 := hgo2.out
              rw [decide_eq_false h0, cells_next hlt2] at h1
              rw [show decide (q + 1 = 0) = false by simp]
              exact h1
            obtain ⟨x, hx⟩ : ∃ x, xs[q] = x := ⟨_, rfl⟩
            rw [hx] at hcxW hsz HF HX
            have hcx := hcxW.out _ hbel2
            have cC : ∀ W, Calls Tryd.prog 27 #[.string x] W fun e w' => e = .returned (.string (csvCell x)) ∧ Below W.heap.size W w' := fun W => specCell x W hsz
            have hcl := csvCell_len x
            obtain ⟨y, hy⟩ : ∃ y, csvCell x = y := ⟨_, rfl⟩
            rw [hy] at cC hcl HF HX
            have hltz2 : (q : Int) < (xs.length : Int) := by omega
            clear hc2 hx hy hgo2 hbel2
            by_cases h0 : q = 0
            · have h0z : ¬ (0 : Int) < (q : Int) := by omega
              have HG := Lib.hid (HF.out h0)
              clear h0 HF HX
              go_wp2_with (first | (go_at_call 27; refine (cC _).mono ?_; rintro e w2 ⟨rfl, b2⟩; have hr2 := HOwn.out.below b2; have B2 := HBel.out.trans (b2.mono hz); have z2 := B2.size) | (at_builtin; refine app_strR hr2 z2 rfl rfl (by omega) ?_; intro A4 c4 w4 hr4 hg4))
              have B4 := Lib.hid (B2.grown hg4 z2 hr2.block)
              have HR4 := Lib.hid hr4
              have hl4 : (acc2 ++ y.data.toList).length ≤ 4000 + 2003 * (q + 1) := by rw [List.length_append, size_join]; omega
              clear hr4 hg4 B2 b2 hr2 cC
              go_roundw
              case rel => exact ⟨q + 1, _, hlt2, by go_num, hl4, HR4.out, HG, B4.out⟩
              case measure => simp [intOf]; omega
            · have h0z : (0 : Int) < (q : Int) := by omega
              have HG := Lib.hid (HX.out h0)
              clear h0 HF HX
              go_wp2_with (first | (go_at_call 27; refine (cC _).mono ?_; rintro e w2 ⟨rfl, b2⟩; have hr2 := hr5.below b2; have B2 := B5.trans (b2.mono B5.size); have z2 := B2.size) | (at_builtin; refine app_strR hr2 z2 rfl rfl (by rw [List.length_append]; show acc2.length + 1 + _ ≤ _; omega) ?_; intro A4 c4 w4 hr4 hg4) | (at_builtin; refine app_byteR (c := 44) HOwn.out hz rfl rfl rfl rfl (by omega) ?_; intro A5 c5 w5 hr5 hg5; have B5 := (HBel.out.alloc hz (.cells #[.int .u8 44] 5)).grown hg5 (by simp; omega) HOwn.out.block; have hcx5 := hcxW.out _ B5; have hcr5 := hcW.out _ B5))
              have B4 := Lib.hid (B2.grown hg4 z2 hr2.block)
              rw [List.length_append] at hr4
              have HR4 : Hid (BytesR w4 w.heap.size (.slice A4 (acc2.length + 1 + y.size) c4) (acc2 ++ [44] ++ y.data.toList)) := hr4
              have hl4 : ((acc2 ++ [44]) ++ y.data.toList).length ≤ 4000 + 2003 * (q + 1) := by rw [List.length_append, List.length_append, size_join]; simp; omega
              clear hr4 hg4 B2 b2 hr2 cC B5 hr5 hg5
              go_roundw
              case rel => exact ⟨q + 1, _, hlt2, by go_num, hl4, HR4.out, HG, B4.out⟩
              case measure => simp [intOf]; omega
          · have HE := Lib.hid ((cells_end (by omega)).symm.trans hgo2.out)
            have hltz2 : ¬ (q : Int) < (xs.length : Int) := by omega
            have hq100 : acc2.length ≤ 300000 := by omega
            clear hgo2 hbel2
            obtain ⟨m, hm⟩ : ∃ m, acc2.length + 1 = m := ⟨_, rfl⟩
            have hm2 : (acc2 ++ [(10 : UInt8)]).length = m := by rw [List.length_append]; exact hm
            have HM := Lib.hid hm
            have HL2 : Hid (4000 < m → R = none) := fun h => HLong.out (by rw [← HE.out, hm2]; exact h)
            have HO2 : Hid (¬ 4000 < m → rowsFrom sepC csvCell (acc2 ++ [10]) (rs.drop (k + 1)) = R) := fun h => by have := HOn.out (by rw [← HE.out, hm2]; exact h); rw [← HE.out] at this; exact this
            clear hm hm2 HLong HOn HE
            by_cases hL : 4000 < m
            · have hLz : (4000 : Int) < (m : Int) := by omega
              have HRn := Lib.hid (HL2.out hL)
              go_wp2_with (at_builtin; refine app_byteR (c := 10) HOwn.out hz rfl rfl rfl rfl (by omega) ?_; intro A5 c5 w5 hr5 hg5; have B5 := (HBel.out.alloc hz (.cells #[.int .u8 10] 5)).grown hg5 (by simp; omega) HOwn.out.block; rw [HM.out] at hr5; rw [HM.out])
              go_ret2
              exact JoinIs.no HRn.out B5
            · have hLz : ¬ (4000 : Int) < (m : Int) := by omega
              have HRn := Lib.hid (HO2.out hL)
              go_wp2_with (at_builtin; refine app_byteR (c := 10) HOwn.out hz rfl rfl rfl rfl (by omega) ?_; intro A5 c5 w5 hr5 hg5; have B5 := (HBel.out.alloc hz (.cells #[.int .u8 10] 5)).grown hg5 (by simp; omega) HOwn.out.block; rw [HM.out] at hr5; rw [HM.out])
              have HB5 := Lib.hid B5
              have HR5 := Lib.hid hr5
              clear B5 hr5 hg5
              go_roundw
              case rel => exact ⟨k + 1, acc2 ++ [10], hlt, by go_num, by rw [List.length_append]; show acc2.length + 1 ≤ 4000; rw [HM.out]; omega, HR5.out, HRn, HB5.out⟩
              case measure => simp [intOf]; omega
      · have HE := Lib.hid (hgo.out.symm.trans (rows_end (by omega)))
        have hcv := conv_own (P := Tryd.prog) (dst := 9) Tryd.underlying22 Tryd.underlying5 Tryd.underlying9 HOwn.out
        clear hgo hbel
        go_wp2
        go_ret2
        exact JoinIs.yes HE.out HBel.out

end Go.Proofs.YtjklnfcoaakkgaaDoor
