/- spec.DecOf: an int as a decimal. No condition but that the number is an int's. -/
import Derived.Test.YthijeckcjfnbcaaGreatDoorNumTextD
import Derived.Test.YthijeckcjfnbcaaGreatDoorSpecDec2
import Derived.Test.YthijeckcjfnbcaaGreatDoorTailA
namespace Go.Proofs.YthijeckcjfnbcaaGreatDoor
set_option linter.unusedVariables false
open Go.RowKit

theorem dec_nat : ∀ v : Nat, Lib.decDigits v = natOf v := by
  intro v
  induction v using Nat.strongRecOn with
  | _ v ih =>
    rw [Lib.decDigits]
    by_cases h : v < 10
    · rw [dif_pos h, natOf_small h]; rfl
    · rw [dif_neg h, natOf_big h, ih (v / 10) (by omega)]; rfl
theorem itoa_neg {n : Int} (h : n < 0) : Lib.itoa n = 45 :: natOf n.natAbs := by unfold Lib.itoa; rw [if_pos h, dec_nat]
theorem itoa_pos {n : Int} (h : ¬ n < 0) : Lib.itoa n = natOf n.natAbs := by
  unfold Lib.itoa
  rw [if_neg h, dec_nat]
  congr 1; omega
/-- An int as a decimal. -/
def decOfV (n : Int) : DecV := (formOf (decide (n < 0)) n.natAbs 0).1
theorem nat20 {n : Int} (h0 : -9223372036854775808 ≤ n) (h1 : n ≤ 9223372036854775807) : (natOf n.natAbs).length ≤ 30 := by
  have := nat_len_le (v := n.natAbs) (k := 20) (by omega)
  omega
theorem ext_cons (b : UInt8) (l : List UInt8) : (⟨(b :: l).toArray⟩ : ByteArray).extract 1 (⟨(b :: l).toArray⟩ : ByteArray).size = ⟨l.toArray⟩ := by
  apply ByteArray.ext
  rw [ByteArray.data_extract]
  show (b :: l).toArray.extract 1 (b :: l).length = l.toArray
  apply Array.ext'
  simp

set_option maxHeartbeats 1000000 in
set_option maxRecDepth 100000 in
theorem specDecOf (n : Int) (w : World) (h0 : -9223372036854775808 ≤ n) (h1 : n ≤ 9223372036854775807) : Calls Tryz.prog 51 #[.int .i64 n] w (AnsD (decOfV n) w) := by
  have cN := fun W => NumT.specNumText n W h0 h1
  unfold NumT.StrIs at cN
  have K0 := DecAt.new w false ⟨#[]⟩ 0
  have B0 : Below w.heap.size w (w.alloc (.cells #[.bool false, .string ⟨#[]⟩, .int .i64 0] 25)) := (Below.refl _ _).alloc (Nat.le_refl _) _
  obtain ⟨u, hu⟩ : ∃ z : ByteArray, ⟨(natOf n.natAbs).toArray⟩ = z := ⟨_, rfl⟩
  have lu : u.data.toList = natOf n.natAbs := by rw [← hu]
  have zu : u.size ≤ 30 := by rw [← size_list, lu]; exact nat20 h0 h1
  have nu : nv u = n.natAbs := by unfold nv; rw [lu, val_natOf]
  have cF0 : ∀ neg W, _ := fun neg W => specForm neg u 0 false W (by omega) (by rw [lu]; exact natOf_digs _) (by omega) (by omega)
  simp only [Bool.false_eq_true, if_false, nu] at cF0
  by_cases hn : n < 0
  · have hd : decide (n < 0) = true := decide_eq_true hn
    have HV : Hid (decOfV n = (formOf true n.natAbs 0).1) := by show _ = _; unfold decOfV; rw [hd]
    rw [itoa_neg hn] at cN
    obtain ⟨t, ht⟩ : ∃ z : ByteArray, ⟨(45 :: natOf n.natAbs).toArray⟩ = z := ⟨_, rfl⟩
    have et : t.extract 1 t.size = u := by rw [← ht, ext_cons, hu]
    have zt : 1 ≤ t.size := by rw [← ht]; show 1 ≤ (45 :: natOf n.natAbs).length; simp
    rw [ht] at cN
    have cF := cF0 true
    unfold AnsDC at cF
    have HR : Hid (AnsD (decOfV n) w = AnsD (formOf true n.natAbs 0).1 w) := by show _ = _; rw [HV.out]
    rw [HR.out]
    obtain ⟨R, hR⟩ : ∃ R, formOf true n.natAbs 0 = R := ⟨_, rfl⟩
    rw [hR] at cF ⊢
    obtain ⟨⟨rn, rd, re⟩, rc⟩ := R
    dsimp only at cF ⊢
    obtain ⟨rs, hrs⟩ : ∃ rs : ByteArray, ⟨rd.toArray⟩ = rs := ⟨_, rfl⟩
    rw [hrs] at cF
    clear HR HV hR cF0 lu nu hu ht
    have zti : (1 : Int) ≤ (t.size : Int) := by omega
    go_enter Tryz.func51, Tryz.ntmps51
    go_wp2_with fail
    refine (cN _).mono ?_
    rintro r w1 ⟨rfl, B1⟩
    have K1 := K0.belowS B1
    have D1 := below_kept B0 (Nat.le_refl _) B1
    clear cN B1 B0 K0
    go_wp2_with fail
    refine (cF _).mono ?_
    rintro r w3 ⟨rfl, B3⟩
    obtain ⟨N4, N5, K5, D5⟩ := two_rows (rn := rn) (rs := rs) (re := re) (K1.belowS B3) (below_kept D1 (Nat.le_refl _) B3)
    clear cF B3 K1 D1
    go_wp2_with (first | (with_reducible show wpList _ _ _ (⟨_, .store _ _ _, _, _, _, _⟩ :: _) _ _; first | refine store_dec w3.heap.size rfl rfl N4 ?_ | refine store_dec w.heap.size rfl rfl K5 ?_) | (with_reducible show wpList _ _ _ (⟨_, .load _ _, _, _, _, _⟩ :: _) _ _; refine load_dec w3.heap.size rfl N5 ?_))
    refine bodyPost_ret (results_dec rfl _ _ rfl K5.row) rfl ⟨?_, below_row3 D5 (Nat.le_refl _) _⟩
    rw [← hrs]
  · have hd : decide (n < 0) = false := decide_eq_false hn
    have HV : Hid (decOfV n = (formOf false n.natAbs 0).1) := by show _ = _; unfold decOfV; rw [hd]
    rw [itoa_pos hn, hu] at cN
    have cF := cF0 false
    unfold AnsDC at cF
    have HR : Hid (AnsD (decOfV n) w = AnsD (formOf false n.natAbs 0).1 w) := by show _ = _; rw [HV.out]
    rw [HR.out]
    obtain ⟨R, hR⟩ : ∃ R, formOf false n.natAbs 0 = R := ⟨_, rfl⟩
    rw [hR] at cF ⊢
    obtain ⟨⟨rn, rd, re⟩, rc⟩ := R
    dsimp only at cF ⊢
    obtain ⟨rs, hrs⟩ : ∃ rs : ByteArray, ⟨rd.toArray⟩ = rs := ⟨_, rfl⟩
    rw [hrs] at cF
    clear HR HV hR cF0 lu nu hu
    go_enter Tryz.func51, Tryz.ntmps51
    go_wp2_with fail
    refine (cN _).mono ?_
    rintro r w1 ⟨rfl, B1⟩
    have K1 := K0.belowS B1
    have D1 := below_kept B0 (Nat.le_refl _) B1
    clear cN B1 B0 K0
    go_wp2_with fail
    refine (cF _).mono ?_
    rintro r w3 ⟨rfl, B3⟩
    obtain ⟨N4, N5, K5, D5⟩ := two_rows (rn := rn) (rs := rs) (re := re) (K1.belowS B3) (below_kept D1 (Nat.le_refl _) B3)
    clear cF B3 K1 D1
    go_wp2_with (first | (with_reducible show wpList _ _ _ (⟨_, .store _ _ _, _, _, _, _⟩ :: _) _ _; first | refine store_dec w3.heap.size rfl rfl N4 ?_ | refine store_dec w.heap.size rfl rfl K5 ?_) | (with_reducible show wpList _ _ _ (⟨_, .load _ _, _, _, _, _⟩ :: _) _ _; refine load_dec w3.heap.size rfl N5 ?_))
    refine bodyPost_ret (results_dec rfl _ _ rfl K5.row) rfl ⟨?_, below_row3 D5 (Nat.le_refl _) _⟩
    rw [← hrs]

end Go.Proofs.YthijeckcjfnbcaaGreatDoor
