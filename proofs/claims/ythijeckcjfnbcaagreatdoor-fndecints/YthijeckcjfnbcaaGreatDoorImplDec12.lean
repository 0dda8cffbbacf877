/- impl.cutSign and impl.DecOf. Conditions: at most 1048576 bytes; strconv's table of powers lies as Go's text lays it. -/
import Derived.Test.YthijeckcjfnbcaaGreatDoorImplDec5
import Derived.Test.YthijeckcjfnbcaaGreatDoorSpecDec12
import Derived.Lib.AppendIntMem
namespace Go.Proofs.YthijeckcjfnbcaaGreatDoor
set_option linter.unusedVariables false
open Go.RowKit

/-- A sign ahead of a text, and the rest. -/
def cutS : List UInt8 → Bool × List UInt8
  | [] => (false, [])
  | b :: r => if b = 43 ∨ b = 45 then (decide (b = 45), r) else (false, b :: r)

theorem cons_of {s : ByteArray} (h : 0 < s.size) : s.data.toList = s[0] :: s.data.toList.drop 1 := by
  have hl := size_list s
  have := List.drop_eq_getElem_cons (l := s.data.toList) (i := 0) (by omega)
  rw [List.drop_zero] at this
  exact this
theorem drop_of {s : ByteArray} (h : 0 < s.size) : (⟨(s.data.toList.drop 1).toArray⟩ : ByteArray) = s.extract 1 s.size := by
  rw [← Lib.ext_list s 1]

set_option maxHeartbeats 1000000 in
set_option maxRecDepth 100000 in
theorem implCutSign (s : ByteArray) (w : World) (hs : s.size ≤ 1048576) :
    Calls Tryz.prog 44 #[.string s] w fun r w' => r = .returned (.tuple #[.bool (cutS s.data.toList).1, .string ⟨(cutS s.data.toList).2.toArray⟩]) ∧ Below w.heap.size w w' := by
  obtain ⟨R, hR⟩ : ∃ R, cutS s.data.toList = R := ⟨_, rfl⟩
  rw [hR]
  have HR := Lib.hid hR
  clear hR
  by_cases h0 : s.size = 0
  · have hnil : s.toList.isEmpty = true := by rw [List.isEmpty_iff]; exact toList_nil.2 h0
    have HV : Hid (R = (false, s.data.toList)) := by
      show _ = _
      rw [← HR.out, show s.data.toList = [] from List.eq_nil_of_length_eq_zero (by rw [size_list]; exact h0)]
      rfl
    clear h0 HR
    go_enter Tryz.func44, Tryz.ntmps44
    go_wp2
    go_ret2
    exact ⟨by rw [HV.out]; simp, Below.refl _ _⟩
  · have hnil : s.toList.isEmpty = false := by rw [List.isEmpty_eq_false_iff]; exact fun h => h0 (toList_nil.1 h)
    have hp : 0 < s.size := by omega
    obtain ⟨x, hx⟩ : ∃ x, s[0] = x := ⟨_, rfl⟩
    obtain ⟨t, ht⟩ : ∃ t : ByteArray, s.extract 1 s.size = t := ⟨_, rfl⟩
    have hc := cons_of hp
    rw [hx] at hc
    have c43 : x = 43 ↔ x.toNat = 43 := ⟨fun e => by rw [e]; rfl, fun e => UInt8.toNat_inj.1 (by show x.toNat = 43; exact e)⟩
    have c45 : x = 45 ↔ x.toNat = 45 := ⟨fun e => by rw [e]; rfl, fun e => UInt8.toNat_inj.1 (by show x.toNat = 45; exact e)⟩
    have HV : Hid (R = if x.toNat = 43 ∨ x.toNat = 45 then (decide (x.toNat = 45), s.data.toList.drop 1) else (false, s.data.toList)) := by
      show _ = _
      rw [← HR.out, hc]
      unfold cutS
      simp only [c43, c45, List.drop_succ_cons, List.drop_zero]
    have HD := Lib.hid (drop_of hp)
    have hzi : (1 : Int) ≤ (s.size : Int) := by omega
    have B0 : Below w.heap.size w w.drew := (Below.refl _ _).drew
    clear hc HR c43 c45
    by_cases g1 : x.toNat = 43
    · have HE : Hid (R = (false, s.data.toList.drop 1)) := by show _ = _; rw [HV.out, if_pos (.inl g1), decide_eq_false (by omega)]
      have e1 : ((x.toNat : Int) == 43) = true := by rw [beq_iff_eq]; omega
      have e2 : ((x.toNat : Int) == 45) = false := by rw [beq_eq_false_iff_ne]; omega
      clear HV g1
      go_enter Tryz.func44, Tryz.ntmps44
      go_wp2_with fail
      refine wp_region_kept_all (fun w' => Below w.heap.size w w') (by kernel_rfl) (by kernel_rfl) (fun _ _ d _ _ h => by cases d <;> exact h) B0 ?_
      iterate 7 (refine kept_step (fun K hK => ?_); go_simp; refine ⟨_, fun W hW => .inl (by go_simp; exact rfl), hK _ ?_⟩; clear hK K)
      refine kept_nil ?_
      intro W hW
      go_wp2
      go_ret2
      exact ⟨by rw [HE.out]; show _ = Ending.returned (.tuple #[.bool false, .string ⟨(s.data.toList.drop 1).toArray⟩]); rw [HD.out, ht]; rfl, hW⟩
    · by_cases g2 : x.toNat = 45
      · have HE : Hid (R = (true, s.data.toList.drop 1)) := by show _ = _; rw [HV.out, if_pos (.inr g2), decide_eq_true g2]
        have e1 : ((x.toNat : Int) == 43) = false := by rw [beq_eq_false_iff_ne]; omega
        have e2 : ((x.toNat : Int) == 45) = true := by rw [beq_iff_eq]; omega
        clear HV g1 g2
        go_enter Tryz.func44, Tryz.ntmps44
        go_wp2_with fail
        refine wp_region_kept_all (fun w' => Below w.heap.size w w') (by kernel_rfl) (by kernel_rfl) (fun _ _ d _ _ h => by cases d <;> exact h) B0 ?_
        iterate 7 (refine kept_step (fun K hK => ?_); go_simp; refine ⟨_, fun W hW => .inl (by go_simp; exact rfl), hK _ ?_⟩; clear hK K)
        refine kept_nil ?_
        intro W hW
        go_wp2
        go_ret2
        exact ⟨by rw [HE.out]; show _ = Ending.returned (.tuple #[.bool true, .string ⟨(s.data.toList.drop 1).toArray⟩]); rw [HD.out, ht]; rfl, hW⟩
      · have HE : Hid (R = (false, s.data.toList)) := by show _ = _; rw [HV.out, if_neg (by omega)]
        have e1 : ((x.toNat : Int) == 43) = false := by rw [beq_eq_false_iff_ne]; omega
        have e2 : ((x.toNat : Int) == 45) = false := by rw [beq_eq_false_iff_ne]; omega
        clear HV g1 g2
        go_enter Tryz.func44, Tryz.ntmps44
        go_wp2
        go_ret2
        exact ⟨by rw [HE.out]; simp, Below.refl _ _⟩

theorem cut_digs {l : List UInt8} (hd : Digs l) : cutS l = (false, l) := by
  cases l with
  | nil => rfl
  | cons b r =>
    have := hd.cons.1
    unfold IsD at this
    show (if b = 43 ∨ b = 45 then (decide (b = 45), r) else (false, b :: r)) = _
    rw [if_neg]
    rintro (g | g)
    · rw [g] at this; exact absurd this.1 (by decide)
    · rw [g] at this; exact absurd this.1 (by decide)
theorem cut_itoa (n : Int) : cutS (Lib.itoa n) = (decide (n < 0), natOf n.natAbs) := by
  by_cases h : n < 0
  · rw [itoa_neg h, decide_eq_true h]; rfl
  · rw [itoa_pos h, decide_eq_false h]; exact cut_digs (natOf_digs _)

set_option maxHeartbeats 1000000 in
set_option maxRecDepth 100000 in
theorem implDecOf (n : Int) (w : World) (h0 : -9223372036854775808 ≤ n) (h1 : n ≤ 9223372036854775807) (t : ByteArray) (ht : t = ⟨(Lib.itoa n).toArray⟩)
    (cI : ∀ W, Below w.heap.size w W → Calls Tryz.prog 45 #[.int .i64 n] W fun e w' => e = .returned (.string t) ∧ Below W.heap.size W w') :
    Calls Tryz.prog 17 #[.int .i64 n] w (AnsD (decOfV n) w) := by
  have lt : t.data.toList = Lib.itoa n := by rw [ht]
  have zt : t.size ≤ 31 := by
    rw [← size_list, lt]
    have := nat20 h0 h1
    by_cases h : n < 0
    · rw [itoa_neg h, List.length_cons]; omega
    · rw [itoa_pos h]; omega
  have cC := fun W => implCutSign t W (by omega)
  rw [lt, cut_itoa] at cC
  dsimp only at cC
  have K0 := DecAt.new w false ⟨#[]⟩ 0
  have B0 : Below w.heap.size w (w.alloc (.cells #[.bool false, .string ⟨#[]⟩, .int .i64 0] 25)) := (Below.refl _ _).alloc (Nat.le_refl _) _
  obtain ⟨u, hu⟩ : ∃ z : ByteArray, ⟨(natOf n.natAbs).toArray⟩ = z := ⟨_, rfl⟩
  have lu : u.data.toList = natOf n.natAbs := by rw [← hu]
  have zu : u.size ≤ 30 := by rw [← size_list, lu]; exact nat20 h0 h1
  have nu : nv u = n.natAbs := by unfold nv; rw [lu, val_natOf]
  rw [hu] at cC
  have cF := fun W => implNorm (decide (n < 0)) u 0 W (by omega) (by rw [lu]; exact natOf_digs _) (by omega) (by omega)
  rw [nu] at cF
  unfold decOfV
  obtain ⟨R, hR⟩ : ∃ R, formOf (decide (n < 0)) n.natAbs 0 = R := ⟨_, rfl⟩
  rw [hR] at cF ⊢
  unfold AnsDC at cF
  obtain ⟨⟨rn, rd, re⟩, rc⟩ := R
  dsimp only at cF ⊢
  obtain ⟨rs, hrs⟩ : ∃ rs : ByteArray, ⟨rd.toArray⟩ = rs := ⟨_, rfl⟩
  rw [hrs] at cF
  generalize decide (n < 0) = neg at *
  clear hR lu nu hu ht lt
  go_enter Tryz.func17, Tryz.ntmps17
  go_wp2_with fail
  refine (cI _ B0).mono ?_
  rintro r w1 ⟨rfl, B1⟩
  have K1 := K0.belowS B1
  have D1 := below_kept B0 (Nat.le_refl _) B1
  clear cI B1 B0 K0
  go_wp2_with fail
  refine (cC _).mono ?_
  rintro r w2 ⟨rfl, B2⟩
  have K2 := K1.belowS B2
  have D2 := below_kept D1 (Nat.le_refl _) B2
  clear cC B2 D1 K1
  go_wp2_with fail
  refine (cF _).mono ?_
  rintro r w3 ⟨rfl, B3⟩
  obtain ⟨N4, N5, K5, D5⟩ := two_rows (rn := rn) (rs := rs) (re := re) (K2.belowS B3) (below_kept D2 (Nat.le_refl _) B3)
  clear cF B3 K2 D2
  go_wp2_with (first | (with_reducible show wpList _ _ _ (⟨_, .store _ _ _, _, _, _, _⟩ :: _) _ _; first | refine store_dec w3.heap.size rfl rfl N4 ?_ | refine store_dec w.heap.size rfl rfl K5 ?_) | (with_reducible show wpList _ _ _ (⟨_, .load _ _, _, _, _, _⟩ :: _) _ _; refine load_dec w3.heap.size rfl N5 ?_))
  refine bodyPost_ret (results_dec rfl _ _ rfl K5.row) rfl ⟨?_, below_row3 D5 (Nat.le_refl _) _⟩
  rw [← hrs]

end Go.Proofs.YthijeckcjfnbcaaGreatDoor
