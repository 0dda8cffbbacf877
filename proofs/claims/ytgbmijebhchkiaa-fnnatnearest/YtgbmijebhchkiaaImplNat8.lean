/- impl.NatSub. Conditions: at most 1048576 bytes. -/
import Derived.Test.YtgbmijebhchkiaaImplNat7
namespace Go.Proofs.Ytgbmijebhchkiaa
open Go.RowKit
open Go.Lib (byteCells)

set_option maxHeartbeats 2000000 in
set_option maxRecDepth 100000 in
theorem implNatSub (s t : ByteArray) (w : World) (hs : s.size ≤ 1048576) (ht : t.size ≤ 1048576) : Calls Try.prog 23 #[.string s, .string t] w (Ans2 (subOf s t) w) := by
  have cN := fun W => implNaturalsOf s t W hs ht
  have hz := Try.zeroNat
  unfold AnsNats at cN
  clear hs ht
  have HV : Hid ((okS s && okS t) = true → ofV t ≤ ofV s → subOf s t = (natOf (ofV s - ofV t), true) ∧ fits (ofV s - ofV t) = (natOf (ofV s - ofV t), true)) := fun h hle => by
    obtain ⟨g1, g2⟩ := ofV_bad h
    rw [ofV_eq g1, ofV_eq g2] at *
    refine ⟨by unfold subOf; rw [if_pos ⟨g1, g2, hle⟩], ?_⟩
    unfold fits
    rw [if_pos]
    have h6 := nat_len g1
    by_cases h0 : nv s - nv t = 0
    · rw [h0, natOf_small (by omega)]; simp
    · rw [← len_nz h0]
      exact Nat.le_trans (len_le_of (Nat.lt_of_le_of_lt (Nat.sub_le _ _) (lt_len (nv s)))) h6
  have HX : Hid ((okS s && okS t) = true → ¬ ofV t ≤ ofV s → subOf s t = ([], false)) := fun h hle => by
    obtain ⟨g1, g2⟩ := ofV_bad h
    rw [ofV_eq g1, ofV_eq g2] at hle
    unfold subOf; rw [if_neg (fun h => hle h.2.2)]
  have HW : Hid ((okS s && okS t) = false → subOf s t = ([], false)) := fun h => by
    unfold subOf; rw [if_neg (fun g => ofV_not h ⟨g.1, g.2.1⟩)]
  generalize ofV s = va at *
  generalize ofV t = vb at *
  generalize (okS s && okS t) = ok at *
  go_enter Try.func23, Try.ntmps23
  go_wp2_with fail
  refine (cN _).mono ?_
  rintro e w1 ⟨C, D, rfl, IC, ID, B1⟩
  clear cN
  have H1 := two_first w1
  have H2 := two_second w1 C
  obtain ⟨N1, N2, D1, _⟩ := two_is B1 IC ID
  cases ok
  · have HE := Lib.hid (HW.out rfl)
    clear HW HV HX
    go_wp2_with (first | (refine store_nat w1.heap.size rfl rfl H1 zero_is IC ?_) | (refine store_nat (w1.heap.size + 1) rfl rfl H2 zero_is ID ?_))
    go_ret2
    exact ⟨by rw [HE.out]; rfl, D1⟩
  · have HV2 := Lib.hid (HV.out rfl)
    have HX2 := Lib.hid (HX.out rfl)
    clear HW HV HX
    have cC := implCompare _ _ _ _ _ N1 N2
    unfold AnsN at cC
    go_wp2_with (first | (refine store_nat w1.heap.size rfl rfl H1 zero_is IC ?_) | (refine store_nat (w1.heap.size + 1) rfl rfl H2 zero_is ID ?_))
    change Calls _ _ _ (two w1 C D) _
    have e1 := NatAt.lt N1
    have e2 := NatAt.lt N2
    have hB1 := B1.size
    refine cC.mono ?_
    rintro e w3 ⟨rfl, B3⟩
    have D3 := D1.trans (B3.mono D1.size)
    have M1 := N1.below B3 e1
    have M2 := N2.below B3 e2
    clear cC N1 N2 D1 B3 H1 H2 e1 e2
    by_cases hle : vb ≤ va
    · obtain ⟨HE, HF⟩ := HV2.out hle
      have HEE := Lib.hid (HE.trans HF.symm)
      have hc : ¬ cmpN va vb < 0 := by unfold cmpN; rw [if_neg (by omega)]; split <;> omega
      have cS := implSubtract _ _ _ _ _ M1 M2 (by omega) hle
      unfold Left at cS
      clear HE HF HV2 HX2
      go_wp2_with fail
      refine cS.mono ?_
      rintro e w4 ⟨rfl, N4, G4, Z4⟩
      have D4 := D3.grown G4 D3.size (fun k hk => by injection hk with hk; omega)
      have cR := implResult _ _ _ N4
      unfold Ans2 at cR
      clear cS M1 M2 N4 G4 Z4 D3
      go_wp2_with fail
      refine cR.mono ?_
      rintro e w5 ⟨rfl, B5⟩
      have D5 := D4.trans (B5.mono D4.size)
      clear cR B5 D4
      generalize fits (va - vb) = f at *
      go_wp2
      go_ret2
      exact ⟨by rw [HEE.out]; rfl, D5⟩
    · have HE := Lib.hid (HX2.out hle)
      have hc : cmpN va vb < 0 := by unfold cmpN; rw [if_pos (by omega)]; omega
      clear HV2 HX2
      go_wp2
      go_ret2
      exact ⟨by rw [HE.out]; rfl, D3⟩

end Go.Proofs.Ytgbmijebhchkiaa
