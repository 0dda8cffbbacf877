/- impl.DecInt. Condition: at most 1048576 digits. -/
import Derived.Test.YthijeckcjfnbcaaGreatDoorDecPlain2
import Derived.Test.YthijeckcjfnbcaaGreatDoorImplDec5
import Derived.Test.YthijeckcjfnbcaaGreatDoorTailA
import Derived.Test.YthijeckcjfnbcaaGreatDoorHeldDec
namespace Go.Proofs.YthijeckcjfnbcaaGreatDoor
set_option linter.unusedVariables false
open Go.RowKit

set_option maxHeartbeats 1000000 in
set_option maxRecDepth 100000 in
theorem implDecInt (n : Bool) (s : ByteArray) (e : Int) (w : World) (hs : s.size ≤ 1048576) (b1 : -9223372036854775808 ≤ e) (b2 : e ≤ 9223372036854775807) :
    Calls Tryz.prog 21 #[.agg #[.bool n, .string s, .int .i64 e]] w (AnsD (intR (dOf n s e)) w) := by
  obtain ⟨R, hR⟩ : ∃ R, intR (dOf n s e) = R := ⟨_, rfl⟩
  rw [hR]
  unfold intR at hR
  have HR := Lib.hid hR
  clear hR
  have KA0 := (DecAt.new w n s e).alloc (.cells #[.bool false, .string ⟨#[]⟩, .int .i64 0] 25)
  have KR0 := DecAt.new (w.alloc (.cells #[.bool n, .string s, .int .i64 e] 25)) false ⟨#[]⟩ 0
  rw [show (w.alloc (.cells #[.bool n, .string s, .int .i64 e] 25)).heap.size = w.heap.size + 1 by simp] at KR0
  have B0 : Below w.heap.size w ((w.alloc (.cells #[.bool n, .string s, .int .i64 e] 25)).alloc (.cells #[.bool false, .string ⟨#[]⟩, .int .i64 0] 25)) := ((Below.refl _ _).alloc (Nat.le_refl _) _).alloc (by simp) _
  have cO := fun W => implDecOk n s e W hs b1 b2
  go_enter Tryz.func21, Tryz.ntmps21
  go_wp2_with fail
  refine (cO _).mono ?_
  intro r w1 hr
  obtain ⟨hb, B1⟩ := AnsB.get hr
  have L1 := held3 ⟨KA0, KR0, B0⟩ B1
  clear B1 hr B0 KA0 KR0
  obtain ⟨KA, KR, D⟩ := L1
  obtain ⟨k0, k1, k2⟩ := KA.cell
  clear cO
  rcases hb with ⟨rfl, hb⟩ | ⟨rfl, hb⟩
  · have HP := Lib.hid hb
    clear hb
    obtain ⟨d1, q1, x1, x2⟩ := ok_size HP.out
    by_cases he : 0 ≤ e
    · have HV : Hid (R = dOf n s e) := by
        show _ = _
        rw [← HR.out, if_pos HP.out]
        unfold intOfD
        rw [if_pos (show 0 ≤ (dOf n s e).exp from he)]
      have cF := fun W => implNorm n s e W (by omega) d1 (by omega) (by omega)
      rw [show formOf n (nv s) e = (dOf n s e, 0) from form_self HP.out] at cF
      unfold AnsDC at cF
      dsimp only at cF
      rw [show (⟨(dOf n s e).dig.toArray⟩ : ByteArray) = s from mk_list s] at cF
      change ∀ W, Calls _ _ _ W fun r w' => r = .returned (.tuple #[.agg (row3 n s e), .int .i64 0]) ∧ Below W.heap.size W w' at cF
      have hen : ¬ e < 0 := by omega
      clear HR d1
      go_wp2_with fail
      refine wp_region_kept_all (fun w' => DecAt w' w.heap.size n s e ∧ DecAt w' (w.heap.size + 1) false ⟨#[]⟩ 0 ∧ Below w.heap.size w w') (by kernel_rfl) (by kernel_rfl) (fun _ _ d _ _ h => by cases d <;> exact h) ⟨KA, KR, D.drew⟩ ?_
      (refine kept_step (fun K hK => ?_); go_simp; refine ⟨_, fun W hW => .inl (by obtain ⟨h0, h1, h2⟩ := hW.1.cell; go_simp; exact rfl), hK _ ?_⟩; clear hK K)
      (refine kept_step (fun K hK => ?_); go_simp; refine ⟨_, fun W hW => .inl (by obtain ⟨h0, h1, h2⟩ := hW.1.cell; go_simp; exact rfl), hK _ ?_⟩; clear hK K)
      (refine kept_step (fun K hK => ?_); go_simp; refine ⟨_, fun W hW => .inl (by obtain ⟨h0, h1, h2⟩ := hW.1.cell; go_simp; exact rfl), hK _ ?_⟩; clear hK K)
      (refine kept_step (fun K hK => ?_); go_simp; refine ⟨_, fun W hW => .inl (by obtain ⟨h0, h1, h2⟩ := hW.1.cell; go_simp; exact rfl), hK _ ?_⟩; clear hK K)
      (refine kept_step (fun K hK => ?_); go_simp; refine ⟨_, fun W hW => .inl (by obtain ⟨h0, h1, h2⟩ := hW.1.cell; go_simp; exact rfl), hK _ ?_⟩; clear hK K)
      (refine kept_step (fun K hK => ?_); go_simp; refine ⟨_, fun W hW => .inl (by obtain ⟨h0, h1, h2⟩ := hW.1.cell; go_simp; exact rfl), hK _ ?_⟩; clear hK K)
      refine kept_nil ?_
      rintro W ⟨h0, h1, h2⟩
      clear KA KR D k0 k1 k2
      obtain ⟨k0, k1, k2⟩ := h0.cell
      have KA := h0
      have KR := h1
      have D := h2
      clear h0 h1 h2
      go_wp2_with fail
      refine (cF _).mono ?_
      rintro r w3 ⟨rfl, B3⟩
      have L3 := held3 ⟨KA, KR, D⟩ B3
      clear cF B3 KA KR D k0 k1 k2
      obtain ⟨KA, KR, D⟩ := L3
      have N4 := DecAt.new w3 false ⟨#[]⟩ 0
      have N5 : DecAt ((w3.alloc (.cells (row3 false ⟨#[]⟩ 0) 25)).setRow w3.heap.size (row3 n s e)) w3.heap.size n s e := N4.row
      have K5 : DecAt ((w3.alloc (.cells (row3 false ⟨#[]⟩ 0) 25)).setRow w3.heap.size (row3 n s e)) (w.heap.size + 1) false ⟨#[]⟩ 0 := (KR.alloc _).rowO (Nat.ne_of_lt KR.lt) _
      have D5 := below_row3 (D.alloc D.size (.cells (row3 false ⟨#[]⟩ 0) 25)) (g := w3.heap.size) D.size (row3 n s e)
      clear KA KR D
      go_wp2_with (first | (with_reducible show wpList _ _ _ (⟨_, .store _ _ _, _, _, _, _⟩ :: _) _ _; first | refine store_dec w3.heap.size rfl rfl N4 ?_ | refine store_dec (w.heap.size + 1) rfl rfl K5 ?_) | (with_reducible show wpList _ _ _ (⟨_, .load _ _, _, _, _, _⟩ :: _) _ _; refine load_dec w3.heap.size rfl N5 ?_))
      refine bodyPost_ret (results_dec rfl _ _ rfl K5.row) rfl ?_
      rw [HV.out]
      exact ans_self (below_row3 D5 (Nat.le_succ _) _)
    · obtain ⟨k, hk⟩ : ∃ k : Nat, ((s.size : Int) + e).toNat = k := ⟨_, rfl⟩
      have HV : Hid (R = (formOf n (val (s.data.toList.take k)) 0).1) := by
        show _ = _
        rw [← HR.out, if_pos HP.out]
        unfold intOfD
        rw [if_neg (show ¬ 0 ≤ (dOf n s e).exp from he)]
        show (formOf n (val (s.data.toList.take ((s.data.toList.length : Int) + e).toNat)) 0).1 = _
        rw [size_list, hk]
      have i1 := IntWalk.i64_in ((s.size : Int) + e) ⟨by omega, by omega⟩
      have hmax : max ((s.size : Int) + e) 0 = (k : Int) := by rw [Int.max_def]; split <;> omega
      have hks : k ≤ s.size := by omega
      obtain ⟨t, ht⟩ : ∃ t : ByteArray, s.extract 0 k = t := ⟨_, rfl⟩
      have lt : t.data.toList = s.data.toList.take k := by rw [← ht]; exact ext_take s k
      have zt : t.size ≤ 20 := by rw [← size_list, lt, List.length_take, size_list]; omega
      have cF := fun W => implNorm n t 0 W (by omega) (by rw [lt]; exact fun b hb => d1 b (List.mem_of_mem_take hb)) (by omega) (by omega)
      rw [show nv t = val (s.data.toList.take k) by unfold nv; rw [lt]] at cF
      obtain ⟨Q, hQ⟩ : ∃ Q, formOf n (val (s.data.toList.take k)) 0 = Q := ⟨_, rfl⟩
      rw [hQ] at cF HV
      unfold AnsDC at cF
      obtain ⟨⟨rn, rd, re⟩, rc⟩ := Q
      dsimp only at cF HV
      obtain ⟨rs, hrs⟩ : ∃ rs : ByteArray, ⟨rd.toArray⟩ = rs := ⟨_, rfl⟩
      rw [hrs] at cF
      have hen : e < 0 := by omega
      have hksi : (k : Int) ≤ (s.size : Int) := by omega
      clear HR d1 lt hk hQ he
      go_wp2_with fail
      refine wp_region_kept_all (fun w' => DecAt w' w.heap.size n s e ∧ DecAt w' (w.heap.size + 1) false ⟨#[]⟩ 0 ∧ Below w.heap.size w w') (by kernel_rfl) (by kernel_rfl) (fun _ _ d _ _ h => by cases d <;> exact h) ⟨KA, KR, D.drew⟩ ?_
      (refine kept_step (fun K hK => ?_); go_simp; refine ⟨_, fun W hW => .inl (by obtain ⟨h0, h1, h2⟩ := hW.1.cell; go_simp; exact rfl), hK _ ?_⟩; clear hK K)
      (refine kept_step (fun K hK => ?_); go_simp; refine ⟨_, fun W hW => .inl (by obtain ⟨h0, h1, h2⟩ := hW.1.cell; go_simp; exact rfl), hK _ ?_⟩; clear hK K)
      (refine kept_step (fun K hK => ?_); go_simp; refine ⟨_, fun W hW => .inl (by obtain ⟨h0, h1, h2⟩ := hW.1.cell; go_simp; exact rfl), hK _ ?_⟩; clear hK K)
      (refine kept_step (fun K hK => ?_); go_simp; refine ⟨_, fun W hW => .inl (by obtain ⟨h0, h1, h2⟩ := hW.1.cell; go_simp; exact rfl), hK _ ?_⟩; clear hK K)
      (refine kept_step (fun K hK => ?_); go_simp; refine ⟨_, fun W hW => .inl (by obtain ⟨h0, h1, h2⟩ := hW.1.cell; go_simp; exact rfl), hK _ ?_⟩; clear hK K)
      (refine kept_step (fun K hK => ?_); go_simp; refine ⟨_, fun W hW => .inl (by obtain ⟨h0, h1, h2⟩ := hW.1.cell; go_simp; exact rfl), hK _ ?_⟩; clear hK K)
      refine kept_nil ?_
      rintro W ⟨h0, h1, h2⟩
      clear KA KR D k0 k1 k2
      obtain ⟨k0, k1, k2⟩ := h0.cell
      have KA := h0
      have KR := h1
      have D := h2
      clear h0 h1 h2
      go_wp2_with fail
      refine (cF _).mono ?_
      rintro r w3 ⟨rfl, B3⟩
      have L3 := held3 ⟨KA, KR, D⟩ B3
      clear cF B3 KA KR D k0 k1 k2
      obtain ⟨KA, KR, D⟩ := L3
      have N4 := DecAt.new w3 false ⟨#[]⟩ 0
      have N5 : DecAt ((w3.alloc (.cells (row3 false ⟨#[]⟩ 0) 25)).setRow w3.heap.size (row3 rn rs re)) w3.heap.size rn rs re := N4.row
      have K5 : DecAt ((w3.alloc (.cells (row3 false ⟨#[]⟩ 0) 25)).setRow w3.heap.size (row3 rn rs re)) (w.heap.size + 1) false ⟨#[]⟩ 0 := (KR.alloc _).rowO (Nat.ne_of_lt KR.lt) _
      have D5 := below_row3 (D.alloc D.size (.cells (row3 false ⟨#[]⟩ 0) 25)) (g := w3.heap.size) D.size (row3 rn rs re)
      clear KA KR D
      go_wp2_with (first | (with_reducible show wpList _ _ _ (⟨_, .store _ _ _, _, _, _, _⟩ :: _) _ _; first | refine store_dec w3.heap.size rfl rfl N4 ?_ | refine store_dec (w.heap.size + 1) rfl rfl K5 ?_) | (with_reducible show wpList _ _ _ (⟨_, .load _ _, _, _, _, _⟩ :: _) _ _; refine load_dec w3.heap.size rfl N5 ?_))
      refine bodyPost_ret (results_dec rfl _ _ rfl K5.row) rfl ⟨?_, below_row3 D5 (Nat.le_succ _) _⟩
      rw [HV.out, ← hrs]
  · have HV : Hid (R = DecV.zero) := by show _ = _; rw [← HR.out, if_neg hb]
    clear HR hb
    go_wp2_with (with_reducible show wpList _ _ _ (⟨_, .store _ _ _, _, _, _, _⟩ :: _) _ _; refine store_dec (w.heap.size + 1) rfl rfl KR ?_)
    refine bodyPost_ret (results_dec rfl _ _ rfl KR.row) rfl ⟨?_, below_row3 D (Nat.le_succ _) _⟩
    rw [HV.out]; rfl

end Go.Proofs.YthijeckcjfnbcaaGreatDoor
