/- spec.DecInt. Condition: at most 1048576 digits. -/
import Derived.Test.YtpkmhojcccpolabDoorDecPlain2
import Derived.Test.YtpkmhojcccpolabDoorSpecDec2
import Derived.Test.YtpkmhojcccpolabDoorTailDec2
import Derived.Test.YtpkmhojcccpolabDoorHeldDec
namespace Go.Proofs.YtpkmhojcccpolabDoor
set_option linter.unusedVariables false
open Go.RowKit

set_option maxHeartbeats 1000000 in
set_option maxRecDepth 100000 in
theorem specDecInt (n : Bool) (s : ByteArray) (e : Int) (w : World) (hs : s.size ≤ 1048576) (b1 : -9223372036854775808 ≤ e) (b2 : e ≤ 9223372036854775807) :
    Calls Tryd.prog 5 #[.agg #[.bool n, .string s, .int .i64 e]] w (AnsD (intR (dOf n s e)) w) := by
  obtain ⟨R, hR⟩ : ∃ R, intR (dOf n s e) = R := ⟨_, rfl⟩
  rw [hR]
  unfold intR at hR
  have HR := Lib.hid hR
  clear hR
  have KA0 := (DecAt.new w n s e).alloc (.cells #[.bool false, .string ⟨#[]⟩, .int .i64 0] 25)
  have KR0 := DecAt.new (w.alloc (.cells #[.bool n, .string s, .int .i64 e] 25)) false ⟨#[]⟩ 0
  rw [show (w.alloc (.cells #[.bool n, .string s, .int .i64 e] 25)).heap.size = w.heap.size + 1 by simp] at KR0
  have B0 : Below w.heap.size w ((w.alloc (.cells #[.bool n, .string s, .int .i64 e] 25)).alloc (.cells #[.bool false, .string ⟨#[]⟩, .int .i64 0] 25)) := ((Below.refl _ _).alloc (Nat.le_refl _) _).alloc (by simp) _
  have cO := fun W => specDecOk n s e W hs b1 b2
  go_enter Tryd.func5, Tryd.ntmps5
  go_wp2_with fail
  refine (cO _).mono ?_
  intro r w1 hr
  obtain ⟨hb, B1⟩ := AnsB.get hr
  have L1 := held3 ⟨KA0, KR0, B0⟩ B1
  clear B1 hr B0 KA0 KR0
  obtain ⟨KA, KR, D⟩ := L1
  obtain ⟨k0, k1, k2⟩ := KA.cell
  rcases hb with ⟨rfl, hb⟩ | ⟨rfl, hb⟩
  · have HP := Lib.hid hb
    clear hb
    obtain ⟨d1, q1, x1, x2⟩ := ok_size HP.out
    by_cases he : 0 ≤ e
    · have HV : Hid (R = dOf n s e) := by
        show _ = _
        rw [← HR.out, if_pos HP.out]
        unfold intOfD
        rw [if_pos (show 0 ≤ (dOf n s e).exp from he)]
      clear HR d1
      go_wp2_with fail
      refine (cO _).mono ?_
      intro r w2 hr
      obtain ⟨hb, B2⟩ := AnsB.get hr
      have L2 := held3 ⟨KA, KR, D⟩ B2
      clear B2 hr KA KR D cO k0 k1 k2
      obtain ⟨KA, KR, D⟩ := L2
      rcases hb with ⟨rfl, hb⟩ | ⟨rfl, hb⟩
      · clear hb
        go_wp2_with (first | (with_reducible show wpList _ _ _ (⟨_, .store _ _ _, _, _, _, _⟩ :: _) _ _; refine store_dec (w.heap.size + 1) rfl rfl KR ?_) | (with_reducible show wpList _ _ _ (⟨_, .load _ _, _, _, _, _⟩ :: _) _ _; refine load_dec w.heap.size rfl KA ?_))
        refine bodyPost_ret (results_dec rfl _ _ rfl KR.row) rfl ?_
        rw [HV.out]
        exact ans_self (below_row3 D (Nat.le_succ _) _)
      · exact absurd HP.out hb
    · clear cO
      obtain ⟨k, hk⟩ : ∃ k : Nat, ((s.size : Int) + e).toNat = k := ⟨_, rfl⟩
      have HV : Hid (R = (formOf n (val (s.data.toList.take k)) 0).1) := by
        show _ = _
        rw [← HR.out, if_pos HP.out]
        unfold intOfD
        rw [if_neg (show ¬ 0 ≤ (dOf n s e).exp from he)]
        show (formOf n (val (s.data.toList.take ((s.data.toList.length : Int) + e).toNat)) 0).1 = _
        rw [size_list, hk]
      have i1 := IntWalk.i64_in ((s.size : Int) + e) ⟨by omega, by omega⟩
      by_cases hc : (s.size : Int) + e ≤ 0
      · have HZ : Hid (R = DecV.zero) := by
          show _ = _
          rw [HV.out, show k = 0 by omega, List.take_zero, val_nil, form_zero]
        clear HV HR d1
        go_wp2_with (with_reducible show wpList _ _ _ (⟨_, .store _ _ _, _, _, _, _⟩ :: _) _ _; refine store_dec (w.heap.size + 1) rfl rfl KR ?_)
        refine bodyPost_ret (results_dec rfl _ _ rfl KR.row) rfl ⟨?_, below_row3 D (Nat.le_succ _) _⟩
        rw [HZ.out]; rfl
      · have hki : (s.size : Int) + e = (k : Int) := by omega
        have hks : k ≤ s.size := by omega
        obtain ⟨t, ht⟩ : ∃ t : ByteArray, s.extract 0 k = t := ⟨_, rfl⟩
        have lt : t.data.toList = s.data.toList.take k := by rw [← ht]; exact ext_take s k
        have zt : t.size ≤ 20 := by rw [← size_list, lt, List.length_take, size_list]; omega
        have cF := fun W => specForm n t 0 false W (by omega) (by rw [lt]; exact fun b hb => d1 b (List.mem_of_mem_take hb)) (by omega) (by omega)
        simp only [Bool.false_eq_true, if_false] at cF
        rw [show nv t = val (s.data.toList.take k) by unfold nv; rw [lt]] at cF
        obtain ⟨Q, hQ⟩ : ∃ Q, formOf n (val (s.data.toList.take k)) 0 = Q := ⟨_, rfl⟩
        rw [hQ] at cF HV
        unfold AnsDC at cF
        obtain ⟨⟨rn, rd, re⟩, rc⟩ := Q
        dsimp only at cF HV
        obtain ⟨rs, hrs⟩ : ∃ rs : ByteArray, ⟨rd.toArray⟩ = rs := ⟨_, rfl⟩
        rw [hrs] at cF
        clear HR d1 lt hk hQ
        have hkz : ((k : Int) ≤ 0) = False := by rw [eq_iff_iff, iff_false]; omega
        have SST : Stable (fun w' => DecAt w' w.heap.size n s e ∧ DecAt w' (w.heap.size + 1) false ⟨#[]⟩ 0 ∧ Below w.heap.size w w') := fun _ _ h hb => held3 h hb
        have hksi : (k : Int) ≤ (s.size : Int) := by omega
        have i2 := IntWalk.i64_in (k : Int) ⟨by omega, by omega⟩
        go_wp2_with fail
        refine wp_region_grows 15 (fun w' => DecAt w' w.heap.size n s e ∧ DecAt w' (w.heap.size + 1) false ⟨#[]⟩ 0 ∧ Below w.heap.size w w') (fun _ => True) SST (fun _ _ _ _ => trivial) (by kernel_rfl) (by kernel_rfl) (fun _ _ d _ _ h => by cases d <;> exact h) ⟨KA, KR, D.drew⟩ trivial ?_
        simp only [List.take_succ_cons, List.take_zero]
        (refine grows_step (fun K hK => ?_); go_simp; refine ⟨_, fun W hW => .inl (by obtain ⟨h0, h1, h2⟩ := hW.1.cell; first | (go_simp; exact rfl) | (go_simp; rw [if_neg (by omega)])), hK _ ?_⟩; clear hK K)
        (refine grows_step (fun K hK => ?_); go_simp; refine ⟨_, fun W hW => .inl (by obtain ⟨h0, h1, h2⟩ := hW.1.cell; first | (go_simp; exact rfl) | (go_simp; rw [if_neg (by omega)])), hK _ ?_⟩; clear hK K)
        (refine grows_step (fun K hK => ?_); go_simp; refine ⟨_, fun W hW => .inl (by obtain ⟨h0, h1, h2⟩ := hW.1.cell; first | (go_simp; exact rfl) | (go_simp; rw [if_neg (by omega)])), hK _ ?_⟩; clear hK K)
        (refine grows_step (fun K hK => ?_); go_simp; refine ⟨_, fun W hW => .inl (by obtain ⟨h0, h1, h2⟩ := hW.1.cell; first | (go_simp; exact rfl) | (go_simp; rw [if_neg (by omega)])), hK _ ?_⟩; clear hK K)
        (refine grows_step (fun K hK => ?_); go_simp; refine ⟨_, fun W hW => .inl (by obtain ⟨h0, h1, h2⟩ := hW.1.cell; first | (go_simp; exact rfl) | (go_simp; rw [if_neg (by omega)])), hK _ ?_⟩; clear hK K)
        (refine grows_step (fun K hK => ?_); go_simp; refine ⟨_, fun W hW => .inl (by obtain ⟨h0, h1, h2⟩ := hW.1.cell; first | (go_simp; exact rfl) | (go_simp; rw [if_neg (by omega)])), hK _ ?_⟩; clear hK K)
        (refine grows_step (fun K hK => ?_); go_simp; refine ⟨_, fun W hW => .inl (by obtain ⟨h0, h1, h2⟩ := hW.1.cell; first | (go_simp; exact rfl) | (go_simp; rw [if_neg (by omega)])), hK _ ?_⟩; clear hK K)
        (refine grows_step (fun K hK => ?_); go_simp; refine ⟨_, fun W hW => .inl (by obtain ⟨h0, h1, h2⟩ := hW.1.cell; first | (go_simp; exact rfl) | (go_simp; rw [if_neg (by omega)])), hK _ ?_⟩; clear hK K)
        (refine grows_step (fun K hK => ?_); go_simp; refine ⟨_, fun W hW => .inl (by obtain ⟨h0, h1, h2⟩ := hW.1.cell; first | (go_simp; exact rfl) | (go_simp; rw [if_neg (by omega)])), hK _ ?_⟩; clear hK K)
        (refine grows_step (fun K hK => ?_); go_simp; refine ⟨_, fun W hW => .inl (by obtain ⟨h0, h1, h2⟩ := hW.1.cell; first | (go_simp; exact rfl) | (go_simp; rw [if_neg (by omega)])), hK _ ?_⟩; clear hK K)
        (refine grows_step (fun K hK => ?_); go_simp; refine ⟨_, fun W hW => .inl (by obtain ⟨h0, h1, h2⟩ := hW.1.cell; first | (go_simp; exact rfl) | (go_simp; rw [if_neg (by omega)])), hK _ ?_⟩; clear hK K)
        (refine grows_step (fun K hK => ?_); go_simp; refine ⟨_, fun W hW => .inr (.inr ⟨_, _, ?_, cF W⟩), hK _ ?_⟩; (· first | (go_simp; done) | (go_simp; rfl) | (go_simp; cases n <;> cases n2 <;> rfl)); clear hK K)
        (refine grows_step (fun K hK => ?_); go_simp; refine ⟨_, fun W hW => .inl (by obtain ⟨h0, h1, h2⟩ := hW.1.cell; first | (go_simp; exact rfl) | (go_simp; rw [if_neg (by omega)])), hK _ ?_⟩; clear hK K)
        (refine grows_step (fun K hK => ?_); go_simp; refine ⟨_, fun W hW => .inl (by obtain ⟨h0, h1, h2⟩ := hW.1.cell; first | (go_simp; exact rfl) | (go_simp; rw [if_neg (by omega)])), hK _ ?_⟩; clear hK K)
        (refine grows_step (fun K hK => ?_); go_simp; refine ⟨_, fun W hW => .inl (by obtain ⟨h0, h1, h2⟩ := hW.1.cell; first | (go_simp; exact rfl) | (go_simp; rw [if_neg (by omega)])), hK _ ?_⟩; clear hK K)
        refine grows_nil ?_
        change Orders2 _ _ _ _ _ 3 _ _ _
        refine tail_dec (k0 := 15) (k1 := 16) (k2 := 17) (w.heap.size + 1 + 1) _ SST (fun W s => s.2.1.lt) (fun W g E hg s => held3row E s (by omega) (by omega) (by omega)) rfl rfl rfl (by kernel_rfl) (by kernel_rfl) (by kernel_rfl) (by kernel_rfl) (fun _ => rfl) (fun _ => rfl) (fun _ => rfl) ?_
        intro g W hg sW N
        simp only [Act.put, List.setIfInBounds_toArray, List.set_cons_zero, List.set_cons_succ]
        clear KA KR D k0 k1 k2 cF SST
        obtain ⟨KA, KR, D⟩ := sW
        go_wp2_with (first | (with_reducible show wpList _ _ _ (⟨_, .store _ _ _, _, _, _, _⟩ :: _) _ _; refine store_dec (w.heap.size + 1) rfl rfl KR ?_) | (with_reducible show wpList _ _ _ (⟨_, .load _ _, _, _, _, _⟩ :: _) _ _; refine load_dec g rfl N ?_))
        refine bodyPost_ret (results_dec rfl _ _ rfl KR.row) rfl ⟨?_, below_row3 D (Nat.le_succ _) _⟩
        rw [HV.out, ← hrs]
  · have HV : Hid (R = DecV.zero) := by show _ = _; rw [← HR.out, if_neg hb]
    have HN := Lib.hid hb
    clear HR hb
    go_wp2_with fail
    refine (cO _).mono ?_
    intro r w2 hr
    obtain ⟨hb, B2⟩ := AnsB.get hr
    have L2 := held3 ⟨KA, KR, D⟩ B2
    clear B2 hr KA KR D cO k0 k1 k2
    obtain ⟨KA, KR, D⟩ := L2
    rcases hb with ⟨rfl, hb⟩ | ⟨rfl, hb⟩
    · exact absurd hb HN.out
    · clear hb
      go_wp2_with (with_reducible show wpList _ _ _ (⟨_, .store _ _ _, _, _, _, _⟩ :: _) _ _; refine store_dec (w.heap.size + 1) rfl rfl KR ?_)
      refine bodyPost_ret (results_dec rfl _ _ rfl KR.row) rfl ⟨?_, below_row3 D (Nat.le_succ _) _⟩
      rw [HV.out]; rfl

end Go.Proofs.YtpkmhojcccpolabDoor
