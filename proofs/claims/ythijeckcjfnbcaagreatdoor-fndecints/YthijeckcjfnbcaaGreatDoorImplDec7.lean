/- impl.DecMul. Condition: at most 1048576 digits. -/
import Derived.Test.YthijeckcjfnbcaaGreatDoorTwoNat
import Derived.Test.YthijeckcjfnbcaaGreatDoorImplNat13
import Derived.Test.YthijeckcjfnbcaaGreatDoorSpecDecA
namespace Go.Proofs.YthijeckcjfnbcaaGreatDoor
set_option linter.unusedVariables false
open Go.RowKit

set_option maxHeartbeats 1000000 in
set_option maxRecDepth 100000 in
theorem implDecMul (n : Bool) (s : ByteArray) (e : Int) (n2 : Bool) (s2 : ByteArray) (e2 : Int) (w : World) (hs : s.size ≤ 1048576) (hs2 : s2.size ≤ 1048576) (b1 : -9223372036854775808 ≤ e) (b2 : e ≤ 9223372036854775807) (c1 : -9223372036854775808 ≤ e2) (c2 : e2 ≤ 9223372036854775807) :
    Calls Tryz.prog 11 #[.agg #[.bool n, .string s, .int .i64 e], .agg #[.bool n2, .string s2, .int .i64 e2]] w (AnsDC (mulR (dOf n s e) (dOf n2 s2 e2)) w) := by
  obtain ⟨R, hR⟩ : ∃ R, mulR (dOf n s e) (dOf n2 s2 e2) = R := ⟨_, rfl⟩
  rw [hR]
  unfold mulR at hR
  have HR := Lib.hid hR
  clear hR
  have KA0 := ((DecAt.new w n s e).alloc (.cells #[.bool n2, .string s2, .int .i64 e2] 25)).alloc (.cells #[.bool false, .string ⟨#[]⟩, .int .i64 0] 25)
  have KB0 := (DecAt.new (w.alloc (.cells #[.bool n, .string s, .int .i64 e] 25)) n2 s2 e2).alloc (.cells #[.bool false, .string ⟨#[]⟩, .int .i64 0] 25)
  have KR0 := DecAt.new ((w.alloc (.cells #[.bool n, .string s, .int .i64 e] 25)).alloc (.cells #[.bool n2, .string s2, .int .i64 e2] 25)) false ⟨#[]⟩ 0
  rw [show (w.alloc (.cells #[.bool n, .string s, .int .i64 e] 25)).heap.size = w.heap.size + 1 by simp] at KB0
  rw [show ((w.alloc (.cells #[.bool n, .string s, .int .i64 e] 25)).alloc (.cells #[.bool n2, .string s2, .int .i64 e2] 25)).heap.size = w.heap.size + 1 + 1 by simp] at KR0
  have B0 : Below w.heap.size w (((w.alloc (.cells #[.bool n, .string s, .int .i64 e] 25)).alloc (.cells #[.bool n2, .string s2, .int .i64 e2] 25)).alloc (.cells #[.bool false, .string ⟨#[]⟩, .int .i64 0] 25)) := (((Below.refl _ _).alloc (Nat.le_refl _) _).alloc (by simp) _).alloc (by simp; omega) _
  have cO1 := fun W => implDecOk n s e W hs b1 b2
  have cO2 := fun W => implDecOk n2 s2 e2 W hs2 c1 c2
  go_enter Tryz.func11, Tryz.ntmps11
  go_wp2_with fail
  refine (cO1 _).mono ?_
  intro r w1 hr
  obtain ⟨hb, B1⟩ := AnsB.get hr
  have KA1 := KA0.belowS B1
  have KB1 := KB0.belowS B1
  have KR1 := KR0.belowS B1
  have D1 := below_kept B0 (Nat.le_refl _) B1
  obtain ⟨k0, k1, k2⟩ := KA1.cell
  obtain ⟨k3, k4, k5⟩ := KB1.cell
  clear cO1 B1 hr B0 KA0 KB0 KR0
  rcases hb with ⟨rfl, hb⟩ | ⟨rfl, hb⟩
  · have HP := Lib.hid hb
    clear hb
    go_wp2_with fail
    refine (cO2 _).mono ?_
    intro r w2 hr
    obtain ⟨hb, B2⟩ := AnsB.get hr
    have KA := KA1.belowS B2
    have KB := KB1.belowS B2
    have KR := KR1.belowS B2
    have D := below_kept D1 (Nat.le_refl _) B2
    clear cO2 B2 hr D1 KA1 KB1 KR1 k0 k1 k2 k3 k4 k5
    obtain ⟨k0, k1, k2⟩ := KA.cell
    obtain ⟨k3, k4, k5⟩ := KB.cell
    rcases hb with ⟨rfl, hb⟩ | ⟨rfl, hb⟩
    · have HQ := Lib.hid hb
      clear hb
      obtain ⟨d1, q1, x1, x2⟩ := ok_size HP.out
      obtain ⟨d2, q2, y1, y2⟩ := ok_size HQ.out
      have HV : Hid (R = formOf (n != n2) (val s.data.toList * val s2.data.toList) (e + e2)) := by show _ = _; rw [← HR.out, if_pos ⟨HP.out, HQ.out⟩]; rfl
      have lP : (natOf (val s.data.toList * val s2.data.toList)).length ≤ 900 := by
        have h1 := val_lt d1
        have h2 := val_lt d2
        rw [size_list] at h1 h2
        have h3 : val s.data.toList * val s2.data.toList < 10 ^ (s.size + s2.size) := by
          rw [Nat.pow_add]
          exact Nat.lt_of_le_of_lt (Nat.mul_le_mul_left _ (Nat.le_of_lt h2)) (Nat.mul_lt_mul_of_pos_right h1 (Nat.pow_pos (by omega)))
        have := nat_len_le h3
        omega
      obtain ⟨z, hz0⟩ : ∃ z : ByteArray, ⟨(natOf (val s.data.toList * val s2.data.toList)).toArray⟩ = z := ⟨_, rfl⟩
      have lz : z.data.toList = natOf (val s.data.toList * val s2.data.toList) := by rw [← hz0]
      have zz : z.size ≤ 900 := by rw [← size_list, lz]; exact lP
      have cX : ∀ (g : Nat) W, NatAt W g (val s.data.toList * val s2.data.toList) (len (val s.data.toList * val s2.data.toList)) → Calls Tryz.prog 29 #[.pointer (some ⟨g, 0, none⟩)] W fun r w' => r = .returned (.string z) ∧ Below W.heap.size W w' := fun g W h => by
        have := implText g (val s.data.toList * val s2.data.toList) W h
        unfold AnsS at this
        rwa [hz0] at this
      have cF := fun W => implNorm (n != n2) z (e + e2) W (by omega) (by rw [lz]; exact natOf_digs _) (by omega) (by omega)
      rw [show nv z = val s.data.toList * val s2.data.toList by unfold nv; rw [lz, val_natOf], ← HV.out] at cF
      clear HV HR lz hz0
      obtain ⟨⟨rn, rd, re⟩, rc⟩ := R
      unfold AnsDC at cF
      dsimp only at cF
      obtain ⟨rs, hrs⟩ : ∃ rs : ByteArray, ⟨rd.toArray⟩ = rs := ⟨_, rfl⟩
      rw [hrs] at cF
      have lA : len (val s.data.toList) ≤ 20 := Nat.le_trans (len_le_of (val_lt d1)) (by rw [size_list]; exact q1)
      have lB : len (val s2.data.toList) ≤ 20 := Nat.le_trans (len_le_of (val_lt d2)) (by rw [size_list]; exact q2)
      obtain ⟨CA, IA, cA⟩ := one_cells (v := val s.data.toList) (lt_top (val_lt d1) (by rw [size_list]; omega)) (fun W => implDigits n s e W HP.out)
      obtain ⟨CB, IB, cB⟩ := one_cells (v := val s2.data.toList) (lt_top (val_lt d2) (by rw [size_list]; omega)) (fun W => implDigits n2 s2 e2 W HQ.out)
      generalize val s.data.toList = va at *
      generalize val s2.data.toList = vb at *
      have i1 := IntWalk.i64_in (e + e2) ⟨by omega, by omega⟩
      have hz := Tryz.zeroNat
      clear d1 d2 lP
      have SST : Stable (fun w' => DecAt w' w.heap.size n s e ∧ DecAt w' (w.heap.size + 1) n2 s2 e2 ∧ DecAt w' (w.heap.size + 1 + 1) false ⟨#[]⟩ 0 ∧ Below w.heap.size w w') := fun _ _ h hb => held4 h hb
      go_wp2_with fail
      refine wp_region_grows 4 (fun w' => DecAt w' w.heap.size n s e ∧ DecAt w' (w.heap.size + 1) n2 s2 e2 ∧ DecAt w' (w.heap.size + 1 + 1) false ⟨#[]⟩ 0 ∧ Below w.heap.size w w') (fun _ => True) SST (fun _ _ _ _ => trivial) (by kernel_rfl) (by kernel_rfl) (fun _ _ d _ _ h => by cases d <;> exact h) ⟨KA, KB, KR, D.drew⟩ trivial ?_
      simp only [List.take_succ_cons, List.take_zero]
      (refine grows_step (fun K hK => ?_); go_simp; refine ⟨_, fun W hW => .inl (by obtain ⟨h0, h1, h2⟩ := hW.1.cell; obtain ⟨h3, h4, h5⟩ := hW.2.1.cell; first | (go_simp; exact rfl) | (go_simp; rw [if_neg (by omega)])), hK _ ?_⟩; clear hK K)
      (refine grows_step (fun K hK => ?_); go_simp; refine ⟨_, fun W hW => .inr (.inr ⟨_, _, ?_, cA W⟩), hK _ ?_⟩; (· first | (go_simp; done) | (go_simp; rfl) | (go_simp; cases n <;> cases n2 <;> rfl)); clear hK K)
      (refine grows_step (fun K hK => ?_); go_simp; refine ⟨_, fun W hW => .inl (by obtain ⟨h0, h1, h2⟩ := hW.1.cell; obtain ⟨h3, h4, h5⟩ := hW.2.1.cell; first | (go_simp; exact rfl) | (go_simp; rw [if_neg (by omega)])), hK _ ?_⟩; clear hK K)
      (refine grows_step (fun K hK => ?_); go_simp; refine ⟨_, fun W hW => .inr (.inr ⟨_, _, ?_, cB W⟩), hK _ ?_⟩; (· first | (go_simp; done) | (go_simp; rfl) | (go_simp; cases n <;> cases n2 <;> rfl)); clear hK K)
      refine grows_nil ?_
      change Orders2 _ _ _ _ _ 4 _ _ _
      refine tail_two (ka := 4) (kb := 5) (kc := 6) (kd := 7) (w.heap.size + 1 + 1 + 1) _ SST (fun W s => s.2.2.1.lt) (fun W g E hg s => held4row E s (by omega) (by omega) (by omega) (by omega)) IA IB rfl rfl rfl rfl (by decide) (by kernel_rfl) (by kernel_rfl) (by kernel_rfl) (by kernel_rfl) (by kernel_rfl) (by kernel_rfl) (fun _ _ => rfl) (fun _ _ => rfl) (fun _ _ => rfl) (fun _ _ => rfl) (fun _ _ => rfl) (fun _ _ => rfl) ?_
      intro g h W hgh hg hh sW NA NB
      simp only [Act.put, List.setIfInBounds_toArray, List.set_cons_zero, List.set_cons_succ]
      clear KA KB KR D k0 k1 k2 k3 k4 k5 cA cB
      have cT := implTimes g h va vb W ⟨CA, NA, IA⟩ ⟨CB, NB, IB⟩ (by omega)
      unfold AnsOne at cT
      go_wp2_with fail
      refine cT.mono ?_
      rintro r w3 ⟨E, rfl, IE, B3⟩
      have sW3 := held4 sW B3
      have H5 := heap_alloc_new w3 (.cells zeroCells 45)
      have L := laid5 sW3 IE
      clear cT B3 NA NB sW sW3 IA IB
      go_wp2_with (with_reducible show wpList _ _ _ (⟨_, .store _ _ _, _, _, _, _⟩ :: _) _ _; refine store_nat w3.heap.size rfl rfl H5 zero_is IE ?_)
      clear H5 IE hz
      generalize (w3.alloc (.cells zeroCells 45)).setRow w3.heap.size E = w4 at *
      generalize w3.heap.size = g3 at *
      refine wp_region_kept 14 (fun w' => DecAt w' w.heap.size n s e ∧ DecAt w' (w.heap.size + 1) n2 s2 e2 ∧ DecAt w' (w.heap.size + 1 + 1) false ⟨#[]⟩ 0 ∧ NatAt w' g3 (va * vb) (len (va * vb)) ∧ Below w.heap.size w w') (by kernel_rfl) (by kernel_rfl) (fun _ _ d _ _ h => by cases d <;> exact h) ⟨L.1, L.2.1, L.2.2.1, L.2.2.2.1.drewN 1, L.2.2.2.2.drew⟩ ?_
      simp only [List.take_succ_cons, List.take_zero, List.drop_succ_cons, List.drop_zero]
      (refine kept_step (fun K hK => ?_); go_simp; refine ⟨_, fun W hW => .inl (by obtain ⟨h0, h1, h2⟩ := hW.1.cell; obtain ⟨h3, h4, h5⟩ := hW.2.1.cell; first | (go_simp; exact rfl) | (go_simp; rw [if_neg (by omega)])), hK _ ?_⟩; clear hK K)
      (refine kept_step (fun K hK => ?_); go_simp; refine ⟨_, fun W hW => .inl (by obtain ⟨h0, h1, h2⟩ := hW.1.cell; obtain ⟨h3, h4, h5⟩ := hW.2.1.cell; first | (go_simp; exact rfl) | (go_simp; rw [if_neg (by omega)])), hK _ ?_⟩; clear hK K)
      (refine kept_step (fun K hK => ?_); go_simp; refine ⟨_, fun W hW => .inl (by obtain ⟨h0, h1, h2⟩ := hW.1.cell; obtain ⟨h3, h4, h5⟩ := hW.2.1.cell; first | (go_simp; exact rfl) | (go_simp; rw [if_neg (by omega)])), hK _ ?_⟩; clear hK K)
      (refine kept_step (fun K hK => ?_); go_simp; refine ⟨_, fun W hW => .inl (by obtain ⟨h0, h1, h2⟩ := hW.1.cell; obtain ⟨h3, h4, h5⟩ := hW.2.1.cell; first | (go_simp; exact rfl) | (go_simp; rw [if_neg (by omega)])), hK _ ?_⟩; clear hK K)
      (refine kept_step (fun K hK => ?_); go_simp; refine ⟨_, fun W hW => .inl (by obtain ⟨h0, h1, h2⟩ := hW.1.cell; obtain ⟨h3, h4, h5⟩ := hW.2.1.cell; first | (go_simp; exact rfl) | (go_simp; rw [if_neg (by omega)])), hK _ ?_⟩; clear hK K)
      (refine kept_step (fun K hK => ?_); go_simp; refine ⟨_, fun W hW => .inr (.inr ⟨_, _, ?_, (cX g3 W hW.2.2.2.1).mono (fun r w' h => ⟨h.1, held5 hW h.2⟩)⟩), hK _ ?_⟩; (· first | (go_simp; done) | (go_simp; rfl) | (go_simp; cases n <;> cases n2 <;> rfl)); clear hK K)
      (refine kept_step (fun K hK => ?_); go_simp; refine ⟨_, fun W hW => .inl (by obtain ⟨h0, h1, h2⟩ := hW.1.cell; obtain ⟨h3, h4, h5⟩ := hW.2.1.cell; first | (go_simp; exact rfl) | (go_simp; rw [if_neg (by omega)])), hK _ ?_⟩; clear hK K)
      (refine kept_step (fun K hK => ?_); go_simp; refine ⟨_, fun W hW => .inl (by obtain ⟨h0, h1, h2⟩ := hW.1.cell; obtain ⟨h3, h4, h5⟩ := hW.2.1.cell; first | (go_simp; exact rfl) | (go_simp; rw [if_neg (by omega)])), hK _ ?_⟩; clear hK K)
      (refine kept_step (fun K hK => ?_); go_simp; refine ⟨_, fun W hW => .inl (by obtain ⟨h0, h1, h2⟩ := hW.1.cell; obtain ⟨h3, h4, h5⟩ := hW.2.1.cell; first | (go_simp; exact rfl) | (go_simp; rw [if_neg (by omega)])), hK _ ?_⟩; clear hK K)
      (refine kept_step (fun K hK => ?_); go_simp; refine ⟨_, fun W hW => .inl (by obtain ⟨h0, h1, h2⟩ := hW.1.cell; obtain ⟨h3, h4, h5⟩ := hW.2.1.cell; first | (go_simp; exact rfl) | (go_simp; rw [if_neg (by omega)])), hK _ ?_⟩; clear hK K)
      (refine kept_step (fun K hK => ?_); go_simp; refine ⟨_, fun W hW => .inl (by obtain ⟨h0, h1, h2⟩ := hW.1.cell; obtain ⟨h3, h4, h5⟩ := hW.2.1.cell; first | (go_simp; exact rfl) | (go_simp; rw [if_neg (by omega)])), hK _ ?_⟩; clear hK K)
      (refine kept_step (fun K hK => ?_); go_simp; refine ⟨_, fun W hW => .inr (.inr ⟨_, _, ?_, (cF W).mono (fun r w' h => ⟨h.1, held5 hW h.2⟩)⟩), hK _ ?_⟩; (· first | (go_simp; done) | (go_simp; rfl) | (go_simp; cases n <;> cases n2 <;> rfl)); clear hK K)
      (refine kept_step (fun K hK => ?_); go_simp; refine ⟨_, fun W hW => .inl (by obtain ⟨h0, h1, h2⟩ := hW.1.cell; obtain ⟨h3, h4, h5⟩ := hW.2.1.cell; first | (go_simp; exact rfl) | (go_simp; rw [if_neg (by omega)])), hK _ ?_⟩; clear hK K)
      (refine kept_step (fun K hK => ?_); go_simp; refine ⟨_, fun W hW => .inl (by obtain ⟨h0, h1, h2⟩ := hW.1.cell; obtain ⟨h3, h4, h5⟩ := hW.2.1.cell; first | (go_simp; exact rfl) | (go_simp; rw [if_neg (by omega)])), hK _ ?_⟩; clear hK K)
      refine kept_nil ?_
      rintro W ⟨h0, h1, h2, h4, h3⟩
      clear L cX cF
      have f0 := h2.frozen 0
      have f1 := h2.frozen 1
      have f2 := h2.frozen 2
      obtain ⟨k6, k7, k8⟩ := h2.cell
      go_wp2
      refine bodyPost_ret (v := .tuple #[.agg #[.bool rn, .string rs, .int .i64 re], .int .i64 rc]) (by simp [results, Tryz.results11, go_sem, (h2.set rn rs re).cell]) rfl ⟨?_, Below.set3 h3 (by omega)⟩
      rw [← hrs]
    · have HN : Hid (¬ ((dOf n s e).Ok ∧ (dOf n2 s2 e2).Ok)) := fun h => hb h.2
      clear hb
      have f0 := KR.frozen 0
      have f1 := KR.frozen 1
      have f2 := KR.frozen 2
      obtain ⟨k6, k7, k8⟩ := KR.cell
      go_wp2
      refine bodyPost_ret (v := .tuple #[.agg #[.bool false, .string ⟨#[]⟩, .int .i64 0], .int .i64 3]) (by simp [results, Tryz.results11, go_sem, (KR.set false ⟨#[]⟩ 0).cell]) rfl ⟨?_, Below.set3 D (by omega)⟩
      rw [← HR.out, if_neg HN.out]; rfl
  · have HN : Hid (¬ ((dOf n s e).Ok ∧ (dOf n2 s2 e2).Ok)) := fun h => hb h.1
    clear hb
    have f0 := KR1.frozen 0
    have f1 := KR1.frozen 1
    have f2 := KR1.frozen 2
    obtain ⟨k6, k7, k8⟩ := KR1.cell
    go_wp2
    refine bodyPost_ret (v := .tuple #[.agg #[.bool false, .string ⟨#[]⟩, .int .i64 0], .int .i64 3]) (by simp [results, Tryz.results11, go_sem, (KR1.set false ⟨#[]⟩ 0).cell]) rfl ⟨?_, Below.set3 D1 (by omega)⟩
    rw [← HR.out, if_neg HN.out]; rfl

end Go.Proofs.YthijeckcjfnbcaaGreatDoor
