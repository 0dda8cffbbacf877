/- impl.DecDiv. Condition: at most 1048576 digits. -/
import Derived.Test.YthijeckcjfnbcaaGreatDoorTwoNat
import Derived.Test.YthijeckcjfnbcaaGreatDoorImplNat10
import Derived.Test.YthijeckcjfnbcaaGreatDoorDecPlain2
namespace Go.Proofs.YthijeckcjfnbcaaGreatDoor
set_option linter.unusedVariables false
open Go.RowKit

/-- Two naturals are laid in new blocks beside the decimals. -/
theorem laid6 {w0 w : World} {a b c v l v' l' : Nat} {n n2 n3 : Bool} {s s2 s3 : ByteArray} {e e2 e3 : Int} {P Q : Array Value} (h : DecAt w a n s e ∧ DecAt w b n2 s2 e2 ∧ DecAt w c n3 s3 e3 ∧ Below w0.heap.size w0 w) (IP : IsNat P v l) (IQ : IsNat Q v' l') :
    (DecAt (two w P Q) a n s e ∧ DecAt (two w P Q) b n2 s2 e2 ∧ DecAt (two w P Q) c n3 s3 e3 ∧ Below w0.heap.size w0 (two w P Q)) ∧ NatAt (two w P Q) w.heap.size v l ∧ NatAt (two w P Q) (w.heap.size + 1) v' l' := by
  obtain ⟨N1, N2, D, _⟩ := two_is (w := w) (Below.refl _ _) IP IQ
  exact ⟨held4 h D, N1, N2⟩

set_option maxHeartbeats 1000000 in
set_option maxRecDepth 100000 in
theorem implDecDiv (n : Bool) (s : ByteArray) (e : Int) (n2 : Bool) (s2 : ByteArray) (e2 : Int) (w : World) (hs : s.size ≤ 1048576) (hs2 : s2.size ≤ 1048576) (b1 : -9223372036854775808 ≤ e) (b2 : e ≤ 9223372036854775807) (c1 : -9223372036854775808 ≤ e2) (c2 : e2 ≤ 9223372036854775807) :
    Calls Tryz.prog 19 #[.agg #[.bool n, .string s, .int .i64 e], .agg #[.bool n2, .string s2, .int .i64 e2]] w (AnsDC (divR (dOf n s e) (dOf n2 s2 e2)) w) := by
  obtain ⟨R, hR⟩ : ∃ R, divR (dOf n s e) (dOf n2 s2 e2) = R := ⟨_, rfl⟩
  rw [hR]
  unfold divR at hR
  have HR := Lib.hid hR
  clear hR
  have KA0 := ((DecAt.new w n s e).alloc (.cells #[.bool n2, .string s2, .int .i64 e2] 25)).alloc (.cells #[.bool false, .string ⟨#[]⟩, .int .i64 0] 25)
  have KB0 := (DecAt.new (w.alloc (.cells #[.bool n, .string s, .int .i64 e] 25)) n2 s2 e2).alloc (.cells #[.bool false, .string ⟨#[]⟩, .int .i64 0] 25)
  have KR0 := DecAt.new ((w.alloc (.cells #[.bool n, .string s, .int .i64 e] 25)).alloc (.cells #[.bool n2, .string s2, .int .i64 e2] 25)) false ⟨#[]⟩ 0
  rw [show (w.alloc (.cells #[.bool n, .string s, .int .i64 e] 25)).heap.size = w.heap.size + 1 by simp] at KB0
  rw [show ((w.alloc (.cells #[.bool n, .string s, .int .i64 e] 25)).alloc (.cells #[.bool n2, .string s2, .int .i64 e2] 25)).heap.size = w.heap.size + 1 + 1 by simp] at KR0
  have B0 : Below w.heap.size w (((w.alloc (.cells #[.bool n, .string s, .int .i64 e] 25)).alloc (.cells #[.bool n2, .string s2, .int .i64 e2] 25)).alloc (.cells #[.bool false, .string ⟨#[]⟩, .int .i64 0] 25)) := (((Below.refl _ _).alloc (Nat.le_refl _) _).alloc (by simp) _).alloc (by simp; omega) _
  have cO1 := fun W => implDecOk n s e W hs b1 b2
  have cO2 := fun W => implDecOk n2 s2 e2 W hs2 c1 c2
  go_enter Tryz.func19, Tryz.ntmps19
  go_wp2_with fail
  refine (cO1 _).mono ?_
  intro r w1 hr
  obtain ⟨hb, B1⟩ := AnsB.get hr
  have KA1 := KA0.belowS B1
  have KB1 := KB0.belowS B1
  have KR1 := KR0.belowS B1
  have D1 := below_kept B0 (Nat.le_refl _) B1
  obtain ⟨k0, k1, k2⟩ := KA1.cell
  obtain ⟨k3, k4, k5⟩ := KB1.cell
  clear cO1 B1 hr B0 KA0 KB0 KR0
  rcases hb with ⟨rfl, hb⟩ | ⟨rfl, hb⟩
  · have HP := Lib.hid hb
    clear hb
    go_wp2_with fail
    refine (cO2 _).mono ?_
    intro r w2 hr
    obtain ⟨hb, B2⟩ := AnsB.get hr
    have KA := KA1.belowS B2
    have KB := KB1.belowS B2
    have KR := KR1.belowS B2
    have D := below_kept D1 (Nat.le_refl _) B2
    clear cO2 B2 hr D1 KA1 KB1 KR1 k0 k1 k2 k3 k4 k5
    obtain ⟨k0, k1, k2⟩ := KA.cell
    obtain ⟨k3, k4, k5⟩ := KB.cell
    rcases hb with ⟨rfl, hb⟩ | ⟨rfl, hb⟩
    · have HQ := Lib.hid hb
      clear hb
      obtain ⟨d1, q1, x1, x2⟩ := ok_size HP.out
      obtain ⟨d2, q2, y1, y2⟩ := ok_size HQ.out
      have cZ := fun W => implIsZero n2 s2 e2 W
      go_wp2_with fail
      refine (cZ _).mono ?_
      intro r w5 hr
      obtain ⟨hb, B5⟩ := AnsB.get hr
      have L5 := held4 ⟨KA, KB, KR, D⟩ B5
      clear cZ B5 hr KA KB KR D k0 k1 k2 k3 k4 k5
      obtain ⟨KA, KB, KR, D⟩ := L5
      obtain ⟨k0, k1, k2⟩ := KA.cell
      obtain ⟨k3, k4, k5⟩ := KB.cell
      rcases hb with ⟨rfl, hb⟩ | ⟨rfl, hb⟩
      · have HV0 : Hid (R = (DecV.zero, 2)) := by show _ = _; rw [← HR.out, if_pos ⟨HP.out, HQ.out⟩, if_pos (by rw [hb]; rfl)]
        clear HR hb
        have f0 := KR.frozen 0
        have f1 := KR.frozen 1
        have f2 := KR.frozen 2
        obtain ⟨k6, k7, k8⟩ := KR.cell
        go_wp2
        refine bodyPost_ret (v := .tuple #[.agg #[.bool false, .string ⟨#[]⟩, .int .i64 0], .int .i64 2]) (by simp [results, Tryz.results19, go_sem, (KR.set false ⟨#[]⟩ 0).cell]) rfl ⟨?_, Below.set3 D (by omega)⟩
        rw [HV0.out]; rfl
      · have h0 : s2.size ≠ 0 := fun h => hb (HQ.out.nil (nil_size.2 h))
        have hne : (dOf n2 s2 e2).dig ≠ [] := fun h => h0 (nil_size.1 h)
        have hyp := (ok_nat HQ.out h0).2
        clear hb
        have HV0 : Hid (R = formOf (!(n == n2)) (if val s.data.toList * 10 ^ 40 % val s2.data.toList = 0 then val s.data.toList * 10 ^ 40 / val s2.data.toList else 10 * (val s.data.toList * 10 ^ 40 / val s2.data.toList) + 1)
            (if val s.data.toList * 10 ^ 40 % val s2.data.toList = 0 then e - e2 - 40 else e - e2 - 40 - 1)) := by
          show _ = _
          rw [← HR.out, if_pos ⟨HP.out, HQ.out⟩, if_neg hne]
          rfl
        have eA : lev (dOf n s e) (e - 40) = val s.data.toList * 10 ^ 40 := by
          unfold lev
          show val s.data.toList * 10 ^ (e - (e - 40)).toNat = _
          rw [show (e - (e - 40)).toNat = 40 by omega]
        have tX := lev_top (E := e - 40) HP.out (by omega)
        have cA0 := fun W => implUnits n s e (e - 40) W HP.out (by omega) (by omega) (by omega)
        rw [eA] at tX cA0
        obtain ⟨CA, IA, cA⟩ := one_cells (Nat.lt_of_lt_of_le tX (topOf_mono (by omega))) cA0
        obtain ⟨CB, IB, cB⟩ := one_cells (v := val s2.data.toList) (lt_top (val_lt d2) (by rw [size_list]; omega)) (fun W => implDigits n2 s2 e2 W HQ.out)
        have lA := len_topOf tX
        have lB : len (val s2.data.toList) ≤ 20 := Nat.le_trans (len_le_of (val_lt d2)) (by rw [size_list]; exact q2)
        have hYp : 0 < val s2.data.toList := hyp
        have nX : (natOf (val s.data.toList * 10 ^ 40)).length ≤ 330 := by
          by_cases h0 : val s.data.toList * 10 ^ 40 = 0
          · rw [h0, natOf_small (by omega)]; simp
          · rw [← len_nz h0]; omega
        clear cA0 tX eA hyp hne h0 HR
        generalize val s.data.toList * 10 ^ 40 = X at *
        generalize val s2.data.toList = Y at *
        have i1 := IntWalk.i64_in (e - 40) ⟨by omega, by omega⟩
        have hz := Tryz.zeroNat
        have nQ : (natOf (X / Y)).length ≤ 330 := Nat.le_trans (natOf_len_mono (Nat.div_le_self _ _)) nX
        clear d1 d2 nX
        have SST : Stable (fun w' => DecAt w' w.heap.size n s e ∧ DecAt w' (w.heap.size + 1) n2 s2 e2 ∧ DecAt w' (w.heap.size + 1 + 1) false ⟨#[]⟩ 0 ∧ Below w.heap.size w w') := fun _ _ h hb => held4 h hb
        go_wp2_with fail
        refine wp_region_grows 7 (fun w' => DecAt w' w.heap.size n s e ∧ DecAt w' (w.heap.size + 1) n2 s2 e2 ∧ DecAt w' (w.heap.size + 1 + 1) false ⟨#[]⟩ 0 ∧ Below w.heap.size w w') (fun _ => True) SST (fun _ _ _ _ => trivial) (by kernel_rfl) (by kernel_rfl) (fun _ _ d _ _ h => by cases d <;> exact h) ⟨KA, KB, KR, D.drew⟩ trivial ?_
        simp only [List.take_succ_cons, List.take_zero]
        (refine grows_step (fun K hK => ?_); go_simp; refine ⟨_, fun W hW => .inl (by obtain ⟨h0, h1, h2⟩ := hW.1.cell; obtain ⟨h3, h4, h5⟩ := hW.2.1.cell; first | (go_simp; exact rfl) | (go_simp; rw [if_neg (by omega)])), hK _ ?_⟩; clear hK K)
        (refine grows_step (fun K hK => ?_); go_simp; refine ⟨_, fun W hW => .inl (by obtain ⟨h0, h1, h2⟩ := hW.1.cell; obtain ⟨h3, h4, h5⟩ := hW.2.1.cell; first | (go_simp; exact rfl) | (go_simp; rw [if_neg (by omega)])), hK _ ?_⟩; clear hK K)
        (refine grows_step (fun K hK => ?_); go_simp; refine ⟨_, fun W hW => .inl (by obtain ⟨h0, h1, h2⟩ := hW.1.cell; obtain ⟨h3, h4, h5⟩ := hW.2.1.cell; first | (go_simp; exact rfl) | (go_simp; rw [if_neg (by omega)])), hK _ ?_⟩; clear hK K)
        (refine grows_step (fun K hK => ?_); go_simp; refine ⟨_, fun W hW => .inl (by obtain ⟨h0, h1, h2⟩ := hW.1.cell; obtain ⟨h3, h4, h5⟩ := hW.2.1.cell; first | (go_simp; exact rfl) | (go_simp; rw [if_neg (by omega)])), hK _ ?_⟩; clear hK K)
        (refine grows_step (fun K hK => ?_); go_simp; refine ⟨_, fun W hW => .inr (.inr ⟨_, _, ?_, cA W⟩), hK _ ?_⟩; (· first | (go_simp; done) | (go_simp; rfl) | (go_simp; cases n <;> cases n2 <;> rfl)); clear hK K)
        (refine grows_step (fun K hK => ?_); go_simp; refine ⟨_, fun W hW => .inl (by obtain ⟨h0, h1, h2⟩ := hW.1.cell; obtain ⟨h3, h4, h5⟩ := hW.2.1.cell; first | (go_simp; exact rfl) | (go_simp; rw [if_neg (by omega)])), hK _ ?_⟩; clear hK K)
        (refine grows_step (fun K hK => ?_); go_simp; refine ⟨_, fun W hW => .inr (.inr ⟨_, _, ?_, cB W⟩), hK _ ?_⟩; (· first | (go_simp; done) | (go_simp; rfl) | (go_simp; cases n <;> cases n2 <;> rfl)); clear hK K)
        refine grows_nil ?_
        change Orders2 _ _ _ _ _ 4 _ _ _
        refine tail_two (ka := 7) (kb := 8) (kc := 9) (kd := 10) (w.heap.size + 1 + 1 + 1) _ SST (fun W s => s.2.2.1.lt) (fun W g E hg s => held4row E s (by omega) (by omega) (by omega) (by omega)) IA IB rfl rfl rfl rfl (by decide) (by kernel_rfl) (by kernel_rfl) (by kernel_rfl) (by kernel_rfl) (by kernel_rfl) (by kernel_rfl) (fun _ _ => rfl) (fun _ _ => rfl) (fun _ _ => rfl) (fun _ _ => rfl) (fun _ _ => rfl) (fun _ _ => rfl) ?_
        intro g h W hgh hg hh sW NA NB
        simp only [Act.put, List.setIfInBounds_toArray, List.set_cons_zero, List.set_cons_succ]
        clear KA KB KR D k0 k1 k2 k3 k4 k5 cA cB SST
        have cT := implDividedBy g h X Y W ⟨CA, NA, IA⟩ ⟨CB, NB, IB⟩ (by omega) (by omega) hYp
        unfold AnsTwo at cT
        go_wp2_with fail
        refine cT.mono ?_
        rintro r w3 ⟨CQ, CR, rfl, IQ, IR, B3⟩
        have sW3 := held4 sW B3
        have H3 := two_first w3
        have H4 := two_second w3 CQ
        have L := laid6 sW3 IQ IR
        clear cT B3 NA NB sW sW3 IA IB
        go_wp2_with (first | (with_reducible show wpList _ _ _ (⟨_, .store _ _ _, _, _, _, _⟩ :: _) _ _; refine store_nat w3.heap.size rfl rfl H3 zero_is IQ ?_) | (with_reducible show wpList _ _ _ (⟨_, .store _ _ _, _, _, _, _⟩ :: _) _ _; refine store_nat (w3.heap.size + 1) rfl rfl H4 zero_is IR ?_))
        clear H3 H4 hz
        obtain ⟨z, hz0⟩ : ∃ z : ByteArray, ⟨(natOf (X / Y)).toArray⟩ = z := ⟨_, rfl⟩
        have lz : z.data.toList = natOf (X / Y) := by rw [← hz0]
        have zz : z.size ≤ 330 := by rw [← size_list, lz]; exact nQ
        have ez : nv z = X / Y := by unfold nv; rw [lz, val_natOf]
        obtain ⟨L, NQ, NR⟩ := L
        have cX := implText _ _ _ NQ
        unfold AnsS at cX
        rw [hz0] at cX
        change Calls _ _ _ (two w3 CQ CR) _
        refine cX.mono ?_
        rintro r w7 ⟨rfl, B7⟩
        have L7 := held4 L B7
        have N7 := NR.below B7 NR.lt
        clear cX B7 L NQ NR hz0 IQ IR nQ
        have k9 := N7.cells.2.1
        obtain ⟨k0, k1, k2⟩ := L7.1.cell
        obtain ⟨k3, k4, k5⟩ := L7.2.1.cell
        by_cases hm0 : X % Y = 0
        · have HV : Hid (R = formOf (!(n == n2)) (X / Y) (e - 40 - e2)) := by show _ = _; rw [HV0.out, if_pos hm0, if_pos hm0]; congr 1; omega
          have cF := fun W => implNorm (!(n == n2)) z (e - 40 - e2) W (by omega) (by rw [lz]; exact natOf_digs _) (by omega) (by omega)
          rw [ez, ← HV.out] at cF
          have hl : ¬ (0 : Int) < (len (X % Y) : Int) := by rw [hm0, len_zero]; omega
          have i2 := IntWalk.i64_in (e - 40 - e2) ⟨by omega, by omega⟩
          generalize len (X % Y) = lm at k9 hl
          clear HV HV0 lz ez hm0
          obtain ⟨⟨rn, rd, re⟩, rc⟩ := R
          unfold AnsDC at cF
          dsimp only at cF
          obtain ⟨rs, hrs⟩ : ∃ rs : ByteArray, ⟨rd.toArray⟩ = rs := ⟨_, rfl⟩
          rw [hrs] at cF
          go_wp2_with fail
          refine (cF _).mono ?_
          rintro r w7 ⟨rfl, B7⟩
          obtain ⟨_, _, KR3, D3⟩ := held4 L7 B7
          clear cF B7 L7 N7 k0 k1 k2 k3 k4 k5 k9
          have f0 := KR3.frozen 0
          have f1 := KR3.frozen 1
          have f2 := KR3.frozen 2
          obtain ⟨k6, k7, k8⟩ := KR3.cell
          go_wp2
          refine bodyPost_ret (v := .tuple #[.agg #[.bool rn, .string rs, .int .i64 re], .int .i64 rc]) (by simp [results, Tryz.results19, go_sem, (KR3.set rn rs re).cell]) rfl ⟨?_, Below.set3 D3 (by omega)⟩
          rw [← hrs]
        · have HV : Hid (R = formOf (!(n == n2)) (10 * (X / Y) + 1) (e - 40 - 1 - e2)) := by show _ = _; rw [HV0.out, if_neg hm0, if_neg hm0]; congr 1; omega
          obtain ⟨u, hu⟩ : ∃ u : ByteArray, z ++ (⟨#[49]⟩ : ByteArray) = u := ⟨_, rfl⟩
          have lu : u.data.toList = natOf (X / Y) ++ [49] := by rw [← hu, ByteArray.data_append, Array.toList_append, lz]
          have zu : u.size ≤ 331 := by rw [← hu, ByteArray.size_append]; have : (⟨#[49]⟩ : ByteArray).size = 1 := rfl; omega
          have cF := fun W => implNorm (!(n == n2)) u (e - 40 - 1 - e2) W (by omega) (by rw [lu]; exact (natOf_digs _).append (digs_one ⟨by decide, by decide⟩)) (by omega) (by omega)
          rw [show nv u = 10 * (X / Y) + 1 by unfold nv; rw [lu, val_snoc, val_natOf]; rfl, ← HV.out] at cF
          have hl : (0 : Int) < (len (X % Y) : Int) := by have := len_pos hm0; omega
          have i2 := IntWalk.i64_in (e - 40 - 1) ⟨by omega, by omega⟩
          have i3 := IntWalk.i64_in (e - 40 - 1 - e2) ⟨by omega, by omega⟩
          generalize len (X % Y) = lm at k9 hl
          clear HV HV0 lz ez hm0 lu
          obtain ⟨⟨rn, rd, re⟩, rc⟩ := R
          unfold AnsDC at cF
          dsimp only at cF
          obtain ⟨rs, hrs⟩ : ∃ rs : ByteArray, ⟨rd.toArray⟩ = rs := ⟨_, rfl⟩
          rw [hrs] at cF
          go_wp2_with fail
          refine (cF _).mono ?_
          rintro r w7 ⟨rfl, B7⟩
          obtain ⟨_, _, KR3, D3⟩ := held4 L7 B7
          clear cF B7 L7 N7 k0 k1 k2 k3 k4 k5 k9
          have f0 := KR3.frozen 0
          have f1 := KR3.frozen 1
          have f2 := KR3.frozen 2
          obtain ⟨k6, k7, k8⟩ := KR3.cell
          go_wp2
          refine bodyPost_ret (v := .tuple #[.agg #[.bool rn, .string rs, .int .i64 re], .int .i64 rc]) (by simp [results, Tryz.results19, go_sem, (KR3.set rn rs re).cell]) rfl ⟨?_, Below.set3 D3 (by omega)⟩
          rw [← hrs]
    · have HN : Hid (¬ ((dOf n s e).Ok ∧ (dOf n2 s2 e2).Ok)) := fun h => hb h.2
      clear hb
      have f0 := KR.frozen 0
      have f1 := KR.frozen 1
      have f2 := KR.frozen 2
      obtain ⟨k6, k7, k8⟩ := KR.cell
      go_wp2
      refine bodyPost_ret (v := .tuple #[.agg #[.bool false, .string ⟨#[]⟩, .int .i64 0], .int .i64 3]) (by simp [results, Tryz.results19, go_sem, (KR.set false ⟨#[]⟩ 0).cell]) rfl ⟨?_, Below.set3 D (by omega)⟩
      rw [← HR.out, if_neg HN.out]; rfl
  · have HN : Hid (¬ ((dOf n s e).Ok ∧ (dOf n2 s2 e2).Ok)) := fun h => hb h.1
    clear hb
    have f0 := KR1.frozen 0
    have f1 := KR1.frozen 1
    have f2 := KR1.frozen 2
    obtain ⟨k6, k7, k8⟩ := KR1.cell
    go_wp2
    refine bodyPost_ret (v := .tuple #[.agg #[.bool false, .string ⟨#[]⟩, .int .i64 0], .int .i64 3]) (by simp [results, Tryz.results19, go_sem, (KR1.set false ⟨#[]⟩ 0).cell]) rfl ⟨?_, Below.set3 D1 (by omega)⟩
    rw [← HR.out, if_neg HN.out]; rfl

end Go.Proofs.YthijeckcjfnbcaaGreatDoor
