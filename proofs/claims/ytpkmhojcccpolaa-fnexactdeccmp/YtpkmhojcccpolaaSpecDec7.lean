/- spec.DecCmp. Condition: at most 1048576 digits. -/
import Derived.Test.YtpkmhojcccpolaaDecPlain
import Derived.Test.YtpkmhojcccpolaaKept2
namespace Go.Proofs.Ytpkmhojcccpolaa
set_option linter.unusedVariables false
open Go.RowKit

set_option maxHeartbeats 1000000 in
set_option maxRecDepth 100000 in
theorem specDecCmp (n : Bool) (s : ByteArray) (e : Int) (n2 : Bool) (s2 : ByteArray) (e2 : Int) (w : World) (hs : s.size ≤ 1048576) (hs2 : s2.size ≤ 1048576) (b1 : -9223372036854775808 ≤ e) (b2 : e ≤ 9223372036854775807) (c1 : -9223372036854775808 ≤ e2) (c2 : e2 ≤ 9223372036854775807) :
    Calls Try.prog 10 #[.agg #[.bool n, .string s, .int .i64 e], .agg #[.bool n2, .string s2, .int .i64 e2]] w (AnsN (cmpR (dOf n s e) (dOf n2 s2 e2)) w) := by
  obtain ⟨R, hR⟩ : ∃ R, cmpR (dOf n s e) (dOf n2 s2 e2) = R := ⟨_, rfl⟩
  rw [hR]
  unfold cmpR at hR
  have HR := Lib.hid hR
  clear hR
  have KA0 := (DecAt.new w n s e).alloc (.cells #[.bool n2, .string s2, .int .i64 e2] 26)
  have KB0 := DecAt.new (w.alloc (.cells #[.bool n, .string s, .int .i64 e] 26)) n2 s2 e2
  rw [show (w.alloc (.cells #[.bool n, .string s, .int .i64 e] 26)).heap.size = w.heap.size + 1 by simp] at KB0
  have B0 : Below w.heap.size w ((w.alloc (.cells #[.bool n, .string s, .int .i64 e] 26)).alloc (.cells #[.bool n2, .string s2, .int .i64 e2] 26)) := ((Below.refl _ _).alloc (Nat.le_refl _) _).alloc (by simp) _
  have cO1 := fun W => specDecOk n s e W hs b1 b2
  have cO2 := fun W => specDecOk n2 s2 e2 W hs2 c1 c2
  go_enter Try.func10, Try.ntmps10
  go_wp2_with fail
  refine (cO1 _).mono ?_
  intro r w1 hr
  obtain ⟨hb, B1⟩ := AnsB.get hr
  have KA1 := KA0.belowS B1
  have KB1 := KB0.belowS B1
  have D1 := below_kept B0 (Nat.le_refl _) B1
  obtain ⟨k0, k1, k2⟩ := KA1.cell
  obtain ⟨k3, k4, k5⟩ := KB1.cell
  clear cO1 B1 hr B0 KA0 KB0
  rcases hb with ⟨rfl, hb⟩ | ⟨rfl, hb⟩
  · have HP := Lib.hid hb
    clear hb
    go_wp2_with fail
    refine (cO2 _).mono ?_
    intro r w2 hr
    obtain ⟨hb, B2⟩ := AnsB.get hr
    have KA := KA1.belowS B2
    have KB := KB1.belowS B2
    have D := below_kept D1 (Nat.le_refl _) B2
    clear cO2 B2 hr D1 KA1 KB1 k0 k1 k2 k3 k4 k5
    obtain ⟨k0, k1, k2⟩ := KA.cell
    obtain ⟨k3, k4, k5⟩ := KB.cell
    rcases hb with ⟨rfl, hb⟩ | ⟨rfl, hb⟩
    · have HQ := Lib.hid hb
      clear hb
      obtain ⟨m2, f2, hneg⟩ := neg_fields HQ.out
      have cN : ∀ W, Calls Try.prog 12 #[.agg #[.bool n2, .string s2, .int .i64 e2]] W fun r w' => r = .returned (.agg #[.bool m2, .string s2, .int .i64 f2]) ∧ Below W.heap.size W w' := fun W => by
        refine (specDecNeg n2 s2 e2 W hs2 c1 c2).mono fun r w' h => ?_
        have := h.1 HQ.out
        rw [hneg] at this
        unfold AnsD at this
        rwa [show (⟨(dOf m2 s2 f2).dig.toArray⟩ : ByteArray) = s2 from mk_list s2] at this
      have cS := fun W => specSumF n s e m2 s2 f2 W HP.out (by rw [← hneg]; exact neg_ok HQ.out)
      rw [← hneg] at cS
      clear hneg
      have HV0 : Hid (R = cmpS (dOf n s e) (dOf n2 s2 e2)) := by show _ = _; rw [← HR.out, if_pos ⟨HP.out, HQ.out⟩]
      unfold AnsDC sgnD at cS
      by_cases z0 : (sumOf (dOf n s e) (negOf (dOf n2 s2 e2))).2 = 0
      · have HV : Hid (R = 0) := by show _ = _; rw [HV0.out]; unfold cmpS; rw [if_pos z0]
        simp only [if_pos z0] at cS
        change ∀ W, Calls _ _ _ W fun r w' => r = .returned (.tuple #[.agg #[.bool false, .string ⟨#[]⟩, .int .i64 0], .int .i64 0]) ∧ Below W.heap.size W w' at cS
        clear z0 HV0
        have SST : Stable (fun w' => DecAt w' w.heap.size n s e ∧ DecAt w' (w.heap.size + 1) n2 s2 e2 ∧ Below w.heap.size w w') := fun _ _ h hb => held3 h hb
        go_wp2_with fail
        refine wp_region_grows 7 (fun w' => DecAt w' w.heap.size n s e ∧ DecAt w' (w.heap.size + 1) n2 s2 e2 ∧ Below w.heap.size w w') (fun _ => True) SST (fun _ _ _ _ => trivial) (by kernel_rfl) (by kernel_rfl) (fun _ _ d _ _ h => by cases d <;> exact h) ⟨KA, KB, D.drew⟩ trivial ?_
        simp only [List.take_succ_cons, List.take_zero, List.drop_succ_cons, List.drop_zero]
        (refine grows_step (fun K hK => ?_); go_simp; refine ⟨_, fun W hW => .inl (by obtain ⟨h0, h1, h2⟩ := hW.1.cell; obtain ⟨h3, h4, h5⟩ := hW.2.1.cell; first | (go_simp; exact rfl) | (go_simp; rw [if_neg (by omega)])), hK _ ?_⟩; clear hK K)
        (refine grows_step (fun K hK => ?_); go_simp; refine ⟨_, fun W hW => .inl (by obtain ⟨h0, h1, h2⟩ := hW.1.cell; obtain ⟨h3, h4, h5⟩ := hW.2.1.cell; first | (go_simp; exact rfl) | (go_simp; rw [if_neg (by omega)])), hK _ ?_⟩; clear hK K)
        (refine grows_step (fun K hK => ?_); go_simp; refine ⟨_, fun W hW => .inr (.inr ⟨_, _, ?_, cN W⟩), hK _ ?_⟩; (· first | (go_simp; done) | (go_simp; rfl)); clear hK K)
        (refine grows_step (fun K hK => ?_); go_simp; refine ⟨_, fun W hW => .inr (.inr ⟨_, _, ?_, cS W⟩), hK _ ?_⟩; (· first | (go_simp; done) | (go_simp; rfl)); clear hK K)
        (refine grows_step (fun K hK => ?_); go_simp; refine ⟨_, fun W hW => .inl (by obtain ⟨h0, h1, h2⟩ := hW.1.cell; obtain ⟨h3, h4, h5⟩ := hW.2.1.cell; first | (go_simp; exact rfl) | (go_simp; rw [if_neg (by omega)])), hK _ ?_⟩; clear hK K)
        (refine grows_step (fun K hK => ?_); go_simp; refine ⟨_, fun W hW => .inl (by obtain ⟨h0, h1, h2⟩ := hW.1.cell; obtain ⟨h3, h4, h5⟩ := hW.2.1.cell; first | (go_simp; exact rfl) | (go_simp; rw [if_neg (by omega)])), hK _ ?_⟩; clear hK K)
        (refine grows_step (fun K hK => ?_); go_simp; refine ⟨_, fun W hW => .inl (by obtain ⟨h0, h1, h2⟩ := hW.1.cell; obtain ⟨h3, h4, h5⟩ := hW.2.1.cell; first | (go_simp; exact rfl) | (go_simp; rw [if_neg (by omega)])), hK _ ?_⟩; clear hK K)
        refine grows_nil ?_
        change Orders2 _ _ _ _ _ 3 _ _ _
        refine Orders2.one (k := 7) (by kernel_rfl) rfl (fun W1 sW tW K hK => ?_)
        go_simp
        have g1 : w.heap.size ≠ W1.heap.size := Nat.ne_of_lt sW.1.lt
        have g2 : w.heap.size + 1 ≠ W1.heap.size := Nat.ne_of_lt sW.2.1.lt
        have g3 : w.heap.size ≤ W1.heap.size := sW.2.2.size
        refine hK _ _ (fun w' => DecAt w' W1.heap.size false ⟨#[]⟩ 0) (fun _ _ h hb => h.belowS hb) (SST _ _ sW ((Below.refl _ _).alloc (Nat.le_refl _) _)) (DecAt.new W1 false ⟨#[]⟩ 0) ?_
        clear hK K tW
        generalize W1.heap.size = g at *
        clear sW W1
        refine Orders2.one (k := 8) (by kernel_rfl) rfl (fun W2 sW2 t2 K hK => ?_)
        obtain ⟨j0, j1, j2⟩ := t2.cell
        have f0 := t2.frozen 0
        have f1 := t2.frozen 1
        have f2 := t2.frozen 2
        go_simp
        refine hK _ _ (fun w' => DecAt w' g false ⟨#[]⟩ 0) (fun _ _ h hb => h.belowS hb) (⟨sW2.1.setO g1 _ _ _, sW2.2.1.setO g2 _ _ _, Below.set3 sW2.2.2 g3⟩) (t2.set false ⟨#[]⟩ 0) ?_
        clear hK K j0 j1 j2 f0 f1 f2 t2 sW2 W2
        refine Orders2.one (k := 9) (by kernel_rfl) rfl (fun W3 sW3 t3 K hK => ?_)
        go_simp
        refine hK _ _ (fun w' => DecAt w' g false ⟨#[]⟩ 0) (fun _ _ h hb => h.belowS hb) sW3 t3 ?_
        clear hK K sW3 t3 W3
        refine Orders2.done (by kernel_rfl) (fun W sW N => ?_)
        obtain ⟨j0, j1, j2⟩ := N.cell
        clear D KA KB k0 k1 k2 k3 k4 k5 cN cS SST
        go_wp2
        go_ret
        exact ⟨by rw [HV.out]; rfl, sW.2.2⟩
      · simp only [if_neg z0] at cS
        cases hsg : (sumOf (dOf n s e) (negOf (dOf n2 s2 e2))).1
        · have HV : Hid (R = 1) := by show _ = _; rw [HV0.out]; unfold cmpS; rw [if_neg z0, hsg]; rfl
          rw [hsg] at cS
          change ∀ W, Calls _ _ _ W fun r w' => r = .returned (.tuple #[.agg #[.bool false, .string ⟨#[49]⟩, .int .i64 0], .int .i64 0]) ∧ Below W.heap.size W w' at cS
          clear z0 HV0 hsg
          have SST : Stable (fun w' => DecAt w' w.heap.size n s e ∧ DecAt w' (w.heap.size + 1) n2 s2 e2 ∧ Below w.heap.size w w') := fun _ _ h hb => held3 h hb
          go_wp2_with fail
          refine wp_region_grows 7 (fun w' => DecAt w' w.heap.size n s e ∧ DecAt w' (w.heap.size + 1) n2 s2 e2 ∧ Below w.heap.size w w') (fun _ => True) SST (fun _ _ _ _ => trivial) (by kernel_rfl) (by kernel_rfl) (fun _ _ d _ _ h => by cases d <;> exact h) ⟨KA, KB, D.drew⟩ trivial ?_
          simp only [List.take_succ_cons, List.take_zero, List.drop_succ_cons, List.drop_zero]
          (refine grows_step (fun K hK => ?_); go_simp; refine ⟨_, fun W hW => .inl (by obtain ⟨h0, h1, h2⟩ := hW.1.cell; obtain ⟨h3, h4, h5⟩ := hW.2.1.cell; first | (go_simp; exact rfl) | (go_simp; rw [if_neg (by omega)])), hK _ ?_⟩; clear hK K)
          (refine grows_step (fun K hK => ?_); go_simp; refine ⟨_, fun W hW => .inl (by obtain ⟨h0, h1, h2⟩ := hW.1.cell; obtain ⟨h3, h4, h5⟩ := hW.2.1.cell; first | (go_simp; exact rfl) | (go_simp; rw [if_neg (by omega)])), hK _ ?_⟩; clear hK K)
          (refine grows_step (fun K hK => ?_); go_simp; refine ⟨_, fun W hW => .inr (.inr ⟨_, _, ?_, cN W⟩), hK _ ?_⟩; (· first | (go_simp; done) | (go_simp; rfl)); clear hK K)
          (refine grows_step (fun K hK => ?_); go_simp; refine ⟨_, fun W hW => .inr (.inr ⟨_, _, ?_, cS W⟩), hK _ ?_⟩; (· first | (go_simp; done) | (go_simp; rfl)); clear hK K)
          (refine grows_step (fun K hK => ?_); go_simp; refine ⟨_, fun W hW => .inl (by obtain ⟨h0, h1, h2⟩ := hW.1.cell; obtain ⟨h3, h4, h5⟩ := hW.2.1.cell; first | (go_simp; exact rfl) | (go_simp; rw [if_neg (by omega)])), hK _ ?_⟩; clear hK K)
          (refine grows_step (fun K hK => ?_); go_simp; refine ⟨_, fun W hW => .inl (by obtain ⟨h0, h1, h2⟩ := hW.1.cell; obtain ⟨h3, h4, h5⟩ := hW.2.1.cell; first | (go_simp; exact rfl) | (go_simp; rw [if_neg (by omega)])), hK _ ?_⟩; clear hK K)
          (refine grows_step (fun K hK => ?_); go_simp; refine ⟨_, fun W hW => .inl (by obtain ⟨h0, h1, h2⟩ := hW.1.cell; obtain ⟨h3, h4, h5⟩ := hW.2.1.cell; first | (go_simp; exact rfl) | (go_simp; rw [if_neg (by omega)])), hK _ ?_⟩; clear hK K)
          refine grows_nil ?_
          change Orders2 _ _ _ _ _ 3 _ _ _
          refine Orders2.one (k := 7) (by kernel_rfl) rfl (fun W1 sW tW K hK => ?_)
          go_simp
          have g1 : w.heap.size ≠ W1.heap.size := Nat.ne_of_lt sW.1.lt
          have g2 : w.heap.size + 1 ≠ W1.heap.size := Nat.ne_of_lt sW.2.1.lt
          have g3 : w.heap.size ≤ W1.heap.size := sW.2.2.size
          refine hK _ _ (fun w' => DecAt w' W1.heap.size false ⟨#[]⟩ 0) (fun _ _ h hb => h.belowS hb) (SST _ _ sW ((Below.refl _ _).alloc (Nat.le_refl _) _)) (DecAt.new W1 false ⟨#[]⟩ 0) ?_
          clear hK K tW
          generalize W1.heap.size = g at *
          clear sW W1
          refine Orders2.one (k := 8) (by kernel_rfl) rfl (fun W2 sW2 t2 K hK => ?_)
          obtain ⟨j0, j1, j2⟩ := t2.cell
          have f0 := t2.frozen 0
          have f1 := t2.frozen 1
          have f2 := t2.frozen 2
          go_simp
          refine hK _ _ (fun w' => DecAt w' g false ⟨#[49]⟩ 0) (fun _ _ h hb => h.belowS hb) (⟨sW2.1.setO g1 _ _ _, sW2.2.1.setO g2 _ _ _, Below.set3 sW2.2.2 g3⟩) (t2.set false ⟨#[49]⟩ 0) ?_
          clear hK K j0 j1 j2 f0 f1 f2 t2 sW2 W2
          refine Orders2.one (k := 9) (by kernel_rfl) rfl (fun W3 sW3 t3 K hK => ?_)
          go_simp
          refine hK _ _ (fun w' => DecAt w' g false ⟨#[49]⟩ 0) (fun _ _ h hb => h.belowS hb) sW3 t3 ?_
          clear hK K sW3 t3 W3
          refine Orders2.done (by kernel_rfl) (fun W sW N => ?_)
          obtain ⟨j0, j1, j2⟩ := N.cell
          clear D KA KB k0 k1 k2 k3 k4 k5 cN cS SST
          go_wp2
          go_ret
          exact ⟨by rw [HV.out]; rfl, sW.2.2⟩
        · have HV : Hid (R = -1) := by show _ = _; rw [HV0.out]; unfold cmpS; rw [if_neg z0, hsg]; rfl
          rw [hsg] at cS
          change ∀ W, Calls _ _ _ W fun r w' => r = .returned (.tuple #[.agg #[.bool true, .string ⟨#[49]⟩, .int .i64 0], .int .i64 0]) ∧ Below W.heap.size W w' at cS
          clear z0 HV0 hsg
          have SST : Stable (fun w' => DecAt w' w.heap.size n s e ∧ DecAt w' (w.heap.size + 1) n2 s2 e2 ∧ Below w.heap.size w w') := fun _ _ h hb => held3 h hb
          go_wp2_with fail
          refine wp_region_grows 7 (fun w' => DecAt w' w.heap.size n s e ∧ DecAt w' (w.heap.size + 1) n2 s2 e2 ∧ Below w.heap.size w w') (fun _ => True) SST (fun _ _ _ _ => trivial) (by kernel_rfl) (by kernel_rfl) (fun _ _ d _ _ h => by cases d <;> exact h) ⟨KA, KB, D.drew⟩ trivial ?_
          simp only [List.take_succ_cons, List.take_zero, List.drop_succ_cons, List.drop_zero]
          (refine grows_step (fun K hK => ?_); go_simp; refine ⟨_, fun W hW => .inl (by obtain ⟨h0, h1, h2⟩ := hW.1.cell; obtain ⟨h3, h4, h5⟩ := hW.2.1.cell; first | (go_simp; exact rfl) | (go_simp; rw [if_neg (by omega)])), hK _ ?_⟩; clear hK K)
          (refine grows_step (fun K hK => ?_); go_simp; refine ⟨_, fun W hW => .inl (by obtain ⟨h0, h1, h2⟩ := hW.1.cell; obtain ⟨h3, h4, h5⟩ := hW.2.1.cell; first | (go_simp; exact rfl) | (go_simp; rw [if_neg (by omega)])), hK _ ?_⟩; clear hK K)
          (refine grows_step (fun K hK => ?_); go_simp; refine ⟨_, fun W hW => .inr (.inr ⟨_, _, ?_, cN W⟩), hK _ ?_⟩; (· first | (go_simp; done) | (go_simp; rfl)); clear hK K)
          (refine grows_step (fun K hK => ?_); go_simp; refine ⟨_, fun W hW => .inr (.inr ⟨_, _, ?_, cS W⟩), hK _ ?_⟩; (· first | (go_simp; done) | (go_simp; rfl)); clear hK K)
          (refine grows_step (fun K hK => ?_); go_simp; refine ⟨_, fun W hW => .inl (by obtain ⟨h0, h1, h2⟩ := hW.1.cell; obtain ⟨h3, h4, h5⟩ := hW.2.1.cell; first | (go_simp; exact rfl) | (go_simp; rw [if_neg (by omega)])), hK _ ?_⟩; clear hK K)
          (refine grows_step (fun K hK => ?_); go_simp; refine ⟨_, fun W hW => .inl (by obtain ⟨h0, h1, h2⟩ := hW.1.cell; obtain ⟨h3, h4, h5⟩ := hW.2.1.cell; first | (go_simp; exact rfl) | (go_simp; rw [if_neg (by omega)])), hK _ ?_⟩; clear hK K)
          (refine grows_step (fun K hK => ?_); go_simp; refine ⟨_, fun W hW => .inl (by obtain ⟨h0, h1, h2⟩ := hW.1.cell; obtain ⟨h3, h4, h5⟩ := hW.2.1.cell; first | (go_simp; exact rfl) | (go_simp; rw [if_neg (by omega)])), hK _ ?_⟩; clear hK K)
          refine grows_nil ?_
          change Orders2 _ _ _ _ _ 3 _ _ _
          refine Orders2.one (k := 7) (by kernel_rfl) rfl (fun W1 sW tW K hK => ?_)
          go_simp
          have g1 : w.heap.size ≠ W1.heap.size := Nat.ne_of_lt sW.1.lt
          have g2 : w.heap.size + 1 ≠ W1.heap.size := Nat.ne_of_lt sW.2.1.lt
          have g3 : w.heap.size ≤ W1.heap.size := sW.2.2.size
          refine hK _ _ (fun w' => DecAt w' W1.heap.size false ⟨#[]⟩ 0) (fun _ _ h hb => h.belowS hb) (SST _ _ sW ((Below.refl _ _).alloc (Nat.le_refl _) _)) (DecAt.new W1 false ⟨#[]⟩ 0) ?_
          clear hK K tW
          generalize W1.heap.size = g at *
          clear sW W1
          refine Orders2.one (k := 8) (by kernel_rfl) rfl (fun W2 sW2 t2 K hK => ?_)
          obtain ⟨j0, j1, j2⟩ := t2.cell
          have f0 := t2.frozen 0
          have f1 := t2.frozen 1
          have f2 := t2.frozen 2
          go_simp
          refine hK _ _ (fun w' => DecAt w' g true ⟨#[49]⟩ 0) (fun _ _ h hb => h.belowS hb) (⟨sW2.1.setO g1 _ _ _, sW2.2.1.setO g2 _ _ _, Below.set3 sW2.2.2 g3⟩) (t2.set true ⟨#[49]⟩ 0) ?_
          clear hK K j0 j1 j2 f0 f1 f2 t2 sW2 W2
          refine Orders2.one (k := 9) (by kernel_rfl) rfl (fun W3 sW3 t3 K hK => ?_)
          go_simp
          refine hK _ _ (fun w' => DecAt w' g true ⟨#[49]⟩ 0) (fun _ _ h hb => h.belowS hb) sW3 t3 ?_
          clear hK K sW3 t3 W3
          refine Orders2.done (by kernel_rfl) (fun W sW N => ?_)
          obtain ⟨j0, j1, j2⟩ := N.cell
          clear D KA KB k0 k1 k2 k3 k4 k5 cN cS SST
          go_wp2
          go_ret
          exact ⟨by rw [HV.out]; rfl, sW.2.2⟩
    · have HN : Hid (¬ ((dOf n s e).Ok ∧ (dOf n2 s2 e2).Ok)) := fun h => hb h.2
      clear hb
      go_wp2
      go_ret
      exact ⟨by rw [← HR.out, if_neg HN.out]; rfl, D⟩
  · have HN : Hid (¬ ((dOf n s e).Ok ∧ (dOf n2 s2 e2).Ok)) := fun h => hb h.1
    clear hb
    go_wp2
    go_ret
    exact ⟨by rw [← HR.out, if_neg HN.out]; rfl, D1⟩

end Go.Proofs.Ytpkmhojcccpolaa
