/- impl.DecSub. Condition: at most 1048576 digits. -/
import Derived.Test.YthijeckcjfnbcaaGreatDoorImplDec8
namespace Go.Proofs.YthijeckcjfnbcaaGreatDoor
set_option linter.unusedVariables false
open Go.RowKit

set_option maxHeartbeats 1000000 in
set_option maxRecDepth 100000 in
theorem implDecSub (n : Bool) (s : ByteArray) (e : Int) (n2 : Bool) (s2 : ByteArray) (e2 : Int) (w : World) (hs : s.size ≤ 1048576) (hs2 : s2.size ≤ 1048576) (b1 : -9223372036854775808 ≤ e) (b2 : e ≤ 9223372036854775807) (c1 : -9223372036854775808 ≤ e2) (c2 : e2 ≤ 9223372036854775807) :
    Calls Tryz.prog 13 #[.agg #[.bool n, .string s, .int .i64 e], .agg #[.bool n2, .string s2, .int .i64 e2]] w (AnsDC (subR (dOf n s e) (dOf n2 s2 e2)) w) := by
  obtain ⟨R, hR⟩ : ∃ R, subR (dOf n s e) (dOf n2 s2 e2) = R := ⟨_, rfl⟩
  rw [hR]
  unfold subR at hR
  have HR := Lib.hid hR
  clear hR
  have KA0 := ((DecAt.new w n s e).alloc (.cells #[.bool n2, .string s2, .int .i64 e2] 25)).alloc (.cells #[.bool false, .string ⟨#[]⟩, .int .i64 0] 25)
  have KB0 := (DecAt.new (w.alloc (.cells #[.bool n, .string s, .int .i64 e] 25)) n2 s2 e2).alloc (.cells #[.bool false, .string ⟨#[]⟩, .int .i64 0] 25)
  have KR0 := DecAt.new ((w.alloc (.cells #[.bool n, .string s, .int .i64 e] 25)).alloc (.cells #[.bool n2, .string s2, .int .i64 e2] 25)) false ⟨#[]⟩ 0
  rw [show (w.alloc (.cells #[.bool n, .string s, .int .i64 e] 25)).heap.size = w.heap.size + 1 by simp] at KB0
  rw [show ((w.alloc (.cells #[.bool n, .string s, .int .i64 e] 25)).alloc (.cells #[.bool n2, .string s2, .int .i64 e2] 25)).heap.size = w.heap.size + 1 + 1 by simp] at KR0
  have B0 : Below w.heap.size w (((w.alloc (.cells #[.bool n, .string s, .int .i64 e] 25)).alloc (.cells #[.bool n2, .string s2, .int .i64 e2] 25)).alloc (.cells #[.bool false, .string ⟨#[]⟩, .int .i64 0] 25)) := (((Below.refl _ _).alloc (Nat.le_refl _) _).alloc (by simp) _).alloc (by simp; omega) _
  have cO2 := fun W => implDecOk n2 s2 e2 W hs2 c1 c2
  go_enter Tryz.func13, Tryz.ntmps13
  go_wp2_with fail
  refine (cO2 _).mono ?_
  intro r w1 hr
  obtain ⟨hb, B1⟩ := AnsB.get hr
  have KA := KA0.belowS B1
  have KB := KB0.belowS B1
  have KR := KR0.belowS B1
  have D := below_kept B0 (Nat.le_refl _) B1
  clear cO2 B1 hr B0 KA0 KB0 KR0
  obtain ⟨k0, k1, k2⟩ := KA.cell
  obtain ⟨k3, k4, k5⟩ := KB.cell
  rcases hb with ⟨rfl, hb⟩ | ⟨rfl, hb⟩
  · have HQ := Lib.hid hb
    clear hb
    obtain ⟨m2, f2, hneg⟩ := neg_fields HQ.out
    have hok : (dOf m2 s2 f2).Ok := by rw [← hneg]; exact neg_ok HQ.out
    obtain ⟨_, _, y1, y2⟩ := ok_size hok
    have cN : ∀ W, Calls Tryz.prog 14 #[.agg #[.bool n2, .string s2, .int .i64 e2]] W fun r w' => r = .returned (.agg #[.bool m2, .string s2, .int .i64 f2]) ∧ Below W.heap.size W w' := fun W => by
      have := implDecNeg n2 s2 e2 W hs2 c1 c2
      unfold negR at this
      rw [if_pos HQ.out, hneg] at this
      unfold AnsD at this
      rwa [show (⟨(dOf m2 s2 f2).dig.toArray⟩ : ByteArray) = s2 from mk_list s2] at this
    have cF := fun W => implDecAdd n s e m2 s2 f2 W hs hs2 b1 b2 (by omega) (by omega)
    have HV : Hid (R = addR (dOf n s e) (dOf m2 s2 f2)) := by
      show _ = _
      rw [← HR.out]
      unfold addR
      by_cases g : (dOf n s e).Ok
      · rw [if_pos ⟨g, HQ.out⟩, if_pos ⟨g, hok⟩, hneg]
      · rw [if_neg (fun h => g h.1), if_neg (fun h => g h.1)]
    rw [← HV.out] at cF
    clear HV HR hneg hok
    obtain ⟨⟨rn, rd, re⟩, rc⟩ := R
    unfold AnsDC at cF
    dsimp only at cF
    obtain ⟨rs, hrs⟩ : ∃ rs : ByteArray, ⟨rd.toArray⟩ = rs := ⟨_, rfl⟩
    rw [hrs] at cF
    go_wp2_with fail
    refine wp_region_kept 6 (fun w' => DecAt w' w.heap.size n s e ∧ DecAt w' (w.heap.size + 1) n2 s2 e2 ∧ DecAt w' (w.heap.size + 1 + 1) false ⟨#[]⟩ 0 ∧ Below w.heap.size w w') (by kernel_rfl) (by kernel_rfl) (fun _ _ d _ _ h => by cases d <;> exact h) ⟨KA, KB, KR, D.drew⟩ ?_
    simp only [List.take_succ_cons, List.take_zero, List.drop_succ_cons, List.drop_zero]
    (refine kept_step (fun K hK => ?_); go_simp; refine ⟨_, fun W hW => .inl (by obtain ⟨h0, h1, h2⟩ := hW.1.cell; obtain ⟨h3, h4, h5⟩ := hW.2.1.cell; first | (go_simp; exact rfl) | (go_simp; rw [if_neg (by omega)])), hK _ ?_⟩; clear hK K)
    (refine kept_step (fun K hK => ?_); go_simp; refine ⟨_, fun W hW => .inl (by obtain ⟨h0, h1, h2⟩ := hW.1.cell; obtain ⟨h3, h4, h5⟩ := hW.2.1.cell; first | (go_simp; exact rfl) | (go_simp; rw [if_neg (by omega)])), hK _ ?_⟩; clear hK K)
    (refine kept_step (fun K hK => ?_); go_simp; refine ⟨_, fun W hW => .inr (.inr ⟨_, _, ?_, (cN W).mono (fun r w' h => ⟨h.1, held4 hW h.2⟩)⟩), hK _ ?_⟩; (· first | (go_simp; done) | (go_simp; rfl) | (go_simp; cases n <;> cases n2 <;> rfl)); clear hK K)
    (refine kept_step (fun K hK => ?_); go_simp; refine ⟨_, fun W hW => .inr (.inr ⟨_, _, ?_, (cF W).mono (fun r w' h => ⟨h.1, held4 hW h.2⟩)⟩), hK _ ?_⟩; (· first | (go_simp; done) | (go_simp; rfl) | (go_simp; cases n <;> cases n2 <;> rfl)); clear hK K)
    (refine kept_step (fun K hK => ?_); go_simp; refine ⟨_, fun W hW => .inl (by obtain ⟨h0, h1, h2⟩ := hW.1.cell; obtain ⟨h3, h4, h5⟩ := hW.2.1.cell; first | (go_simp; exact rfl) | (go_simp; rw [if_neg (by omega)])), hK _ ?_⟩; clear hK K)
    (refine kept_step (fun K hK => ?_); go_simp; refine ⟨_, fun W hW => .inl (by obtain ⟨h0, h1, h2⟩ := hW.1.cell; obtain ⟨h3, h4, h5⟩ := hW.2.1.cell; first | (go_simp; exact rfl) | (go_simp; rw [if_neg (by omega)])), hK _ ?_⟩; clear hK K)
    refine kept_nil ?_
    rintro W ⟨h0, h1, h2, h3⟩
    clear D KR KA KB k0 k1 k2 k3 k4 k5 cN cF
    have f0 := h2.frozen 0
    have f1 := h2.frozen 1
    have f2 := h2.frozen 2
    obtain ⟨k6, k7, k8⟩ := h2.cell
    go_wp2
    refine bodyPost_ret (v := .tuple #[.agg #[.bool rn, .string rs, .int .i64 re], .int .i64 rc]) (by simp [results, Tryz.results13, go_sem, (h2.set rn rs re).cell]) rfl ⟨?_, Below.set3 h3 (by omega)⟩
    rw [← hrs]
  · have HN : Hid (¬ ((dOf n s e).Ok ∧ (dOf n2 s2 e2).Ok)) := fun h => hb h.2
    clear hb
    have f0 := KR.frozen 0
    have f1 := KR.frozen 1
    have f2 := KR.frozen 2
    obtain ⟨k6, k7, k8⟩ := KR.cell
    go_wp2
    refine bodyPost_ret (v := .tuple #[.agg #[.bool false, .string ⟨#[]⟩, .int .i64 0], .int .i64 3]) (by simp [results, Tryz.results13, go_sem, (KR.set false ⟨#[]⟩ 0).cell]) rfl ⟨?_, Below.set3 D (by omega)⟩
    rw [← HR.out, if_neg HN.out]; rfl

end Go.Proofs.YthijeckcjfnbcaaGreatDoor
