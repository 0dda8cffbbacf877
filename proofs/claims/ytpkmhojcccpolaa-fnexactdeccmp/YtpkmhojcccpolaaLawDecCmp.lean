/- For every two decimals, impl.DecCmp answers as spec.DecCmp does. No condition. -/
import Derived.Test.YtpkmhojcccpolaaSpecDec7
import Derived.Test.YtpkmhojcccpolaaImplDec3
import Derived.Test.YtpkmhojcccpolaaOpenDec
namespace Go.Proofs.Ytpkmhojcccpolaa.fnExactDecCmp
open Go.ChangeShapes Go.WideShapes Go.ChangeAt Go.RowKit
open Go.ChangeMaps (open_string shut_string)
set_option linter.unusedVariables false

set_option maxHeartbeats 1000000 in
set_option maxRecDepth 100000 in
theorem walk (n : Bool) (s : ByteArray) (e : Int) (n2 : Bool) (s2 : ByteArray) (e2 : Int) (w : World) (hm : s.size ≤ maxLen) (we : (Lit.int .i64 e).wf = true) (hm2 : s2.size ≤ maxLen) (we2 : (Lit.int .i64 e2).wf = true) :
    Calls Try.prog 4 #[.agg #[.bool n, .string s, .int .i64 e], .agg #[.bool n2, .string s2, .int .i64 e2]] w fun r w' => r = .returned (.bool true) ∧ Below w.heap.size w w' := by
  obtain ⟨b1, b2⟩ := bounds_i64 we
  obtain ⟨c1, c2⟩ := bounds_i64 we2
  have cZ : ∀ W, _ := fun W => lawSz n s e 1048576 W hm (by omega)
  have cT1 := fun W => lawTo n s e W
  have cT2 := fun W => lawTo n2 s2 e2 W
  have B0 : Below w.heap.size w ((w.alloc (.cells #[.bool n, .string s, .int .i64 e] 23)).alloc (.cells #[.bool n2, .string s2, .int .i64 e2] 23)) := ((Below.refl _ _).alloc (Nat.le_refl _) _).alloc (by simp) _
  have KA0 : LDecAt ((w.alloc (.cells #[.bool n, .string s, .int .i64 e] 23)).alloc (.cells #[.bool n2, .string s2, .int .i64 e2] 23)) w.heap.size n s e := LDecAt.alloc (heap_alloc_new w _) _
  have KB0 : LDecAt ((w.alloc (.cells #[.bool n, .string s, .int .i64 e] 23)).alloc (.cells #[.bool n2, .string s2, .int .i64 e2] 23)) (w.heap.size + 1) n2 s2 e2 := by
    have := heap_alloc_new (w.alloc (.cells #[.bool n, .string s, .int .i64 e] 23)) (.cells #[.bool n2, .string s2, .int .i64 e2] 23)
    rwa [show (w.alloc (.cells #[.bool n, .string s, .int .i64 e] 23)).heap.size = w.heap.size + 1 by simp] at this
  by_cases hs : s.size ≤ 1048576
  · obtain ⟨q, hq⟩ : ∃ q : Nat, 1048576 - s.size = q := ⟨_, rfl⟩
    simp only [if_pos hs, hq] at cZ
    have cZ2 : ∀ W, _ := fun W => lawSz n2 s2 e2 q W hm2 (by omega)
    by_cases hs2 : s2.size ≤ q
    · obtain ⟨q2, hq2⟩ : ∃ q2 : Nat, q - s2.size = q2 := ⟨_, rfl⟩
      simp only [if_pos hs2, hq2] at cZ2
      have hs3 : s2.size ≤ 1048576 := by omega
      clear hq hq2 hs2
      have cS := fun W => specDecCmp n s e n2 s2 e2 W hs hs3 b1 b2 c1 c2
      have cI := fun W => implDecCmp n s e n2 s2 e2 W hs hs3 b1 b2 c1 c2
      unfold AnsN at cS cI
      generalize cmpR (dOf n s e) (dOf n2 s2 e2) = R at cS cI
      go_enter Try.func4, Try.ntmps4
      go_wp2_with fail
      refine (cZ _).mono ?_
      rintro r w1 ⟨rfl, B1⟩
      have KA1 := KA0.belowS B1
      have KB1 := KB0.belowS B1
      have D1 := below_kept B0 (Nat.le_refl _) B1
      obtain ⟨k0, k1, k2⟩ := KA1.cell
      obtain ⟨k3, k4, k5⟩ := KB1.cell
      clear cZ B1 B0 KA0 KB0
      go_wp2_with fail
      refine (cZ2 _).mono ?_
      rintro r w2 ⟨rfl, B2⟩
      have KA := KA1.belowS B2
      have KB := KB1.belowS B2
      have D := below_kept D1 (Nat.le_refl _) B2
      clear cZ2 B2 D1 KA1 KB1 k0 k1 k2 k3 k4 k5
      go_wp2_with fail
      refine wp_region_kept_all (fun w' => LDecAt w' w.heap.size n s e ∧ LDecAt w' (w.heap.size + 1) n2 s2 e2 ∧ Below w.heap.size w w') (by kernel_rfl) (by kernel_rfl) (fun _ _ d _ _ h => by cases d <;> exact h) ⟨KA, KB, D.drew⟩ ?_
      (refine kept_step (fun K hK => ?_); go_simp; refine ⟨_, fun W hW => .inl (by obtain ⟨h0, h1, h2⟩ := hW.1.cell; obtain ⟨h3, h4, h5⟩ := hW.2.1.cell; first | (go_simp; exact rfl) | (go_simp; rw [if_neg (by omega)])), hK _ ?_⟩; clear hK K)
      (refine kept_step (fun K hK => ?_); go_simp; refine ⟨_, fun W hW => .inr (.inr ⟨_, _, ?_, (cT1 W).mono (fun r w' h => ⟨h.1, heldL hW h.2⟩)⟩), hK _ ?_⟩; (· first | (go_simp; done) | (go_simp; rfl)); clear hK K)
      (refine kept_step (fun K hK => ?_); go_simp; refine ⟨_, fun W hW => .inl (by obtain ⟨h0, h1, h2⟩ := hW.1.cell; obtain ⟨h3, h4, h5⟩ := hW.2.1.cell; first | (go_simp; exact rfl) | (go_simp; rw [if_neg (by omega)])), hK _ ?_⟩; clear hK K)
      (refine kept_step (fun K hK => ?_); go_simp; refine ⟨_, fun W hW => .inr (.inr ⟨_, _, ?_, (cT2 W).mono (fun r w' h => ⟨h.1, heldL hW h.2⟩)⟩), hK _ ?_⟩; (· first | (go_simp; done) | (go_simp; rfl)); clear hK K)
      (refine kept_step (fun K hK => ?_); go_simp; refine ⟨_, fun W hW => .inr (.inr ⟨_, _, ?_, (cS W).mono (fun r w' h => ⟨h.1, heldL hW h.2⟩)⟩), hK _ ?_⟩; (· first | (go_simp; done) | (go_simp; rfl)); clear hK K)
      (refine kept_step (fun K hK => ?_); go_simp; refine ⟨_, fun W hW => .inl (by obtain ⟨h0, h1, h2⟩ := hW.1.cell; obtain ⟨h3, h4, h5⟩ := hW.2.1.cell; first | (go_simp; exact rfl) | (go_simp; rw [if_neg (by omega)])), hK _ ?_⟩; clear hK K)
      refine kept_nil ?_
      rintro W ⟨KA2, KB2, D2⟩
      clear KA KB D
      go_wp2_with fail
      refine wp_region_kept_all (fun w' => LDecAt w' w.heap.size n s e ∧ LDecAt w' (w.heap.size + 1) n2 s2 e2 ∧ Below w.heap.size w w') (by kernel_rfl) (by kernel_rfl) (fun _ _ d _ _ h => by cases d <;> exact h) ⟨KA2, KB2, D2.drew⟩ ?_
      (refine kept_step (fun K hK => ?_); go_simp; refine ⟨_, fun W hW => .inl (by obtain ⟨h0, h1, h2⟩ := hW.1.cell; obtain ⟨h3, h4, h5⟩ := hW.2.1.cell; first | (go_simp; exact rfl) | (go_simp; rw [if_neg (by omega)])), hK _ ?_⟩; clear hK K)
      (refine kept_step (fun K hK => ?_); go_simp; refine ⟨_, fun W hW => .inr (.inr ⟨_, _, ?_, (cT1 W).mono (fun r w' h => ⟨h.1, heldL hW h.2⟩)⟩), hK _ ?_⟩; (· first | (go_simp; done) | (go_simp; rfl)); clear hK K)
      (refine kept_step (fun K hK => ?_); go_simp; refine ⟨_, fun W hW => .inl (by obtain ⟨h0, h1, h2⟩ := hW.1.cell; obtain ⟨h3, h4, h5⟩ := hW.2.1.cell; first | (go_simp; exact rfl) | (go_simp; rw [if_neg (by omega)])), hK _ ?_⟩; clear hK K)
      (refine kept_step (fun K hK => ?_); go_simp; refine ⟨_, fun W hW => .inr (.inr ⟨_, _, ?_, (cT2 W).mono (fun r w' h => ⟨h.1, heldL hW h.2⟩)⟩), hK _ ?_⟩; (· first | (go_simp; done) | (go_simp; rfl)); clear hK K)
      (refine kept_step (fun K hK => ?_); go_simp; refine ⟨_, fun W hW => .inr (.inr ⟨_, _, ?_, (cI W).mono (fun r w' h => ⟨h.1, heldL hW h.2⟩)⟩), hK _ ?_⟩; (· first | (go_simp; done) | (go_simp; rfl)); clear hK K)
      (refine kept_step (fun K hK => ?_); go_simp; refine ⟨_, fun W hW => .inl (by obtain ⟨h0, h1, h2⟩ := hW.1.cell; obtain ⟨h3, h4, h5⟩ := hW.2.1.cell; first | (go_simp; exact rfl) | (go_simp; rw [if_neg (by omega)])), hK _ ?_⟩; clear hK K)
      refine kept_nil ?_
      rintro W2 ⟨KA3, KB3, D3⟩
      clear KA2 KB2 D2 KA3 KB3
      go_wp2
      go_ret
      exact ⟨rfl, D3⟩
    · simp only [if_neg hs2] at cZ2
      clear cT1 cT2 hq
      go_enter Try.func4, Try.ntmps4
      go_wp2_with fail
      refine (cZ _).mono ?_
      rintro r w1 ⟨rfl, B1⟩
      have KA1 := KA0.belowS B1
      have KB1 := KB0.belowS B1
      have D1 := below_kept B0 (Nat.le_refl _) B1
      obtain ⟨k0, k1, k2⟩ := KA1.cell
      obtain ⟨k3, k4, k5⟩ := KB1.cell
      clear cZ B1 B0 KA0 KB0
      go_wp2_with fail
      refine (cZ2 _).mono ?_
      rintro r w2 ⟨rfl, B2⟩
      have D2 := below_kept D1 (Nat.le_refl _) B2
      clear cZ2 B2 D1 KA1 KB1 k0 k1 k2 k3 k4 k5
      go_wp2
      go_ret
      exact ⟨rfl, D2⟩
  · simp only [if_neg hs] at cZ
    clear cT1 cT2
    go_enter Try.func4, Try.ntmps4
    go_wp2_with fail
    refine (cZ _).mono ?_
    rintro r w1 ⟨rfl, B1⟩
    have D1 := below_kept B0 (Nat.le_refl _) B1
    clear cZ B1 B0 KA0 KB0
    go_wp2
    go_ret
    exact ⟨rfl, D1⟩

theorem own : ownKnob Try.prog.godebug = none := by kernel_rfl

set_option maxRecDepth 100000 in
theorem lifted (os : Os) (started : os.Started) (H : Type) (enc : TypeId × Value → H) :
    ReturnsInHanded {} Try.checked os 4 .any (Rows.fnExactDecCmpSpec.pre6 enc Try.prog Try.f4 Rows.fnExactDecCmpRow.domain false) (Rows.fnExactDecCmpSpec.post enc Try.prog Try.f4 false true false false) := by
  refine returnsInHanded_of_change (C := Try.checked) own started (by kernel_rfl) Try.func4
    (ChangeSpec.witness6 (enc := enc) (C := Try.checked) false ⟨#[], #[.agg #[.bool false, .string ⟨#[]⟩, .int .i64 0], .agg #[.bool false, .string ⟨#[]⟩, .int .i64 0]], []⟩ 8 (by kernel_rfl) (by kernel_rfl) (by kernel_rfl) (by kernel_rfl)) ?_
  intro W base args ds gs before hval0 hW hcnd _
  have hval : ∀ (j : Nat) t v, Try.f4.params[j]? = some t → args[j]? = some v → Value.okWide Try.prog W .any base t v := hval0
  have hW' := hW
  obtain ⟨p, q, hA0, hV, rfl, hfz, hnd⟩ := hW
  have hA : DataW.TrodAll enc Try.prog W 0 (fun _ => true) true Try.f4.params.toList args.toList ds p := hA0
  rw [Try.params4] at hA hval
  obtain ⟨v0, vs0, d0, ds0, p0, q0, hargs, rfl, rfl, h0, r0⟩ := trodAll_cons hA
  obtain ⟨v1, vs1, d1, ds1, p1, q1, rfl, rfl, rfl, h1, r1⟩ := trodAll_cons r0
  obtain ⟨rfl, rfl, rfl⟩ := trodAll_nil r1
  obtain rfl : args = #[v0, v1] := by cases args; simp_all
  obtain ⟨rfl, rfl⟩ := trodVars_none hV
  obtain ⟨n0, s0, e0, rfl, rfl, rfl, w0, x0⟩ := open_dec (hval 0 23 v0 rfl rfl) h0
  obtain ⟨n1, s1, e1, rfl, rfl, rfl, w1, x1⟩ := open_dec (hval 1 23 v1 rfl rfl) h1
  clear hA0 hval0
  refine (walk n0 s0 e0 n1 s1 e1 W w0 x0 w1 x1).mono fun e W' ⟨he, bel⟩ => ?_
  subst he
  exact ⟨_, rfl, _, _, _, [], _, [], hW', trodAll_mk1 (shut_bool Try.underlying4 _), (trodAll_cons_mk (shut_dec w0 x0) (trodAll_cons_mk (shut_dec w1 x1) trodAll_mk0)), rfl, bel.frame _, fun h => by cases h⟩

theorem over : Rows.fnExactDecCmpRow.holds Try.pinned (OpenSpec.ofChange Rows.fnExactDecCmpSpec) :=
  OpenClaim.holds_of_wide 4 Try.f4 rfl rfl rfl rfl rfl rfl rfl ⟨rfl, rfl, rfl, rfl, rfl⟩ rfl rfl rfl rfl rfl (by kernel_rfl) Try.func4 (by kernel_rfl)
    (of_decide_eq_true (by kernel_rfl)) (by unfold Func.isWrapper; first | (rw [if_pos (by decide +kernel)]; kernel_rfl) | (rw [if_neg (by decide +kernel)]; exact ⟨rfl, rfl⟩))
    (fun os started H enc _ => lifted os started H enc)

/-- The given statement. -/
theorem proved : Rows.FnExactDecCmpSaid := over

end Go.Proofs.Ytpkmhojcccpolaa.fnExactDecCmp
