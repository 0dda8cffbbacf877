/- For every two decimals, impl.DecMod answers as spec.DecMod does. No condition. -/
import Derived.Test.YtpkmhojcccpolaaDoorSpecDec11
import Derived.Test.YtpkmhojcccpolaaDoorImplDec11
import Derived.Test.YtpkmhojcccpolaaDoorTailDec
import Derived.Test.YtpkmhojcccpolaaDoorLaidD
namespace Go.Proofs.YtpkmhojcccpolaaDoor.fnExactDecMod
open Go.ChangeShapes Go.WideShapes Go.ChangeAt Go.RowKit Go.Shelf
open Go.ChangeMaps (open_string shut_string)
set_option linter.unusedVariables false

set_option maxHeartbeats 1000000 in
set_option maxRecDepth 100000 in
theorem walk (n : Bool) (s : ByteArray) (e : Int) (n2 : Bool) (s2 : ByteArray) (e2 : Int) (w : World) (hm : s.size ≤ maxLen) (we : (Lit.int .i64 e).wf = true) (hm2 : s2.size ≤ maxLen) (we2 : (Lit.int .i64 e2).wf = true) (hT : True) :
    Calls Tryd.prog 11 #[.agg #[.bool n, .string s, .int .i64 e], .agg #[.bool n2, .string s2, .int .i64 e2]] w fun r w' => r = .returned (.bool true) ∧ Below w.heap.size w w' := by
  obtain ⟨b1, b2⟩ := bounds_i64 we
  obtain ⟨c1, c2⟩ := bounds_i64 we2
  have cZ : ∀ W, _ := fun W => lawSz n s e 1048576 W hm (by omega)
  have cT1 := fun W => lawTo n s e W
  have cT2 := fun W => lawTo n2 s2 e2 W
  have B0 : Below w.heap.size w ((w.alloc (.cells #[.bool n, .string s, .int .i64 e] 23)).alloc (.cells #[.bool n2, .string s2, .int .i64 e2] 23)) := ((Below.refl _ _).alloc (Nat.le_refl _) _).alloc (by simp) _
  have KA0 : LDecAt ((w.alloc (.cells #[.bool n, .string s, .int .i64 e] 23)).alloc (.cells #[.bool n2, .string s2, .int .i64 e2] 23)) w.heap.size n s e := LDecAt.alloc (heap_alloc_new w _) _
  have KB0 : LDecAt ((w.alloc (.cells #[.bool n, .string s, .int .i64 e] 23)).alloc (.cells #[.bool n2, .string s2, .int .i64 e2] 23)) (w.heap.size + 1) n2 s2 e2 := by
    have := heap_alloc_new (w.alloc (.cells #[.bool n, .string s, .int .i64 e] 23)) (.cells #[.bool n2, .string s2, .int .i64 e2] 23)
    rwa [show (w.alloc (.cells #[.bool n, .string s, .int .i64 e] 23)).heap.size = w.heap.size + 1 by simp] at this
  by_cases hs : s.size ≤ 1048576
  · obtain ⟨q, hq⟩ : ∃ q : Nat, 1048576 - s.size = q := ⟨_, rfl⟩
    simp only [if_pos hs, hq] at cZ
    have cZ2 : ∀ W, _ := fun W => lawSz n2 s2 e2 q W hm2 (by omega)
    by_cases hs2 : s2.size ≤ q
    · obtain ⟨q2, hq2⟩ : ∃ q2 : Nat, q - s2.size = q2 := ⟨_, rfl⟩
      simp only [if_pos hs2, hq2] at cZ2
      have hs3 : s2.size ≤ 1048576 := by omega
      clear hq hq2 hs2
      have cS := fun W => specDecMod n s e n2 s2 e2 W hs hs3 b1 b2 c1 c2
      have cI := fun W => implDecMod n s e n2 s2 e2 W hs hs3 b1 b2 c1 c2
      obtain ⟨R, hR⟩ : ∃ R, modR (dOf n s e) (dOf n2 s2 e2) = R := ⟨_, rfl⟩
      rw [hR] at cS cI
      clear hR
      obtain ⟨⟨rn, rd, re⟩, rc⟩ := R
      unfold AnsDC at cS cI
      dsimp only at cS cI
      obtain ⟨rs, hrs⟩ : ∃ rs : ByteArray, ⟨rd.toArray⟩ = rs := ⟨_, rfl⟩
      rw [hrs] at cS cI
      clear hrs
      have cE := fun W => lawEq rn rs re W
      have SST : Stable (fun w' => LDecAt w' w.heap.size n s e ∧ LDecAt w' (w.heap.size + 1) n2 s2 e2 ∧ Below w.heap.size w w') := fun _ _ h hb => heldL h hb
      go_enter Tryd.func11, Tryd.ntmps11
      go_wp2_with fail
      refine (cZ _).mono ?_
      rintro r w1 ⟨rfl, B1⟩
      have KA1 := KA0.belowS B1
      have KB1 := KB0.belowS B1
      have D1 := below_kept B0 (Nat.le_refl _) B1
      obtain ⟨k0, k1, k2⟩ := KA1.cell
      obtain ⟨k3, k4, k5⟩ := KB1.cell
      clear cZ B1 B0 KA0 KB0
      go_wp2_with fail
      refine (cZ2 _).mono ?_
      rintro r w2 ⟨rfl, B2⟩
      have KA := KA1.belowS B2
      have KB := KB1.belowS B2
      have D := below_kept D1 (Nat.le_refl _) B2
      clear cZ2 B2 D1 KA1 KB1 k0 k1 k2 k3 k4 k5
      go_wp2_with fail
      refine wp_region_grows 8 (fun w' => LDecAt w' w.heap.size n s e ∧ LDecAt w' (w.heap.size + 1) n2 s2 e2 ∧ Below w.heap.size w w') (fun _ => True) SST (fun _ _ _ _ => trivial) (by kernel_rfl) (by kernel_rfl) (fun _ _ d _ _ h => by cases d <;> exact h) ⟨KA, KB, D.drew⟩ trivial ?_
      simp only [List.take_succ_cons, List.take_zero]
      (refine grows_step (fun K hK => ?_); go_simp; refine ⟨_, fun W hW => .inl (by obtain ⟨h0, h1, h2⟩ := hW.1.cell; obtain ⟨h3, h4, h5⟩ := hW.2.1.cell; first | (go_simp; exact rfl) | (go_simp; rw [if_neg (by omega)])), hK _ ?_⟩; clear hK K)
      (refine grows_step (fun K hK => ?_); go_simp; refine ⟨_, fun W hW => .inr (.inr ⟨_, _, ?_, cT1 W⟩), hK _ ?_⟩; (· first | (go_simp; done) | (go_simp; rfl) | (go_simp; cases n <;> cases n2 <;> rfl)); clear hK K)
      (refine grows_step (fun K hK => ?_); go_simp; refine ⟨_, fun W hW => .inl (by obtain ⟨h0, h1, h2⟩ := hW.1.cell; obtain ⟨h3, h4, h5⟩ := hW.2.1.cell; first | (go_simp; exact rfl) | (go_simp; rw [if_neg (by omega)])), hK _ ?_⟩; clear hK K)
      (refine grows_step (fun K hK => ?_); go_simp; refine ⟨_, fun W hW => .inr (.inr ⟨_, _, ?_, cT2 W⟩), hK _ ?_⟩; (· first | (go_simp; done) | (go_simp; rfl) | (go_simp; cases n <;> cases n2 <;> rfl)); clear hK K)
      (refine grows_step (fun K hK => ?_); go_simp; refine ⟨_, fun W hW => .inr (.inr ⟨_, _, ?_, cS W⟩), hK _ ?_⟩; (· first | (go_simp; done) | (go_simp; rfl) | (go_simp; cases n <;> cases n2 <;> rfl)); clear hK K)
      (refine grows_step (fun K hK => ?_); go_simp; refine ⟨_, fun W hW => .inl (by obtain ⟨h0, h1, h2⟩ := hW.1.cell; obtain ⟨h3, h4, h5⟩ := hW.2.1.cell; first | (go_simp; exact rfl) | (go_simp; rw [if_neg (by omega)])), hK _ ?_⟩; clear hK K)
      (refine grows_step (fun K hK => ?_); go_simp; refine ⟨_, fun W hW => .inl (by obtain ⟨h0, h1, h2⟩ := hW.1.cell; obtain ⟨h3, h4, h5⟩ := hW.2.1.cell; first | (go_simp; exact rfl) | (go_simp; rw [if_neg (by omega)])), hK _ ?_⟩; clear hK K)
      (refine grows_step (fun K hK => ?_); go_simp; refine ⟨_, fun W hW => .inl (by obtain ⟨h0, h1, h2⟩ := hW.1.cell; obtain ⟨h3, h4, h5⟩ := hW.2.1.cell; first | (go_simp; exact rfl) | (go_simp; rw [if_neg (by omega)])), hK _ ?_⟩; clear hK K)
      refine grows_nil ?_
      change Orders2 _ _ _ _ _ 3 _ _ _
      refine tail_dec (k0 := 8) (k1 := 9) (k2 := 10) (w.heap.size + 1 + 1) _ SST (fun W s => s.2.1.lt) (fun W g E hg s => heldLrow E s (by omega) (by omega) (by omega)) rfl rfl rfl (by kernel_rfl) (by kernel_rfl) (by kernel_rfl) (by kernel_rfl) (fun _ => rfl) (fun _ => rfl) (fun _ => rfl) ?_
      intro g W hg sW N
      simp only [Act.put, List.setIfInBounds_toArray, List.set_cons_zero, List.set_cons_succ]
      clear KA KB D cS SST
      have SST : Stable (fun w' => LDecAt w' w.heap.size n s e ∧ LDecAt w' (w.heap.size + 1) n2 s2 e2 ∧ DecAt w' g rn rs re ∧ Below w.heap.size w w') := fun _ _ h hb => heldM h hb
      go_wp2_with fail
      refine wp_region_grows 8 (fun w' => LDecAt w' w.heap.size n s e ∧ LDecAt w' (w.heap.size + 1) n2 s2 e2 ∧ DecAt w' g rn rs re ∧ Below w.heap.size w w') (fun _ => True) SST (fun _ _ _ _ => trivial) (by kernel_rfl) (by kernel_rfl) (fun _ _ d _ _ h => by cases d <;> exact h) ⟨sW.1, sW.2.1, N, sW.2.2.drew⟩ trivial ?_
      simp only [List.take_succ_cons, List.take_zero]
      (refine grows_step (fun K hK => ?_); go_simp; refine ⟨_, fun W hW => .inl (by obtain ⟨h0, h1, h2⟩ := hW.1.cell; obtain ⟨h3, h4, h5⟩ := hW.2.1.cell; first | (go_simp; exact rfl) | (go_simp; rw [if_neg (by omega)])), hK _ ?_⟩; clear hK K)
      (refine grows_step (fun K hK => ?_); go_simp; refine ⟨_, fun W hW => .inr (.inr ⟨_, _, ?_, cT1 W⟩), hK _ ?_⟩; (· first | (go_simp; done) | (go_simp; rfl) | (go_simp; cases n <;> cases n2 <;> rfl)); clear hK K)
      (refine grows_step (fun K hK => ?_); go_simp; refine ⟨_, fun W hW => .inl (by obtain ⟨h0, h1, h2⟩ := hW.1.cell; obtain ⟨h3, h4, h5⟩ := hW.2.1.cell; first | (go_simp; exact rfl) | (go_simp; rw [if_neg (by omega)])), hK _ ?_⟩; clear hK K)
      (refine grows_step (fun K hK => ?_); go_simp; refine ⟨_, fun W hW => .inr (.inr ⟨_, _, ?_, cT2 W⟩), hK _ ?_⟩; (· first | (go_simp; done) | (go_simp; rfl) | (go_simp; cases n <;> cases n2 <;> rfl)); clear hK K)
      (refine grows_step (fun K hK => ?_); go_simp; refine ⟨_, fun W hW => .inr (.inr ⟨_, _, ?_, cI W⟩), hK _ ?_⟩; (· first | (go_simp; done) | (go_simp; rfl) | (go_simp; cases n <;> cases n2 <;> rfl)); clear hK K)
      (refine grows_step (fun K hK => ?_); go_simp; refine ⟨_, fun W hW => .inl (by obtain ⟨h0, h1, h2⟩ := hW.1.cell; obtain ⟨h3, h4, h5⟩ := hW.2.1.cell; first | (go_simp; exact rfl) | (go_simp; rw [if_neg (by omega)])), hK _ ?_⟩; clear hK K)
      (refine grows_step (fun K hK => ?_); go_simp; refine ⟨_, fun W hW => .inl (by obtain ⟨h0, h1, h2⟩ := hW.1.cell; obtain ⟨h3, h4, h5⟩ := hW.2.1.cell; first | (go_simp; exact rfl) | (go_simp; rw [if_neg (by omega)])), hK _ ?_⟩; clear hK K)
      (refine grows_step (fun K hK => ?_); go_simp; refine ⟨_, fun W hW => .inl (by obtain ⟨h0, h1, h2⟩ := hW.1.cell; obtain ⟨h3, h4, h5⟩ := hW.2.1.cell; first | (go_simp; exact rfl) | (go_simp; rw [if_neg (by omega)])), hK _ ?_⟩; clear hK K)
      refine grows_nil ?_
      change Orders2 _ _ _ _ _ 3 _ _ _
      refine tail_dec (k0 := 8) (k1 := 9) (k2 := 10) (g + 1) _ SST (fun W s => s.2.2.1.lt) (fun W g E hg s => heldMrow E s (by omega) (by omega) (by omega) (by omega)) rfl rfl rfl (by kernel_rfl) (by kernel_rfl) (by kernel_rfl) (by kernel_rfl) (fun _ => rfl) (fun _ => rfl) (fun _ => rfl) ?_
      intro g2 W2 hg2 sW2 N2
      simp only [Act.put, List.setIfInBounds_toArray, List.set_cons_zero, List.set_cons_succ]
      clear sW N cI SST cT1 cT2
      obtain ⟨_, _, N1, D3⟩ := sW2
      obtain ⟨k0, k1, k2⟩ := N1.cell
      obtain ⟨k3, k4, k5⟩ := N2.cell
      go_wp2_with fail
      refine (cE _).mono ?_
      rintro r w5 ⟨rfl, B5⟩
      have D5 := below_kept D3 (Nat.le_refl _) B5
      clear cE B5 D3
      go_wp2
      go_ret
      exact ⟨rfl, D5⟩
    · simp only [if_neg hs2] at cZ2
      clear cT1 cT2 hq
      go_enter Tryd.func11, Tryd.ntmps11
      go_wp2_with fail
      refine (cZ _).mono ?_
      rintro r w1 ⟨rfl, B1⟩
      have KA1 := KA0.belowS B1
      have KB1 := KB0.belowS B1
      have D1 := below_kept B0 (Nat.le_refl _) B1
      obtain ⟨k0, k1, k2⟩ := KA1.cell
      obtain ⟨k3, k4, k5⟩ := KB1.cell
      clear cZ B1 B0 KA0 KB0
      go_wp2_with fail
      refine (cZ2 _).mono ?_
      rintro r w2 ⟨rfl, B2⟩
      have D2 := below_kept D1 (Nat.le_refl _) B2
      clear cZ2 B2 D1 KA1 KB1 k0 k1 k2 k3 k4 k5
      go_wp2
      go_ret
      exact ⟨rfl, D2⟩
  · simp only [if_neg hs] at cZ
    clear cT1 cT2
    go_enter Tryd.func11, Tryd.ntmps11
    go_wp2_with fail
    refine (cZ _).mono ?_
    rintro r w1 ⟨rfl, B1⟩
    have D1 := below_kept B0 (Nat.le_refl _) B1
    clear cZ B1 B0 KA0 KB0
    go_wp2
    go_ret
    exact ⟨rfl, D1⟩

set_option maxRecDepth 100000
theorem witness_row (os : Os) {H : Type} (enc : TypeId × Value → H) :
    (OpenSpec.ofChange Rows.fnExactDecModSpec).preRow enc Tryd.prog Tryd.f11 Rows.fnExactDecModRow.domain false Rows.fnExactDecModRow.laid ((laidWorldD os).forCall (fun _ _ => 0) ⟨#[], #[.agg #[.bool false, .string ⟨#[]⟩, .int .i64 0], .agg #[.bool false, .string ⟨#[]⟩, .int .i64 0]], []⟩).memory #[.agg #[.bool false, .string ⟨#[]⟩, .int .i64 0], .agg #[.bool false, .string ⟨#[]⟩, .int .i64 0]] := by
  have hw : (DataW.whole enc Tryd.prog ((laidWorldD os).forCall (fun _ _ => 0) ⟨#[], #[.agg #[.bool false, .string ⟨#[]⟩, .int .i64 0], .agg #[.bool false, .string ⟨#[]⟩, .int .i64 0]], []⟩).memory Tryd.f11.params.toList (OpenSpec.ofChange Rows.fnExactDecModSpec).vars false (#[.agg #[.bool false, .string ⟨#[]⟩, .int .i64 0], .agg #[.bool false, .string ⟨#[]⟩, .int .i64 0]] : Array Value).toList 8).map (fun x => (x.1, x.2.1)) =
      some ([.agg [.lit (.bool false), .lit (.string []), .lit (.int .i64 0)], .agg [.lit (.bool false), .lit (.string []), .lit (.int .i64 0)]], []) := by kernel_rfl
  obtain ⟨⟨x1, x2, x3⟩, hx, hx1⟩ := Option.map_eq_some_iff.1 hw
  simp only [Prod.mk.injEq] at hx1
  obtain ⟨rfl, rfl⟩ := hx1
  exact OpenSpec.preRow_of_cond 8 hx (by kernel_rfl) (fun k hk => by cases hk) (by kernel_rfl) (laid_metD os _)

set_option maxHeartbeats 2000000 in
theorem lifted (os : Os) (started : os.Started) (H : Type) (enc : TypeId × Value → H) (F : Stop.Interp) :
    ReturnsInHanded {} Tryd.checked os 11 .any ((OpenSpec.ofChange Rows.fnExactDecModSpec).preRow enc Tryd.prog Tryd.f11 Rows.fnExactDecModRow.domain false Rows.fnExactDecModRow.laid) (((OpenSpec.ofChange Rows.fnExactDecModSpec).at F).post enc Tryd.prog Tryd.f11 false true false false) := by
  refine returnsInHanded_of_row (C := Tryd.checked) (s := OpenSpec.ofChange Rows.fnExactDecModSpec) own started (by kernel_rfl) Tryd.func11
    (witness_row_atRef (enc := enc) (C := Tryd.checked) false (laidWorldD os) #[.agg #[.bool false, .string ⟨#[]⟩, .int .i64 0], .agg #[.bool false, .string ⟨#[]⟩, .int .i64 0]] rfl (by kernel_rfl) (by kernel_rfl) (by kernel_rfl) (witness_row os enc)) ?_
  intro W base args ds gs before hval0 hW _ _ _ hL _ _
  have hval : ∀ (j : Nat) t v, Tryd.f11.params[j]? = some t → args[j]? = some v → Value.okWide Tryd.prog W .any base t v := hval0
  have hW' := hW
  obtain ⟨p, q, hA0, hV0, rfl, _, _⟩ := hW
  have hA : DataW.TrodAll enc Tryd.prog W 0 (fun _ => true) true Tryd.f11.params.toList args.toList ds p := hA0
  rw [Tryd.params11] at hA hval
  obtain ⟨v0, vs0, d0, ds0, p0, q0, hargs, rfl, rfl, h0, r0⟩ := trodAll_cons hA
  obtain ⟨v1, vs1, d1, ds1, p1, q1, rfl, rfl, rfl, h1, r1⟩ := trodAll_cons r0
  obtain ⟨rfl, rfl, rfl⟩ := trodAll_nil r1
  obtain rfl : args = #[v0, v1] := by cases args; simp_all
  obtain ⟨rfl, rfl⟩ := trodVars_none hV0
  obtain ⟨n0, s0, e0, rfl, rfl, rfl, w0, x0⟩ := open_dec (hval 0 23 v0 rfl rfl) h0
  obtain ⟨n1, s1, e1, rfl, rfl, rfl, w1, x1⟩ := open_dec (hval 1 23 v1 rfl rfl) h1
  clear hA0 hV0 hval0
  refine (walk n0 s0 e0 n1 s1 e1 W w0 x0 w1 x1 (tab_of_laidD hL)).mono ?_
  rintro e W' ⟨rfl, bel⟩
  exact ⟨_, rfl, _, _, _, [], _, [], hW', trodAll_mk1 (shut_bool Tryd.underlying4 _), (trodAll_cons_mk (shut_dec w0 x0) (trodAll_cons_mk (shut_dec w1 x1) trodAll_mk0)), rfl, bel.frame _, fun h => by cases h⟩

theorem over : Rows.FnExactDecModSaid :=
  OpenClaim.holds_of_cond 11 Tryd.f11 rfl rfl rfl rfl rfl rfl rfl ⟨rfl, rfl, rfl, rfl, rfl⟩ rfl rfl rfl rfl rfl (by kernel_rfl) Tryd.func11 (by kernel_rfl)
    (of_decide_eq_true (by kernel_rfl)) (by unfold Func.isWrapper; rw [if_neg (of_decide_eq_false (by kernel_rfl))]; exact ⟨rfl, rfl⟩)
    (fun os started H enc _ F0 => by rw [OpenClaim.pre_eq_preRow]; exact lifted os started H enc F0)

/-- The given statement. -/
theorem proved : Rows.FnExactDecModCardSaid :=
  Claim7.holds_tied_plain_at .later [] [.data, .pinned] true _ true
    over (fun _ h => by cases h) (by kernel_rfl) (fun _ h => by cases h) fnExactDecMod_row_tie rfl ⟨rfl, rfl⟩ (by kernel_rfl) rfl
    (fun f fn hf hfn => by
      obtain rfl : f = 11 := Option.some.inj ((show Tryd.prog.funcNamed Rows.fnExactDecModRow.func = some 11 by kernel_rfl).symm.trans hf) |>.symm
      obtain rfl : fn = Tryd.f11 := (Option.some.inj (Tryd.func11.symm.trans hfn)).symm
      exact ⟨by kernel_rfl, fun j t ht => by
        rw [Tryd.params11] at ht
        rcases j with _ | j
        · obtain rfl : t = 23 := by simpa using ht.symm
          exact (show Tryd.prog.wantsStandIn 23 = false by kernel_rfl)
        · skip
          rcases j with _ | j
          · obtain rfl : t = 23 := by simpa using ht.symm
            exact (show Tryd.prog.wantsStandIn 23 = false by kernel_rfl)
          · simp at ht⟩)
    (by kernel_rfl)

end Go.Proofs.YtpkmhojcccpolaaDoor.fnExactDecMod
