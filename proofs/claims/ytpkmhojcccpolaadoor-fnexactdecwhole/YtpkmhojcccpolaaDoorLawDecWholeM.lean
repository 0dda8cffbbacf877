/- For every decimal, impl.DecWhole answers as spec.DecWhole does. No condition. -/
import Derived.Test.YtpkmhojcccpolaaDoorWhAll
namespace Go.Proofs.YtpkmhojcccpolaaDoor.fnExactDecWhole
open Go.ChangeShapes Go.WideShapes Go.ChangeAt Go.RowKit Go.Shelf
open Go.ChangeMaps (open_string shut_string)
open Go.Proofs.YtpkmhojcccpolaaDoor.Num
set_option linter.unusedVariables false

set_option maxHeartbeats 1000000 in
set_option maxRecDepth 100000 in
theorem walk (n : Bool) (s : ByteArray) (e : Int) (w : World) (hm : s.size ≤ maxLen) (we : (Lit.int .i64 e).wf = true) (hT : WholeLaid w) :
    Calls Tryd.prog 6 #[.agg #[.bool n, .string s, .int .i64 e]] w fun r w' => r = .returned (.bool true) ∧ Below w.heap.size w w' := by
  obtain ⟨b1, b2⟩ := bounds_i64 we
  have cZ : ∀ W, _ := fun W => lawSz n s e 1048576 W hm (by omega)
  have cT1 := fun W => lawTo n s e W
  have B0 : Below w.heap.size w (w.alloc (.cells #[.bool n, .string s, .int .i64 e] 23)) := (Below.refl _ _).alloc (Nat.le_refl _) _
  have KA0 : LDecAt (w.alloc (.cells #[.bool n, .string s, .int .i64 e] 23)) w.heap.size n s e := heap_alloc_new w _
  by_cases hs : s.size ≤ 1048576
  · obtain ⟨q, hq⟩ : ∃ q : Nat, 1048576 - s.size = q := ⟨_, rfl⟩
    simp only [if_pos hs, hq] at cZ
    have cS := fun W => specDecWhole n s e W hs b1 b2
    have cI : ∀ W, Below w.heap.size w W → Calls Tryd.prog 22 #[.agg #[.bool n, .string s, .int .i64 e]] W (AnsIB (wholeR (dOf n s e)) W) := fun W hW =>
      implDecWhole n s e W hs b1 b2 (fun V hV => tab_below hT.1 (below_kept hW (Nat.le_refl _) hV)) (hT.2.1.below hW) (hT.2.2.below hW)
    unfold AnsIB at cS cI
    generalize wholeR (dOf n s e) = R at cS cI
    obtain ⟨x, b⟩ := R
    dsimp only at cS cI
    clear hq hT
    go_enter Tryd.func6, Tryd.ntmps6
    go_wp2_with fail
    refine (cZ _).mono ?_
    rintro r w1 ⟨rfl, B1⟩
    have KA1 := KA0.belowS B1
    have D1 := below_kept B0 (Nat.le_refl _) B1
    obtain ⟨k0, k1, k2⟩ := KA1.cell
    clear cZ B1 B0 KA0
    go_wp2_with fail
    refine (cT1 _).mono ?_
    rintro r w2 ⟨rfl, B2⟩
    have KA2 := KA1.belowS B2
    have D2 := below_kept D1 (Nat.le_refl _) B2
    clear B2 D1 KA1 k0 k1 k2
    go_wp2_with fail
    refine (cS _).mono ?_
    rintro r w3 ⟨rfl, B3⟩
    have KA3 := KA2.belowS B3
    have D3 := below_kept D2 (Nat.le_refl _) B3
    clear cS B3 D2 KA2
    obtain ⟨k0, k1, k2⟩ := KA3.cell
    go_wp2_with fail
    refine (cT1 _).mono ?_
    rintro r w4 ⟨rfl, B4⟩
    have D4 := below_kept D3 (Nat.le_refl _) B4
    clear B4 D3 KA3 k0 k1 k2 cT1
    go_wp2_with fail
    refine (cI _ D4).mono ?_
    rintro r w5 ⟨rfl, B5⟩
    have D5 := below_kept D4 (Nat.le_refl _) B5
    clear cI B5 D4
    go_wp2
    go_ret
    exact ⟨rfl, D5⟩
  · simp only [if_neg hs] at cZ
    clear cT1 hT
    go_enter Tryd.func6, Tryd.ntmps6
    go_wp2_with fail
    refine (cZ _).mono ?_
    rintro r w1 ⟨rfl, B1⟩
    have D1 := below_kept B0 (Nat.le_refl _) B1
    clear cZ B1 B0 KA0
    go_wp2
    go_ret
    exact ⟨rfl, D1⟩

set_option maxRecDepth 100000
theorem witness_row (os : Os) {H : Type} (enc : TypeId × Value → H) :
    (OpenSpec.ofChange Rows.fnExactDecWholeSpec).preRow enc Tryd.prog Tryd.f6 Rows.fnExactDecWholeRow.domain false Rows.fnExactDecWholeRow.laid ((laidWorldW os).forCall (fun _ _ => 0) ⟨#[], #[.agg #[.bool false, .string ⟨#[]⟩, .int .i64 0]], []⟩).memory #[.agg #[.bool false, .string ⟨#[]⟩, .int .i64 0]] := by
  have hw : (DataW.whole enc Tryd.prog ((laidWorldW os).forCall (fun _ _ => 0) ⟨#[], #[.agg #[.bool false, .string ⟨#[]⟩, .int .i64 0]], []⟩).memory Tryd.f6.params.toList (OpenSpec.ofChange Rows.fnExactDecWholeSpec).vars false (#[.agg #[.bool false, .string ⟨#[]⟩, .int .i64 0]] : Array Value).toList 8).map (fun x => (x.1, x.2.1)) =
      some ([.agg [.lit (.bool false), .lit (.string []), .lit (.int .i64 0)]], []) := by kernel_rfl
  obtain ⟨⟨x1, x2, x3⟩, hx, hx1⟩ := Option.map_eq_some_iff.1 hw
  simp only [Prod.mk.injEq] at hx1
  obtain ⟨rfl, rfl⟩ := hx1
  exact OpenSpec.preRow_of_cond 8 hx (by kernel_rfl) (fun k hk => by cases hk) (by kernel_rfl) (laid_metW os _)

set_option maxHeartbeats 2000000 in
theorem lifted (os : Os) (started : os.Started) (H : Type) (enc : TypeId × Value → H) (F : Stop.Interp) :
    ReturnsInHanded {} Tryd.checked os 6 .any ((OpenSpec.ofChange Rows.fnExactDecWholeSpec).preRow enc Tryd.prog Tryd.f6 Rows.fnExactDecWholeRow.domain false Rows.fnExactDecWholeRow.laid) (((OpenSpec.ofChange Rows.fnExactDecWholeSpec).at F).post enc Tryd.prog Tryd.f6 false true false false) := by
  refine returnsInHanded_of_row (C := Tryd.checked) (s := OpenSpec.ofChange Rows.fnExactDecWholeSpec) own started (by kernel_rfl) Tryd.func6
    (witness_row_atRef (enc := enc) (C := Tryd.checked) false (laidWorldW os) #[.agg #[.bool false, .string ⟨#[]⟩, .int .i64 0]] rfl (by kernel_rfl) (by kernel_rfl) (by kernel_rfl) (witness_row os enc)) ?_
  intro W base args ds gs before hval0 hW _ _ _ hL _ _
  have hval : ∀ (j : Nat) t v, Tryd.f6.params[j]? = some t → args[j]? = some v → Value.okWide Tryd.prog W .any base t v := hval0
  have hW' := hW
  obtain ⟨p, q, hA0, hV0, rfl, _, _⟩ := hW
  have hA : DataW.TrodAll enc Tryd.prog W 0 (fun _ => true) true Tryd.f6.params.toList args.toList ds p := hA0
  rw [Tryd.params6] at hA hval
  obtain ⟨v0, vs0, d0, ds0, p0, q0, hargs, rfl, rfl, h0, r0⟩ := trodAll_cons hA
  obtain ⟨rfl, rfl, rfl⟩ := trodAll_nil r0
  obtain rfl : args = #[v0] := by cases args; simp_all
  obtain ⟨rfl, rfl⟩ := trodVars_none hV0
  obtain ⟨n0, s0, e0, rfl, rfl, rfl, w0, x0⟩ := open_dec (hval 0 23 v0 rfl rfl) h0
  clear hA0 hV0 hval0
  refine (walk n0 s0 e0 W w0 x0 (tab_of_laidW hL)).mono ?_
  rintro e W' ⟨rfl, bel⟩
  exact ⟨_, rfl, _, _, _, [], _, [], hW', trodAll_mk1 (shut_bool Tryd.underlying4 _), (trodAll_cons_mk (shut_dec w0 x0) trodAll_mk0), rfl, bel.frame _, fun h => by cases h⟩

theorem over : Rows.FnExactDecWholeSaid :=
  OpenClaim.holds_of_cond 6 Tryd.f6 rfl rfl rfl rfl rfl rfl rfl ⟨rfl, rfl, rfl, rfl, rfl⟩ rfl rfl rfl rfl rfl (by kernel_rfl) Tryd.func6 (by kernel_rfl)
    (of_decide_eq_true (by kernel_rfl)) (by unfold Func.isWrapper; rw [if_neg (of_decide_eq_false (by kernel_rfl))]; exact ⟨rfl, rfl⟩)
    (fun os started H enc _ F0 => by rw [OpenClaim.pre_eq_preRow]; exact lifted os started H enc F0)

/-- The given statement. -/
theorem proved : Rows.FnExactDecWholeCardSaid :=
  Claim7.holds_tied_plain_at .later [] [.data, .data, .data, .sentinel, .sentinel] true _ true
    over (fun _ h => by cases h) (by kernel_rfl) (fun _ h => by cases h) fnExactDecWhole_row_tie rfl ⟨rfl, rfl⟩ (by kernel_rfl) rfl
    (fun f fn hf hfn => by
      obtain rfl : f = 6 := Option.some.inj ((show Tryd.prog.funcNamed Rows.fnExactDecWholeRow.func = some 6 by kernel_rfl).symm.trans hf) |>.symm
      obtain rfl : fn = Tryd.f6 := (Option.some.inj (Tryd.func6.symm.trans hfn)).symm
      exact ⟨by kernel_rfl, fun j t ht => by
        rw [Tryd.params6] at ht
        rcases j with _ | j
        · obtain rfl : t = 23 := by simpa using ht.symm
          exact (show Tryd.prog.wantsStandIn 23 = false by kernel_rfl)
        · simp at ht⟩)
    (by kernel_rfl)

end Go.Proofs.YtpkmhojcccpolaaDoor.fnExactDecWhole
