/- For every decimal and int, impl.DecPow answers as spec.DecPow does. No condition. -/
import Derived.Test.YtpkmhojcccpolabGreatDoorPwPow
import Derived.Test.YtpkmhojcccpolabGreatDoorPwLaid
namespace Go.Proofs.YtpkmhojcccpolabGreatDoor.fnExactDecPow
open Go.ChangeShapes Go.WideShapes Go.ChangeAt Go.RowKit Go.Shelf
open Go.ChangeMaps (open_string shut_string)
open Go.Proofs.YtpkmhojcccpolabGreatDoor.Num
set_option linter.unusedVariables false

set_option maxHeartbeats 1000000 in
set_option maxRecDepth 100000 in
theorem walk (n : Bool) (s : ByteArray) (e : Int) (m : Int) (w : World) (hm : s.size ≤ maxLen) (we : (Lit.int .i64 e).wf = true) (wm : (Lit.int .i64 m).wf = true) (hT : Lib.TabIs Tryz.prog w "internal/strconv.uint64pow10" .u64 Lib.pow10Tab) :
    Calls Tryz.prog 3 #[.agg #[.bool n, .string s, .int .i64 e], .int .i64 m] w fun r w' => r = .returned (.bool true) ∧ Below w.heap.size w w' := by
  obtain ⟨b1, b2⟩ := bounds_i64 we
  clear hT wm
  have cZ : ∀ W, _ := fun W => lawSz n s e 1048576 W hm (by omega)
  have cT1 := fun W => lawTo n s e W
  have B0 : Below w.heap.size w (w.alloc (.cells #[.bool n, .string s, .int .i64 e] 23)) := (Below.refl _ _).alloc (Nat.le_refl _) _
  have KA0 : LDecAt (w.alloc (.cells #[.bool n, .string s, .int .i64 e] 23)) w.heap.size n s e := heap_alloc_new w _
  by_cases hs : s.size ≤ 1048576
  · obtain ⟨q, hq⟩ : ∃ q : Nat, 1048576 - s.size = q := ⟨_, rfl⟩
    simp only [if_pos hs, hq] at cZ
    have cS := fun W => specDecPow n s e m W hs b1 b2
    have cI := fun W => implDecPow n s e m W hs b1 b2
    obtain ⟨⟨⟨rn, rd, re⟩, rc⟩, hR⟩ : ∃ R, powR (dOf n s e) m = R := ⟨_, rfl⟩
    rw [hR] at cS cI
    unfold AnsDC at cS cI
    dsimp only at cS cI
    obtain ⟨rs, hrs⟩ : ∃ rs : ByteArray, ⟨rd.toArray⟩ = rs := ⟨_, rfl⟩
    rw [hrs] at cS cI
    have cE := fun W => lawEq rn rs re W
    clear hrs hR hq
    go_enter Tryz.func3, Tryz.ntmps3
    go_wp2_with fail
    refine (cZ _).mono ?_
    rintro r w1 ⟨rfl, B1⟩
    have KA1 := KA0.belowS B1
    have D1 := below_kept B0 (Nat.le_refl _) B1
    obtain ⟨k0, k1, k2⟩ := KA1.cell
    clear cZ B1 B0 KA0
    go_wp2_with fail
    refine (cT1 _).mono ?_
    rintro r w2 ⟨rfl, B2⟩
    have KA2 := KA1.belowS B2
    have D2 := below_kept D1 (Nat.le_refl _) B2
    clear B2 D1 KA1 k0 k1 k2
    go_wp2_with fail
    refine (cS _).mono ?_
    rintro r w3 ⟨rfl, B3⟩
    have KA3 := KA2.belowS B3
    have D3 := below_kept D2 (Nat.le_refl _) B3
    have M3 := DecAt.new w3 false ⟨#[]⟩ 0
    have M4 : DecAt ((w3.alloc (.cells (row3 false ⟨#[]⟩ 0) 25)).setRow w3.heap.size (row3 rn rs re)) w3.heap.size rn rs re := M3.row
    have KA4 : LDecAt ((w3.alloc (.cells (row3 false ⟨#[]⟩ 0) 25)).setRow w3.heap.size (row3 rn rs re)) w.heap.size n s e := (setRow_other _ _ _ _ (Nat.ne_of_lt KA3.lt)).trans (KA3.alloc _)
    have D4 := below_row3 (D3.alloc D3.size (.cells (row3 false ⟨#[]⟩ 0) 25)) (g := w3.heap.size) D3.size (row3 rn rs re)
    clear cS B3 D2 KA2 KA3 D3
    obtain ⟨k0, k1, k2⟩ := KA4.cell
    go_wp2_with (with_reducible show wpList _ _ _ (⟨_, .store _ _ _, _, _, _, _⟩ :: _) _ _; refine store_dec w3.heap.size rfl rfl M3 ?_)
    refine (cT1 _).mono ?_
    rintro r w5 ⟨rfl, B5⟩
    have D5 := below_kept D4 (Nat.le_refl _) B5
    have M5 := M4.belowS B5
    clear cT1 B5 D4 KA4 M3 M4 k0 k1 k2
    generalize w3.heap.size = g at *
    go_wp2_with fail
    refine (cI _).mono ?_
    rintro r w6 ⟨rfl, B6⟩
    have D6 := below_kept D5 (Nat.le_refl _) B6
    have M6 := M5.belowS B6
    have N6 := DecAt.new w6 false ⟨#[]⟩ 0
    have M7 : DecAt ((w6.alloc (.cells (row3 false ⟨#[]⟩ 0) 25)).setRow w6.heap.size (row3 rn rs re)) g rn rs re := (M6.alloc _).rowO (Nat.ne_of_lt M6.lt) _
    have N7 : DecAt ((w6.alloc (.cells (row3 false ⟨#[]⟩ 0) 25)).setRow w6.heap.size (row3 rn rs re)) w6.heap.size rn rs re := N6.row
    have D7 := below_row3 (D6.alloc D6.size (.cells (row3 false ⟨#[]⟩ 0) 25)) (g := w6.heap.size) D6.size (row3 rn rs re)
    clear cI B6 D5 M5 D6 M6
    go_wp2_with (first | (with_reducible show wpList _ _ _ (⟨_, .store _ _ _, _, _, _, _⟩ :: _) _ _; refine store_dec w6.heap.size rfl rfl N6 ?_) | (with_reducible show wpList _ _ _ (⟨_, .load _ _, _, _, _, _⟩ :: _) _ _; first | refine load_dec w6.heap.size rfl N7 ?_ | refine load_dec g rfl M7 ?_))
    refine (cE _).mono ?_
    rintro r w8 ⟨rfl, B8⟩
    have D8 := below_kept D7 (Nat.le_refl _) B8
    clear cE B8 D7 M7 N7 N6
    go_wp2
    go_ret
    exact ⟨rfl, D8⟩
  · simp only [if_neg hs] at cZ
    clear cT1
    go_enter Tryz.func3, Tryz.ntmps3
    go_wp2_with fail
    refine (cZ _).mono ?_
    rintro r w1 ⟨rfl, B1⟩
    have D1 := below_kept B0 (Nat.le_refl _) B1
    clear cZ B1 B0 KA0
    go_wp2
    go_ret
    exact ⟨rfl, D1⟩

set_option maxRecDepth 100000
theorem witness_row (os : Os) {H : Type} (enc : TypeId × Value → H) :
    (OpenSpec.ofChange Rows.fnExactDecPowSpec).preRow enc Tryz.prog Tryz.f3 Rows.fnExactDecPowRow.domain false Rows.fnExactDecPowRow.laid ((laidWorldU os).forCall (fun _ _ => 0) ⟨#[], #[.agg #[.bool false, .string ⟨#[]⟩, .int .i64 0], .int .i64 0], []⟩).memory #[.agg #[.bool false, .string ⟨#[]⟩, .int .i64 0], .int .i64 0] := by
  have hw : (DataW.whole enc Tryz.prog ((laidWorldU os).forCall (fun _ _ => 0) ⟨#[], #[.agg #[.bool false, .string ⟨#[]⟩, .int .i64 0], .int .i64 0], []⟩).memory Tryz.f3.params.toList (OpenSpec.ofChange Rows.fnExactDecPowSpec).vars false (#[.agg #[.bool false, .string ⟨#[]⟩, .int .i64 0], .int .i64 0] : Array Value).toList 8).map (fun x => (x.1, x.2.1)) =
      some ([.agg [.lit (.bool false), .lit (.string []), .lit (.int .i64 0)], .lit (.int .i64 0)], []) := by kernel_rfl
  obtain ⟨⟨x1, x2, x3⟩, hx, hx1⟩ := Option.map_eq_some_iff.1 hw
  simp only [Prod.mk.injEq] at hx1
  obtain ⟨rfl, rfl⟩ := hx1
  exact OpenSpec.preRow_of_cond 8 hx (by kernel_rfl) (fun k hk => by cases hk) (by kernel_rfl) (laid_metU os _)

set_option maxHeartbeats 2000000 in
theorem lifted (os : Os) (started : os.Started) (H : Type) (enc : TypeId × Value → H) (F : Stop.Interp) :
    ReturnsInHanded {} Tryz.checked os 3 .any ((OpenSpec.ofChange Rows.fnExactDecPowSpec).preRow enc Tryz.prog Tryz.f3 Rows.fnExactDecPowRow.domain false Rows.fnExactDecPowRow.laid) (((OpenSpec.ofChange Rows.fnExactDecPowSpec).at F).post enc Tryz.prog Tryz.f3 false true false false) := by
  refine returnsInHanded_of_row (C := Tryz.checked) (s := OpenSpec.ofChange Rows.fnExactDecPowSpec) own started (by kernel_rfl) Tryz.func3
    (witness_row_atRef (enc := enc) (C := Tryz.checked) false (laidWorldU os) #[.agg #[.bool false, .string ⟨#[]⟩, .int .i64 0], .int .i64 0] rfl (by kernel_rfl) (by kernel_rfl) (by kernel_rfl) (witness_row os enc)) ?_
  intro W base args ds gs before hval0 hW _ _ _ hL _ _
  have hval : ∀ (j : Nat) t v, Tryz.f3.params[j]? = some t → args[j]? = some v → Value.okWide Tryz.prog W .any base t v := hval0
  have hW' := hW
  obtain ⟨p, q, hA0, hV0, rfl, _, _⟩ := hW
  have hA : DataW.TrodAll enc Tryz.prog W 0 (fun _ => true) true Tryz.f3.params.toList args.toList ds p := hA0
  rw [Tryz.params3] at hA hval
  obtain ⟨v0, vs0, d0, ds0, p0, q0, hargs, rfl, rfl, h0, r0⟩ := trodAll_cons hA
  obtain ⟨v1, vs1, d1, ds1, p1, q1, rfl, rfl, rfl, h1, r1⟩ := trodAll_cons r0
  obtain ⟨rfl, rfl, rfl⟩ := trodAll_nil r1
  obtain rfl : args = #[v0, v1] := by cases args; simp_all
  obtain ⟨rfl, rfl⟩ := trodVars_none hV0
  obtain ⟨n0, s0, e0, rfl, rfl, rfl, w0, x0⟩ := open_dec (hval 0 23 v0 rfl rfl) h0
  obtain ⟨n1, rfl, rfl, rfl, w1⟩ := open_int Tryz.underlying3 (hval 1 3 v1 rfl rfl) h1
  clear hA0 hV0 hval0
  refine (walk n0 s0 e0 n1 W w0 x0 w1 (tab_of_laidU hL)).mono ?_
  rintro e W' ⟨rfl, bel⟩
  exact ⟨_, rfl, _, _, _, [], _, [], hW', trodAll_mk1 (shut_bool Tryz.underlying4 _), (trodAll_cons_mk (shut_dec w0 x0) (trodAll_cons_mk (shut_int Tryz.underlying3 w1) trodAll_mk0)), rfl, bel.frame _, fun h => by cases h⟩

theorem over : Rows.FnExactDecPowSaid :=
  OpenClaim.holds_of_cond 3 Tryz.f3 rfl rfl rfl rfl rfl rfl rfl ⟨rfl, rfl, rfl, rfl, rfl⟩ rfl rfl rfl rfl rfl (by kernel_rfl) Tryz.func3 (by kernel_rfl)
    (of_decide_eq_true (by kernel_rfl)) (by unfold Func.isWrapper; rw [if_neg (of_decide_eq_false (by kernel_rfl))]; exact ⟨rfl, rfl⟩)
    (fun os started H enc _ F0 => by rw [OpenClaim.pre_eq_preRow]; exact lifted os started H enc F0)

/-- The given statement. -/
theorem proved : Rows.FnExactDecPowCardSaid :=
  Claim7.holds_tied_plain_at .later [] [.data, .data, .data, .data, .pinned] true _ false
    over (fun _ h => by cases h) (by kernel_rfl) (fun _ h => by cases h) fnExactDecPow_row_tie rfl ⟨rfl, rfl⟩ (by kernel_rfl) rfl
    (fun f fn hf hfn => by
      obtain rfl : f = 3 := Option.some.inj ((show Tryz.prog.funcNamed Rows.fnExactDecPowRow.func = some 3 by kernel_rfl).symm.trans hf) |>.symm
      obtain rfl : fn = Tryz.f3 := (Option.some.inj (Tryz.func3.symm.trans hfn)).symm
      exact ⟨by kernel_rfl, fun j t ht => by
        rw [Tryz.params3] at ht
        rcases j with _ | j
        · obtain rfl : t = 23 := by simpa using ht.symm
          exact (show Tryz.prog.wantsStandIn 23 = false by kernel_rfl)
        · skip
          rcases j with _ | j
          · obtain rfl : t = 3 := by simpa using ht.symm
            exact (show Tryz.prog.wantsStandIn 3 = false by kernel_rfl)
          · simp at ht⟩)
    (by kernel_rfl)

end Go.Proofs.YtpkmhojcccpolabGreatDoor.fnExactDecPow
