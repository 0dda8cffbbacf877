/- For every int, impl.DecOf answers as spec.DecOf does. No condition. -/
import Derived.Test.YtpkmhojcccpolaaDoorLaidND
import Derived.Test.YtpkmhojcccpolaaDoorImplDec12
namespace Go.Proofs.YtpkmhojcccpolaaDoor.fnExactDecOf
open Go.ChangeShapes Go.WideShapes Go.ChangeAt Go.RowKit Go.Shelf
open Go.ChangeMaps (open_string shut_string)
open Go.Proofs.YtpkmhojcccpolaaDoor.Num
set_option linter.unusedVariables false

set_option maxHeartbeats 1000000 in
set_option maxRecDepth 100000 in
theorem walk (n : Int) (w : World) (hm : (Lit.int .i64 n).wf = true) (hT : Lib.TabIs Tryd.prog w "internal/strconv.uint64pow10" .u64 Lib.pow10Tab) :
    Calls Tryd.prog 5 #[.int .i64 n] w fun e w' => e = .returned (.bool true) ∧ Below w.heap.size w w' := by
  have hb := bounds_i64 hm
  have cS := fun W => specDecOf n W hb.1 hb.2
  have cI : ∀ W, Below w.heap.size w W → Calls Tryd.prog 20 #[.int .i64 n] W (AnsD (decOfV n) W) := fun W hW =>
    implDecOf n W hb.1 hb.2 _ rfl fun V hV => by
      refine (Tryd.strconv_Itoa n hb.1 hb.2 V (tab_below hT (below_kept hW (Nat.le_refl _) hV))).mono ?_
      rintro e w' ⟨rfl, k, os, rfl⟩
      exact ⟨rfl, Lib.below_grow _ V (Nat.le_refl _) k os⟩
  obtain ⟨⟨rn, rd, re⟩, hR⟩ : ∃ R, decOfV n = R := ⟨_, rfl⟩
  rw [hR] at cS cI
  unfold AnsD at cS cI
  dsimp only at cS cI
  obtain ⟨rs, hrs⟩ : ∃ rs : ByteArray, ⟨rd.toArray⟩ = rs := ⟨_, rfl⟩
  rw [hrs] at cS cI
  have cE := fun W => lawEq rn rs re W
  clear hrs hR hT hb
  go_enter Tryd.func5, Tryd.ntmps5
  go_wp2_with fail
  refine (cS _).mono ?_
  rintro r w1 ⟨rfl, B1⟩
  have N1 := DecAt.new w1 false ⟨#[]⟩ 0
  go_wp2_with (with_reducible show wpList _ _ _ (⟨_, .store _ _ _, _, _, _, _⟩ :: _) _ _; refine store_dec w1.heap.size rfl rfl N1 ?_)
  have D2 := below_row3 (B1.alloc B1.size (.cells (row3 false ⟨#[]⟩ 0) 26)) (g := w1.heap.size) B1.size (row3 rn rs re)
  have N2 : DecAt _ w1.heap.size rn rs re := N1.row
  clear N1 cS B1
  refine (cI _ D2).mono ?_
  rintro r w3 ⟨rfl, B3⟩
  have D3 := below_kept D2 (Nat.le_refl _) B3
  have N3 := N2.belowS B3
  have M3 := DecAt.new w3 false ⟨#[]⟩ 0
  have N4 : DecAt ((w3.alloc (.cells (row3 false ⟨#[]⟩ 0) 26)).setRow w3.heap.size (row3 rn rs re)) w1.heap.size rn rs re := (N3.alloc _).rowO (Nat.ne_of_lt N3.lt) _
  have M4 : DecAt ((w3.alloc (.cells (row3 false ⟨#[]⟩ 0) 26)).setRow w3.heap.size (row3 rn rs re)) w3.heap.size rn rs re := M3.row
  have D4 := below_row3 (D3.alloc D3.size (.cells (row3 false ⟨#[]⟩ 0) 26)) (g := w3.heap.size) D3.size (row3 rn rs re)
  clear cI B3 D2 N2 N3 D3
  go_wp2_with (first | (with_reducible show wpList _ _ _ (⟨_, .store _ _ _, _, _, _, _⟩ :: _) _ _; refine store_dec w3.heap.size rfl rfl M3 ?_) | (with_reducible show wpList _ _ _ (⟨_, .load _ _, _, _, _, _⟩ :: _) _ _; first | refine load_dec w3.heap.size rfl M4 ?_ | refine load_dec w1.heap.size rfl N4 ?_))
  refine (cE _).mono ?_
  rintro r w5 ⟨rfl, B5⟩
  have D5 := below_kept D4 (Nat.le_refl _) B5
  clear cE B5 D4 M3 M4 N4
  go_wp2
  go_ret
  exact ⟨rfl, D5⟩

set_option maxRecDepth 100000
theorem witness_row (os : Os) {H : Type} (enc : TypeId × Value → H) :
    (OpenSpec.ofChange Rows.fnExactDecOfSpec).preRow enc Tryd.prog Tryd.f5 Rows.fnExactDecOfRow.domain false Rows.fnExactDecOfRow.laid ((laidWorldU os).forCall (fun _ _ => 0) ⟨#[], #[.int .i64 0], []⟩).memory #[.int .i64 0] := by
  have hw : (DataW.whole enc Tryd.prog ((laidWorldU os).forCall (fun _ _ => 0) ⟨#[], #[.int .i64 0], []⟩).memory Tryd.f5.params.toList (OpenSpec.ofChange Rows.fnExactDecOfSpec).vars false (#[.int .i64 0] : Array Value).toList 8).map (fun x => (x.1, x.2.1)) =
      some ([.lit (.int .i64 0)], []) := by kernel_rfl
  obtain ⟨⟨x1, x2, x3⟩, hx, hx1⟩ := Option.map_eq_some_iff.1 hw
  simp only [Prod.mk.injEq] at hx1
  obtain ⟨rfl, rfl⟩ := hx1
  exact OpenSpec.preRow_of_cond 8 hx (by kernel_rfl) (fun k hk => by cases hk) (by kernel_rfl) (laid_metU os _)

set_option maxHeartbeats 2000000 in
theorem lifted (os : Os) (started : os.Started) (H : Type) (enc : TypeId × Value → H) (F : Stop.Interp) :
    ReturnsInHanded {} Tryd.checked os 5 .any ((OpenSpec.ofChange Rows.fnExactDecOfSpec).preRow enc Tryd.prog Tryd.f5 Rows.fnExactDecOfRow.domain false Rows.fnExactDecOfRow.laid) (((OpenSpec.ofChange Rows.fnExactDecOfSpec).at F).post enc Tryd.prog Tryd.f5 false true false false) := by
  refine returnsInHanded_of_row (C := Tryd.checked) (s := OpenSpec.ofChange Rows.fnExactDecOfSpec) own started (by kernel_rfl) Tryd.func5
    (witness_row_atRef (enc := enc) (C := Tryd.checked) false (laidWorldU os) #[.int .i64 0] rfl (by kernel_rfl) (by kernel_rfl) (by kernel_rfl) (witness_row os enc)) ?_
  intro W base args ds gs before hval0 hW _ _ _ hL _ _
  have hval : ∀ (j : Nat) t v, Tryd.f5.params[j]? = some t → args[j]? = some v → Value.okWide Tryd.prog W .any base t v := hval0
  have hW' := hW
  obtain ⟨p, q, hA0, hV0, rfl, _, _⟩ := hW
  have hA : DataW.TrodAll enc Tryd.prog W 0 (fun _ => true) true Tryd.f5.params.toList args.toList ds p := hA0
  rw [Tryd.params5] at hA hval
  obtain ⟨v0, vs0, d0, ds0, p0, q0, hargs, rfl, rfl, h0, r0⟩ := trodAll_cons hA
  obtain ⟨rfl, rfl, rfl⟩ := trodAll_nil r0
  obtain rfl : args = #[v0] := by cases args; simp_all
  obtain ⟨rfl, rfl⟩ := trodVars_none hV0
  obtain ⟨n0, rfl, rfl, rfl, w0⟩ := open_int Tryd.underlying3 (hval 0 3 v0 rfl rfl) h0
  clear hA0 hV0 hval0
  refine (walk n0 W w0 (tab_of_laidU hL)).mono ?_
  rintro e W' ⟨rfl, bel⟩
  exact ⟨_, rfl, _, _, _, [], _, [], hW', trodAll_mk1 (shut_bool Tryd.underlying4 _), (trodAll_cons_mk (shut_int Tryd.underlying3 w0) trodAll_mk0), rfl, bel.frame _, fun h => by cases h⟩

theorem over : Rows.FnExactDecOfSaid :=
  OpenClaim.holds_of_cond 5 Tryd.f5 rfl rfl rfl rfl rfl rfl rfl ⟨rfl, rfl, rfl, rfl, rfl⟩ rfl rfl rfl rfl rfl (by kernel_rfl) Tryd.func5 (by kernel_rfl)
    (of_decide_eq_true (by kernel_rfl)) (by unfold Func.isWrapper; rw [if_neg (of_decide_eq_false (by kernel_rfl))]; exact ⟨rfl, rfl⟩)
    (fun os started H enc _ F0 => by rw [OpenClaim.pre_eq_preRow]; exact lifted os started H enc F0)

/-- The given statement. -/
theorem proved : Rows.FnExactDecOfCardSaid :=
  Claim7.holds_tied_plain_at .later [] [.data, .data, .data, .data, .pinned] true _ true
    over (fun _ h => by cases h) (by kernel_rfl) (fun _ h => by cases h) fnExactDecOf_row_tie rfl ⟨rfl, rfl⟩ (by kernel_rfl) rfl
    (fun f fn hf hfn => by
      obtain rfl : f = 5 := Option.some.inj ((show Tryd.prog.funcNamed Rows.fnExactDecOfRow.func = some 5 by kernel_rfl).symm.trans hf) |>.symm
      obtain rfl : fn = Tryd.f5 := (Option.some.inj (Tryd.func5.symm.trans hfn)).symm
      exact ⟨by kernel_rfl, fun j t ht => by
        rw [Tryd.params5] at ht
        rcases j with _ | j
        · obtain rfl : t = 3 := by simpa using ht.symm
          exact (show Tryd.prog.wantsStandIn 3 = false by kernel_rfl)
        · simp at ht⟩)
    (by kernel_rfl)

end Go.Proofs.YtpkmhojcccpolaaDoor.fnExactDecOf
