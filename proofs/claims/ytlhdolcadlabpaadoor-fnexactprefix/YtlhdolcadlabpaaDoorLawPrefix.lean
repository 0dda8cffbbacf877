/- For every string, impl.Prefix answers as spec.Prefix does. No condition. -/
import Derived.Test.YtlhdolcadlabpaaDoorPreA
import Derived.Test.YtlhdolcadlabpaaDoorLaid
namespace Go.Proofs.YtlhdolcadlabpaaDoor.fnExactPrefix
open Go.ChangeShapes Go.WideShapes Go.ChangeAt Go.RowKit Go.Shelf
open Go.ChangeMaps (open_string shut_string)
set_option linter.unusedVariables false

set_option maxHeartbeats 1000000 in
set_option maxRecDepth 100000 in
theorem walk (s : ByteArray) (w : World) (hm : s.size ≤ maxLen) (hT : Tabs w) :
    Calls Tryd.prog 4 #[.string s] w fun e w' => e = .returned (.bool true) ∧ Below w.heap.size w w' := by
  unfold maxLen at hm
  by_cases hs : s.size ≤ 1048576
  · have cS := fun W => specPrefix s W hs
    have cI := fun W h => implPrefix s W hs h
    have hsi : ¬ (1048576 : Int) < (s.size : Int) := by omega
    obtain ⟨R, hR⟩ : ∃ R, preR s = R := ⟨_, rfl⟩
    rw [hR] at cS cI
    clear hR
    obtain ⟨⟨rn, rd, re⟩, rc⟩ := R
    unfold AnsDC at cS cI
    dsimp only at cS cI
    obtain ⟨rs, hrs⟩ : ∃ rs : ByteArray, ⟨rd.toArray⟩ = rs := ⟨_, rfl⟩
    rw [hrs] at cS cI
    have cE := fun W => lawEq rn rs re W
    clear hrs
    go_enter Tryd.func4, Tryd.ntmps4
    go_wp2_with fail
    refine (cS _).mono ?_
    rintro r w1 ⟨rfl, B1⟩
    have N1 := DecAt.new w1 false ⟨#[]⟩ 0
    have D2 := below_row3 (B1.alloc B1.size (.cells (row3 false ⟨#[]⟩ 0) 25)) (g := w1.heap.size) B1.size (row3 rn rs re)
    have N2 : DecAt ((w1.alloc (.cells (row3 false ⟨#[]⟩ 0) 25)).setRow w1.heap.size (row3 rn rs re)) w1.heap.size rn rs re := N1.row
    have hT2 := hT.below D2
    clear cS B1 hT
    go_wp2_with (with_reducible show wpList _ _ _ (⟨_, .store _ _ _, _, _, _, _⟩ :: _) _ _; refine store_dec w1.heap.size rfl rfl N1 ?_)
    clear N1
    refine (cI _ hT2).mono ?_
    rintro r w3 ⟨rfl, B3⟩
    have D3 := below_kept D2 (Nat.le_refl _) B3
    have N3 := N2.belowS B3
    have M3 := DecAt.new w3 false ⟨#[]⟩ 0
    have N4 : DecAt ((w3.alloc (.cells (row3 false ⟨#[]⟩ 0) 25)).setRow w3.heap.size (row3 rn rs re)) w1.heap.size rn rs re := (N3.alloc _).rowO (Nat.ne_of_lt N3.lt) _
    have M4 : DecAt ((w3.alloc (.cells (row3 false ⟨#[]⟩ 0) 25)).setRow w3.heap.size (row3 rn rs re)) w3.heap.size rn rs re := M3.row
    have D4 := below_row3 (D3.alloc D3.size (.cells (row3 false ⟨#[]⟩ 0) 25)) (g := w3.heap.size) D3.size (row3 rn rs re)
    clear cI B3 D2 N2 N3 D3 hT2
    go_wp2_with (first | (with_reducible show wpList _ _ _ (⟨_, .store _ _ _, _, _, _, _⟩ :: _) _ _; refine store_dec w3.heap.size rfl rfl M3 ?_) | (with_reducible show wpList _ _ _ (⟨_, .load _ _, _, _, _, _⟩ :: _) _ _; first | refine load_dec w3.heap.size rfl M4 ?_ | refine load_dec w1.heap.size rfl N4 ?_))
    refine (cE _).mono ?_
    rintro r w5 ⟨rfl, B5⟩
    have D5 := below_kept D4 (Nat.le_refl _) B5
    clear cE B5 D4 M3 M4 N4
    go_wp2
    go_ret
    exact ⟨rfl, D5⟩
  · clear hT
    go_enter Tryd.func4, Tryd.ntmps4
    go_wp2
    go_ret
    exact ⟨rfl, Below.refl _ _⟩

set_option maxRecDepth 100000
theorem witness_row (os : Os) {H : Type} (enc : TypeId × Value → H) :
    (OpenSpec.ofChange Rows.fnExactPrefixSpec).preRow enc Tryd.prog Tryd.f4 Rows.fnExactPrefixRow.domain false Rows.fnExactPrefixRow.laid ((laidWorld os).forCall (fun _ _ => 0) ⟨#[], #[.string ⟨#[]⟩], []⟩).memory #[.string ⟨#[]⟩] := by
  have hw : (DataW.whole enc Tryd.prog ((laidWorld os).forCall (fun _ _ => 0) ⟨#[], #[.string ⟨#[]⟩], []⟩).memory Tryd.f4.params.toList (OpenSpec.ofChange Rows.fnExactPrefixSpec).vars false (#[.string ⟨#[]⟩] : Array Value).toList 8).map (fun x => (x.1, x.2.1)) =
      some ([.lit (.string [])], []) := by kernel_rfl
  obtain ⟨⟨x1, x2, x3⟩, hx, hx1⟩ := Option.map_eq_some_iff.1 hw
  simp only [Prod.mk.injEq] at hx1
  obtain ⟨rfl, rfl⟩ := hx1
  exact OpenSpec.preRow_of_cond 8 hx (by kernel_rfl) (fun k hk => by cases hk) (by kernel_rfl) (laid_met os _)

set_option maxHeartbeats 2000000 in
theorem lifted (os : Os) (started : os.Started) (H : Type) (enc : TypeId × Value → H) (F : Stop.Interp) :
    ReturnsInHanded {} Tryd.checked os 4 .any ((OpenSpec.ofChange Rows.fnExactPrefixSpec).preRow enc Tryd.prog Tryd.f4 Rows.fnExactPrefixRow.domain false Rows.fnExactPrefixRow.laid) (((OpenSpec.ofChange Rows.fnExactPrefixSpec).at F).post enc Tryd.prog Tryd.f4 false true false false) := by
  refine returnsInHanded_of_row (C := Tryd.checked) (s := OpenSpec.ofChange Rows.fnExactPrefixSpec) own started (by kernel_rfl) Tryd.func4
    (witness_row_atRef (enc := enc) (C := Tryd.checked) false (laidWorld os) #[.string ⟨#[]⟩] rfl (by kernel_rfl) (by kernel_rfl) (by kernel_rfl) (witness_row os enc)) ?_
  intro W base args ds gs before hval0 hW _ _ _ hL _ _
  have hval : ∀ (j : Nat) t v, Tryd.f4.params[j]? = some t → args[j]? = some v → Value.okWide Tryd.prog W .any base t v := hval0
  have hW' := hW
  obtain ⟨p, q, hA0, hV0, rfl, _, _⟩ := hW
  have hA : DataW.TrodAll enc Tryd.prog W 0 (fun _ => true) true Tryd.f4.params.toList args.toList ds p := hA0
  rw [Tryd.params4] at hA hval
  obtain ⟨v0, vs0, d0, ds0, p0, q0, hargs, rfl, rfl, h0, r0⟩ := trodAll_cons hA
  obtain ⟨rfl, rfl, rfl⟩ := trodAll_nil r0
  obtain rfl : args = #[v0] := by cases args; simp_all
  obtain ⟨rfl, rfl⟩ := trodVars_none hV0
  obtain ⟨s0, rfl, rfl, rfl, w0⟩ := open_string Tryd.underlying9 (hval 0 9 v0 rfl rfl) h0
  clear hA0 hV0 hval0
  refine (walk s0 W w0 (tabs_of_laid hL)).mono ?_
  rintro e W' ⟨rfl, bel⟩
  exact ⟨_, rfl, _, _, _, [], _, [], hW', trodAll_mk1 (shut_bool Tryd.underlying4 _), (trodAll_cons_mk (shut_string Tryd.underlying9 w0) trodAll_mk0), rfl, bel.frame _, fun h => by cases h⟩

theorem over : Rows.FnExactPrefixSaid :=
  OpenClaim.holds_of_cond 4 Tryd.f4 rfl rfl rfl rfl rfl rfl rfl ⟨rfl, rfl, rfl, rfl, rfl⟩ rfl rfl rfl rfl rfl (by kernel_rfl) Tryd.func4 (by kernel_rfl)
    (of_decide_eq_true (by kernel_rfl)) (by unfold Func.isWrapper; rw [if_neg (of_decide_eq_false (by kernel_rfl))]; exact ⟨rfl, rfl⟩)
    (fun os started H enc _ F0 => by rw [OpenClaim.pre_eq_preRow]; exact lifted os started H enc F0)

/-- The given statement. -/
theorem proved : Rows.FnExactPrefixCardSaid :=
  Claim7.holds_tied_plain_at .later [] [.data, .pinned] true _ false
    over (fun _ h => by cases h) (by kernel_rfl) (fun _ h => by cases h) fnExactPrefix_row_tie rfl ⟨rfl, rfl⟩ (by kernel_rfl) rfl
    (fun f fn hf hfn => by
      obtain rfl : f = 4 := Option.some.inj ((show Tryd.prog.funcNamed Rows.fnExactPrefixRow.func = some 4 by kernel_rfl).symm.trans hf) |>.symm
      obtain rfl : fn = Tryd.f4 := (Option.some.inj (Tryd.func4.symm.trans hfn)).symm
      exact ⟨by kernel_rfl, fun j t ht => by
        rw [Tryd.params4] at ht
        rcases j with _ | j
        · obtain rfl : t = 9 := by simpa using ht.symm
          exact (show Tryd.prog.wantsStandIn 9 = false by kernel_rfl)
        · simp at ht⟩)
    (by kernel_rfl)

end Go.Proofs.YtlhdolcadlabpaaDoor.fnExactPrefix
