/- For every string, impl.CsvRead answers as spec.CsvRead does; its rows own their memory. No condition. -/
import Derived.Test.YtjklnfcoaakkgaaDoorCrI6
import Derived.Test.YtjklnfcoaakkgaaDoorMarkR
import Derived.Test.YtjklnfcoaakkgaaDoorLaid
namespace Go.Proofs.YtjklnfcoaakkgaaDoor.fnExactCsvRead
open Go.ChangeShapes Go.WideShapes Go.ChangeAt Go.RowKit Go.Shelf
open Go.ChangeMaps (open_string shut_string)
set_option linter.unusedVariables false

set_option maxHeartbeats 4000000 in
set_option maxRecDepth 100000 in
theorem walk (s : ByteArray) (w : World) (hm : s.size ≤ maxLen) (hT : Tabs w) :
    Calls Tryd.prog 5 #[.string s] w fun e w' => e = .returned (.bool true) ∧ Below w.heap.size w w' := by
  unfold maxLen at hm
  by_cases hs : s.size ≤ 1048576
  · have cS := specCsvRead s w hs
    have cI : ∀ W, Below w.heap.size w W → Calls Tryd.prog 12 #[.string s] W (CsvIs (csvFileR s) W) := fun W h => implCsvRead s W hs (hT.below h)
    have hF := csvFile_few s
    generalize csvFileR s = R at cS cI hF
    obtain ⟨rs, pl, cd⟩ := R
    have HF := Lib.hid hF
    have HI := Lib.hid cI
    clear hT cI hF
    go_enter Tryd.func5, Tryd.ntmps5
    go_wp2_with fail
    refine cS.mono ?_
    rintro e w1 ⟨nv1, xs1, rfl, o1, b1⟩
    obtain ⟨A1, c1, rfl, n1⟩ := o1.rws
    have N1 := Lib.hid n1
    have B1 := Lib.hid b1
    clear cS o1 n1 b1
    go_wp2_with fail
    refine (HI.out w1 B1.out).mono ?_
    rintro e w2 ⟨nv2, xs2, rfl, o2, b2⟩
    obtain ⟨A2, c2, rfl, n2⟩ := o2.rws
    have O2 := Lib.hid o2
    have B2 := Lib.hid b2
    have cE := eqRowsF A2 A1 c2 c1 rs w2 HF.out n2 (N1.out.on b2)
    clear o2 n2 b2
    go_wp2_with fail
    refine cE.mono ?_
    rintro e w3 ⟨rfl, b3⟩
    have B3 := Lib.hid (B2.out.trans (b3.mono B2.out.size))
    have O3 := Lib.hid (O2.out.keep (Keep.ofBelow b3) (by simp))
    have cM := markRows_any w1.heap.size _ rs xs2 w3 HF.out B3.out.size O3.out
    clear cE b3
    go_wp2_with fail
    refine cM.mono ?_
    rintro e w4 ⟨rfl, o4, k4⟩
    have B4 : Hid (Below w1.heap.size w1 w4) := B3.out.trans (k4.below B3.out.size fun b hb => (O3.out.range b hb).1)
    have N4 : Hid (Rws w4 w4.heap.size A2 (halfR rs rs.length)) := by
      obtain ⟨A, c, e, n⟩ := o4.rws
      injection e with e1
      subst e1
      exact n
    have cH := heldRows_any A2 c2 rs w4 HF.out N4.out
    obtain ⟨E, hE⟩ : ∃ E, endR rs rs.length = E := ⟨_, rfl⟩
    rw [hE] at cH ⊢
    have hEn : ¬ (E : Int) < 0 := by omega
    have HE := Lib.hid hE
    clear cM o4 k4 hE
    go_wp2_with fail
    refine cH.mono ?_
    rintro e w5 ⟨rfl, b5⟩
    have B5 := Lib.hid (B4.out.trans (b5.mono B4.out.size))
    have N5 := Lib.hid (N4.out.on b5)
    clear cH b5
    go_wp2_with fail
    refine (HI.out w5 (B1.out.trans (B5.out.mono B1.out.size))).mono ?_
    rintro e w6 ⟨nv6, xs6, rfl, o6, b6⟩
    obtain ⟨A6, c6, rfl, n6⟩ := o6.rws
    have B6 := Lib.hid (B5.out.trans (b6.mono B5.out.size))
    have N6 := Lib.hid (N5.out.on b6)
    have cE6 := eqRowsF A6 A1 c6 c1 rs w6 HF.out n6 (N1.out.on B6.out)
    clear o6 n6 b6
    go_wp2_with fail
    refine cE6.mono ?_
    rintro e w7 ⟨rfl, b7⟩
    have B7 := Lib.hid (B6.out.trans (b7.mono B6.out.size))
    have cH7 := heldRows_any A2 c2 rs w7 HF.out (N6.out.on b7)
    rw [HE.out] at cH7
    clear cE6 b7
    go_wp2_with fail
    refine cH7.mono ?_
    rintro e w8 ⟨rfl, b8⟩
    have B8 := Lib.hid (B1.out.trans ((B7.out.trans (b8.mono B7.out.size)).mono B1.out.size))
    clear cH7 b8
    go_wp2
    go_ret
    exact ⟨rfl, B8.out⟩
  · clear hT
    go_enter Tryd.func5, Tryd.ntmps5
    go_wp2
    go_ret
    exact ⟨rfl, Below.refl _ _⟩

set_option maxRecDepth 100000
theorem witness_row (os : Os) {H : Type} (enc : TypeId × Value → H) :
    (OpenSpec.ofChange Rows.fnExactCsvReadSpec).preRow enc Tryd.prog Tryd.f5 Rows.fnExactCsvReadRow.domain false Rows.fnExactCsvReadRow.laid ((laidWorld os).forCall (fun _ _ => 0) ⟨#[], #[.string ⟨#[]⟩], []⟩).memory #[.string ⟨#[]⟩] := by
  have hw : (DataW.whole enc Tryd.prog ((laidWorld os).forCall (fun _ _ => 0) ⟨#[], #[.string ⟨#[]⟩], []⟩).memory Tryd.f5.params.toList (OpenSpec.ofChange Rows.fnExactCsvReadSpec).vars false (#[.string ⟨#[]⟩] : Array Value).toList 8).map (fun x => (x.1, x.2.1)) =
      some ([.lit (.string [])], []) := by kernel_rfl
  obtain ⟨⟨x1, x2, x3⟩, hx, hx1⟩ := Option.map_eq_some_iff.1 hw
  simp only [Prod.mk.injEq] at hx1
  obtain ⟨rfl, rfl⟩ := hx1
  exact OpenSpec.preRow_of_cond 8 hx (by kernel_rfl) (fun k hk => by cases hk) (by kernel_rfl) (laid_met os _)

set_option maxHeartbeats 2000000 in
theorem lifted (os : Os) (started : os.Started) (H : Type) (enc : TypeId × Value → H) (F : Stop.Interp) :
    ReturnsInHanded {} Tryd.checked os 5 .any ((OpenSpec.ofChange Rows.fnExactCsvReadSpec).preRow enc Tryd.prog Tryd.f5 Rows.fnExactCsvReadRow.domain false Rows.fnExactCsvReadRow.laid) (((OpenSpec.ofChange Rows.fnExactCsvReadSpec).at F).post enc Tryd.prog Tryd.f5 false true false false) := by
  refine returnsInHanded_of_row (C := Tryd.checked) (s := OpenSpec.ofChange Rows.fnExactCsvReadSpec) own started (by kernel_rfl) Tryd.func5
    (witness_row_atRef (enc := enc) (C := Tryd.checked) false (laidWorld os) #[.string ⟨#[]⟩] rfl (by kernel_rfl) (by kernel_rfl) (by kernel_rfl) (witness_row os enc)) ?_
  intro W base args ds gs before hval0 hW _ _ _ hL _ _
  have hval : ∀ (j : Nat) t v, Tryd.f5.params[j]? = some t → args[j]? = some v → Value.okWide Tryd.prog W .any base t v := hval0
  have hW' := hW
  obtain ⟨p, q, hA0, hV0, rfl, _, _⟩ := hW
  have hA : DataW.TrodAll enc Tryd.prog W 0 (fun _ => true) true Tryd.f5.params.toList args.toList ds p := hA0
  rw [Tryd.params5] at hA hval
  obtain ⟨v0, vs0, d0, ds0, p0, q0, hargs, rfl, rfl, h0, r0⟩ := trodAll_cons hA
  obtain ⟨rfl, rfl, rfl⟩ := trodAll_nil r0
  obtain rfl : args = #[v0] := by cases args; simp_all
  obtain ⟨rfl, rfl⟩ := trodVars_none hV0
  obtain ⟨s0, rfl, rfl, rfl, w0⟩ := open_string Tryd.underlying9 (hval 0 9 v0 rfl rfl) h0
  clear hA0 hV0 hval0
  refine (walk s0 W w0 (tabs_of_laid hL)).mono ?_
  rintro e W' ⟨rfl, bel⟩
  exact ⟨_, rfl, _, _, _, [], _, [], hW', trodAll_mk1 (shut_bool Tryd.underlying4 _), (trodAll_cons_mk (shut_string Tryd.underlying9 w0) trodAll_mk0), rfl, bel.frame _, fun h => by cases h⟩

theorem over : Rows.FnExactCsvReadSaid :=
  OpenClaim.holds_of_cond 5 Tryd.f5 rfl rfl rfl rfl rfl rfl rfl ⟨rfl, rfl, rfl, rfl, rfl⟩ rfl rfl rfl rfl rfl (by kernel_rfl) Tryd.func5 (by kernel_rfl)
    (of_decide_eq_true (by kernel_rfl)) (by unfold Func.isWrapper; rw [if_neg (of_decide_eq_false (by kernel_rfl))]; exact ⟨rfl, rfl⟩)
    (fun os started H enc _ F0 => by rw [OpenClaim.pre_eq_preRow]; exact lifted os started H enc F0)

/-- The given statement. -/
theorem proved : Rows.FnExactCsvReadCardSaid :=
  Claim7.holds_tied_plain_at .later [] [.data, .pinned] true _ false
    over (fun _ h => by cases h) (by kernel_rfl) (fun _ h => by cases h) fnExactCsvRead_row_tie rfl ⟨rfl, rfl⟩ (by kernel_rfl) rfl
    (fun f fn hf hfn => by
      obtain rfl : f = 5 := Option.some.inj ((show Tryd.prog.funcNamed Rows.fnExactCsvReadRow.func = some 5 by kernel_rfl).symm.trans hf) |>.symm
      obtain rfl : fn = Tryd.f5 := (Option.some.inj (Tryd.func5.symm.trans hfn)).symm
      exact ⟨by kernel_rfl, fun j t ht => by
        rw [Tryd.params5] at ht
        rcases j with _ | j
        · obtain rfl : t = 9 := by simpa using ht.symm
          exact (show Tryd.prog.wantsStandIn 9 = false by kernel_rfl)
        · simp at ht⟩)
    (by kernel_rfl)

end Go.Proofs.YtjklnfcoaakkgaaDoor.fnExactCsvRead
