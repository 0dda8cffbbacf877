/- For all rows of cells, impl.CsvText answers as spec.CsvText does and leaves the rows as they were. No condition. -/
import Derived.Test.YtjklnfcoaakkgaaDoorImplCsvT
import Derived.Test.YtjklnfcoaakkgaaDoorRwTo
import Derived.Test.YtjklnfcoaakkgaaDoorOpenRows
import Derived.Test.YtjklnfcoaakkgaaDoorLaid
namespace Go.Proofs.YtjklnfcoaakkgaaDoor.fnExactCsvText
open Go.ChangeShapes Go.WideShapes Go.ChangeAt Go.RowKit Go.Shelf
open Go.ChangeMaps (open_string shut_string)
set_option linter.unusedVariables false

set_option maxHeartbeats 4000000 in
set_option maxRecDepth 100000 in
theorem walk (A : Option Addr) (c : Nat) (rs : List (List ByteArray)) (w : World) (hN : Rws w w.heap.size A rs) (hl : rs.length ≤ maxLen) (hF : FitR rs) (hT : Tabs w) :
    Calls Tryd.prog 6 #[.slice A rs.length c] w fun e w' => e = .returned (.bool true) ∧ Below w.heap.size w w' := by
  have cZ := szRows_any A c rs w hN hF hl
  by_cases hb : rs.length + needsR rs ≤ 1048576
  · have hS := needs_small hb
    obtain ⟨L, hL⟩ : ∃ L : Nat, restN (rs.length + needsR rs) 1048576 = (L : Int) := ⟨_, by rw [restN_pos hb]⟩
    rw [hL] at cZ
    have cTo : ∀ W, Below w.heap.size w W → Calls Tryd.prog 20 #[.slice A rs.length c] W _ := fun W h => toRows_any A c rs W hb ((hN.below h).up h.size)
    have hLn : ¬ (L : Int) < 0 := by omega
    have HT := Lib.hid hT
    have HTo := Lib.hid cTo
    have HS := Lib.hid hS
    have HLn := Lib.hid hb
    clear hN hF hl hT hL cTo hb hS
    go_enter Tryd.func6, Tryd.ntmps6
    go_wp2_with fail
    refine cZ.mono ?_
    rintro e w1 ⟨rfl, b1⟩
    clear cZ
    go_wp2_with fail
    refine (HTo.out w1 b1).mono ?_
    rintro e w2 ⟨A2, c2, rfl, N2, b2⟩
    have B2 := b1.trans (b2.mono b1.size)
    clear b1 b2
    go_wp2_with fail
    refine (specCsvText _ _ rs w2 HS.out N2).mono ?_
    rintro e w3 ⟨rfl, b3⟩
    have B3 := B2.trans (b3.mono B2.size)
    clear b3 B2 N2
    go_wp2_with fail
    refine (HTo.out w3 B3).mono ?_
    rintro e w4 ⟨A4, c4, rfl, N4, b4⟩
    have B4 := B3.trans (b4.mono B3.size)
    have HN4 := Lib.hid N4
    clear b4 B3 N4
    go_wp2_with fail
    refine (implCsvText _ _ rs w4 HS.out HN4.out (HT.out.below B4)).mono ?_
    rintro e w5 ⟨rfl, b5⟩
    have B5 := B4.trans (b5.mono B4.size)
    have HN5 := Lib.hid (HN4.out.on b5)
    clear b5 B4
    generalize (csvTextR rs).isSome = f
    generalize (csvTextR rs).getD [] = t
    obtain ⟨y, hy⟩ : ∃ y : ByteArray, (⟨t.toArray⟩ : ByteArray) = y := ⟨_, rfl⟩
    rw [hy]
    clear hy
    have HB5 := Lib.hid B5
    have hz5 := B5.size
    have cTe := HTo.out w5 B5
    clear B5
    cases f
    all_goals
      go_wp2_with fail
      refine cTe.mono ?_
      rintro e w6 ⟨A6, c6, rfl, N6, b6⟩
      have cE := eqRows_any _ _ c4 c6 rs w6 HLn.out (HN5.out.on b6) N6
      have B6 := HB5.out.trans (b6.mono hz5)
      clear N6 b6 cTe
      go_wp2_with fail
      refine cE.mono ?_
      rintro e w7 ⟨rfl, b7⟩
      clear cE
      go_wp2
      go_ret
      exact ⟨rfl, B6.trans (b7.mono B6.size)⟩
  · have hL : restN (rs.length + needsR rs) 1048576 = -1 := restN_neg hb
    rw [hL] at cZ
    clear hN hF hl hT hL hb
    go_enter Tryd.func6, Tryd.ntmps6
    go_wp2_with fail
    refine cZ.mono ?_
    rintro e w1 ⟨rfl, b1⟩
    go_wp2
    go_ret
    exact ⟨rfl, b1⟩

set_option maxRecDepth 100000
theorem witness_row (os : Os) {H : Type} (enc : TypeId × Value → H) :
    (OpenSpec.ofChange Rows.fnExactCsvTextSpec).preRow enc Tryd.prog Tryd.f6 Rows.fnExactCsvTextRow.domain false Rows.fnExactCsvTextRow.laid ((laidWorld os).forCall (fun _ _ => 0) ⟨#[], #[.slice none 0 0], []⟩).memory #[.slice none 0 0] := by
  have hw : (DataW.whole enc Tryd.prog ((laidWorld os).forCall (fun _ _ => 0) ⟨#[], #[.slice none 0 0], []⟩).memory Tryd.f6.params.toList (OpenSpec.ofChange Rows.fnExactCsvTextSpec).vars false (#[.slice none 0 0] : Array Value).toList 8).map (fun x => (x.1, x.2.1)) =
      some ([.nil], []) := by kernel_rfl
  obtain ⟨⟨x1, x2, x3⟩, hx, hx1⟩ := Option.map_eq_some_iff.1 hw
  simp only [Prod.mk.injEq] at hx1
  obtain ⟨rfl, rfl⟩ := hx1
  exact OpenSpec.preRow_of_cond 8 hx (by kernel_rfl) (fun k hk => by cases hk) (by kernel_rfl) (laid_met os _)

set_option maxHeartbeats 2000000 in
theorem lifted (os : Os) (started : os.Started) (H : Type) (enc : TypeId × Value → H) (F : Stop.Interp) :
    ReturnsInHanded {} Tryd.checked os 6 .any ((OpenSpec.ofChange Rows.fnExactCsvTextSpec).preRow enc Tryd.prog Tryd.f6 Rows.fnExactCsvTextRow.domain false Rows.fnExactCsvTextRow.laid) (((OpenSpec.ofChange Rows.fnExactCsvTextSpec).at F).post enc Tryd.prog Tryd.f6 false true false false) := by
  refine returnsInHanded_of_row (C := Tryd.checked) (s := OpenSpec.ofChange Rows.fnExactCsvTextSpec) own started (by kernel_rfl) Tryd.func6
    (witness_row_atRef (enc := enc) (C := Tryd.checked) false (laidWorld os) #[.slice none 0 0] rfl (by kernel_rfl) (by kernel_rfl) (by kernel_rfl) (witness_row os enc)) ?_
  intro W base args ds gs before hval0 hW _ _ _ hL _ _
  have hval : ∀ (j : Nat) t v, Tryd.f6.params[j]? = some t → args[j]? = some v → Value.okWide Tryd.prog W .any base t v := hval0
  have hW' := hW
  obtain ⟨p, q, hA0, hV0, rfl, _, _⟩ := hW
  have hA : DataW.TrodAll enc Tryd.prog W 0 (fun _ => true) true Tryd.f6.params.toList args.toList ds p := hA0
  rw [Tryd.params6] at hA hval
  obtain ⟨v0, vs0, d0, ds0, p0, q0, hargs, rfl, rfl, h0, r0⟩ := trodAll_cons hA
  obtain ⟨rfl, rfl, rfl⟩ := trodAll_nil r0
  obtain rfl : args = #[v0] := by cases args; simp_all
  obtain ⟨rfl, rfl⟩ := trodVars_none hV0
  obtain ⟨a0, len0, cap0, rfl⟩ := okWide_slice Tryd.underlying34 (hval 0 34 v0 rfl rfl)
  have k0 := h0
  have lt0 : ∀ x ∈ p0, x.block < W.heap.size := by obtain ⟨m, hm⟩ := k0; exact DataW.trod_lt m _ _ _ hm
  obtain ⟨z0, rfl, w0, l0, f0⟩ := open_rowsV h0
  clear hA0 hV0 hval0
  refine (walk a0 cap0 z0 W w0 l0 f0 (tabs_of_laid hL)).mono ?_
  rintro e W' ⟨rfl, bel⟩
  exact ⟨_, rfl, _, _, _, [], _, [], hW', trodAll_mk1 (shut_bool Tryd.underlying4 _), (trodAll_cons_mk (Below.trod laidOut (by kernel_rfl) (of_decide_eq_true (by kernel_rfl)) k0 bel lt0) trodAll_mk0), rfl, bel.frame _, fun h => by cases h⟩

theorem over : Rows.FnExactCsvTextSaid :=
  OpenClaim.holds_of_cond 6 Tryd.f6 rfl rfl rfl rfl rfl rfl rfl ⟨rfl, rfl, rfl, rfl, rfl⟩ rfl rfl rfl rfl rfl (by kernel_rfl) Tryd.func6 (by kernel_rfl)
    (of_decide_eq_true (by kernel_rfl)) (by unfold Func.isWrapper; rw [if_neg (of_decide_eq_false (by kernel_rfl))]; exact ⟨rfl, rfl⟩)
    (fun os started H enc _ F0 => by rw [OpenClaim.pre_eq_preRow]; exact lifted os started H enc F0)

/-- The given statement. -/
theorem proved : Rows.FnExactCsvTextCardSaid :=
  Claim7.holds_tied_plain_at .later [] [.data, .pinned] true _ false
    over (fun _ h => by cases h) (by kernel_rfl) (fun _ h => by cases h) fnExactCsvText_row_tie rfl ⟨rfl, rfl⟩ (by kernel_rfl) rfl
    (fun f fn hf hfn => by
      obtain rfl : f = 6 := Option.some.inj ((show Tryd.prog.funcNamed Rows.fnExactCsvTextRow.func = some 6 by kernel_rfl).symm.trans hf) |>.symm
      obtain rfl : fn = Tryd.f6 := (Option.some.inj (Tryd.func6.symm.trans hfn)).symm
      exact ⟨by kernel_rfl, fun j t ht => by
        rw [Tryd.params6] at ht
        rcases j with _ | j
        · obtain rfl : t = 34 := by simpa using ht.symm
          exact (show Tryd.prog.wantsStandIn 34 = false by kernel_rfl)
        · simp at ht⟩)
    (by kernel_rfl)

end Go.Proofs.YtjklnfcoaakkgaaDoor.fnExactCsvText
