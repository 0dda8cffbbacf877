/- For every code: of the decimals drawn from it a product divided by one factor is the other one, where it needs no rounding. No condition. -/
import Derived.Test.YthijeckcjfnbcaaDoorDivMath
import Derived.Test.YthijeckcjfnbcaaDoorDrawTwo
import Derived.Test.YthijeckcjfnbcaaDoorRowOpen
import Derived.Test.YthijeckcjfnbcaaDoorImplDec7
import Derived.Test.YthijeckcjfnbcaaDoorImplDec10
import Derived.Test.YthijeckcjfnbcaaDoorLaidD
namespace Go.Proofs.YthijeckcjfnbcaaDoor.fnDecDivides
open Go.ChangeShapes Go.WideShapes Go.ChangeAt Go.RowKit Go.Shelf
open Go.ChangeMaps (open_string shut_string)
set_option linter.unusedVariables false

theorem laidOut : laidOutB Tryd.prog = true := by kernel_rfl

set_option maxHeartbeats 4000000 in
set_option maxRecDepth 100000 in
theorem walk (a : Option Addr) (len cap : Nat) (z : List Int) (w : World) (hR : IsRow .u8 w a len cap z) (hT : True) :
    Calls Tryd.prog 4 #[.slice a len cap] w fun e w' => e = .returned (.bool true) ∧ Below w.heap.size w w' := by
  obtain ⟨zs, rfl, hN, hZ⟩ := bytes_of_row hR
  clear hR
  by_cases hlen : zs.length ≤ 1048576
  · have cB := big_any a zs.length cap w hlen
    have cD := drawTwo_any a cap zs w hlen hN hZ
    unfold DrawnTwo at cD
    clear hN hZ
    go_enter Tryd.func4, Tryd.ntmps4
    go_wp2_with fail
    refine cB.mono ?_
    rintro e w0 ⟨rfl, rfl⟩
    clear cB
    go_wp2_with fail
    refine cD.mono ?_
    rintro e w1 ⟨n, t, x, n2, t2, x2, ⟨h1, h2, h3⟩, ⟨q1, q2, q3⟩, rfl, B1⟩
    clear cD
    have hB1 := B1.size
    have X0 : DecAt (w1.alloc (.cells (row3 false ⟨#[]⟩ 0) 25)) w1.heap.size false ⟨#[]⟩ 0 := DecAt.new w1 false ⟨#[]⟩ 0
    obtain ⟨wa, hwa⟩ : ∃ q, w1.alloc (.cells (row3 false ⟨#[]⟩ 0) 25) = q := ⟨_, rfl⟩
    have hsa : wa.heap.size = w1.heap.size + 1 := by rw [← hwa]; simp
    rw [hwa] at X0
    obtain ⟨wb, hwb⟩ : ∃ q, wa.alloc (.cells (row3 false ⟨#[]⟩ 0) 25) = q := ⟨_, rfl⟩
    have X1 : DecAt wb w1.heap.size false ⟨#[]⟩ 0 := by rw [← hwb]; exact X0.alloc _
    have Y1 : DecAt wb (w1.heap.size + 1) false ⟨#[]⟩ 0 := by rw [← hwb, ← hsa]; exact DecAt.new wa false ⟨#[]⟩ 0
    have D1 : Below w0.heap.size w0 wb := by rw [← hwb]; exact Below.alloc (by rw [← hwa]; exact B1.alloc hB1 _) (by omega) _
    have X2 : DecAt (wb.setRow w1.heap.size (row3 n t x)) w1.heap.size n t x := X1.row
    have Y2 : DecAt (wb.setRow w1.heap.size (row3 n t x)) (w1.heap.size + 1) false ⟨#[]⟩ 0 := Y1.rowO (by omega) _
    have D2 : Below w0.heap.size w0 (wb.setRow w1.heap.size (row3 n t x)) := below_row3 D1 hB1 _
    have X3 : DecAt ((wb.setRow w1.heap.size (row3 n t x)).setRow (w1.heap.size + 1) (row3 n2 t2 x2)) w1.heap.size n t x := X2.rowO (by omega) _
    have Y3 : DecAt ((wb.setRow w1.heap.size (row3 n t x)).setRow (w1.heap.size + 1) (row3 n2 t2 x2)) (w1.heap.size + 1) n2 t2 x2 := Y2.row
    have D3 : Below w0.heap.size w0 ((wb.setRow w1.heap.size (row3 n t x)).setRow (w1.heap.size + 1) (row3 n2 t2 x2)) := below_row3 D2 (by omega) _
    clear X0 D1 X2 D2
    have cK := fun W => specDecOk n t x W (by omega) h2 h3
    have cL := fun W => specDecOk n2 t2 x2 W (by omega) q2 q3
    unfold AnsB at cK cL
    go_wp2_with (first | (with_reducible show wpList _ _ _ (⟨_, .store _ _ _, _, _, _, _⟩ :: _) _ _; first | refine store_dec w1.heap.size rfl rfl X1 ?_ | refine store_dec (w1.heap.size + 1) rfl rfl Y2 ?_) | (with_reducible show wpList _ _ _ (⟨_, .load _ _, _, _, _, _⟩ :: _) _ _; refine load_dec w1.heap.size rfl X3 ?_))
    refine (cK _).mono ?_
    rintro r w4 ⟨b1, rfl, hb1, B4⟩
    have X4 := X3.belowS B4
    have Y4 := Y3.belowS B4
    have D4 := below_kept D3 (Nat.le_refl _) B4
    clear B4 cK X3 Y3 D3 X1 Y1 Y2 hwb hwa
    obtain ⟨k0, k1, k2⟩ := X4.cell
    obtain ⟨l0, l1, l2⟩ := Y4.cell
    cases b1
    · clear hb1
      go_wp2
      go_ret
      exact ⟨rfl, D4⟩
    · have HO1 := Lib.hid (hb1.1 rfl)
      clear hb1
      go_wp2_with fail
      refine (cL _).mono ?_
      rintro r w5 ⟨b2, rfl, hb2, B5⟩
      have X5 := X4.belowS B5
      have Y5 := Y4.belowS B5
      have D5 := below_kept D4 (Nat.le_refl _) B5
      clear B5 cL X4 Y4 D4 k0 k1 k2 l0 l1 l2
      obtain ⟨k0, k1, k2⟩ := X5.cell
      obtain ⟨l0, l1, l2⟩ := Y5.cell
      cases b2
      · clear hb2
        go_wp2
        go_ret
        exact ⟨rfl, D5⟩
      · have HO2 := Lib.hid (hb2.1 rfl)
        clear hb2
        by_cases c1 : t.size ≤ 10
        · have ic1 : ¬ (10 : Int) < (t.size : Int) := by omega
          by_cases c2 : t2.size ≤ 10
          · have ic2 : ¬ (10 : Int) < (t2.size : Int) := by omega
            by_cases c3 : t2.size = 0
            · have hte : t2.toList.isEmpty = true := by rw [toList_nil.2 c3]; rfl
              go_wp2
              go_ret
              exact ⟨rfl, D5⟩
            · have hte : t2.toList.isEmpty = false := list_full t2 c3
              by_cases c4 : x ≤ 30
              · have ic4 : ¬ (30 : Int) < x := by omega
                by_cases c5 : -40 ≤ x
                · have ic5 : ¬ x < (-40 : Int) := by omega
                  by_cases c6 : x2 ≤ 30
                  · have ic6 : ¬ (30 : Int) < x2 := by omega
                    by_cases c7 : -40 ≤ x2
                    · have ic7 : ¬ x2 < (-40 : Int) := by omega
                      obtain ⟨m1, m2⟩ := mul_div_back HO1.out HO2.out (by show t.data.toList.length ≤ 10; rw [size_list]; exact c1) (by show t2.data.toList.length ≤ 10; rw [size_list]; exact c2) (by show t2.data.toList ≠ []; intro g; rw [← size_list, g] at c3; exact c3 rfl) c5 c4 c7 c6
                      have hmo : (mulR (dOf n t x) (dOf n2 t2 x2)).1.Ok := by unfold mulR; rw [if_pos ⟨HO1.out, HO2.out⟩]; exact form_ok _ _ _
                      have cM := fun W => implDecMul n t x n2 t2 x2 W (by omega) (by omega) h2 h3 q2 q3
                      obtain ⟨R, hR⟩ : ∃ R, mulR (dOf n t x) (dOf n2 t2 x2) = R := ⟨_, rfl⟩
                      rw [hR] at cM m1 m2 hmo
                      obtain ⟨⟨mn, md, me⟩, mc⟩ := R
                      dsimp only at m1 m2 hmo
                      obtain ⟨ms, hms⟩ : ∃ q : ByteArray, ⟨md.toArray⟩ = q := ⟨_, rfl⟩
                      have hml : ms.data.toList = md := by rw [← hms]
                      have hmz : ms.size ≤ 20 := by rw [← size_list, hml]; exact hmo.len
                      obtain ⟨e1, e2⟩ := hmo.exps
                      dsimp only at e1 e2
                      unfold AnsDC at cM
                      dsimp only at cM
                      rw [hms, m1] at cM
                      have hdo : dOf mn ms me = ⟨mn, md, me⟩ := by unfold dOf; rw [hml]
                      have cQ : ∀ W, Calls Tryd.prog 13 #[.agg #[.bool mn, .string ms, .int .i64 me], .agg #[.bool n2, .string t2, .int .i64 x2]] W fun e w' => e = .returned (.tuple #[.agg (row3 n t x), .int .i64 0]) ∧ Below W.heap.size W w' := fun W => by
                        have := implDecDiv mn ms me n2 t2 x2 W (by omega) (by omega) (by omega) (by omega) q2 q3
                        unfold AnsDC at this
                        rw [hdo, m2, ans_dec] at this
                        exact this
                      clear hR m1 m2 hmo hms hml hdo
                      go_wp2_with fail
                      refine (cM _).mono ?_
                      rintro r w6 ⟨rfl, B6⟩
                      have X6 := X5.belowS B6
                      have Y6 := Y5.belowS B6
                      have D6 := below_kept D5 (Nat.le_refl _) B6
                      clear B6 cM X5 Y5 D5 k0 k1 k2 l0 l1 l2
                      have M6 := DecAt.new w6 false ⟨#[]⟩ 0
                      have M7 : DecAt ((w6.alloc (.cells (row3 false ⟨#[]⟩ 0) 25)).setRow w6.heap.size (row3 mn ms me)) w6.heap.size mn ms me := M6.row
                      have X7 : DecAt ((w6.alloc (.cells (row3 false ⟨#[]⟩ 0) 25)).setRow w6.heap.size (row3 mn ms me)) w1.heap.size n t x := (X6.alloc _).rowO (Nat.ne_of_lt X6.lt) _
                      have Y7 : DecAt ((w6.alloc (.cells (row3 false ⟨#[]⟩ 0) 25)).setRow w6.heap.size (row3 mn ms me)) (w1.heap.size + 1) n2 t2 x2 := (Y6.alloc _).rowO (Nat.ne_of_lt Y6.lt) _
                      have D7 := below_row3 (D6.alloc D6.size (.cells (row3 false ⟨#[]⟩ 0) 25)) (g := w6.heap.size) D6.size (row3 mn ms me)
                      go_wp2_with (first | (with_reducible show wpList _ _ _ (⟨_, .store _ _ _, _, _, _, _⟩ :: _) _ _; refine store_dec w6.heap.size rfl rfl M6 ?_) | (with_reducible show wpList _ _ _ (⟨_, .load _ _, _, _, _, _⟩ :: _) _ _; first | refine load_dec w6.heap.size rfl M7 ?_ | refine load_dec (w1.heap.size + 1) rfl Y7 ?_))
                      clear M6 X6 Y6 D6
                      refine (cQ _).mono ?_
                      rintro r w8 ⟨rfl, B8⟩
                      have X8 := X7.belowS B8
                      have D8 := below_kept D7 (Nat.le_refl _) B8
                      have Q8 := DecAt.new w8 false ⟨#[]⟩ 0
                      have Q9 : DecAt ((w8.alloc (.cells (row3 false ⟨#[]⟩ 0) 25)).setRow w8.heap.size (row3 n t x)) w8.heap.size n t x := Q8.row
                      have X9 : DecAt ((w8.alloc (.cells (row3 false ⟨#[]⟩ 0) 25)).setRow w8.heap.size (row3 n t x)) w1.heap.size n t x := (X8.alloc _).rowO (Nat.ne_of_lt X8.lt) _
                      have D9 := below_row3 (D8.alloc D8.size (.cells (row3 false ⟨#[]⟩ 0) 25)) (g := w8.heap.size) D8.size (row3 n t x)
                      clear B8 cQ M7 X7 Y7 D7
                      obtain ⟨k0, k1, k2⟩ := X9.cell
                      obtain ⟨l0, l1, l2⟩ := Q9.cell
                      go_wp2_with (with_reducible show wpList _ _ _ (⟨_, .store _ _ _, _, _, _, _⟩ :: _) _ _; refine store_dec w8.heap.size rfl rfl Q8 ?_)
                      go_ret
                      exact ⟨rfl, D9⟩
                    · have ic7 : x2 < (-40 : Int) := by omega
                      go_wp2
                      go_ret
                      exact ⟨rfl, D5⟩
                  · have ic6 : (30 : Int) < x2 := by omega
                    go_wp2
                    go_ret
                    exact ⟨rfl, D5⟩
                · have ic5 : x < (-40 : Int) := by omega
                  go_wp2
                  go_ret
                  exact ⟨rfl, D5⟩
              · have ic4 : (30 : Int) < x := by omega
                go_wp2
                go_ret
                exact ⟨rfl, D5⟩
          · have ic2 : (10 : Int) < (t2.size : Int) := by omega
            go_wp2
            go_ret
            exact ⟨rfl, D5⟩
        · have ic1 : (10 : Int) < (t.size : Int) := by omega
          go_wp2
          go_ret
          exact ⟨rfl, D5⟩
  · have cB := big_yes a zs.length cap w hlen
    clear hN hZ hT
    go_enter Tryd.func4, Tryd.ntmps4
    go_wp2_with fail
    refine cB.mono ?_
    rintro e w0 ⟨rfl, rfl⟩
    clear cB
    go_wp2
    go_ret
    exact ⟨rfl, Below.refl _ _⟩

set_option maxRecDepth 100000
theorem witness_row (os : Os) {H : Type} (enc : TypeId × Value → H) :
    (OpenSpec.ofChange Rows.fnDecDividesSpec).preRow enc Tryd.prog Tryd.f4 Rows.fnDecDividesRow.domain false Rows.fnDecDividesRow.laid ((laidWorldD os).forCall (fun _ _ => 0) ⟨#[], #[.slice none 0 0], []⟩).memory #[.slice none 0 0] := by
  have hw : (DataW.whole enc Tryd.prog ((laidWorldD os).forCall (fun _ _ => 0) ⟨#[], #[.slice none 0 0], []⟩).memory Tryd.f4.params.toList (OpenSpec.ofChange Rows.fnDecDividesSpec).vars false (#[.slice none 0 0] : Array Value).toList 8).map (fun x => (x.1, x.2.1)) =
      some ([.nil], []) := by kernel_rfl
  obtain ⟨⟨x1, x2, x3⟩, hx, hx1⟩ := Option.map_eq_some_iff.1 hw
  simp only [Prod.mk.injEq] at hx1
  obtain ⟨rfl, rfl⟩ := hx1
  exact OpenSpec.preRow_of_cond 8 hx (by kernel_rfl) (fun k hk => by cases hk) (by kernel_rfl) (laid_metD os _)

set_option maxHeartbeats 2000000 in
theorem lifted (os : Os) (started : os.Started) (H : Type) (enc : TypeId × Value → H) (F : Stop.Interp) :
    ReturnsInHanded {} Tryd.checked os 4 .any ((OpenSpec.ofChange Rows.fnDecDividesSpec).preRow enc Tryd.prog Tryd.f4 Rows.fnDecDividesRow.domain false Rows.fnDecDividesRow.laid) (((OpenSpec.ofChange Rows.fnDecDividesSpec).at F).post enc Tryd.prog Tryd.f4 false true false false) := by
  refine returnsInHanded_of_row (C := Tryd.checked) (s := OpenSpec.ofChange Rows.fnDecDividesSpec) own started (by kernel_rfl) Tryd.func4
    (witness_row_atRef (enc := enc) (C := Tryd.checked) false (laidWorldD os) #[.slice none 0 0] rfl (by kernel_rfl) (by kernel_rfl) (by kernel_rfl) (witness_row os enc)) ?_
  intro W base args ds gs before hval0 hW _ _ _ hL _ _
  have hval : ∀ (j : Nat) t v, Tryd.f4.params[j]? = some t → args[j]? = some v → Value.okWide Tryd.prog W .any base t v := hval0
  have hW' := hW
  obtain ⟨p, q, hA0, hV0, rfl, _, _⟩ := hW
  have hA : DataW.TrodAll enc Tryd.prog W 0 (fun _ => true) true Tryd.f4.params.toList args.toList ds p := hA0
  rw [Tryd.params4] at hA hval
  obtain ⟨v0, vs0, d0, ds0, p0, q0, hargs, rfl, rfl, h0, r0⟩ := trodAll_cons hA
  obtain ⟨rfl, rfl, rfl⟩ := trodAll_nil r0
  obtain rfl : args = #[v0] := by cases args; simp_all
  obtain ⟨rfl, rfl⟩ := trodVars_none hV0
  obtain ⟨a0, len0, cap0, rfl⟩ := okWide_slice Tryd.underlying22 (hval 0 22 v0 rfl rfl)
  have k0 := h0
  have lt0 : ∀ x ∈ p0, x.block < W.heap.size := by obtain ⟨m, hm⟩ := k0; exact DataW.trod_lt m _ _ _ hm
  obtain ⟨z0, w0⟩ : ∃ zs, IsRow .u8 W a0 len0 cap0 zs := by
    obtain ⟨fuel, hf⟩ := h0
    rcases open_ints Tryd.underlying22 Tryd.underlying5 (by kernel_rfl) hf with ⟨hcs, _⟩ | ⟨x, l, c, zs, hcs, _, hl, hm, hz, _, hcell, hwz⟩
    · simp [Value.cells] at hcs
      obtain ⟨rfl, rfl, rfl⟩ := hcs
      exact ⟨[], .inl ⟨rfl, rfl, rfl, rfl⟩⟩
    · simp [Value.cells] at hcs
      obtain ⟨rfl, rfl, rfl⟩ := hcs
      exact ⟨zs, .inr ⟨_, rfl, hl, hm, by simpa using hz, hcell, hwz⟩⟩
  clear hA0 hV0 hval0
  refine (walk a0 len0 cap0 z0 W w0 (tab_of_laidD hL)).mono ?_
  rintro e W' ⟨rfl, bel⟩
  exact ⟨_, rfl, _, _, _, [], _, [], hW', trodAll_mk1 (shut_bool Tryd.underlying4 _), (trodAll_cons_mk (Below.trod laidOut (by kernel_rfl) (of_decide_eq_true (by kernel_rfl)) k0 bel lt0) trodAll_mk0), rfl, bel.frame _, fun h => by cases h⟩

theorem over : Rows.FnDecDividesSaid :=
  OpenClaim.holds_of_cond 4 Tryd.f4 rfl rfl rfl rfl rfl rfl rfl ⟨rfl, rfl, rfl, rfl, rfl⟩ rfl rfl rfl rfl rfl (by kernel_rfl) Tryd.func4 (by kernel_rfl)
    (of_decide_eq_true (by kernel_rfl)) (by unfold Func.isWrapper; rw [if_neg (of_decide_eq_false (by kernel_rfl))]; exact ⟨rfl, rfl⟩)
    (fun os started H enc _ F0 => by rw [OpenClaim.pre_eq_preRow]; exact lifted os started H enc F0)

/-- The given statement. -/
theorem proved : Rows.FnDecDividesCardSaid :=
  Claim7.holds_tied_plain_at .later [] [.data, .pinned] true _ false
    over (fun _ h => by cases h) (by kernel_rfl) (fun _ h => by cases h) fnDecDivides_row_tie rfl ⟨rfl, rfl⟩ (by kernel_rfl) rfl
    (fun f fn hf hfn => by
      obtain rfl : f = 4 := Option.some.inj ((show Tryd.prog.funcNamed Rows.fnDecDividesRow.func = some 4 by kernel_rfl).symm.trans hf) |>.symm
      obtain rfl : fn = Tryd.f4 := (Option.some.inj (Tryd.func4.symm.trans hfn)).symm
      exact ⟨by kernel_rfl, fun j t ht => by
        rw [Tryd.params4] at ht
        rcases j with _ | j
        · obtain rfl : t = 22 := by simpa using ht.symm
          exact (show Tryd.prog.wantsStandIn 22 = false by kernel_rfl)
        · simp at ht⟩)
    (by kernel_rfl)

end Go.Proofs.YthijeckcjfnbcaaDoor.fnDecDivides
