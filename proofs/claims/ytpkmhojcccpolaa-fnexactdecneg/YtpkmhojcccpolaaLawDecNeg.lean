/- For every decimal, impl.DecNeg answers as spec.DecNeg does. No condition. -/
import Derived.Test.YtpkmhojcccpolaaImplDec2
import Derived.Test.YtpkmhojcccpolaaOpenDec
namespace Go.Proofs.Ytpkmhojcccpolaa.fnExactDecNeg
open Go.ChangeShapes Go.WideShapes Go.ChangeAt Go.RowKit
open Go.ChangeMaps (open_string shut_string)
set_option linter.unusedVariables false

set_option maxHeartbeats 1000000 in
theorem walk (n : Bool) (s : ByteArray) (e : Int) (w : World) (hm : s.size ≤ maxLen) (we : (Lit.int .i64 e).wf = true) :
    Calls Try.prog 5 #[.agg #[.bool n, .string s, .int .i64 e]] w fun r w' => r = .returned (.bool true) ∧ Below w.heap.size w w' := by
  obtain ⟨b1, b2⟩ := bounds_i64 we
  have cZ : ∀ W, _ := fun W => lawSz n s e 1048576 W hm (by omega)
  have cT := fun W => lawTo n s e W
  have B0 : Below w.heap.size w (w.alloc (.cells #[.bool n, .string s, .int .i64 e] 23)) := (Below.refl _ _).alloc (Nat.le_refl _) _
  have K0 : LDecAt (w.alloc (.cells #[.bool n, .string s, .int .i64 e] 23)) w.heap.size n s e := heap_alloc_new w _
  by_cases hs : s.size ≤ 1048576
  · have cS := fun W => specDecNegR n s e W hs b1 b2
    have cI := fun W => implDecNeg n s e W hs b1 b2
    unfold AnsD at cS cI
    generalize negR (dOf n s e) = R at cS cI
    obtain ⟨rn, rd, re⟩ := R
    obtain ⟨rs, hrs⟩ : ∃ rs : ByteArray, ⟨rd.toArray⟩ = rs := ⟨_, rfl⟩
    dsimp only at cS cI
    rw [hrs] at cS cI
    clear hrs
    have cE := fun W => lawEq rn rs re W
    obtain ⟨q, hq⟩ : ∃ q : Nat, 1048576 - s.size = q := ⟨_, rfl⟩
    simp only [if_pos hs, hq] at cZ
    clear hq
    go_enter Try.func5, Try.ntmps5
    go_wp2_with fail
    refine (cZ _).mono ?_
    rintro r w1 ⟨rfl, B1⟩
    have K1 := K0.belowS B1
    have D1 := below_kept B0 (Nat.le_refl _) B1
    obtain ⟨k0, k1, k2⟩ := K1.cell
    clear cZ B1 B0 K0
    go_wp2_with fail
    refine (cT _).mono ?_
    rintro r w2 ⟨rfl, B2⟩
    have K2 := K1.belowS B2
    have D2 := below_kept D1 (Nat.le_refl _) B2
    clear B2 D1 K1 k0 k1 k2
    go_wp2_with fail
    refine (cS _).mono ?_
    rintro r w3 ⟨rfl, B3⟩
    have D3 := below_kept D2 (Nat.le_refl _) B3
    have K3 := (K2.belowS B3).alloc (.cells #[.bool rn, .string rs, .int .i64 re] 26)
    have N3 := DecAt.new w3 rn rs re
    have E3 : Below w.heap.size w (w3.alloc (.cells #[.bool rn, .string rs, .int .i64 re] 26)) := D3.alloc D3.size _
    obtain ⟨k0, k1, k2⟩ := K3.cell
    clear B3 D2 K2 cS
    go_wp2_with fail
    refine (cT _).mono ?_
    rintro r w4 ⟨rfl, B4⟩
    have N4 := N3.belowS B4
    have D4 := below_kept E3 (Nat.le_refl _) B4
    clear B4 D3 E3 K3 k0 k1 k2 cT N3
    go_wp2_with fail
    refine (cI _).mono ?_
    rintro r w5 ⟨rfl, B5⟩
    have N5 := N4.belowS B5
    have D5 := below_kept D4 (Nat.le_refl _) B5
    have M5 := DecAt.new w5 rn rs re
    have E5 : Below w.heap.size w (w5.alloc (.cells #[.bool rn, .string rs, .int .i64 re] 26)) := D5.alloc D5.size _
    obtain ⟨k0, k1, k2⟩ := (N5.alloc (.cells #[.bool rn, .string rs, .int .i64 re] 26)).cell
    have hne := N5.lt
    clear B5 D4 cI N4
    go_wp2_with fail
    refine (cE _).mono ?_
    rintro r w6 ⟨rfl, B6⟩
    have D6 := below_kept E5 (Nat.le_refl _) B6
    clear B6 D5 cE E5 M5 N5 k0 k1 k2
    go_wp2
    go_ret
    exact ⟨rfl, D6⟩
  · simp only [if_neg hs] at cZ
    clear cT
    go_enter Try.func5, Try.ntmps5
    go_wp2_with fail
    refine (cZ _).mono ?_
    rintro r w1 ⟨rfl, B1⟩
    have D1 := below_kept B0 (Nat.le_refl _) B1
    clear cZ B1 B0 K0
    go_wp2
    go_ret
    exact ⟨rfl, D1⟩

theorem own : ownKnob Try.prog.godebug = none := by kernel_rfl

set_option maxRecDepth 100000 in
theorem lifted (os : Os) (started : os.Started) (H : Type) (enc : TypeId × Value → H) :
    ReturnsInHanded {} Try.checked os 5 .any (Rows.fnExactDecNegSpec.pre6 enc Try.prog Try.f5 Rows.fnExactDecNegRow.domain false) (Rows.fnExactDecNegSpec.post enc Try.prog Try.f5 false true false false) := by
  refine returnsInHanded_of_change (C := Try.checked) own started (by kernel_rfl) Try.func5
    (ChangeSpec.witness6 (enc := enc) (C := Try.checked) false ⟨#[], #[.agg #[.bool false, .string ⟨#[]⟩, .int .i64 0]], []⟩ 8 (by kernel_rfl) (by kernel_rfl) (by kernel_rfl) (by kernel_rfl)) ?_
  intro W base args ds gs before hval0 hW hcnd _
  have hval : ∀ (j : Nat) t v, Try.f5.params[j]? = some t → args[j]? = some v → Value.okWide Try.prog W .any base t v := hval0
  have hW' := hW
  obtain ⟨p, q, hA0, hV, rfl, hfz, hnd⟩ := hW
  have hA : DataW.TrodAll enc Try.prog W 0 (fun _ => true) true Try.f5.params.toList args.toList ds p := hA0
  rw [Try.params5] at hA hval
  obtain ⟨v0, vs0, d0, ds0, p0, q0, hargs, rfl, rfl, h0, r0⟩ := trodAll_cons hA
  obtain ⟨rfl, rfl, rfl⟩ := trodAll_nil r0
  obtain rfl : args = #[v0] := by cases args; simp_all
  obtain ⟨rfl, rfl⟩ := trodVars_none hV
  obtain ⟨n0, s0, e0, rfl, rfl, rfl, w0, x0⟩ := open_dec (hval 0 23 v0 rfl rfl) h0
  clear hA0 hval0
  refine (walk n0 s0 e0 W w0 x0).mono fun e W' ⟨he, bel⟩ => ?_
  subst he
  exact ⟨_, rfl, _, _, _, [], _, [], hW', trodAll_mk1 (shut_bool Try.underlying4 _), (trodAll_cons_mk (shut_dec w0 x0) trodAll_mk0), rfl, bel.frame _, fun h => by cases h⟩

theorem over : Rows.fnExactDecNegRow.holds Try.pinned (OpenSpec.ofChange Rows.fnExactDecNegSpec) :=
  OpenClaim.holds_of_wide 5 Try.f5 rfl rfl rfl rfl rfl rfl rfl ⟨rfl, rfl, rfl, rfl, rfl⟩ rfl rfl rfl rfl rfl (by kernel_rfl) Try.func5 (by kernel_rfl)
    (of_decide_eq_true (by kernel_rfl)) (by unfold Func.isWrapper; first | (rw [if_pos (by decide +kernel)]; kernel_rfl) | (rw [if_neg (by decide +kernel)]; exact ⟨rfl, rfl⟩))
    (fun os started H enc _ => lifted os started H enc)

/-- The given statement. -/
theorem proved : Rows.FnExactDecNegSaid := over

end Go.Proofs.Ytpkmhojcccpolaa.fnExactDecNeg
