/- For every decimal, impl.DecOk answers as spec.DecOk does. No condition. -/
import Derived.Test.YtpkmhojcccpolaaImplDec1
import Derived.Test.YtpkmhojcccpolaaOpenDec
namespace Go.Proofs.Ytpkmhojcccpolaa.fnExactDecOk
open Go.ChangeShapes Go.WideShapes Go.ChangeAt Go.RowKit
open Go.ChangeMaps (open_string shut_string)
set_option linter.unusedVariables false

set_option maxHeartbeats 400000 in
theorem walk (n : Bool) (s : ByteArray) (e : Int) (w : World) (hm : s.size ≤ maxLen) (we : (Lit.int .i64 e).wf = true) :
    Calls Try.prog 3 #[.agg #[.bool n, .string s, .int .i64 e]] w fun r w' => r = .returned (.bool true) ∧ Below w.heap.size w w' := by
  obtain ⟨b1, b2⟩ := bounds_i64 we
  have cZ : ∀ W, _ := fun W => lawSz n s e 1048576 W hm (by omega)
  have cT := fun W => lawTo n s e W
  have B0 : Below w.heap.size w (w.alloc (.cells #[.bool n, .string s, .int .i64 e] 23)) := (Below.refl _ _).alloc (Nat.le_refl _) _
  have K0 : LDecAt (w.alloc (.cells #[.bool n, .string s, .int .i64 e] 23)) w.heap.size n s e := heap_alloc_new w _
  by_cases hs : s.size ≤ 1048576
  · have cS : ∀ W, Calls Try.prog 7 #[.agg #[.bool n, .string s, .int .i64 e]] W (AnsB (dOf n s e).Ok W) := fun W => specDecOk n s e W hs b1 b2
    have cI : ∀ W, Calls Try.prog 9 #[.agg #[.bool n, .string s, .int .i64 e]] W (AnsB (dOf n s e).Ok W) := fun W => implDecOk n s e W hs b1 b2
    generalize (dOf n s e).Ok = P at cS cI
    obtain ⟨q, hq⟩ : ∃ q : Nat, 1048576 - s.size = q := ⟨_, rfl⟩
    simp only [if_pos hs, hq] at cZ
    clear hq
    go_enter Try.func3, Try.ntmps3
    go_wp2_with fail
    refine (cZ _).mono ?_
    rintro r w1 ⟨rfl, B1⟩
    have K1 := K0.belowS B1
    have D1 := B0.trans (B1.mono B0.size)
    obtain ⟨k0, k1, k2⟩ := K1.cell
    clear cZ B1 B0 K0
    go_wp2_with fail
    refine (cT _).mono ?_
    rintro r w2 ⟨rfl, B2⟩
    have K2 := K1.belowS B2
    have D2 := D1.trans (B2.mono D1.size)
    clear B2 D1 K1 k0 k1 k2
    go_wp2_with fail
    refine (cS _).mono ?_
    rintro r w3 ⟨b, rfl, hb, B3⟩
    have K3 := K2.belowS B3
    have D3 := D2.trans (B3.mono D2.size)
    obtain ⟨k0, k1, k2⟩ := K3.cell
    have HB := Lib.hid hb
    clear B3 D2 K2 cS hb
    go_wp2_with fail
    refine (cT _).mono ?_
    rintro r w4 ⟨rfl, B4⟩
    have D4 := D3.trans (B4.mono D3.size)
    clear B4 D3 K3 k0 k1 k2 cT
    go_wp2_with fail
    refine (cI _).mono ?_
    rintro r w5 ⟨b', rfl, hb', B5⟩
    have D5 := D4.trans (B5.mono D4.size)
    have hbb : b' = b := Bool.eq_iff_iff.2 (hb'.trans HB.out.symm)
    subst hbb
    clear B5 D4 cI hb' HB
    cases b' <;> (go_wp2; go_ret; exact ⟨rfl, D5⟩)
  · simp only [if_neg hs] at cZ
    clear cT
    go_enter Try.func3, Try.ntmps3
    go_wp2_with fail
    refine (cZ _).mono ?_
    rintro r w1 ⟨rfl, B1⟩
    have D1 := B0.trans (B1.mono B0.size)
    clear cZ B1 B0 K0
    go_wp2
    go_ret
    exact ⟨rfl, D1⟩

theorem own : ownKnob Try.prog.godebug = none := by kernel_rfl

set_option maxRecDepth 100000 in
theorem lifted (os : Os) (started : os.Started) (H : Type) (enc : TypeId × Value → H) :
    ReturnsInHanded {} Try.checked os 3 .any (Rows.fnExactDecOkSpec.pre6 enc Try.prog Try.f3 Rows.fnExactDecOkRow.domain false) (Rows.fnExactDecOkSpec.post enc Try.prog Try.f3 false true false false) := by
  refine returnsInHanded_of_change (C := Try.checked) own started (by kernel_rfl) Try.func3
    (ChangeSpec.witness6 (enc := enc) (C := Try.checked) false ⟨#[], #[.agg #[.bool false, .string ⟨#[]⟩, .int .i64 0]], []⟩ 8 (by kernel_rfl) (by kernel_rfl) (by kernel_rfl) (by kernel_rfl)) ?_
  intro W base args ds gs before hval0 hW hcnd _
  have hval : ∀ (j : Nat) t v, Try.f3.params[j]? = some t → args[j]? = some v → Value.okWide Try.prog W .any base t v := hval0
  have hW' := hW
  obtain ⟨p, q, hA0, hV, rfl, hfz, hnd⟩ := hW
  have hA : DataW.TrodAll enc Try.prog W 0 (fun _ => true) true Try.f3.params.toList args.toList ds p := hA0
  rw [Try.params3] at hA hval
  obtain ⟨v0, vs0, d0, ds0, p0, q0, hargs, rfl, rfl, h0, r0⟩ := trodAll_cons hA
  obtain ⟨rfl, rfl, rfl⟩ := trodAll_nil r0
  obtain rfl : args = #[v0] := by cases args; simp_all
  obtain ⟨rfl, rfl⟩ := trodVars_none hV
  obtain ⟨n0, s0, e0, rfl, rfl, rfl, w0, x0⟩ := open_dec (hval 0 23 v0 rfl rfl) h0
  clear hA0 hval0
  refine (walk n0 s0 e0 W w0 x0).mono fun e W' ⟨he, bel⟩ => ?_
  subst he
  exact ⟨_, rfl, _, _, _, [], _, [], hW', trodAll_mk1 (shut_bool Try.underlying4 _), (trodAll_cons_mk (shut_dec w0 x0) trodAll_mk0), rfl, bel.frame _, fun h => by cases h⟩

theorem over : Rows.fnExactDecOkRow.holds Try.pinned (OpenSpec.ofChange Rows.fnExactDecOkSpec) :=
  OpenClaim.holds_of_wide 3 Try.f3 rfl rfl rfl rfl rfl rfl rfl ⟨rfl, rfl, rfl, rfl, rfl⟩ rfl rfl rfl rfl rfl (by kernel_rfl) Try.func3 (by kernel_rfl)
    (of_decide_eq_true (by kernel_rfl)) (by unfold Func.isWrapper; first | (rw [if_pos (by decide +kernel)]; kernel_rfl) | (rw [if_neg (by decide +kernel)]; exact ⟨rfl, rfl⟩))
    (fun os started H enc _ => lifted os started H enc)

/-- The given statement. -/
theorem proved : Rows.FnExactDecOkSaid := over

end Go.Proofs.Ytpkmhojcccpolaa.fnExactDecOk
