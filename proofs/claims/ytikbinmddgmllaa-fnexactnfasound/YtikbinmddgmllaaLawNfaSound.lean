/- For every automaton, impl.NfaSound answers as spec.NfaSound does and leaves it as it was. No condition. -/
import Derived.Test.YtikbinmddgmllaaNfI3
import Derived.Test.YtikbinmddgmllaaNfS
import Derived.Test.YtikbinmddgmllaaOpenNf
import Derived.WalkKit
import Derived.Deep.DeepMust
import Derived.ProofKit
import Derived.OpenShut
import Derived.ShutString
import Derived.ChangeOld
import Derived.ChangeMaps5
import Derived.Below
namespace Go.Proofs.Ytikbinmddgmllaa.fnExactNfaSound
open Go.ChangeShapes Go.WideShapes Go.ChangeAt Go.RowKit
open Go.ChangeMaps (open_string shut_string)
set_option linter.unusedVariables false

set_option maxHeartbeats 2000000 in
set_option maxRecDepth 100000 in
theorem walk (A : Option Addr) (c : Nat) (ns : List No) (w : World) (hN : Ops w w.heap.size A ns) (hF : OFits ns) (hl : ns.length ≤ maxLen) (hw : ∀ n ∈ ns, n.wf) :
    Calls Try.prog 3 #[.agg #[.slice A ns.length c]] w fun e w' => e = .returned (.bool true) ∧ Below w.heap.size w w' := by
  have b0 : Below w.heap.size w (w.alloc (.cells #[.slice A ns.length c] 24)) := (Below.refl _ _).alloc (Nat.le_refl _) _
  have cZ := szNfa_any A c ns _ ((hN.below b0).up b0.size) hF hl
  have box : ∀ W, Below (w.heap.size + 1) (w.alloc (.cells #[.slice A ns.length c] 24)) W → W.cell? ⟨w.heap.size, 0, none⟩ = some (.slice A ns.length c) ∧ Below w.heap.size w W := fun W h => by
    refine ⟨?_, b0.trans (h.mono (by omega))⟩
    rw [h.cell (p := ⟨w.heap.size, 0, none⟩) (by simp), cell_of_row _ _ _ _ _ _ (heap_alloc_new w _)]
    rfl
  have HN := Lib.hid hN
  clear hN hF hl hw
  go_enter Try.func3, Try.ntmps3
  go_wp2_with fail
  refine cZ.mono ?_
  rintro e w1 ⟨rfl, b1⟩
  clear cZ
  have b1' : Below (w.heap.size + 1) (w.alloc (.cells #[.slice A ns.length c] 24)) w1 := b1.mono (by simp)
  have b1s := b1'.size
  rw [alloc_size1] at b1s
  obtain ⟨x1, B1⟩ := box _ b1'
  clear b1
  by_cases hlen : ns.length + osum ns ≤ 1048576
  · rw [leftIs_pos hlen]
    have hneg : ¬ ((1048576 - (ns.length + osum ns) : Nat) : Int) < 0 := by omega
    have toR : ∀ W, Below w.heap.size w W → Calls Try.prog 6 #[.agg #[.slice A ns.length c]] W _ := fun W h => toNfa_any A c ns W hlen ((HN.out.below h).up h.size)
    go_wp2_with fail
    refine (toR _ B1).mono ?_
    rintro e w2 ⟨A2, c2, rfl, N2, b2⟩
    have b2' := b1'.trans (b2.mono b1s)
    have b2s := b2'.size
    rw [alloc_size1] at b2s
    obtain ⟨x2, B2⟩ := box _ b2'
    clear b2 x1 B1 b1' b1s
    go_wp2_with fail
    refine (specNfaSound A2 c2 ns _ hlen N2.ops).mono ?_
    rintro e w3 ⟨rfl, b3⟩
    have b3' := b2'.trans (b3.mono b2s)
    have b3s := b3'.size
    rw [alloc_size1] at b3s
    obtain ⟨x3, B3⟩ := box _ b3'
    clear b3 x2 B2 N2 b2' b2s
    go_wp2_with fail
    refine (toR _ B3).mono ?_
    rintro e w4 ⟨A4, c4, rfl, N4, b4⟩
    have b4' := b3'.trans (b4.mono b3s)
    have b4s := b4'.size
    rw [alloc_size1] at b4s
    have b5' := b4'.alloc b4s (.cells #[.slice A4 ns.length c4] 29)
    have b5s := b5'.size
    rw [alloc_size1] at b5s
    obtain ⟨x5, B5⟩ := box _ b5'
    have a5 := (Below.refl w4.heap.size w4).alloc (Nat.le_refl _) (.cells #[.slice A4 ns.length c4] 29)
    have N5 := (N4.ops.below a5).up a5.size
    have y5 := cell_of_row _ _ 0 _ _ _ (heap_alloc_new w4 (.cells #[.slice A4 ns.length c4] 29))
    have HX5 := Lib.hid x5
    have HB5 := Lib.hid B5
    have HN5 := Lib.hid N5
    have H5 := Lib.hid b5'
    clear b4 x3 B3 N4 b3' b3s b4' x5 B5 N5 a5 y5 b5'
    go_wp2_with fail
    refine (implNfaSound A4 c4 ns _ hlen HN5.out).mono ?_
    rintro e w6 ⟨rfl, b6⟩
    have b6' := H5.out.trans (b6.mono (by rw [alloc_size1]; omega))
    have b6s := b6'.size
    rw [alloc_size1] at b6s
    obtain ⟨x6, B6⟩ := box _ b6'
    have N6 := (HN5.out.below b6).up b6.size
    have y6 : w6.cell? ⟨w4.heap.size, 0, none⟩ = some (.slice A4 ns.length c4) := by
      rw [b6.cell (p := ⟨w4.heap.size, 0, none⟩) (by simp), cell_of_row _ _ _ _ _ _ (heap_alloc_new w4 _)]
      rfl
    have z6 : w4.heap.size < w6.heap.size := by have := b6.size; rw [alloc_size1] at this; omega
    have HN6 := Lib.hid N6
    have HB6 := Lib.hid B6
    have cT := toR w6.drew HB6.out.drew
    have keep : ∀ W, Below w6.drew.heap.size w6.drew W → Ops W W.heap.size A4 ns ∧ W.cell? ⟨w4.heap.size, 0, none⟩ = some (.slice A4 ns.length c4) := fun W h => ⟨((HN6.out.below (Below.refl _ _).drew).below h).up h.size, (h.cell (p := ⟨w4.heap.size, 0, none⟩) z6).trans y6⟩
    clear HX5 HB5 HN5 H5 b6 N6 B6 b6' b6s toR
    go_wp2
    go_region_with (first | (go_at_call 6; go_must (refine cT.mono ?_; rintro e w7 ⟨A7, c7, rfl, N7, b7⟩; obtain ⟨N67, y7⟩ := keep _ b7)) | (go_at_call 8; go_must (refine (eqNfa_any _ _ _ _ ns _ hlen N67 N7.ops).mono ?_; rintro e w8 ⟨rfl, b8⟩)))
    all_goals
      have B7 := HB6.out.drew.trans (b7.mono HB6.out.size)
      have B8 := B7.trans (b8.mono B7.size)
      clear b7 b8 B7 N67 N7
      go_wp2
      go_ret
      exact ⟨rfl, B8⟩
  · rw [leftIs_neg hlen]
    go_wp2
    go_ret
    exact ⟨rfl, B1⟩

theorem own : ownKnob Try.prog.godebug = none := by kernel_rfl
theorem laidOut : laidOutB Try.prog = true := by kernel_rfl

set_option maxRecDepth 100000 in
theorem lifted (os : Os) (started : os.Started) (H : Type) (enc : TypeId × Value → H) :
    ReturnsInHanded {} Try.checked os 3 .any (Rows.fnExactNfaSoundSpec.pre6 enc Try.prog Try.f3 Rows.fnExactNfaSoundRow.domain false) (Rows.fnExactNfaSoundSpec.post enc Try.prog Try.f3 false true false false) := by
  refine returnsInHanded_of_change (C := Try.checked) own started (by kernel_rfl) Try.func3
    (ChangeSpec.witness6 (enc := enc) (C := Try.checked) false ⟨#[], #[.agg #[.slice none 0 0]], []⟩ 8 (by kernel_rfl) (by kernel_rfl) (by kernel_rfl) (by kernel_rfl)) ?_
  intro W base args ds gs before hval0 hW hcnd _
  have hval : ∀ (j : Nat) t v, Try.f3.params[j]? = some t → args[j]? = some v → Value.okWide Try.prog W .any base t v := hval0
  have hW' := hW
  obtain ⟨p, q, hA0, hV, rfl, hfz, hnd⟩ := hW
  have hA : DataW.TrodAll enc Try.prog W 0 (fun _ => true) true Try.f3.params.toList args.toList ds p := hA0
  rw [Try.params3] at hA hval
  obtain ⟨v0, vs0, d0, ds0, p0, q0, hargs, rfl, rfl, h0, r0⟩ := trodAll_cons hA
  obtain ⟨rfl, rfl, rfl⟩ := trodAll_nil r0
  obtain rfl : args = #[v0] := by cases args; simp_all
  obtain ⟨rfl, rfl⟩ := trodVars_none hV
  have k0 := h0
  have lt0 : ∀ x ∈ p0, x.block < W.heap.size := by obtain ⟨m, hm⟩ := k0; exact DataW.trod_lt m _ _ _ hm
  obtain ⟨A0, ns0, c0, rfl, n0, f0, l0, w0⟩ := open_nfa (hval 0 24 v0 rfl rfl) h0
  clear hA0 hval0
  refine (walk A0 c0 ns0 W n0 f0 l0 w0).mono fun e W' ⟨he, bel⟩ => ?_
  subst he
  exact ⟨_, rfl, _, _, _, [], _, [], hW', trodAll_mk1 (shut_bool Try.underlying4 _), (trodAll_cons_mk (Below.trod laidOut (by kernel_rfl) (of_decide_eq_true (by kernel_rfl)) k0 bel lt0) trodAll_mk0), rfl, bel.frame _, fun h => by cases h⟩

theorem over : Rows.fnExactNfaSoundRow.holds Try.pinned (OpenSpec.ofChange Rows.fnExactNfaSoundSpec) :=
  OpenClaim.holds_of_wide 3 Try.f3 rfl rfl rfl rfl rfl rfl rfl ⟨rfl, rfl, rfl, rfl, rfl⟩ rfl rfl rfl rfl rfl (by kernel_rfl) Try.func3 (by kernel_rfl)
    (of_decide_eq_true (by kernel_rfl)) (by unfold Func.isWrapper; first | (rw [if_pos (by decide +kernel)]; kernel_rfl) | (rw [if_neg (by decide +kernel)]; exact ⟨rfl, rfl⟩))
    (fun os started H enc _ => lifted os started H enc)

/-- The given statement. -/
theorem proved : Rows.FnExactNfaSoundSaid := over

end Go.Proofs.Ytikbinmddgmllaa.fnExactNfaSound
