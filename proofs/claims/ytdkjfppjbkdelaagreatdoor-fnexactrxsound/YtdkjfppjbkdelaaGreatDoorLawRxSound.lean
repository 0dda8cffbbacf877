/- For every pattern, impl.RxSound answers as spec.RxSound does and leaves it as it was. No condition. -/
import Derived.Test.YtdkjfppjbkdelaaGreatDoorRxT6
import Derived.Test.YtdkjfppjbkdelaaGreatDoorLaidS
import Derived.Test.YtdkjfppjbkdelaaGreatDoorOpenRx
import Derived.WalkKit
import Derived.Deep.DeepMust
import Derived.ProofKit
import Derived.OpenShut
import Derived.ShutString
import Derived.ChangeOld
import Derived.ChangeMaps5
import Derived.Below
namespace Go.Proofs.YtdkjfppjbkdelaaGreatDoor.fnExactRxSound
open Go.ChangeShapes Go.WideShapes Go.ChangeAt Go.RowKit Go.Shelf Snd
open Go.ChangeMaps (open_string shut_string)
set_option linter.unusedVariables false

theorem wf_i64 {n : Int} (h : (Lit.int .i64 n).wf = true) : I64 n := by
  have h1 : (-9223372036854775808 ≤ n ∧ n ≤ 9223372036854775807) := by simpa [Lit.wf, IntKind.min, IntKind.max, IntKind.signed, IntKind.bits] using h
  exact h1

set_option maxHeartbeats 2000000 in
set_option maxRecDepth 100000 in
theorem walk (A : Option Addr) (c : Nat) (ns : List Nd) (w : World) (hN : Nodes w w.heap.size A ns) (hF : Fits ns) (hl : ns.length ≤ maxLen) (hw : ∀ n ∈ ns, n.wf) (hT : TabLow w w.heap.size ∧ Tabs w) :
    Calls Tryz.prog 7 #[.agg #[.slice A ns.length c]] w fun e w' => e = .returned (.bool true) ∧ Below w.heap.size w w' := by
  have b0 : Below w.heap.size w (w.alloc (.cells #[.slice A ns.length c] 62)) := (Below.refl _ _).alloc (Nat.le_refl _) _
  have cZ := szRx_any A c ns _ ((hN.below b0).up b0.size) hF hl
  have box : ∀ W, Below (w.heap.size + 1) (w.alloc (.cells #[.slice A ns.length c] 62)) W → W.cell? ⟨w.heap.size, 0, none⟩ = some (.slice A ns.length c) ∧ Below w.heap.size w W := fun W h => by
    refine ⟨?_, b0.trans (h.mono (by omega))⟩
    rw [h.cell (p := ⟨w.heap.size, 0, none⟩) (by simp), cell_of_row _ _ _ _ _ _ (heap_alloc_new w _)]
    rfl
  have HN := Lib.hid hN
  have HI : Hid (∀ n ∈ ns, I64 n.lo ∧ I64 n.hi) := fun n hn => ⟨wf_i64 (hw n hn).2.1, wf_i64 (hw n hn).2.2.1⟩
  have HT := Lib.hid hT
  clear hN hF hl hw hT
  go_enter Tryz.func7, Tryz.ntmps7
  go_wp2_with fail
  refine cZ.mono ?_
  rintro e w1 ⟨rfl, b1⟩
  clear cZ
  have b1' : Below (w.heap.size + 1) (w.alloc (.cells #[.slice A ns.length c] 62)) w1 := b1.mono (by simp)
  have b1s := b1'.size
  rw [alloc_size1] at b1s
  obtain ⟨x1, B1⟩ := box _ b1'
  clear b1
  by_cases hlen : ns.length + bulks ns ≤ 1048576
  · rw [leftIs_pos hlen]
    have hneg : ¬ ((1048576 - (ns.length + bulks ns) : Nat) : Int) < 0 := by omega
    have toR : ∀ W, Below w.heap.size w W → Calls Tryz.prog 41 #[.agg #[.slice A ns.length c]] W _ := fun W h => toRx_any A c ns W hlen ((HN.out.below h).up h.size)
    go_wp2_with fail
    refine (toR _ B1).mono ?_
    rintro e w2 ⟨A2, c2, rfl, N2, b2⟩
    have b2' := b1'.trans (b2.mono b1s)
    have b2s := b2'.size
    rw [alloc_size1] at b2s
    obtain ⟨x2, B2⟩ := box _ b2'
    clear b2 x1 B1 b1' b1s
    go_wp2_with fail
    refine (specSoundC A2 c2 ns _ hlen N2.nodes HI.out).mono ?_
    rintro e w3 ⟨rfl, b3⟩
    have b3' := b2'.trans (b3.mono b2s)
    have b3s := b3'.size
    rw [alloc_size1] at b3s
    obtain ⟨x3, B3⟩ := box _ b3'
    clear b3 x2 B2 N2 b2' b2s
    go_wp2_with fail
    refine (toR _ B3).mono ?_
    rintro e w4 ⟨A4, c4, rfl, N4, b4⟩
    have b4' := b3'.trans (b4.mono b3s)
    have b4s := b4'.size
    rw [alloc_size1] at b4s
    have b5' := b4'.alloc b4s (.cells #[.slice A4 ns.length c4] 27)
    have b5s := b5'.size
    rw [alloc_size1] at b5s
    obtain ⟨x5, B5⟩ := box _ b5'
    have a5 := (Below.refl w4.heap.size w4).alloc (Nat.le_refl _) (.cells #[.slice A4 ns.length c4] 27)
    have N5 := (N4.nodes.below a5).up a5.size
    have y5 := cell_of_row _ _ 0 _ _ _ (heap_alloc_new w4 (.cells #[.slice A4 ns.length c4] 27))
    have HX5 := Lib.hid x5
    have HB5 := Lib.hid B5
    have HN5 := Lib.hid N5
    have H5 := Lib.hid b5'
    clear b4 x3 B3 N4 b3' b3s b4' x5 B5 N5 a5 y5 b5'
    go_wp2_with fail
    refine (implSoundC A4 c4 ns _ hlen HN5.out HI.out ⟨(HT.out.1.below HB5.out).1, Nat.lt_of_lt_of_le HT.out.1.2 HB5.out.size⟩ (HT.out.2.below HB5.out)).mono ?_
    rintro e w6 ⟨rfl, b6⟩
    have b6' := H5.out.trans (b6.mono (by rw [alloc_size1]; omega))
    have b6s := b6'.size
    rw [alloc_size1] at b6s
    obtain ⟨x6, B6⟩ := box _ b6'
    have N6 := (HN5.out.below b6).up b6.size
    have y6 : w6.cell? ⟨w4.heap.size, 0, none⟩ = some (.slice A4 ns.length c4) := by
      rw [b6.cell (p := ⟨w4.heap.size, 0, none⟩) (by simp), cell_of_row _ _ _ _ _ _ (heap_alloc_new w4 _)]
      rfl
    have z6 : w4.heap.size < w6.heap.size := by have := b6.size; rw [alloc_size1] at this; omega
    have HN6 := Lib.hid N6
    have HB6 := Lib.hid B6
    have cT := toR w6.drew HB6.out.drew
    have keep : ∀ W, Below w6.drew.heap.size w6.drew W → Nodes W W.heap.size A4 ns ∧ W.cell? ⟨w4.heap.size, 0, none⟩ = some (.slice A4 ns.length c4) := fun W h => ⟨((HN6.out.below (Below.refl _ _).drew).below h).up h.size, (h.cell (p := ⟨w4.heap.size, 0, none⟩) z6).trans y6⟩
    clear HX5 HB5 HN5 H5 b6 N6 B6 b6' b6s toR
    go_wp2
    go_region_with (first | (go_at_call 41; go_must (refine cT.mono ?_; rintro e w7 ⟨A7, c7, rfl, N7, b7⟩; obtain ⟨N67, y7⟩ := keep _ b7)) | (go_at_call 42; go_must (refine (eqRx_any _ _ _ _ ns _ hlen N67 N7.nodes).mono ?_; rintro e w8 ⟨rfl, b8⟩)))
    all_goals
      have B7 := HB6.out.drew.trans (b7.mono HB6.out.size)
      have B8 := B7.trans (b8.mono B7.size)
      clear b7 b8 B7 N67 N7
      go_wp2
      go_ret
      exact ⟨rfl, B8⟩
  · rw [leftIs_neg hlen]
    go_wp2
    go_ret
    exact ⟨rfl, B1⟩

set_option maxRecDepth 100000
theorem witness_row (os : Os) {H : Type} (enc : TypeId × Value → H) :
    (OpenSpec.ofChange Rows.fnExactRxSoundSpec).preRow enc Tryz.prog Tryz.f7 Rows.fnExactRxSoundRow.domain false Rows.fnExactRxSoundRow.laid ((laidWorldS os).forCall (fun _ _ => 0) ⟨#[], #[.agg #[.slice none 0 0]], []⟩).memory #[.agg #[.slice none 0 0]] := by
  have hw : (DataW.whole enc Tryz.prog ((laidWorldS os).forCall (fun _ _ => 0) ⟨#[], #[.agg #[.slice none 0 0]], []⟩).memory Tryz.f7.params.toList (OpenSpec.ofChange Rows.fnExactRxSoundSpec).vars false (#[.agg #[.slice none 0 0]] : Array Value).toList 8).map (fun x => (x.1, x.2.1)) =
      some ([.agg [.nil]], []) := by kernel_rfl
  obtain ⟨⟨x1, x2, x3⟩, hx, hx1⟩ := Option.map_eq_some_iff.1 hw
  simp only [Prod.mk.injEq] at hx1
  obtain ⟨rfl, rfl⟩ := hx1
  exact OpenSpec.preRow_of_cond 8 hx (by kernel_rfl) (fun k hk => by cases hk) (by kernel_rfl) (laid_metS os _)

set_option maxHeartbeats 2000000 in
theorem lifted (os : Os) (started : os.Started) (H : Type) (enc : TypeId × Value → H) (F : Stop.Interp) :
    ReturnsInHanded {} Tryz.checked os 7 .any ((OpenSpec.ofChange Rows.fnExactRxSoundSpec).preRow enc Tryz.prog Tryz.f7 Rows.fnExactRxSoundRow.domain false Rows.fnExactRxSoundRow.laid) (((OpenSpec.ofChange Rows.fnExactRxSoundSpec).at F).post enc Tryz.prog Tryz.f7 false true false false) := by
  refine returnsInHanded_of_row (C := Tryz.checked) (s := OpenSpec.ofChange Rows.fnExactRxSoundSpec) own started (by kernel_rfl) Tryz.func7
    (witness_row_atRef (enc := enc) (C := Tryz.checked) false (laidWorldS os) #[.agg #[.slice none 0 0]] rfl (by kernel_rfl) (by kernel_rfl) (by kernel_rfl) (witness_row os enc)) ?_
  intro W base args ds gs before hval0 hW _ _ _ hL _ _
  have hval : ∀ (j : Nat) t v, Tryz.f7.params[j]? = some t → args[j]? = some v → Value.okWide Tryz.prog W .any base t v := hval0
  have hW' := hW
  obtain ⟨p, q, hA0, hV0, rfl, _, _⟩ := hW
  have hA : DataW.TrodAll enc Tryz.prog W 0 (fun _ => true) true Tryz.f7.params.toList args.toList ds p := hA0
  rw [Tryz.params7] at hA hval
  obtain ⟨v0, vs0, d0, ds0, p0, q0, hargs, rfl, rfl, h0, r0⟩ := trodAll_cons hA
  obtain ⟨rfl, rfl, rfl⟩ := trodAll_nil r0
  obtain rfl : args = #[v0] := by cases args; simp_all
  obtain ⟨rfl, rfl⟩ := trodVars_none hV0
  have k0 := h0
  have lt0 : ∀ x ∈ p0, x.block < W.heap.size := by obtain ⟨m, hm⟩ := k0; exact DataW.trod_lt m _ _ _ hm
  obtain ⟨A0, ns0, c0, rfl, n0, f0, l0, w0⟩ := open_rx (hval 0 62 v0 rfl rfl) h0
  clear hA0 hV0 hval0
  refine (walk A0 c0 ns0 W n0 f0 l0 w0 (tab_of_laidS hL)).mono ?_
  rintro e W' ⟨rfl, bel⟩
  exact ⟨_, rfl, _, _, _, [], _, [], hW', trodAll_mk1 (shut_bool Tryz.underlying4 _), (trodAll_cons_mk (Below.trod laidOut (by kernel_rfl) (of_decide_eq_true (by kernel_rfl)) k0 bel lt0) trodAll_mk0), rfl, bel.frame _, fun h => by cases h⟩

theorem over : Rows.FnExactRxSoundSaid :=
  OpenClaim.holds_of_cond 7 Tryz.f7 rfl rfl rfl rfl rfl rfl rfl ⟨rfl, rfl, rfl, rfl, rfl⟩ rfl rfl rfl rfl rfl (by kernel_rfl) Tryz.func7 (by kernel_rfl)
    (of_decide_eq_true (by kernel_rfl)) (by unfold Func.isWrapper; rw [if_neg (of_decide_eq_false (by kernel_rfl))]; exact ⟨rfl, rfl⟩)
    (fun os started H enc _ F0 => by rw [OpenClaim.pre_eq_preRow]; exact lifted os started H enc F0)

/-- The given statement. -/
theorem proved : Rows.FnExactRxSoundCardSaid :=
  Claim7.holds_tied_plain_at .later [] [.data, .data, .data, .data, .pinned] true _ true
    over (fun _ h => by cases h) (by kernel_rfl) (fun _ h => by cases h) fnExactRxSound_row_tie rfl ⟨rfl, rfl⟩ (by kernel_rfl) rfl
    (fun f fn hf hfn => by
      obtain rfl : f = 7 := Option.some.inj ((show Tryz.prog.funcNamed Rows.fnExactRxSoundRow.func = some 7 by kernel_rfl).symm.trans hf) |>.symm
      obtain rfl : fn = Tryz.f7 := (Option.some.inj (Tryz.func7.symm.trans hfn)).symm
      exact ⟨by kernel_rfl, fun j t ht => by
        rw [Tryz.params7] at ht
        rcases j with _ | j
        · obtain rfl : t = 62 := by simpa using ht.symm
          exact (show Tryz.prog.wantsStandIn 62 = false by kernel_rfl)
        · simp at ht⟩)
    (by kernel_rfl)

end Go.Proofs.YtdkjfppjbkdelaaGreatDoor.fnExactRxSound
