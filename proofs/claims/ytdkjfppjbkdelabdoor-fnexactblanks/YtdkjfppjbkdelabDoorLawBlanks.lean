/- For every string, impl.Blanks answers as spec.Blanks does, and its answer owns its memory, behind another call too. No condition. -/
import Derived.Test.YtdkjfppjbkdelabDoorImplBlanks
import Derived.Test.YtdkjfppjbkdelabDoorLaid
namespace Go.Proofs.YtdkjfppjbkdelabDoor.fnExactBlanks
open Go.ChangeShapes Go.WideShapes Go.ChangeAt Go.RowKit Go.Shelf Wd
open Go.ChangeMaps (open_string shut_string)
set_option linter.unusedVariables false

theorem row_kept {w w' : World} {base B : Nat} {e : TypeId} {size n : Nat} {v : Value} {xs : List Value} (h : w.ownsRow base e size v n xs) (hb : Below B w w') (hB : w.heap.size ≤ B) : w'.ownsRow base e size v n xs :=
  h.kept (row := none) ⟨hb.os, hb.tape, hb.output, hb.size, fun k hk _ => hb.block k (by omega)⟩ (by cases hv : v.ownBlock <;> simp)

theorem rows_apart {w w' : World} {B e e' s s' n n' : Nat} {v v' : Value} {xs xs' : List Value} (h : w.ownsRow B e s v n xs) (h' : w'.ownsRow w.heap.size e' s' v' n' xs') : v.ownBlock = none ∨ v.ownBlock ≠ v'.ownBlock := by
  cases hv : v.ownBlock with
  | none => exact .inl rfl
  | some k =>
    refine .inr fun e0 => ?_
    have h1 := (h.lt k hv).2
    have h2 := own_block h' k e0.symm
    omega

theorem blanks_len (s : ByteArray) (hs : s.size ≤ 1048576) : ((blanksR s).map mkB).length ≤ 1048576 := by
  rw [List.length_map]
  cases h : (runesOf s).isSome with
  | false => rw [Wd.blanksR_no h]; simp
  | true =>
    have h1 := text_size h
    rw [Wd.blanksR_yes h]
    have h2 := Wd.wordsR_count s.data.toList []
    rw [Wd.size_list] at h2
    omega

set_option maxHeartbeats 1000000 in
set_option maxRecDepth 100000 in
theorem walk (s : ByteArray) (w : World) (hm : s.size ≤ maxLen) (hT : Tabs w) :
    Calls Tryd.prog 3 #[.string s] w fun e w' => e = .returned (.bool true) ∧ Below w.heap.size w w' := by
  unfold maxLen at hm
  by_cases hs : s.size ≤ 1048576
  · have cS := specBlanks s w hs
    have cI : ∀ W, Tabs W → Calls Tryd.prog 9 #[.string s] W (StrsAre ((blanksR s).map mkB) W) := fun W h => implBlanksC s W hs h
    have hl' := blanks_len s hs
    unfold StrsAre at cS cI
    generalize (blanksR s).map mkB = l at cS cI hl'
    go_enter Tryd.func3, Tryd.ntmps3
    go_wp2_with fail
    refine cS.mono ?_
    rintro e w1 ⟨v1, rfl, O1, B1⟩
    have z1 := B1.size
    obtain ⟨A1, c1, rfl⟩ := own_form O1
    have P1 := Lib.hid O1
    clear cS O1
    go_wp2_with fail
    refine (cI _ (hT.below B1)).mono ?_
    rintro e w2 ⟨v2, rfl, O2, b2⟩
    have z2 := b2.size
    obtain ⟨A2, c2, rfl⟩ := own_form O2
    have P12 := Lib.hid (row_kept P1.out b2 (Nat.le_refl _))
    have B2 : Below w.heap.size w w2 := B1.trans (b2.mono z1)
    have P2 := Lib.hid O2
    clear O2 B1 b2
    go_wp2_with fail
    refine (eqStrs_any _ _ _ _ l _ hl' (Strs.own P2.out) (Strs.own P12.out)).mono ?_
    rintro e w3 ⟨rfl, b3⟩
    have z3 := b3.size
    have P13 := Lib.hid (row_kept P12.out b3 (Nat.le_refl _))
    have P23 := Lib.hid (row_kept P2.out b3 (Nat.le_refl _))
    have B3 : Below w.heap.size w w3 := B2.trans (b3.mono B2.size)
    clear b3 B2
    go_wp2_with fail
    refine (markStrs_any w1.heap.size _ _ l _ hl' (by omega) P23.out).mono ?_
    rintro e w4 ⟨rfl, O24, g4⟩
    have z4 := g4.size
    have P24 := Lib.hid O24
    have P14 := Lib.hid (P13.out.kept g4 (rows_apart P1.out P23.out))
    have B4 : Below w.heap.size w w4 := B3.grown g4 (by omega) (fun k hk => by have := own_block P23.out k hk; omega)
    clear O24 g4 B3
    go_wp2_with fail
    refine (heldStrs_any _ _ l _ hl' (Strs.own P24.out)).mono ?_
    rintro e w5 ⟨rfl, b5⟩
    have z5 := b5.size
    have P15 := Lib.hid (row_kept P14.out b5 (Nat.le_refl _))
    have P25 := Lib.hid (row_kept P24.out b5 (Nat.le_refl _))
    have B5 : Below w.heap.size w w5 := B4.trans (b5.mono B4.size)
    clear b5 B4
    go_wp2_with fail
    refine (cI _ (hT.below B5)).mono ?_
    rintro e w6 ⟨v6, rfl, O6, b6⟩
    obtain ⟨A6, c6, rfl⟩ := own_form O6
    have z6 := b6.size
    have P16 := Lib.hid (row_kept P15.out b6 (Nat.le_refl _))
    have P26 := Lib.hid (row_kept P25.out b6 (Nat.le_refl _))
    have P6 := Lib.hid O6
    have B6 : Below w.heap.size w w6 := B5.trans (b6.mono B5.size)
    clear O6 b6 B5 cI hT
    go_wp2_with fail
    refine (eqStrs_any _ _ _ _ l _ hl' (Strs.own P6.out) (Strs.own P16.out)).mono ?_
    rintro e w7 ⟨rfl, b7⟩
    have P27 := Lib.hid (row_kept P26.out b7 (Nat.le_refl _))
    have B7 : Below w.heap.size w w7 := B6.trans (b7.mono B6.size)
    clear b7 B6
    go_wp2_with fail
    refine (heldStrs_any _ _ l _ hl' (Strs.own P27.out)).mono ?_
    rintro e w8 ⟨rfl, b8⟩
    have B8 : Below w.heap.size w w8 := B7.trans (b8.mono B7.size)
    clear b8 B7
    go_wp2
    go_ret
    exact ⟨rfl, B8⟩
  · clear hT
    go_enter Tryd.func3, Tryd.ntmps3
    go_wp2
    go_ret
    exact ⟨rfl, Below.refl _ _⟩

set_option maxRecDepth 100000
theorem witness_row (os : Os) {H : Type} (enc : TypeId × Value → H) :
    (OpenSpec.ofChange Rows.fnExactBlanksSpec).preRow enc Tryd.prog Tryd.f3 Rows.fnExactBlanksRow.domain false Rows.fnExactBlanksRow.laid ((laidWorld os).forCall (fun _ _ => 0) ⟨#[], #[.string ⟨#[]⟩], []⟩).memory #[.string ⟨#[]⟩] := by
  have hw : (DataW.whole enc Tryd.prog ((laidWorld os).forCall (fun _ _ => 0) ⟨#[], #[.string ⟨#[]⟩], []⟩).memory Tryd.f3.params.toList (OpenSpec.ofChange Rows.fnExactBlanksSpec).vars false (#[.string ⟨#[]⟩] : Array Value).toList 8).map (fun x => (x.1, x.2.1)) =
      some ([.lit (.string [])], []) := by kernel_rfl
  obtain ⟨⟨x1, x2, x3⟩, hx, hx1⟩ := Option.map_eq_some_iff.1 hw
  simp only [Prod.mk.injEq] at hx1
  obtain ⟨rfl, rfl⟩ := hx1
  exact OpenSpec.preRow_of_cond 8 hx (by kernel_rfl) (fun k hk => by cases hk) (by kernel_rfl) (laid_met os _)

set_option maxHeartbeats 2000000 in
theorem lifted (os : Os) (started : os.Started) (H : Type) (enc : TypeId × Value → H) (F : Stop.Interp) :
    ReturnsInHanded {} Tryd.checked os 3 .any ((OpenSpec.ofChange Rows.fnExactBlanksSpec).preRow enc Tryd.prog Tryd.f3 Rows.fnExactBlanksRow.domain false Rows.fnExactBlanksRow.laid) (((OpenSpec.ofChange Rows.fnExactBlanksSpec).at F).post enc Tryd.prog Tryd.f3 false true false false) := by
  refine returnsInHanded_of_row (C := Tryd.checked) (s := OpenSpec.ofChange Rows.fnExactBlanksSpec) own started (by kernel_rfl) Tryd.func3
    (witness_row_atRef (enc := enc) (C := Tryd.checked) false (laidWorld os) #[.string ⟨#[]⟩] rfl (by kernel_rfl) (by kernel_rfl) (by kernel_rfl) (witness_row os enc)) ?_
  intro W base args ds gs before hval0 hW _ _ _ hL _ _
  have hval : ∀ (j : Nat) t v, Tryd.f3.params[j]? = some t → args[j]? = some v → Value.okWide Tryd.prog W .any base t v := hval0
  have hW' := hW
  obtain ⟨p, q, hA0, hV0, rfl, _, _⟩ := hW
  have hA : DataW.TrodAll enc Tryd.prog W 0 (fun _ => true) true Tryd.f3.params.toList args.toList ds p := hA0
  rw [Tryd.params3] at hA hval
  obtain ⟨v0, vs0, d0, ds0, p0, q0, hargs, rfl, rfl, h0, r0⟩ := trodAll_cons hA
  obtain ⟨rfl, rfl, rfl⟩ := trodAll_nil r0
  obtain rfl : args = #[v0] := by cases args; simp_all
  obtain ⟨rfl, rfl⟩ := trodVars_none hV0
  obtain ⟨s0, rfl, rfl, rfl, w0⟩ := open_string Tryd.underlying9 (hval 0 9 v0 rfl rfl) h0
  clear hA0 hV0 hval0
  refine (walk s0 W w0 (tabs_of_laid hL)).mono ?_
  rintro e W' ⟨rfl, bel⟩
  exact ⟨_, rfl, _, _, _, [], _, [], hW', trodAll_mk1 (shut_bool Tryd.underlying4 _), (trodAll_cons_mk (shut_string Tryd.underlying9 w0) trodAll_mk0), rfl, bel.frame _, fun h => by cases h⟩

theorem over : Rows.FnExactBlanksSaid :=
  OpenClaim.holds_of_cond 3 Tryd.f3 rfl rfl rfl rfl rfl rfl rfl ⟨rfl, rfl, rfl, rfl, rfl⟩ rfl rfl rfl rfl rfl (by kernel_rfl) Tryd.func3 (by kernel_rfl)
    (of_decide_eq_true (by kernel_rfl)) (by unfold Func.isWrapper; rw [if_neg (of_decide_eq_false (by kernel_rfl))]; exact ⟨rfl, rfl⟩)
    (fun os started H enc _ F0 => by rw [OpenClaim.pre_eq_preRow]; exact lifted os started H enc F0)

/-- The given statement. -/
theorem proved : Rows.FnExactBlanksCardSaid :=
  Claim7.holds_tied_plain_at .later [] [.data, .pinned] true _ false
    over (fun _ h => by cases h) (by kernel_rfl) (fun _ h => by cases h) fnExactBlanks_row_tie rfl ⟨rfl, rfl⟩ (by kernel_rfl) rfl
    (fun f fn hf hfn => by
      obtain rfl : f = 3 := Option.some.inj ((show Tryd.prog.funcNamed Rows.fnExactBlanksRow.func = some 3 by kernel_rfl).symm.trans hf) |>.symm
      obtain rfl : fn = Tryd.f3 := (Option.some.inj (Tryd.func3.symm.trans hfn)).symm
      exact ⟨by kernel_rfl, fun j t ht => by
        rw [Tryd.params3] at ht
        rcases j with _ | j
        · obtain rfl : t = 9 := by simpa using ht.symm
          exact (show Tryd.prog.wantsStandIn 9 = false by kernel_rfl)
        · simp at ht⟩)
    (by kernel_rfl)

end Go.Proofs.YtdkjfppjbkdelabDoor.fnExactBlanks
