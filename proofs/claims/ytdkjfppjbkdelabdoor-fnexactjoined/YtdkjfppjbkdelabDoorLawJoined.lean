/- For every list of strings and every separator, impl.Joined answers as spec.Joined does and leaves the list as it was. No condition. -/
import Derived.Test.YtdkjfppjbkdelabDoorImplJoin
import Derived.Test.YtdkjfppjbkdelabDoorStrTo
import Derived.Test.YtdkjfppjbkdelabDoorOpenStrs
import Derived.Test.YtdkjfppjbkdelabDoorLaid
namespace Go.Proofs.YtdkjfppjbkdelabDoor.fnExactJoined
open Go.ChangeShapes Go.WideShapes Go.ChangeAt Go.RowKit Go.Shelf
open Go.ChangeMaps (open_string shut_string)
set_option linter.unusedVariables false

theorem sizes_one {xs : List ByteArray} {x : ByteArray} (h : x ∈ xs) : x.size ≤ sizesS xs := by
  obtain ⟨k, hk, rfl⟩ := List.mem_iff_getElem.1 h
  have h1 := sizesS_take hk
  have h2 := sizesS_le xs (k + 1)
  omega

set_option maxHeartbeats 4000000 in
set_option maxRecDepth 100000 in
theorem walk (A : Option Addr) (c : Nat) (xs : List ByteArray) (sep : ByteArray) (w : World) (hN : Strs w w.heap.size A xs) (hl : xs.length ≤ maxLen) (hF : ∀ x ∈ xs, x.size ≤ maxLen) (hm : sep.size ≤ maxLen) (hT : Tabs w) :
    Calls Tryd.prog 5 #[.slice A xs.length c, .string sep] w fun e w' => e = .returned (.bool true) ∧ Below w.heap.size w w' := by
  unfold maxLen at hm
  by_cases hs : sep.size ≤ 1048576
  · have cZ := szStrs_any A c xs w hN hF hl
    by_cases hb : xs.length + sizesS xs ≤ 1048576
    · have hlen : xs.length ≤ 1048576 := by omega
      have hsz : ∀ x ∈ xs, x.size ≤ 1048576 := fun x hx => by have := sizes_one hx; omega
      obtain ⟨L, hL⟩ : ∃ L : Nat, leftS (xs.length + sizesS xs) = (L : Int) := ⟨_, by unfold leftS; rw [if_pos hb]⟩
      rw [hL] at cZ
      have cTo : ∀ W, Below w.heap.size w W → Calls Tryd.prog 17 #[.slice A xs.length c] W _ := fun W h => toStrs_any A c xs W hlen ((hN.below h).up h.size)
      have hLn : ¬ (L : Int) < 0 := by omega
      have HLn := Lib.hid hlen
      have HT := Lib.hid hT
      have HTo := Lib.hid cTo
      clear hN hF hl hT hL cTo hb
      go_enter Tryd.func5, Tryd.ntmps5
      go_wp2_with fail
      refine cZ.mono ?_
      rintro e w1 ⟨rfl, b1⟩
      clear cZ
      go_wp2_with fail
      refine (HTo.out w1 b1).mono ?_
      rintro e w2 ⟨rfl, ho2, b2⟩
      have B2 := b1.trans (b2.mono b1.size)
      go_wp2_with fail
      refine (specJoined _ _ xs sep w2 hlen hsz hs (Strs.own ho2)).mono ?_
      rintro e w3 ⟨rfl, b3⟩
      have B3 := B2.trans (b3.mono B2.size)
      clear b1 b2 b3 ho2 B2
      go_wp2_with fail
      refine (HTo.out w3 B3).mono ?_
      rintro e w4 ⟨rfl, ho4, b4⟩
      have B4 := B3.trans (b4.mono B3.size)
      have HN4 := Lib.hid (Strs.own ho4)
      clear b4 B3 ho4
      go_wp2_with fail
      refine (implJoined _ _ xs sep w4 hlen hsz hs HN4.out (HT.out.below B4)).mono ?_
      rintro e w5 ⟨rfl, b5⟩
      have B5 := B4.trans (b5.mono B4.size)
      have HN5 := Lib.hid ((HN4.out.below b5).up b5.size)
      clear b5 B4 hsz
      generalize (joinR sep xs).isSome = f
      generalize (joinR sep xs).getD [] = t
      obtain ⟨y, hy⟩ : ∃ y : ByteArray, (⟨t.toArray⟩ : ByteArray) = y := ⟨_, rfl⟩
      rw [hy]
      clear hy
      have HB5 := Lib.hid B5
      have hz5 := B5.size
      have cTe := HTo.out w5 B5
      clear B5 hlen
      cases f
      all_goals
        go_wp2_with (first
          | (go_at_call 17; go_must (refine cTe.mono ?_; rintro e w6 ⟨rfl, ho6, b6⟩; have cE := eqStrs_any _ _ xs.length xs.length xs w6 HLn.out ((HN5.out.below b6).up b6.size) (Strs.own ho6); have B6 := HB5.out.trans (b6.mono hz5); clear ho6 b6 cTe))
          | (go_at_call 10; refine cE.mono ?_; rintro e w7 ⟨rfl, b7⟩; clear cE))
        go_ret
        exact ⟨rfl, B6.trans (b7.mono B6.size)⟩
    · have hL : leftS (xs.length + sizesS xs) = -1 := by unfold leftS; rw [if_neg hb]
      rw [hL] at cZ
      clear hN hF hl hT hL hb
      go_enter Tryd.func5, Tryd.ntmps5
      go_wp2_with fail
      refine cZ.mono ?_
      rintro e w1 ⟨rfl, b1⟩
      go_wp2
      go_ret
      exact ⟨rfl, b1⟩
  · clear hT hN hF hl
    go_enter Tryd.func5, Tryd.ntmps5
    go_wp2
    go_ret
    exact ⟨rfl, Below.refl _ _⟩

set_option maxRecDepth 100000
theorem witness_row (os : Os) {H : Type} (enc : TypeId × Value → H) :
    (OpenSpec.ofChange Rows.fnExactJoinedSpec).preRow enc Tryd.prog Tryd.f5 Rows.fnExactJoinedRow.domain false Rows.fnExactJoinedRow.laid ((laidWorld os).forCall (fun _ _ => 0) ⟨#[], #[.slice none 0 0, .string ⟨#[]⟩], []⟩).memory #[.slice none 0 0, .string ⟨#[]⟩] := by
  have hw : (DataW.whole enc Tryd.prog ((laidWorld os).forCall (fun _ _ => 0) ⟨#[], #[.slice none 0 0, .string ⟨#[]⟩], []⟩).memory Tryd.f5.params.toList (OpenSpec.ofChange Rows.fnExactJoinedSpec).vars false (#[.slice none 0 0, .string ⟨#[]⟩] : Array Value).toList 8).map (fun x => (x.1, x.2.1)) =
      some ([.nil, .lit (.string [])], []) := by kernel_rfl
  obtain ⟨⟨x1, x2, x3⟩, hx, hx1⟩ := Option.map_eq_some_iff.1 hw
  simp only [Prod.mk.injEq] at hx1
  obtain ⟨rfl, rfl⟩ := hx1
  exact OpenSpec.preRow_of_cond 8 hx (by kernel_rfl) (fun k hk => by cases hk) (by kernel_rfl) (laid_met os _)

set_option maxHeartbeats 2000000 in
theorem lifted (os : Os) (started : os.Started) (H : Type) (enc : TypeId × Value → H) (F : Stop.Interp) :
    ReturnsInHanded {} Tryd.checked os 5 .any ((OpenSpec.ofChange Rows.fnExactJoinedSpec).preRow enc Tryd.prog Tryd.f5 Rows.fnExactJoinedRow.domain false Rows.fnExactJoinedRow.laid) (((OpenSpec.ofChange Rows.fnExactJoinedSpec).at F).post enc Tryd.prog Tryd.f5 false true false false) := by
  refine returnsInHanded_of_row (C := Tryd.checked) (s := OpenSpec.ofChange Rows.fnExactJoinedSpec) own started (by kernel_rfl) Tryd.func5
    (witness_row_atRef (enc := enc) (C := Tryd.checked) false (laidWorld os) #[.slice none 0 0, .string ⟨#[]⟩] rfl (by kernel_rfl) (by kernel_rfl) (by kernel_rfl) (witness_row os enc)) ?_
  intro W base args ds gs before hval0 hW _ _ _ hL _ _
  have hval : ∀ (j : Nat) t v, Tryd.f5.params[j]? = some t → args[j]? = some v → Value.okWide Tryd.prog W .any base t v := hval0
  have hW' := hW
  obtain ⟨p, q, hA0, hV0, rfl, _, _⟩ := hW
  have hA : DataW.TrodAll enc Tryd.prog W 0 (fun _ => true) true Tryd.f5.params.toList args.toList ds p := hA0
  rw [Tryd.params5] at hA hval
  obtain ⟨v0, vs0, d0, ds0, p0, q0, hargs, rfl, rfl, h0, r0⟩ := trodAll_cons hA
  obtain ⟨v1, vs1, d1, ds1, p1, q1, rfl, rfl, rfl, h1, r1⟩ := trodAll_cons r0
  obtain ⟨rfl, rfl, rfl⟩ := trodAll_nil r1
  obtain rfl : args = #[v0, v1] := by cases args; simp_all
  obtain ⟨rfl, rfl⟩ := trodVars_none hV0
  obtain ⟨a0, len0, cap0, rfl⟩ := okWide_slice Tryd.underlying22 (hval 0 22 v0 rfl rfl)
  have k0 := h0
  have lt0 : ∀ x ∈ p0, x.block < W.heap.size := by obtain ⟨m, hm⟩ := k0; exact DataW.trod_lt m _ _ _ hm
  obtain ⟨z0, rfl, w0, l0, f0⟩ := open_strsV h0
  obtain ⟨s1, rfl, rfl, rfl, w1⟩ := open_string Tryd.underlying9 (hval 1 9 v1 rfl rfl) h1
  clear hA0 hV0 hval0
  refine (walk a0 cap0 z0 s1 W w0 l0 f0 w1 (tabs_of_laid hL)).mono ?_
  rintro e W' ⟨rfl, bel⟩
  exact ⟨_, rfl, _, _, _, [], _, [], hW', trodAll_mk1 (shut_bool Tryd.underlying4 _), (trodAll_cons_mk (Below.trod laidOut (by kernel_rfl) (of_decide_eq_true (by kernel_rfl)) k0 bel lt0) (trodAll_cons_mk (shut_string Tryd.underlying9 w1) trodAll_mk0)), rfl, bel.frame _, fun h => by cases h⟩

theorem over : Rows.FnExactJoinedSaid :=
  OpenClaim.holds_of_cond 5 Tryd.f5 rfl rfl rfl rfl rfl rfl rfl ⟨rfl, rfl, rfl, rfl, rfl⟩ rfl rfl rfl rfl rfl (by kernel_rfl) Tryd.func5 (by kernel_rfl)
    (of_decide_eq_true (by kernel_rfl)) (by unfold Func.isWrapper; rw [if_neg (of_decide_eq_false (by kernel_rfl))]; exact ⟨rfl, rfl⟩)
    (fun os started H enc _ F0 => by rw [OpenClaim.pre_eq_preRow]; exact lifted os started H enc F0)

/-- The given statement. -/
theorem proved : Rows.FnExactJoinedCardSaid :=
  Claim7.holds_tied_plain_at .later [] [.data, .pinned] true _ false
    over (fun _ h => by cases h) (by kernel_rfl) (fun _ h => by cases h) fnExactJoined_row_tie rfl ⟨rfl, rfl⟩ (by kernel_rfl) rfl
    (fun f fn hf hfn => by
      obtain rfl : f = 5 := Option.some.inj ((show Tryd.prog.funcNamed Rows.fnExactJoinedRow.func = some 5 by kernel_rfl).symm.trans hf) |>.symm
      obtain rfl : fn = Tryd.f5 := (Option.some.inj (Tryd.func5.symm.trans hfn)).symm
      exact ⟨by kernel_rfl, fun j t ht => by
        rw [Tryd.params5] at ht
        rcases j with _ | j
        · obtain rfl : t = 22 := by simpa using ht.symm
          exact (show Tryd.prog.wantsStandIn 22 = false by kernel_rfl)
        · skip
          rcases j with _ | j
          · obtain rfl : t = 9 := by simpa using ht.symm
            exact (show Tryd.prog.wantsStandIn 9 = false by kernel_rfl)
          · simp at ht⟩)
    (by kernel_rfl)

end Go.Proofs.YtdkjfppjbkdelabDoor.fnExactJoined
