/- For every code: the text drawn from it is read back from its code points. No condition. -/
import Derived.Test.YtbdacfljdpdmiaaDoorOpen
import Derived.Test.YtbdacfljdpdmiaaDoorSpecOk
import Derived.Test.YtbdacfljdpdmiaaDoorImplText
import Derived.Test.YtbdacfljdpdmiaaDoorImplRunes
import Derived.Test.YtbdacfljdpdmiaaDoorLength
import Derived.Test.YtbdacfljdpdmiaaDoorLaid
namespace Go.Proofs.YtbdacfljdpdmiaaDoor.fnTextBack
open Go.ChangeShapes Go.WideShapes Go.ChangeAt Go.RowKit Go.Shelf
open Go.ChangeMaps (open_string shut_string)
set_option linter.unusedVariables false

theorem back {s : ByteArray} {l : List Int} (h : runesOf s = some l) : textGo [] l = some s.data.toList ∧ l.length ≤ 1000 := by
  obtain ⟨h1, h2, h3⟩ := text_cat h
  have hlen : s.data.toList.length = s.size := Array.length_toList
  have h4 : (cat l).length = s.size := by rw [h1, hlen]
  refine ⟨?_, by have := cat_length_ge l; omega⟩
  rw [textGo_cat l [] h2 (by simp; omega), h1]
  rfl

set_option maxHeartbeats 4000000 in
set_option maxRecDepth 100000 in
theorem walk (a : Option Addr) (len cap : Nat) (z : List Int) (w : World) (hR : IsRow .u8 w a len cap z) (hT : Tabs w) :
    Calls Tryd.prog 3 #[.slice a len cap] w fun e w' => e = .returned (.bool true) ∧ Below w.heap.size w w' := by
  obtain ⟨zs, rfl, hN, hZ⟩ := bytes_of_row hR
  clear hR
  by_cases hlen : zs.length ≤ 1048576
  · have cD := drawRunes_any a cap zs w hlen hN hZ
    clear hN hZ
    have cB := big_any a zs.length cap w hlen
    go_enter Tryd.func3, Tryd.ntmps3
    go_wp2_with fail
    refine cB.mono ?_
    rintro e w0 ⟨rfl, rfl⟩
    clear cB
    go_wp2_with fail
    refine cD.mono ?_
    rintro e w1 ⟨s, hs, rfl, B1⟩
    have hT1 := hT.below B1
    clear cD hT
    have hs1 : s.size ≤ 1048576 := by omega
    have cI := implRunes s w1 hs1 hT1
    have cS := fun W => specRunes s W hs1
    have cO : ∀ W, Tabs W → Calls Tryd.prog 18 #[.string s] W (BoolIs (runesOf s).isSome W) := fun W h => implTextOk s W hs1 h
    have cL : ∀ W, Tabs W → Calls Tryd.prog 19 #[.string s] W (LenIs s W) := fun W h => implLength s W hs1 h
    unfold IntsAre at cI cS
    unfold BoolIs at cO
    unfold LenIs at cL
    cases hr : runesOf s with
    | none =>
      rw [hr] at cI cS cO cL
      clear hr
      go_wp2_with fail
      refine cI.mono ?_
      rintro e w2 ⟨v2, rfl, O2, B2⟩
      obtain ⟨A2, c2, rfl⟩ := own_form O2
      have hT2 := hT1.below B2
      have D2 := B1.trans (B2.mono B1.size)
      clear cI O2 B2 hT1 B1
      go_wp2_with fail
      refine (cS _).mono ?_
      rintro e w3 ⟨v3, rfl, O3, B3⟩
      obtain ⟨A3, c3, rfl⟩ := own_form O3
      have hT3 := hT2.below B3
      have D3 := D2.trans (B3.mono D2.size)
      clear cS O3 B3 hT2 D2
      go_wp2_with fail
      refine (cO _ hT3).mono ?_
      rintro e w4 ⟨rfl, B4⟩
      have hT4 := hT3.below B4
      have D4 := D3.trans (B4.mono D3.size)
      clear cO B4 hT3 D3
      go_wp2_with fail
      refine (cL _ hT4).mono ?_
      rintro e w5 ⟨rfl, B5⟩
      have D5 := D4.trans (B5.mono D4.size)
      clear cL B5 hT4 D4
      go_wp2
      go_ret
      exact ⟨rfl, D5⟩
    | some l =>
      obtain ⟨hb, hl⟩ := back hr
      rw [hr] at cI cS cO cL
      have HB := Lib.hid hb
      clear hr hb
      go_wp2_with fail
      refine cI.mono ?_
      rintro e w2 ⟨v2, rfl, O2, B2⟩
      obtain ⟨A2, c2, rfl⟩ := own_form O2
      have N2 : Nums .i64 w2 w2.heap.size A2 l := Nums.own O2
      have hT2 := hT1.below B2
      have D2 := B1.trans (B2.mono B1.size)
      clear cI O2 B2 hT1 B1
      go_wp2_with fail
      refine (cS _).mono ?_
      rintro e w3 ⟨v3, rfl, O3, B3⟩
      obtain ⟨A3, c3, rfl⟩ := own_form O3
      have hT3 := hT2.below B3
      have N3 := (N2.below B3).up B3.size
      have D3 := D2.trans (B3.mono D2.size)
      clear cS O3 B3 hT2 D2 N2
      go_wp2_with fail
      refine (cO _ hT3).mono ?_
      rintro e w4 ⟨rfl, B4⟩
      have hT4 := hT3.below B4
      have N4 := (N3.below B4).up B4.size
      have D4 := D3.trans (B4.mono D3.size)
      clear cO B4 hT3 D3 N3
      go_wp2_with fail
      refine (implTextOf A2 c2 l _ (by omega) N4).mono ?_
      intro e w5 hE
      have hE' : e = .returned (.tuple #[.string s, .bool true]) ∧ Below w4.heap.size w4 w5 := by
        unfold TextIs at hE
        rw [HB.out] at hE
        exact hE
      obtain ⟨rfl, B5⟩ := hE'
      have hT5 := hT4.below B5
      have D5 := D4.trans (B5.mono D4.size)
      clear hE B5 hT4 D4 N4
      go_wp2_with fail
      refine (cL _ hT5).mono ?_
      rintro e w6 ⟨rfl, B6⟩
      have D6 := D5.trans (B6.mono D5.size)
      clear cL B6 hT5 D5
      have hlo : lenOf (some l) = (l.length : Int) := rfl
      go_wp2
      go_ret
      exact ⟨rfl, D6⟩
  · have cB := big_yes a zs.length cap w hlen
    clear hT hN hZ
    go_enter Tryd.func3, Tryd.ntmps3
    go_wp2_with fail
    refine cB.mono ?_
    rintro e w0 ⟨rfl, rfl⟩
    clear cB
    go_wp2
    go_ret
    exact ⟨rfl, Below.refl _ _⟩

set_option maxRecDepth 100000
theorem witness_row (os : Os) {H : Type} (enc : TypeId × Value → H) :
    (OpenSpec.ofChange Rows.fnTextBackSpec).preRow enc Tryd.prog Tryd.f3 Rows.fnTextBackRow.domain false Rows.fnTextBackRow.laid ((laidWorld os).forCall (fun _ _ => 0) ⟨#[], #[.slice none 0 0], []⟩).memory #[.slice none 0 0] := by
  have hw : (DataW.whole enc Tryd.prog ((laidWorld os).forCall (fun _ _ => 0) ⟨#[], #[.slice none 0 0], []⟩).memory Tryd.f3.params.toList (OpenSpec.ofChange Rows.fnTextBackSpec).vars false (#[.slice none 0 0] : Array Value).toList 8).map (fun x => (x.1, x.2.1)) =
      some ([.nil], []) := by kernel_rfl
  obtain ⟨⟨x1, x2, x3⟩, hx, hx1⟩ := Option.map_eq_some_iff.1 hw
  simp only [Prod.mk.injEq] at hx1
  obtain ⟨rfl, rfl⟩ := hx1
  exact OpenSpec.preRow_of_cond 8 hx (by kernel_rfl) (fun k hk => by cases hk) (by kernel_rfl) (laid_met os _)

set_option maxHeartbeats 2000000 in
theorem lifted (os : Os) (started : os.Started) (H : Type) (enc : TypeId × Value → H) (F : Stop.Interp) :
    ReturnsInHanded {} Tryd.checked os 3 .any ((OpenSpec.ofChange Rows.fnTextBackSpec).preRow enc Tryd.prog Tryd.f3 Rows.fnTextBackRow.domain false Rows.fnTextBackRow.laid) (((OpenSpec.ofChange Rows.fnTextBackSpec).at F).post enc Tryd.prog Tryd.f3 false true false false) := by
  refine returnsInHanded_of_row (C := Tryd.checked) (s := OpenSpec.ofChange Rows.fnTextBackSpec) own started (by kernel_rfl) Tryd.func3
    (witness_row_atRef (enc := enc) (C := Tryd.checked) false (laidWorld os) #[.slice none 0 0] rfl (by kernel_rfl) (by kernel_rfl) (by kernel_rfl) (witness_row os enc)) ?_
  intro W base args ds gs before hval0 hW _ _ _ hL _ _
  have hval : ∀ (j : Nat) t v, Tryd.f3.params[j]? = some t → args[j]? = some v → Value.okWide Tryd.prog W .any base t v := hval0
  have hW' := hW
  obtain ⟨p, q, hA0, hV0, rfl, _, _⟩ := hW
  have hA : DataW.TrodAll enc Tryd.prog W 0 (fun _ => true) true Tryd.f3.params.toList args.toList ds p := hA0
  rw [Tryd.params3] at hA hval
  obtain ⟨v0, vs0, d0, ds0, p0, q0, hargs, rfl, rfl, h0, r0⟩ := trodAll_cons hA
  obtain ⟨rfl, rfl, rfl⟩ := trodAll_nil r0
  obtain rfl : args = #[v0] := by cases args; simp_all
  obtain ⟨rfl, rfl⟩ := trodVars_none hV0
  obtain ⟨a0, len0, cap0, rfl⟩ := okWide_slice Tryd.underlying22 (hval 0 22 v0 rfl rfl)
  have k0 := h0
  have lt0 : ∀ x ∈ p0, x.block < W.heap.size := by obtain ⟨m, hm⟩ := k0; exact DataW.trod_lt m _ _ _ hm
  obtain ⟨z0, w0⟩ : ∃ zs, IsRow .u8 W a0 len0 cap0 zs := by
    obtain ⟨fuel, hf⟩ := h0
    rcases open_ints Tryd.underlying22 Tryd.underlying5 (by kernel_rfl) hf with ⟨hcs, _⟩ | ⟨x, l, c, zs, hcs, _, hl, hm, hz, _, hcell, hwz⟩
    · simp [Value.cells] at hcs
      obtain ⟨rfl, rfl, rfl⟩ := hcs
      exact ⟨[], .inl ⟨rfl, rfl, rfl, rfl⟩⟩
    · simp [Value.cells] at hcs
      obtain ⟨rfl, rfl, rfl⟩ := hcs
      exact ⟨zs, .inr ⟨_, rfl, hl, hm, by simpa using hz, hcell, hwz⟩⟩
  clear hA0 hV0 hval0
  refine (walk a0 len0 cap0 z0 W w0 (tabs_of_laid hL)).mono ?_
  rintro e W' ⟨rfl, bel⟩
  exact ⟨_, rfl, _, _, _, [], _, [], hW', trodAll_mk1 (shut_bool Tryd.underlying4 _), (trodAll_cons_mk (Below.trod laidOut (by kernel_rfl) (of_decide_eq_true (by kernel_rfl)) k0 bel lt0) trodAll_mk0), rfl, bel.frame _, fun h => by cases h⟩

theorem over : Rows.FnTextBackSaid :=
  OpenClaim.holds_of_cond 3 Tryd.f3 rfl rfl rfl rfl rfl rfl rfl ⟨rfl, rfl, rfl, rfl, rfl⟩ rfl rfl rfl rfl rfl (by kernel_rfl) Tryd.func3 (by kernel_rfl)
    (of_decide_eq_true (by kernel_rfl)) (by unfold Func.isWrapper; rw [if_neg (of_decide_eq_false (by kernel_rfl))]; exact ⟨rfl, rfl⟩)
    (fun os started H enc _ F0 => by rw [OpenClaim.pre_eq_preRow]; exact lifted os started H enc F0)

/-- The given statement. -/
theorem proved : Rows.FnTextBackCardSaid :=
  Claim7.holds_tied_plain_at .later [] [.data, .pinned] true _ false
    over (fun _ h => by cases h) (by kernel_rfl) (fun _ h => by cases h) fnTextBack_row_tie rfl ⟨rfl, rfl⟩ (by kernel_rfl) rfl
    (fun f fn hf hfn => by
      obtain rfl : f = 3 := Option.some.inj ((show Tryd.prog.funcNamed Rows.fnTextBackRow.func = some 3 by kernel_rfl).symm.trans hf) |>.symm
      obtain rfl : fn = Tryd.f3 := (Option.some.inj (Tryd.func3.symm.trans hfn)).symm
      exact ⟨by kernel_rfl, fun j t ht => by
        rw [Tryd.params3] at ht
        rcases j with _ | j
        · obtain rfl : t = 22 := by simpa using ht.symm
          exact (show Tryd.prog.wantsStandIn 22 = false by kernel_rfl)
        · simp at ht⟩)
    (by kernel_rfl)

end Go.Proofs.YtbdacfljdpdmiaaDoor.fnTextBack
