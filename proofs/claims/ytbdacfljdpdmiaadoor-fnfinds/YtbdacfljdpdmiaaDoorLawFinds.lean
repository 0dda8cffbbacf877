/- For every code: of the two texts drawn from it, where the second is found it stands, and nowhere ahead; where it is not found it stands nowhere. No condition. -/
import Derived.Test.YtbdacfljdpdmiaaDoorDrawFind
import Derived.Test.YtbdacfljdpdmiaaDoorSpecOk
import Derived.Test.YtbdacfljdpdmiaaDoorImplFind
import Derived.Test.YtbdacfljdpdmiaaDoorLength
import Derived.Test.YtbdacfljdpdmiaaDoorLaid
namespace Go.Proofs.YtbdacfljdpdmiaaDoor.fnFinds
open Go.ChangeShapes Go.WideShapes Go.ChangeAt Go.RowKit Go.Shelf
open Go.ChangeMaps (open_string shut_string)
set_option linter.unusedVariables false

theorem found {s t : ByteArray} {a b : List Int} (hs : runesOf s = some a) (ht : runesOf t = some b) (hb : b ≠ []) : findOf s t ≤ a.length ∧
    ∀ i : Nat, i < a.length → ((⟨(partOf s ((i : Int) + 1) (b.length : Int)).toArray⟩ : ByteArray) = t → findOf s t ≠ 0 ∧ findOf s t ≤ i + 1) ∧ ((⟨(partOf s ((i : Int) + 1) (b.length : Int)).toArray⟩ : ByteArray) ≠ t → findOf s t ≠ i + 1) := by
  have hf : findOf s t = findL a b := by unfold findOf; rw [hs, ht]; simp only; rw [if_neg hb]
  rw [hf]
  rcases findL_cases a b with ⟨h0, hn⟩ | ⟨j, hj, he, hp, hn⟩
  · refine ⟨by omega, fun i hi => ⟨fun h => ?_, fun _ => by omega⟩⟩
    exact absurd ((part_stands hs ht i).1 h) (hn i hi)
  · refine ⟨by omega, fun i hi => ⟨fun h => ?_, fun h e => ?_⟩⟩
    · have h1 := (part_stands hs ht i).1 h
      refine ⟨by omega, ?_⟩
      rw [he]
      rcases Nat.lt_or_ge i j with h2 | h2
      · exact absurd h1 (hn i h2)
      · omega
    · obtain rfl : i = j := by omega
      exact h ((part_stands hs ht i).2 hp)

set_option maxHeartbeats 4000000 in
set_option maxRecDepth 100000 in
theorem walk (a : Option Addr) (len cap : Nat) (z : List Int) (w : World) (hR : IsRow .u8 w a len cap z) (hT : Tabs w) :
    Calls Tryd.prog 5 #[.slice a len cap] w fun e w' => e = .returned (.bool true) ∧ Below w.heap.size w w' := by
  obtain ⟨zs, rfl, hN, hZ⟩ := bytes_of_row hR
  clear hR
  by_cases hlen : zs.length ≤ 1048576
  · have cB := big_any a zs.length cap w hlen
    have cD := drawFind_any a cap zs w hlen hN hZ
    clear hN hZ
    go_enter Tryd.func5, Tryd.ntmps5
    go_wp2_with fail
    refine cB.mono ?_
    rintro e w0 ⟨rfl, rfl⟩
    clear cB
    go_wp2_with fail
    refine cD.mono ?_
    rintro e w1 ⟨s, t, hs, ht, rfl, B1⟩
    have hT1 := hT.below B1
    have z1 := B1.size
    clear cD hT
    have hs1 : s.size ≤ 1048576 := by omega
    have ht1 : t.size ≤ 1048576 := by omega
    have cF := implFind s t w1 hs1 ht1 hT1
    have cO := fun W => specTextOkD s W hs1
    have cU := fun W => specTextOkD t W ht1
    unfold BoolIs at cO cU
    unfold NatIs at cF
    clear hT1
    go_wp2_with fail
    refine cF.mono ?_
    rintro e w2 ⟨rfl, B2⟩
    have D2 := B1.trans (B2.mono B1.size)
    clear cF B2 B1
    cases hr : runesOf s with
    | none =>
      have hf : findOf s t = 0 := by unfold findOf; rw [hr]
      rw [hr] at cO
      rw [hf]
      clear hr cU hf
      go_wp2_with fail
      refine (cO _).mono ?_
      rintro e w3 ⟨rfl, B3⟩
      have D3 := D2.trans (B3.mono D2.size)
      clear cO B3 D2
      go_wp2
      go_ret
      exact ⟨rfl, D3⟩
    | some a0 =>
      have hf0 : runesOf t = none → findOf s t = 0 := fun h => by unfold findOf; rw [hr, h]
      have HR := Lib.hid hr
      rw [hr] at cO
      clear hr
      go_wp2_with fail
      refine (cO _).mono ?_
      rintro e w3 ⟨rfl, B3⟩
      have D3 := D2.trans (B3.mono D2.size)
      clear cO B3 D2
      cases hu : runesOf t with
      | none =>
        rw [hf0 hu]
        rw [hu] at cU
        clear hu hf0
        go_wp2_with fail
        refine (cU _).mono ?_
        rintro e w4 ⟨rfl, B4⟩
        have D4 := D3.trans (B4.mono D3.size)
        clear cU B4 D3
        go_wp2
        go_ret
        exact ⟨rfl, D4⟩
      | some b0 =>
        have HU := Lib.hid hu
        rw [hu] at cU
        clear hu hf0
        go_wp2_with fail
        refine (cU _).mono ?_
        rintro e w4 ⟨rfl, B4⟩
        have D4 := D3.trans (B4.mono D3.size)
        clear cU B4 D3
        by_cases hb : b0 = []
        · have hf : findOf s t = 0 := by unfold findOf; rw [HR.out, HU.out]; simp only; rw [if_pos hb]
          have h0 := (text_empty HU.out).2 hb
          obtain rfl : t = ⟨#[]⟩ := ByteArray.ext (Array.eq_empty_of_size_eq_zero h0)
          rw [hf]
          clear hf h0 HU
          go_wp2
          go_ret
          exact ⟨rfl, D4⟩
        · have hF := found HR.out HU.out hb
          have h0 : t.size ≠ 0 := fun h => hb ((text_empty HU.out).1 h)
          have hla := text_length HR.out
          have hlb := text_length HU.out
          have cL := fun W => specLength s W hs1
          have cM := fun W => specLength t W ht1
          unfold LenIs at cL cM
          rw [HR.out] at cL
          rw [HU.out] at cM
          have hlo : ∀ l, lenOf (some l) = (l.length : Int) := fun _ => rfl
          rw [hlo] at cL cM
          have hb1 : 1 ≤ b0.length := by cases b0 with | nil => exact absurd rfl hb | cons _ _ => simp
          have cP : ∀ (f : Int) W, 0 ≤ f → f ≤ 100000 → Calls Tryd.prog 27 #[.string s, .int .i64 f, .int .i64 b0.length] W (StrIs (partOf s f b0.length) W) := fun f W h1 h2 => specPart s f b0.length W hs1 (by omega) (by omega) (by omega) (by omega)
          unfold StrIs at cP
          clear hlo hb HR HU
          generalize findOf s t = F at hF
          obtain ⟨hF1, hF2⟩ := hF
          have HF := Lib.hid hF2
          clear hF2
          have ht0 : t.toList.isEmpty = false := by rw [ByteArray.toList_eq]; cases hd : t.data.toList with | nil => exact absurd (by rw [← Array.length_toList, hd]; rfl : t.data.size = 0) h0 | cons _ _ => rfl
          go_wp2_with fail
          refine (cM _).mono ?_
          rintro e w5 ⟨rfl, B5⟩
          have D5 := D4.trans (B5.mono D4.size)
          clear cM B5 D4
          go_wp2_with fail
          go_loopw [7] (fun i wr => ∃ q : Nat, q ≤ a0.length ∧ i = .int .i64 (q + 1) ∧ Below w0.heap.size w0 wr) (fun i _ => a0.length + 1 - (intOf i).toNat)
          case atStart => exact ⟨0, Nat.zero_le _, rfl, D5⟩
          case round =>
            obtain ⟨q, hq, rfl, hbel⟩ := hrel
            clear D5
            go_wp2_with fail
            refine (cL _).mono ?_
            rintro e w6 ⟨rfl, B6⟩
            have D6 := hbel.trans (B6.mono hbel.size)
            clear B6 hbel
            by_cases hlt : q < a0.length
            · have hlt1 : (q : Int) + 1 ≤ (a0.length : Int) := by omega
              have hF := HF.out q hlt
              have cP1 := fun W => cP ((q : Int) + 1) W (by omega) (by omega)
              generalize (⟨(partOf s ((q : Int) + 1) (b0.length : Int)).toArray⟩ : ByteArray) = y at hF cP1
              go_wp2_with fail
              refine (cP1 _).mono ?_
              rintro e w7 ⟨rfl, B7⟩
              have D7 := D6.trans (B7.mono D6.size)
              clear B7 D6 cP1
              by_cases hy : y = t
              · obtain ⟨f0, f1⟩ := hF.1 hy
                subst hy
                clear hF
                have e0 : ((F : Int) == 0) = false := beq_eq_false_iff_ne.2 (by omega)
                have e1 : ¬ ((q : Int) + 1 < (F : Int)) := by omega
                obtain ⟨E, hE⟩ : ∃ E : Bool, ((q : Int) + 1 == (F : Int)) = E := ⟨_, rfl⟩
                cases E
                all_goals
                  go_wp2
                  go_roundw
                  case rel => exact ⟨q + 1, hlt, by go_num, D7⟩
                  case measure => simp [intOf]; omega
              · have f0 := hF.2 hy
                clear hF
                have e2 : ((q : Int) + 1 == (F : Int)) = false := beq_eq_false_iff_ne.2 (by omega)
                have e3 : ¬ y.toList = t.toList := fun h => hy (ByteArray.ext (Array.ext' (by rw [← ByteArray.toList_eq, ← ByteArray.toList_eq]; exact h)))
                go_wp2
                go_roundw
                case rel => exact ⟨q + 1, hlt, by go_num, D7⟩
                case measure => simp [intOf]; omega
            · have hlt1 : ¬ (q : Int) + 1 ≤ (a0.length : Int) := by omega
              go_wp2_with fail
              refine (cL _).mono ?_
              rintro e w7 ⟨rfl, B7⟩
              have D7 := D6.trans (B7.mono D6.size)
              clear B7 D6
              have hF3 : (F : Int) ≤ (a0.length : Int) := by omega
              go_wp2
              go_ret
              exact ⟨rfl, D7⟩
  · have cB := big_yes a zs.length cap w hlen
    clear hT hN hZ
    go_enter Tryd.func5, Tryd.ntmps5
    go_wp2_with fail
    refine cB.mono ?_
    rintro e w0 ⟨rfl, rfl⟩
    clear cB
    go_wp2
    go_ret
    exact ⟨rfl, Below.refl _ _⟩

set_option maxRecDepth 100000
theorem witness_row (os : Os) {H : Type} (enc : TypeId × Value → H) :
    (OpenSpec.ofChange Rows.fnFindsSpec).preRow enc Tryd.prog Tryd.f5 Rows.fnFindsRow.domain false Rows.fnFindsRow.laid ((laidWorld os).forCall (fun _ _ => 0) ⟨#[], #[.slice none 0 0], []⟩).memory #[.slice none 0 0] := by
  have hw : (DataW.whole enc Tryd.prog ((laidWorld os).forCall (fun _ _ => 0) ⟨#[], #[.slice none 0 0], []⟩).memory Tryd.f5.params.toList (OpenSpec.ofChange Rows.fnFindsSpec).vars false (#[.slice none 0 0] : Array Value).toList 8).map (fun x => (x.1, x.2.1)) =
      some ([.nil], []) := by kernel_rfl
  obtain ⟨⟨x1, x2, x3⟩, hx, hx1⟩ := Option.map_eq_some_iff.1 hw
  simp only [Prod.mk.injEq] at hx1
  obtain ⟨rfl, rfl⟩ := hx1
  exact OpenSpec.preRow_of_cond 8 hx (by kernel_rfl) (fun k hk => by cases hk) (by kernel_rfl) (laid_met os _)

set_option maxHeartbeats 2000000 in
theorem lifted (os : Os) (started : os.Started) (H : Type) (enc : TypeId × Value → H) (F : Stop.Interp) :
    ReturnsInHanded {} Tryd.checked os 5 .any ((OpenSpec.ofChange Rows.fnFindsSpec).preRow enc Tryd.prog Tryd.f5 Rows.fnFindsRow.domain false Rows.fnFindsRow.laid) (((OpenSpec.ofChange Rows.fnFindsSpec).at F).post enc Tryd.prog Tryd.f5 false true false false) := by
  refine returnsInHanded_of_row (C := Tryd.checked) (s := OpenSpec.ofChange Rows.fnFindsSpec) own started (by kernel_rfl) Tryd.func5
    (witness_row_atRef (enc := enc) (C := Tryd.checked) false (laidWorld os) #[.slice none 0 0] rfl (by kernel_rfl) (by kernel_rfl) (by kernel_rfl) (witness_row os enc)) ?_
  intro W base args ds gs before hval0 hW _ _ _ hL _ _
  have hval : ∀ (j : Nat) t v, Tryd.f5.params[j]? = some t → args[j]? = some v → Value.okWide Tryd.prog W .any base t v := hval0
  have hW' := hW
  obtain ⟨p, q, hA0, hV0, rfl, _, _⟩ := hW
  have hA : DataW.TrodAll enc Tryd.prog W 0 (fun _ => true) true Tryd.f5.params.toList args.toList ds p := hA0
  rw [Tryd.params5] at hA hval
  obtain ⟨v0, vs0, d0, ds0, p0, q0, hargs, rfl, rfl, h0, r0⟩ := trodAll_cons hA
  obtain ⟨rfl, rfl, rfl⟩ := trodAll_nil r0
  obtain rfl : args = #[v0] := by cases args; simp_all
  obtain ⟨rfl, rfl⟩ := trodVars_none hV0
  obtain ⟨a0, len0, cap0, rfl⟩ := okWide_slice Tryd.underlying22 (hval 0 22 v0 rfl rfl)
  have k0 := h0
  have lt0 : ∀ x ∈ p0, x.block < W.heap.size := by obtain ⟨m, hm⟩ := k0; exact DataW.trod_lt m _ _ _ hm
  obtain ⟨z0, w0⟩ : ∃ zs, IsRow .u8 W a0 len0 cap0 zs := by
    obtain ⟨fuel, hf⟩ := h0
    rcases open_ints Tryd.underlying22 Tryd.underlying5 (by kernel_rfl) hf with ⟨hcs, _⟩ | ⟨x, l, c, zs, hcs, _, hl, hm, hz, _, hcell, hwz⟩
    · simp [Value.cells] at hcs
      obtain ⟨rfl, rfl, rfl⟩ := hcs
      exact ⟨[], .inl ⟨rfl, rfl, rfl, rfl⟩⟩
    · simp [Value.cells] at hcs
      obtain ⟨rfl, rfl, rfl⟩ := hcs
      exact ⟨zs, .inr ⟨_, rfl, hl, hm, by simpa using hz, hcell, hwz⟩⟩
  clear hA0 hV0 hval0
  refine (walk a0 len0 cap0 z0 W w0 (tabs_of_laid hL)).mono ?_
  rintro e W' ⟨rfl, bel⟩
  exact ⟨_, rfl, _, _, _, [], _, [], hW', trodAll_mk1 (shut_bool Tryd.underlying4 _), (trodAll_cons_mk (Below.trod laidOut (by kernel_rfl) (of_decide_eq_true (by kernel_rfl)) k0 bel lt0) trodAll_mk0), rfl, bel.frame _, fun h => by cases h⟩

theorem over : Rows.FnFindsSaid :=
  OpenClaim.holds_of_cond 5 Tryd.f5 rfl rfl rfl rfl rfl rfl rfl ⟨rfl, rfl, rfl, rfl, rfl⟩ rfl rfl rfl rfl rfl (by kernel_rfl) Tryd.func5 (by kernel_rfl)
    (of_decide_eq_true (by kernel_rfl)) (by unfold Func.isWrapper; rw [if_neg (of_decide_eq_false (by kernel_rfl))]; exact ⟨rfl, rfl⟩)
    (fun os started H enc _ F0 => by rw [OpenClaim.pre_eq_preRow]; exact lifted os started H enc F0)

/-- The given statement. -/
theorem proved : Rows.FnFindsCardSaid :=
  Claim7.holds_tied_plain_at .later [] [.data, .pinned] true _ false
    over (fun _ h => by cases h) (by kernel_rfl) (fun _ h => by cases h) fnFinds_row_tie rfl ⟨rfl, rfl⟩ (by kernel_rfl) rfl
    (fun f fn hf hfn => by
      obtain rfl : f = 5 := Option.some.inj ((show Tryd.prog.funcNamed Rows.fnFindsRow.func = some 5 by kernel_rfl).symm.trans hf) |>.symm
      obtain rfl : fn = Tryd.f5 := (Option.some.inj (Tryd.func5.symm.trans hfn)).symm
      exact ⟨by kernel_rfl, fun j t ht => by
        rw [Tryd.params5] at ht
        rcases j with _ | j
        · obtain rfl : t = 22 := by simpa using ht.symm
          exact (show Tryd.prog.wantsStandIn 22 = false by kernel_rfl)
        · simp at ht⟩)
    (by kernel_rfl)

end Go.Proofs.YtbdacfljdpdmiaaDoor.fnFinds
