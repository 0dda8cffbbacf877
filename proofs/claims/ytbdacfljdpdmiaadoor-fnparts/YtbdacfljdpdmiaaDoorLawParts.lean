/- For every two codes: the text drawn from the one is its first code points, as many as the other says, and what is behind them. No condition. -/
import Derived.Test.YtbdacfljdpdmiaaDoorOpen
import Derived.Test.YtbdacfljdpdmiaaDoorSpecOk
import Derived.Test.YtbdacfljdpdmiaaDoorLawPick
import Derived.Test.YtbdacfljdpdmiaaDoorPartsMath
import Derived.Test.YtbdacfljdpdmiaaDoorImplPart
import Derived.Test.YtbdacfljdpdmiaaDoorLength
import Derived.Test.YtbdacfljdpdmiaaDoorLaid
namespace Go.Proofs.YtbdacfljdpdmiaaDoor.fnParts
open Go.ChangeShapes Go.WideShapes Go.ChangeAt Go.RowKit Go.Shelf
open Go.ChangeMaps (open_string shut_string)
set_option linter.unusedVariables false

theorem first_length {s : ByteArray} {l : List Int} (h : runesOf s = some l) (n : Nat) : lenOf (runesOf ⟨(partOf s 1 n).toArray⟩) = if (n : Int) < (l.length : Int) then (n : Int) else (l.length : Int) := by
  rw [first_runes h n]
  show ((l.take n).length : Int) = _
  rw [List.length_take]
  split <;> omega

set_option maxHeartbeats 4000000 in
set_option maxRecDepth 100000 in
theorem walk (a : Option Addr) (len cap : Nat) (z : List Int) (a' : Option Addr) (len' cap' : Nat) (z' : List Int) (w : World) (hR : IsRow .u8 w a len cap z) (hR' : IsRow .u8 w a' len' cap' z') (hT : Tabs w) :
    Calls Tryd.prog 4 #[.slice a len cap, .slice a' len' cap'] w fun e w' => e = .returned (.bool true) ∧ Below w.heap.size w w' := by
  obtain ⟨zs, rfl, hN, hZ⟩ := bytes_of_row hR
  obtain ⟨ys, rfl, hN', hZ'⟩ := bytes_of_row hR'
  clear hR hR'
  by_cases hlen : zs.length ≤ 1048576
  · have cB := big_any a zs.length cap w hlen
    by_cases hlen' : ys.length ≤ 1048576
    · have cD := drawRunes_any a cap zs w hlen hN hZ
      have cB' := big_any a' ys.length cap' w hlen'
      have HN := Lib.hid hN'
      have HZ := Lib.hid hZ'
      clear hN hZ hN' hZ'
      go_enter Tryd.func4, Tryd.ntmps4
      go_wp2_with fail
      refine cB.mono ?_
      rintro e w0 ⟨rfl, rfl⟩
      clear cB
      go_wp2_with fail
      refine cB'.mono ?_
      rintro e w0' ⟨rfl, rfl⟩
      clear cB'
      go_wp2_with fail
      refine cD.mono ?_
      rintro e w1 ⟨s, hs, rfl, B1⟩
      have hT1 := hT.below B1
      have z1 := B1.size
      clear cD hT
      have hs1 : s.size ≤ 1048576 := by omega
      have cO := specTextOkD s w1 hs1
      have cP : ∀ (f k : Int) W, Tabs W → 0 ≤ f → f ≤ 100000 → 0 ≤ k → k ≤ 100000 → Calls Tryd.prog 22 #[.string s, .int .i64 f, .int .i64 k] W (StrIs (partOf s f k) W) := fun f k W h h1 h2 h3 h4 => implPart s f k W hs1 h (by omega) (by omega) (by omega) (by omega)
      unfold BoolIs at cO
      unfold StrIs at cP
      cases hr : runesOf s with
      | none =>
        have cP1 := fun W h => cP 1 1000 W h (by omega) (by omega) (by omega) (by omega)
        rw [part_none hr] at cP1
        rw [hr] at cO
        clear hr cP
        go_wp2_with fail
        refine cO.mono ?_
        rintro e w2 ⟨rfl, B2⟩
        have hT2 := hT1.below B2
        have D2 := B1.trans (B2.mono B1.size)
        clear cO B2 hT1 B1
        go_wp2_with fail
        refine (cP1 _ hT2).mono ?_
        rintro e w3 ⟨rfl, B3⟩
        have D3 := D2.trans (B3.mono D2.size)
        clear cP1 B3 hT2 D2
        go_wp2
        go_ret
        exact ⟨rfl, D3⟩
      | some l =>
        have hl := text_length hr
        have cL := fun W => specLength s W hs1
        unfold LenIs at cL
        have HR := Lib.hid hr
        rw [hr] at cO cL
        have hlo : lenOf (some l) = (l.length : Int) := rfl
        rw [hlo] at cL
        clear hr hlo
        go_wp2_with fail
        refine cO.mono ?_
        rintro e w2 ⟨rfl, B2⟩
        have hT2 := hT1.below B2
        have D2 := B1.trans (B2.mono B1.size)
        clear cO B2 hT1 B1
        go_wp2_with fail
        refine (lawPick_any a' cap' ys _ hlen' ((HN.out.below D2).up D2.size) HZ.out).mono ?_
        rintro e w3 ⟨n, hn, rfl, B3⟩
        have hT3 := hT2.below B3
        have D3 := D2.trans (B3.mono D2.size)
        clear B3 hT2 D2 HN HZ
        have hab := parts_back HR.out n
        have hfl := first_length HR.out n
        have hps := part_size s 1 n
        have cP1 := fun W h => cP 1 n W h (by omega) (by omega) (by omega) (by omega)
        have cP2 := fun W h => cP ((n : Int) + 1) 1000 W h (by omega) (by omega) (by omega) (by omega)
        have cA : ∀ W, Tabs W → Calls Tryd.prog 19 #[.string ⟨(partOf s 1 n).toArray⟩] W (LenIs ⟨(partOf s 1 n).toArray⟩ W) := fun W h => implLength _ W (show (partOf s 1 n).length ≤ _ by omega) h
        unfold LenIs at cA
        rw [hfl] at cA
        have hsx : (⟨(partOf s 1 n).toArray⟩ : ByteArray).size ≤ 3000 := show (partOf s 1 n).length ≤ _ by omega
        have hps' := part_size s ((n : Int) + 1) 1000
        have hsy : (⟨(partOf s ((n : Int) + 1) 1000).toArray⟩ : ByteArray).size ≤ 3000 := show (partOf s ((n : Int) + 1) 1000).length ≤ _ by omega
        clear hfl hps hps' cP HR
        generalize (⟨(partOf s 1 n).toArray⟩ : ByteArray) = x at hab cP1 cA hsx
        generalize (⟨(partOf s ((n : Int) + 1) 1000).toArray⟩ : ByteArray) = y at hab cP2 hsy
        go_wp2_with fail
        refine (cP1 _ hT3).mono ?_
        rintro e w4 ⟨rfl, B4⟩
        have hT4 := hT3.below B4
        have D4 := D3.trans (B4.mono D3.size)
        clear cP1 B4 hT3 D3
        go_wp2_with fail
        refine (cP2 _ hT4).mono ?_
        rintro e w5 ⟨rfl, B5⟩
        have hT5 := hT4.below B5
        have D5 := D4.trans (B5.mono D4.size)
        clear cP2 B5 hT4 D4
        go_wp2_with fail
        refine (cL _).mono ?_
        rintro e w6 ⟨rfl, B6⟩
        have hT6 := hT5.below B6
        have D6 := D5.trans (B6.mono D5.size)
        clear cL B6 hT5 D5
        by_cases hk : (n : Int) < (l.length : Int)
        · rw [if_pos hk] at cA
          go_wp2_with fail
          refine (cA _ hT6).mono ?_
          rintro e w7 ⟨rfl, B7⟩
          have D7 := D6.trans (B7.mono D6.size)
          clear cA B7 hT6 D6
          go_wp2
          go_ret
          exact ⟨rfl, D7⟩
        · rw [if_neg hk] at cA
          go_wp2_with fail
          refine (cA _ hT6).mono ?_
          rintro e w7 ⟨rfl, B7⟩
          have D7 := D6.trans (B7.mono D6.size)
          clear cA B7 hT6 D6
          go_wp2
          go_ret
          exact ⟨rfl, D7⟩
    · have cB' := big_yes a' ys.length cap' w hlen'
      clear hT hN hZ hN' hZ'
      go_enter Tryd.func4, Tryd.ntmps4
      go_wp2_with fail
      refine cB.mono ?_
      rintro e w0 ⟨rfl, rfl⟩
      clear cB
      go_wp2_with fail
      refine cB'.mono ?_
      rintro e w0' ⟨rfl, rfl⟩
      clear cB'
      go_wp2
      go_ret
      exact ⟨rfl, Below.refl _ _⟩
  · have cB := big_yes a zs.length cap w hlen
    clear hT hN hZ hN' hZ'
    go_enter Tryd.func4, Tryd.ntmps4
    go_wp2_with fail
    refine cB.mono ?_
    rintro e w0 ⟨rfl, rfl⟩
    clear cB
    go_wp2
    go_ret
    exact ⟨rfl, Below.refl _ _⟩

set_option maxRecDepth 100000
theorem witness_row (os : Os) {H : Type} (enc : TypeId × Value → H) :
    (OpenSpec.ofChange Rows.fnPartsSpec).preRow enc Tryd.prog Tryd.f4 Rows.fnPartsRow.domain false Rows.fnPartsRow.laid ((laidWorld os).forCall (fun _ _ => 0) ⟨#[], #[.slice none 0 0, .slice none 0 0], []⟩).memory #[.slice none 0 0, .slice none 0 0] := by
  have hw : (DataW.whole enc Tryd.prog ((laidWorld os).forCall (fun _ _ => 0) ⟨#[], #[.slice none 0 0, .slice none 0 0], []⟩).memory Tryd.f4.params.toList (OpenSpec.ofChange Rows.fnPartsSpec).vars false (#[.slice none 0 0, .slice none 0 0] : Array Value).toList 8).map (fun x => (x.1, x.2.1)) =
      some ([.nil, .nil], []) := by kernel_rfl
  obtain ⟨⟨x1, x2, x3⟩, hx, hx1⟩ := Option.map_eq_some_iff.1 hw
  simp only [Prod.mk.injEq] at hx1
  obtain ⟨rfl, rfl⟩ := hx1
  exact OpenSpec.preRow_of_cond 8 hx (by kernel_rfl) (fun k hk => by cases hk) (by kernel_rfl) (laid_met os _)

set_option maxHeartbeats 2000000 in
theorem lifted (os : Os) (started : os.Started) (H : Type) (enc : TypeId × Value → H) (F : Stop.Interp) :
    ReturnsInHanded {} Tryd.checked os 4 .any ((OpenSpec.ofChange Rows.fnPartsSpec).preRow enc Tryd.prog Tryd.f4 Rows.fnPartsRow.domain false Rows.fnPartsRow.laid) (((OpenSpec.ofChange Rows.fnPartsSpec).at F).post enc Tryd.prog Tryd.f4 false true false false) := by
  refine returnsInHanded_of_row (C := Tryd.checked) (s := OpenSpec.ofChange Rows.fnPartsSpec) own started (by kernel_rfl) Tryd.func4
    (witness_row_atRef (enc := enc) (C := Tryd.checked) false (laidWorld os) #[.slice none 0 0, .slice none 0 0] rfl (by kernel_rfl) (by kernel_rfl) (by kernel_rfl) (witness_row os enc)) ?_
  intro W base args ds gs before hval0 hW _ _ _ hL _ _
  have hval : ∀ (j : Nat) t v, Tryd.f4.params[j]? = some t → args[j]? = some v → Value.okWide Tryd.prog W .any base t v := hval0
  have hW' := hW
  obtain ⟨p, q, hA0, hV0, rfl, _, _⟩ := hW
  have hA : DataW.TrodAll enc Tryd.prog W 0 (fun _ => true) true Tryd.f4.params.toList args.toList ds p := hA0
  rw [Tryd.params4] at hA hval
  obtain ⟨v0, vs0, d0, ds0, p0, q0, hargs, rfl, rfl, h0, r0⟩ := trodAll_cons hA
  obtain ⟨v1, vs1, d1, ds1, p1, q1, rfl, rfl, rfl, h1, r1⟩ := trodAll_cons r0
  obtain ⟨rfl, rfl, rfl⟩ := trodAll_nil r1
  obtain rfl : args = #[v0, v1] := by cases args; simp_all
  obtain ⟨rfl, rfl⟩ := trodVars_none hV0
  obtain ⟨a0, len0, cap0, rfl⟩ := okWide_slice Tryd.underlying22 (hval 0 22 v0 rfl rfl)
  have k0 := h0
  have lt0 : ∀ x ∈ p0, x.block < W.heap.size := by obtain ⟨m, hm⟩ := k0; exact DataW.trod_lt m _ _ _ hm
  obtain ⟨z0, w0⟩ : ∃ zs, IsRow .u8 W a0 len0 cap0 zs := by
    obtain ⟨fuel, hf⟩ := h0
    rcases open_ints Tryd.underlying22 Tryd.underlying5 (by kernel_rfl) hf with ⟨hcs, _⟩ | ⟨x, l, c, zs, hcs, _, hl, hm, hz, _, hcell, hwz⟩
    · simp [Value.cells] at hcs
      obtain ⟨rfl, rfl, rfl⟩ := hcs
      exact ⟨[], .inl ⟨rfl, rfl, rfl, rfl⟩⟩
    · simp [Value.cells] at hcs
      obtain ⟨rfl, rfl, rfl⟩ := hcs
      exact ⟨zs, .inr ⟨_, rfl, hl, hm, by simpa using hz, hcell, hwz⟩⟩
  obtain ⟨a1, len1, cap1, rfl⟩ := okWide_slice Tryd.underlying22 (hval 1 22 v1 rfl rfl)
  have k1 := h1
  have lt1 : ∀ x ∈ p1, x.block < W.heap.size := by obtain ⟨m, hm⟩ := k1; exact DataW.trod_lt m _ _ _ hm
  obtain ⟨z1, w1⟩ : ∃ zs, IsRow .u8 W a1 len1 cap1 zs := by
    obtain ⟨fuel, hf⟩ := h1
    rcases open_ints Tryd.underlying22 Tryd.underlying5 (by kernel_rfl) hf with ⟨hcs, _⟩ | ⟨x, l, c, zs, hcs, _, hl, hm, hz, _, hcell, hwz⟩
    · simp [Value.cells] at hcs
      obtain ⟨rfl, rfl, rfl⟩ := hcs
      exact ⟨[], .inl ⟨rfl, rfl, rfl, rfl⟩⟩
    · simp [Value.cells] at hcs
      obtain ⟨rfl, rfl, rfl⟩ := hcs
      exact ⟨zs, .inr ⟨_, rfl, hl, hm, by simpa using hz, hcell, hwz⟩⟩
  clear hA0 hV0 hval0
  refine (walk a0 len0 cap0 z0 a1 len1 cap1 z1 W w0 w1 (tabs_of_laid hL)).mono ?_
  rintro e W' ⟨rfl, bel⟩
  exact ⟨_, rfl, _, _, _, [], _, [], hW', trodAll_mk1 (shut_bool Tryd.underlying4 _), (trodAll_cons_mk (Below.trod laidOut (by kernel_rfl) (of_decide_eq_true (by kernel_rfl)) k0 bel lt0) (trodAll_cons_mk (Below.trod laidOut (by kernel_rfl) (of_decide_eq_true (by kernel_rfl)) k1 bel lt1) trodAll_mk0)), rfl, bel.frame _, fun h => by cases h⟩

theorem over : Rows.FnPartsSaid :=
  OpenClaim.holds_of_cond 4 Tryd.f4 rfl rfl rfl rfl rfl rfl rfl ⟨rfl, rfl, rfl, rfl, rfl⟩ rfl rfl rfl rfl rfl (by kernel_rfl) Tryd.func4 (by kernel_rfl)
    (of_decide_eq_true (by kernel_rfl)) (by unfold Func.isWrapper; rw [if_neg (of_decide_eq_false (by kernel_rfl))]; exact ⟨rfl, rfl⟩)
    (fun os started H enc _ F0 => by rw [OpenClaim.pre_eq_preRow]; exact lifted os started H enc F0)

/-- The given statement. -/
theorem proved : Rows.FnPartsCardSaid :=
  Claim7.holds_tied_plain_at .later [] [.data, .pinned] true _ false
    over (fun _ h => by cases h) (by kernel_rfl) (fun _ h => by cases h) fnParts_row_tie rfl ⟨rfl, rfl⟩ (by kernel_rfl) rfl
    (fun f fn hf hfn => by
      obtain rfl : f = 4 := Option.some.inj ((show Tryd.prog.funcNamed Rows.fnPartsRow.func = some 4 by kernel_rfl).symm.trans hf) |>.symm
      obtain rfl : fn = Tryd.f4 := (Option.some.inj (Tryd.func4.symm.trans hfn)).symm
      exact ⟨by kernel_rfl, fun j t ht => by
        rw [Tryd.params4] at ht
        rcases j with _ | j
        · obtain rfl : t = 22 := by simpa using ht.symm
          exact (show Tryd.prog.wantsStandIn 22 = false by kernel_rfl)
        · skip
          rcases j with _ | j
          · obtain rfl : t = 22 := by simpa using ht.symm
            exact (show Tryd.prog.wantsStandIn 22 = false by kernel_rfl)
          · simp at ht⟩)
    (by kernel_rfl)

end Go.Proofs.YtbdacfljdpdmiaaDoor.fnParts
