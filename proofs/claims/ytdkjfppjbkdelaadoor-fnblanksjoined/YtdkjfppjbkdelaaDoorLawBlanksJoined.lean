/- For every code: the words of the text drawn from it, joined by blanks, have the same words. No condition. -/
import Derived.Test.YtdkjfppjbkdelaaDoorDrawLine
import Derived.Test.YtdkjfppjbkdelaaDoorSpecOk
import Derived.Test.YtdkjfppjbkdelaaDoorSameTexts
import Derived.Test.YtdkjfppjbkdelaaDoorImplBlanks
import Derived.Test.YtdkjfppjbkdelaaDoorImplJoin
import Derived.Test.YtdkjfppjbkdelaaDoorWordText
import Derived.Test.YtdkjfppjbkdelaaDoorLaid
namespace Go.Proofs.YtdkjfppjbkdelaaDoor.fnBlanksJoined
open Go.ChangeShapes Go.WideShapes Go.ChangeAt Go.RowKit Go.Shelf Wd
open Go.ChangeMaps (open_string shut_string)
set_option linter.unusedVariables false

theorem row_kept {w w' : World} {base B : Nat} {e : TypeId} {size n : Nat} {v : Value} {xs : List Value} (h : w.ownsRow base e size v n xs) (hb : Below B w w') (hB : w.heap.size ≤ B) : w'.ownsRow base e size v n xs :=
  h.kept (row := none) ⟨hb.os, hb.tape, hb.output, hb.size, fun k hk _ => hb.block k (by omega)⟩ (by cases hv : v.ownBlock <;> simp)

set_option maxHeartbeats 1000000 in
set_option maxRecDepth 100000 in
theorem walk (a : Option Addr) (len cap : Nat) (z : List Int) (w : World) (hR : IsRow .u8 w a len cap z) (hT : Tabs w) :
    Calls Tryd.prog 3 #[.slice a len cap] w fun e w' => e = .returned (.bool true) ∧ Below w.heap.size w w' := by
  obtain ⟨zs, rfl, hN, hZ⟩ := bytes_of_row hR
  clear hR
  by_cases hlen : zs.length ≤ 1048576
  · have cD := drawBlanks_any a cap zs w hlen hN hZ
    clear hN hZ
    have cB := big_any a zs.length cap w hlen
    go_enter Tryd.func3, Tryd.ntmps3
    go_wp2_with fail
    refine cB.mono ?_
    rintro e w0 ⟨rfl, rfl⟩
    clear cB
    go_wp2_with fail
    refine cD.mono ?_
    rintro e w1 ⟨s, hs, rfl, B1⟩
    have HT := Lib.hid hT
    have hs1 : s.size ≤ 1048576 := by omega
    obtain ⟨hne, hcnt, hj, hjz, hjw⟩ := blanks_joined s
    have hmap : (blanksR s).map mkB = (blanksR s).map toB := rfl
    obtain ⟨l, hl⟩ : ∃ l, (blanksR s).map toB = l := ⟨_, rfl⟩
    have hll : l.length ≤ 1048576 := by rw [← hl, List.length_map]; omega
    have hlz : ∀ x ∈ l, x.size ≤ 1048576 := fun x hx => by
      rw [← hl] at hx
      obtain ⟨q, hq, rfl⟩ := List.mem_map.1 hx
      have h1 : q.length ≤ s.size := by
        cases ht : (runesOf s).isSome with
        | false => rw [blanksR_no ht] at hq; cases hq
        | true => rw [blanksR_yes ht] at hq; have := wordsR_len s.data.toList [] q hq; rw [size_list] at this; simp at this; exact this
      have h2 : (toB q).size = q.length := by rw [← size_list, toB_list]
      omega
    have hln : ∀ x ∈ l, ¬ x.data.toList = [] := fun x hx => by
      rw [← hl] at hx
      obtain ⟨q, hq, rfl⟩ := List.mem_map.1 hx
      rw [toB_list]
      exact hne q hq
    obtain ⟨t, ht⟩ : ∃ t, toB (joinW (blanksR s)) = t := ⟨_, rfl⟩
    have htb : (⟨(joinW (blanksR s)).toArray⟩ : ByteArray) = t := ht
    have cI := implBlanksC s w1 hs1 (HT.out.below B1)
    have cS : ∀ W, Calls Tryd.prog 10 #[.string s] W (StrsAre ((blanksR s).map mkB) W) := fun W => specBlanks s W hs1
    rw [ht] at hjz hjw
    have htz : t.size ≤ 1048576 := by omega
    have cT : ∀ W, Tabs W → Calls Tryd.prog 8 #[.string t] W (StrsAre ((blanksR t).map mkB) W) := fun W h => implBlanksC t W htz h
    rw [hjw] at cT
    rw [hmap, hl] at cI cS cT
    unfold StrsAre at cI cS cT
    have HJ : Hid (joinR bl1 l = some (joinW (blanksR s))) := by show _ = _; rw [← hl]; exact hj
    have HTB := Lib.hid htb
    have hjzz : (t.size : Int) ≤ (s.size : Int) := by omega
    clear hne hcnt hj hjz hjw hmap hl ht htb cD hT
    have HLn := Lib.hid hln
    have HLz := Lib.hid hlz
    have HCT := Lib.hid cT
    have HCS := Lib.hid cS
    have HB1 := Lib.hid B1
    clear hln hlz cT cS
    go_wp2_with fail
    refine cI.mono ?_
    rintro e w2 ⟨v2, rfl, O2, b2⟩
    obtain ⟨A2, c2, rfl⟩ := own_form O2
    have P2 := Lib.hid O2
    have B2 : Below w0.heap.size w0 w2 := HB1.out.trans (b2.mono HB1.out.size)
    have hz2 := B2.size
    clear cI O2 b2 B1
    go_wp2_with fail
    refine (HCS.out w2).mono ?_
    rintro e w3 ⟨v3, rfl, O3, b3⟩
    obtain ⟨A3, c3, rfl⟩ := own_form O3
    have P23 := Lib.hid (row_kept P2.out b3 (Nat.le_refl _))
    have B3 : Below w0.heap.size w0 w3 := B2.trans (b3.mono hz2)
    have P3 := Lib.hid O3
    clear O3 b3 B2
    go_wp2_with fail
    refine (sameTexts_any _ _ _ _ l _ hll (Strs.own P23.out) (Strs.own P3.out)).mono ?_
    rintro e w4 ⟨rfl, b4⟩
    have P24 := Lib.hid (row_kept P23.out b4 (Nat.le_refl _))
    have B4 : Below w0.heap.size w0 w4 := B3.trans (b4.mono B3.size)
    clear b4 B3
    have cJ := implJoined A2 c2 l bl1 w4 hll HLz.out (by decide) (Strs.own P24.out) (HT.out.below B4)
    unfold JoinIs at cJ
    rw [HJ.out] at cJ
    simp only [Option.getD_some, Option.isSome_some] at cJ
    rw [HTB.out] at cJ
    unfold bl1 at cJ
    go_wp2_with fail
    refine cJ.mono ?_
    rintro e w5 ⟨rfl, b5⟩
    have P25 := Lib.hid (row_kept P24.out b5 (Nat.le_refl _))
    have B5 : Hid (Below w0.heap.size w0 w5) := B4.trans (b5.mono B4.size)
    clear b5 B4 cJ
    go_wp2
    go_loopw [7] (fun i wr => ∃ k : Nat, k ≤ l.length ∧ i = .int .i64 k ∧ Below w5.heap.size w5 wr) (fun i _ => l.length - (intOf i).toNat)
    case atStart => exact ⟨0, Nat.zero_le _, rfl, Below.refl _ _⟩
    case round =>
      obtain ⟨k, hk, rfl, hbel⟩ := hrel
      by_cases hlt : k < l.length
      · obtain ⟨b, o, rfl, hb, hc⟩ := (Strs.own P25.out) k hlt
        have hcr := (hbel.cell (p := ⟨b, o + k, none⟩) hb).trans hc
        have hut := not_empty (HLn.out _ (List.getElem_mem hlt))
        obtain ⟨x, hx⟩ : ∃ x, l[k] = x := ⟨_, rfl⟩
        rw [hx] at hcr hut
        have hltz : (k : Int) < (l.length : Int) := by omega
        clear hc hx
        go_wp2
        go_roundw
        case rel => exact ⟨k + 1, hlt, by go_num, hbel⟩
        case measure => simp [intOf]; omega
      · have Br : Below w0.heap.size w0 wr := B5.out.trans (hbel.mono B5.out.size)
        have P2r := Lib.hid (row_kept P25.out hbel (Nat.le_refl _))
        have cI2 := HCT.out wr (HT.out.below Br)
        have hBr := Lib.hid Br
        have hz := Br.size
        clear hbel Br
        go_wp2_with (first
          | (go_at_call 8; go_must (refine cI2.mono ?_; rintro e w6 ⟨v6, rfl, O6, b6⟩; obtain ⟨A6, c6, rfl⟩ := own_form O6; have cE := sameTexts_any A6 A2 c6 c2 l w6 hll (Strs.own O6) (Strs.own (row_kept P2r.out b6 (Nat.le_refl _))); have B6 := hBr.out.trans (b6.mono hz); clear O6 b6 cI2))
          | (go_at_call 9; refine cE.mono ?_; rintro e w7 ⟨rfl, b7⟩; clear cE))
        go_ret
        exact ⟨rfl, B6.trans (b7.mono B6.size)⟩
  · have cB := big_yes a zs.length cap w hlen
    clear hN hZ hT
    go_enter Tryd.func3, Tryd.ntmps3
    go_wp2_with fail
    refine cB.mono ?_
    rintro e w0 ⟨rfl, rfl⟩
    go_wp2
    go_ret
    exact ⟨rfl, Below.refl _ _⟩

set_option maxRecDepth 100000
theorem witness_row (os : Os) {H : Type} (enc : TypeId × Value → H) :
    (OpenSpec.ofChange Rows.fnBlanksJoinedSpec).preRow enc Tryd.prog Tryd.f3 Rows.fnBlanksJoinedRow.domain false Rows.fnBlanksJoinedRow.laid ((laidWorld os).forCall (fun _ _ => 0) ⟨#[], #[.slice none 0 0], []⟩).memory #[.slice none 0 0] := by
  have hw : (DataW.whole enc Tryd.prog ((laidWorld os).forCall (fun _ _ => 0) ⟨#[], #[.slice none 0 0], []⟩).memory Tryd.f3.params.toList (OpenSpec.ofChange Rows.fnBlanksJoinedSpec).vars false (#[.slice none 0 0] : Array Value).toList 8).map (fun x => (x.1, x.2.1)) =
      some ([.nil], []) := by kernel_rfl
  obtain ⟨⟨x1, x2, x3⟩, hx, hx1⟩ := Option.map_eq_some_iff.1 hw
  simp only [Prod.mk.injEq] at hx1
  obtain ⟨rfl, rfl⟩ := hx1
  exact OpenSpec.preRow_of_cond 8 hx (by kernel_rfl) (fun k hk => by cases hk) (by kernel_rfl) (laid_met os _)

set_option maxHeartbeats 2000000 in
theorem lifted (os : Os) (started : os.Started) (H : Type) (enc : TypeId × Value → H) (F : Stop.Interp) :
    ReturnsInHanded {} Tryd.checked os 3 .any ((OpenSpec.ofChange Rows.fnBlanksJoinedSpec).preRow enc Tryd.prog Tryd.f3 Rows.fnBlanksJoinedRow.domain false Rows.fnBlanksJoinedRow.laid) (((OpenSpec.ofChange Rows.fnBlanksJoinedSpec).at F).post enc Tryd.prog Tryd.f3 false true false false) := by
  refine returnsInHanded_of_row (C := Tryd.checked) (s := OpenSpec.ofChange Rows.fnBlanksJoinedSpec) own started (by kernel_rfl) Tryd.func3
    (witness_row_atRef (enc := enc) (C := Tryd.checked) false (laidWorld os) #[.slice none 0 0] rfl (by kernel_rfl) (by kernel_rfl) (by kernel_rfl) (witness_row os enc)) ?_
  intro W base args ds gs before hval0 hW _ _ _ hL _ _
  have hval : ∀ (j : Nat) t v, Tryd.f3.params[j]? = some t → args[j]? = some v → Value.okWide Tryd.prog W .any base t v := hval0
  have hW' := hW
  obtain ⟨p, q, hA0, hV0, rfl, _, _⟩ := hW
  have hA : DataW.TrodAll enc Tryd.prog W 0 (fun _ => true) true Tryd.f3.params.toList args.toList ds p := hA0
  rw [Tryd.params3] at hA hval
  obtain ⟨v0, vs0, d0, ds0, p0, q0, hargs, rfl, rfl, h0, r0⟩ := trodAll_cons hA
  obtain ⟨rfl, rfl, rfl⟩ := trodAll_nil r0
  obtain rfl : args = #[v0] := by cases args; simp_all
  obtain ⟨rfl, rfl⟩ := trodVars_none hV0
  obtain ⟨a0, len0, cap0, rfl⟩ := okWide_slice Tryd.underlying22 (hval 0 22 v0 rfl rfl)
  have k0 := h0
  have lt0 : ∀ x ∈ p0, x.block < W.heap.size := by obtain ⟨m, hm⟩ := k0; exact DataW.trod_lt m _ _ _ hm
  obtain ⟨z0, w0⟩ : ∃ zs, IsRow .u8 W a0 len0 cap0 zs := by
    obtain ⟨fuel, hf⟩ := h0
    rcases open_ints Tryd.underlying22 Tryd.underlying5 (by kernel_rfl) hf with ⟨hcs, _⟩ | ⟨x, l, c, zs, hcs, _, hl, hm, hz, _, hcell, hwz⟩
    · simp [Value.cells] at hcs
      obtain ⟨rfl, rfl, rfl⟩ := hcs
      exact ⟨[], .inl ⟨rfl, rfl, rfl, rfl⟩⟩
    · simp [Value.cells] at hcs
      obtain ⟨rfl, rfl, rfl⟩ := hcs
      exact ⟨zs, .inr ⟨_, rfl, hl, hm, by simpa using hz, hcell, hwz⟩⟩
  clear hA0 hV0 hval0
  refine (walk a0 len0 cap0 z0 W w0 (tabs_of_laid hL)).mono ?_
  rintro e W' ⟨rfl, bel⟩
  exact ⟨_, rfl, _, _, _, [], _, [], hW', trodAll_mk1 (shut_bool Tryd.underlying4 _), (trodAll_cons_mk (Below.trod laidOut (by kernel_rfl) (of_decide_eq_true (by kernel_rfl)) k0 bel lt0) trodAll_mk0), rfl, bel.frame _, fun h => by cases h⟩

theorem over : Rows.FnBlanksJoinedSaid :=
  OpenClaim.holds_of_cond 3 Tryd.f3 rfl rfl rfl rfl rfl rfl rfl ⟨rfl, rfl, rfl, rfl, rfl⟩ rfl rfl rfl rfl rfl (by kernel_rfl) Tryd.func3 (by kernel_rfl)
    (of_decide_eq_true (by kernel_rfl)) (by unfold Func.isWrapper; rw [if_neg (of_decide_eq_false (by kernel_rfl))]; exact ⟨rfl, rfl⟩)
    (fun os started H enc _ F0 => by rw [OpenClaim.pre_eq_preRow]; exact lifted os started H enc F0)

/-- The given statement. -/
theorem proved : Rows.FnBlanksJoinedCardSaid :=
  Claim7.holds_tied_plain_at .later [] [.data, .pinned] true _ false
    over (fun _ h => by cases h) (by kernel_rfl) (fun _ h => by cases h) fnBlanksJoined_row_tie rfl ⟨rfl, rfl⟩ (by kernel_rfl) rfl
    (fun f fn hf hfn => by
      obtain rfl : f = 3 := Option.some.inj ((show Tryd.prog.funcNamed Rows.fnBlanksJoinedRow.func = some 3 by kernel_rfl).symm.trans hf) |>.symm
      obtain rfl : fn = Tryd.f3 := (Option.some.inj (Tryd.func3.symm.trans hfn)).symm
      exact ⟨by kernel_rfl, fun j t ht => by
        rw [Tryd.params3] at ht
        rcases j with _ | j
        · obtain rfl : t = 22 := by simpa using ht.symm
          exact (show Tryd.prog.wantsStandIn 22 = false by kernel_rfl)
        · simp at ht⟩)
    (by kernel_rfl)

end Go.Proofs.YtdkjfppjbkdelaaDoor.fnBlanksJoined
