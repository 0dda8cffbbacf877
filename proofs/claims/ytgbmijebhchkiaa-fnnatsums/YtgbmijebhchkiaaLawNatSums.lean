/- For every code: the naturals drawn from it are added, taken off, multiplied, shifted and rounded as they must be. No condition. -/
import Derived.Test.YtgbmijebhchkiaaBigRow
import Derived.Test.YtgbmijebhchkiaaImplNat12
import Derived.Test.YtgbmijebhchkiaaSpecNat11
import Derived.WalkKit
import Derived.ProofKit
import Derived.OpenShut
import Derived.ShutString
import Derived.ChangeOld
import Derived.ChangeMaps5
import Derived.Below
namespace Go.Proofs.Ytgbmijebhchkiaa.fnNatSums
open Go.ChangeShapes Go.WideShapes Go.ChangeAt Go.RowKit
open Go.ChangeMaps (open_string shut_string)
set_option linter.unusedVariables false

def Gives (f : FuncId) (args : Array Value) (P : ByteArray) (b : Bool) : Prop := ∀ W, Calls Try.prog f args W fun e w' => e = .returned (.tuple #[.string P, .bool b]) ∧ Below W.heap.size W w'

theorem rnd_back (v : Nat) : rnd (v * 10 ^ 7) 7 = v := by
  unfold rnd
  have h1 : v * 10 ^ 7 % 10 ^ 7 = 0 := Nat.mul_mod_left v (10 ^ 7)
  have h2 : v * 10 ^ 7 / 10 ^ 7 = v := Nat.mul_div_cancel v (by decide)
  rw [h1, h2, if_neg (by simp)]

set_option maxHeartbeats 400000 in
set_option maxRecDepth 100000 in
theorem walk (a : Option Addr) (len cap : Nat) (z : List Int) (w : World) (hR : IsRow .u8 w a len cap z) :
    Calls Try.prog 4 #[.slice a len cap] w fun e w' => e = .returned (.bool true) ∧ Below w.heap.size w w' := by
  obtain ⟨zs, rfl, hN, hZ⟩ := bytes_of_row hR
  clear hR
  by_cases hlen : zs.length ≤ 1048576
  · have cD := drawNatAdd_any a cap zs w hlen hN hZ
    clear hN hZ
    have cB := big_any a zs.length cap w hlen
    go_enter Try.func4, Try.ntmps4
    go_wp2_with fail
    refine cB.mono ?_
    rintro e w0 ⟨rfl, rfl⟩
    clear cB
    go_wp2_with fail
    refine cD.mono ?_
    rintro e w1 ⟨s, t, hs, ht, rfl, B1⟩
    clear cD
    have hs1 : s.size ≤ 1048576 := by omega
    have ht1 : t.size ≤ 1048576 := by omega
    have cS := fun W => specNatOk s W hs1
    have cT := fun W => specNatOk t W ht1
    go_wp2_with fail
    refine (cS _).mono ?_
    intro e w2 hE
    obtain ⟨hE, B2⟩ := hE.get
    have D2 := B1.trans (B2.mono B1.size)
    clear cS B1 B2
    rcases hE with ⟨rfl, h1⟩ | ⟨rfl, h1⟩
    · go_wp2_with fail
      refine (cT _).mono ?_
      intro e w3 hE
      obtain ⟨hE, B3⟩ := hE.get
      have D3 := D2.trans (B3.mono D2.size)
      clear cT D2 B3
      rcases hE with ⟨rfl, h2⟩ | ⟨rfl, h2⟩
      · have hls := h1.len
        obtain ⟨v, hv⟩ : ∃ v, nv s = v := ⟨_, rfl⟩
        obtain ⟨u, hu⟩ : ∃ u, nv t = u := ⟨_, rfl⟩
        rw [hv] at hls
        have e1 := h1.str
        rw [hv] at e1
        obtain ⟨P, hP⟩ : ∃ P : ByteArray, ⟨(fits (v + u)).1.toArray⟩ = P := ⟨_, rfl⟩
        obtain ⟨b1, hb1⟩ : ∃ b, (fits (v + u)).2 = b := ⟨_, rfl⟩
        obtain ⟨M, hM⟩ : ∃ M : ByteArray, ⟨(fits (v * u)).1.toArray⟩ = M := ⟨_, rfl⟩
        obtain ⟨b2, hb2⟩ : ∃ b, (fits (v * u)).2 = b := ⟨_, rfl⟩
        obtain ⟨X, hX⟩ : ∃ X : ByteArray, ⟨(fits (v * 10 ^ 7)).1.toArray⟩ = X := ⟨_, rfl⟩
        obtain ⟨b3, hb3⟩ : ∃ b, (fits (v * 10 ^ 7)).2 = b := ⟨_, rfl⟩
        have cA1 : Gives 19 #[.string s, .string t] P b1 := fun W => by
          have := implNatAdd s t W hs1 ht1
          unfold Ans2 addOf at this
          rw [if_pos ⟨h1, h2⟩, hv, hu, hP, hb1] at this
          exact this
        have cA2 : Gives 19 #[.string t, .string s] P b1 := fun W => by
          have := implNatAdd t s W ht1 hs1
          unfold Ans2 addOf at this
          rw [if_pos ⟨h2, h1⟩, hv, hu, Nat.add_comm u v, hP, hb1] at this
          exact this
        have cA3 : Gives 22 #[.string s, .string t] P b1 := fun W => by
          have := specNatAdd s t W hs1 ht1
          unfold Ans2 addOf at this
          rw [if_pos ⟨h1, h2⟩, hv, hu, hP, hb1] at this
          exact this
        have cM1 : Gives 18 #[.string s, .string t] M b2 := fun W => by
          have := implNatMul s t W hs1 ht1
          unfold Ans2 mulOf at this
          rw [if_pos ⟨h1, h2⟩, hv, hu, hM, hb2] at this
          exact this
        have cM2 : Gives 18 #[.string t, .string s] M b2 := fun W => by
          have := implNatMul t s W ht1 hs1
          unfold Ans2 mulOf at this
          rw [if_pos ⟨h2, h1⟩, hv, hu, Nat.mul_comm u v, hM, hb2] at this
          exact this
        have cM3 : Gives 24 #[.string s, .string t] M b2 := fun W => by
          have := specNatMul s t W hs1 ht1
          unfold Ans2 mulOf at this
          rw [if_pos ⟨h1, h2⟩, hv, hu, hM, hb2] at this
          exact this
        have cX1 : Gives 25 #[.string s, .int .i64 7] X b3 := fun W => by
          have := implNatShift s 7 W hs1
          unfold Ans2 shiftOf at this
          rw [if_pos ⟨h1, by omega, by omega⟩, hv, show (7 : Int).toNat = 7 from rfl, hX, hb3] at this
          exact this
        have cX2 : Gives 26 #[.string s, .int .i64 7] X b3 := fun W => by
          have := specNatShift s 7 W hs1
          unfold Ans2 shiftOf at this
          rw [if_pos ⟨h1, by omega, by omega⟩, hv, show (7 : Int).toNat = 7 from rfl, hX, hb3] at this
          exact this
        have cS1 : b1 = true → Gives 23 #[.string P, .string t] s true := fun hb W => by
          have hl : (natOf (v + u)).length ≤ 600 := by
            unfold fits at hb1
            by_cases hl : (natOf (v + u)).length ≤ 600
            · exact hl
            · rw [if_neg hl] at hb1; rw [← hb1] at hb; cases hb
          have eP := ns_nat hl
          have : P = ns (v + u) := by rw [← hP, fits_ok hl]; rfl
          rw [this]
          have := implNatSub (ns (v + u)) t W eP.1.size ht1
          unfold Ans2 subOf at this
          rw [if_pos ⟨eP.1, h2, by rw [eP.2, hu]; omega⟩, eP.2, hu, show v + u - u = v by omega] at this
          rw [← e1]; exact this
        have cR1 : b3 = true → Gives 27 #[.string X, .int .i64 7] s true := fun hb W => by
          have hl : (natOf (v * 10 ^ 7)).length ≤ 600 := by
            unfold fits at hb3
            by_cases hl : (natOf (v * 10 ^ 7)).length ≤ 600
            · exact hl
            · rw [if_neg hl] at hb3; rw [← hb3] at hb; cases hb
          have eX := ns_nat hl
          have : X = ns (v * 10 ^ 7) := by rw [← hX, fits_ok hl]; rfl
          rw [this]
          have := implNatRound (ns (v * 10 ^ 7)) 7 W eX.1.size
          unfold Ans2 rndOf at this
          rw [if_pos ⟨eX.1, by omega, by omega⟩, eX.2, show (7 : Int).toNat = 7 from rfl, rnd_back, fits_ok hls] at this
          rw [← e1]; exact this
        clear hP hb1 hM hb2 hX hb3 hls hv hu e1 h1 h2
        unfold Gives at *
        go_wp2_with fail
        refine (cA1 _).mono ?_
        rintro e w4 ⟨rfl, B4⟩
        have D4 := D3.trans (B4.mono D3.size)
        clear cA1 B4 D3
        go_wp2_with fail
        refine (cA2 _).mono ?_
        rintro e w5 ⟨rfl, B5⟩
        have D5 := D4.trans (B5.mono D4.size)
        clear cA2 B5 D4
        go_wp2_with fail
        refine (cA3 _).mono ?_
        rintro e w6 ⟨rfl, B6⟩
        have D6 := D5.trans (B6.mono D5.size)
        clear cA3 B6 D5
        cases b1
        · clear cS1
          have D7 := D6
          clear D6
          go_wp2_with fail
          refine (cM1 _).mono ?_
          rintro e w8 ⟨rfl, B8⟩
          have D8 := D7.trans (B8.mono D7.size)
          clear cM1 B8 D7
          go_wp2_with fail
          refine (cM2 _).mono ?_
          rintro e w9 ⟨rfl, B9⟩
          have D9 := D8.trans (B9.mono D8.size)
          clear cM2 B9 D8
          go_wp2_with fail
          refine (cM3 _).mono ?_
          rintro e w10 ⟨rfl, B10⟩
          have D10 := D9.trans (B10.mono D9.size)
          clear cM3 B10 D9
          cases b2
          all_goals
            go_wp2_with fail
            refine (cX1 _).mono ?_
            rintro e w11 ⟨rfl, B11⟩
            have D11 := D10.trans (B11.mono D10.size)
            clear cX1 B11 D10
            go_wp2_with fail
            refine (cX2 _).mono ?_
            rintro e w12 ⟨rfl, B12⟩
            have D12 := D11.trans (B12.mono D11.size)
            clear cX2 B12 D11
            cases b3
            · clear cR1
              go_wp2
              go_ret
              exact ⟨rfl, D12⟩
            · have cR2 := cR1 rfl
              clear cR1
              go_wp2_with fail
              refine (cR2 _).mono ?_
              rintro e w13 ⟨rfl, B13⟩
              have D13 := D12.trans (B13.mono D12.size)
              clear cR2 B13 D12
              go_wp2
              go_ret
              exact ⟨rfl, D13⟩
        · have cS2 := cS1 rfl
          clear cS1
          go_wp2_with fail
          refine (cS2 _).mono ?_
          rintro e w7 ⟨rfl, B7⟩
          have D7 := D6.trans (B7.mono D6.size)
          clear cS2 B7 D6
          go_wp2_with fail
          refine (cM1 _).mono ?_
          rintro e w8 ⟨rfl, B8⟩
          have D8 := D7.trans (B8.mono D7.size)
          clear cM1 B8 D7
          go_wp2_with fail
          refine (cM2 _).mono ?_
          rintro e w9 ⟨rfl, B9⟩
          have D9 := D8.trans (B9.mono D8.size)
          clear cM2 B9 D8
          go_wp2_with fail
          refine (cM3 _).mono ?_
          rintro e w10 ⟨rfl, B10⟩
          have D10 := D9.trans (B10.mono D9.size)
          clear cM3 B10 D9
          cases b2
          all_goals
            go_wp2_with fail
            refine (cX1 _).mono ?_
            rintro e w11 ⟨rfl, B11⟩
            have D11 := D10.trans (B11.mono D10.size)
            clear cX1 B11 D10
            go_wp2_with fail
            refine (cX2 _).mono ?_
            rintro e w12 ⟨rfl, B12⟩
            have D12 := D11.trans (B12.mono D11.size)
            clear cX2 B12 D11
            cases b3
            · clear cR1
              go_wp2
              go_ret
              exact ⟨rfl, D12⟩
            · have cR2 := cR1 rfl
              clear cR1
              go_wp2_with fail
              refine (cR2 _).mono ?_
              rintro e w13 ⟨rfl, B13⟩
              have D13 := D12.trans (B13.mono D12.size)
              clear cR2 B13 D12
              go_wp2
              go_ret
              exact ⟨rfl, D13⟩
      · have cA : ∀ W, Calls Try.prog 19 #[.string s, .string t] W fun e w' => e = .returned (.tuple #[.string ⟨#[]⟩, .bool false]) ∧ Below W.heap.size W w' := fun W => by
          have := implNatAdd s t W hs1 ht1
          unfold Ans2 addOf at this
          rw [if_neg (fun h => h2 h.2)] at this
          exact this
        clear h1 h2
        go_wp2_with fail
        refine (cA _).mono ?_
        rintro e w4 ⟨rfl, B4⟩
        have D4 := D3.trans (B4.mono D3.size)
        clear cA B4 D3
        go_wp2
        go_ret
        exact ⟨rfl, D4⟩
    · have cA : ∀ W, Calls Try.prog 19 #[.string s, .string t] W fun e w' => e = .returned (.tuple #[.string ⟨#[]⟩, .bool false]) ∧ Below W.heap.size W w' := fun W => by
        have := implNatAdd s t W hs1 ht1
        unfold Ans2 addOf at this
        rw [if_neg (fun h => h1 h.1)] at this
        exact this
      clear h1 cT
      go_wp2_with fail
      refine (cA _).mono ?_
      rintro e w4 ⟨rfl, B4⟩
      have D4 := D2.trans (B4.mono D2.size)
      clear cA B4 D2
      go_wp2
      go_ret
      exact ⟨rfl, D4⟩
  · have cB := big_yes a zs.length cap w hlen
    clear hN hZ
    go_enter Try.func4, Try.ntmps4
    go_wp2_with fail
    refine cB.mono ?_
    rintro e w0 ⟨rfl, rfl⟩
    go_wp2
    go_ret
    exact ⟨rfl, Below.refl _ _⟩

theorem own : ownKnob Try.prog.godebug = none := by kernel_rfl
theorem laidOut : laidOutB Try.prog = true := by kernel_rfl

set_option maxRecDepth 100000 in
theorem lifted (os : Os) (started : os.Started) (H : Type) (enc : TypeId × Value → H) :
    ReturnsInHanded {} Try.checked os 4 .any (Rows.fnNatSumsSpec.pre6 enc Try.prog Try.f4 Rows.fnNatSumsRow.domain false) (Rows.fnNatSumsSpec.post enc Try.prog Try.f4 false true false false) := by
  refine returnsInHanded_of_change (C := Try.checked) own started (by kernel_rfl) Try.func4
    (ChangeSpec.witness6 (enc := enc) (C := Try.checked) false ⟨#[], #[.slice none 0 0], []⟩ 8 (by kernel_rfl) (by kernel_rfl) (by kernel_rfl) (by kernel_rfl)) ?_
  intro W base args ds gs before hval0 hW hcnd _
  have hval : ∀ (j : Nat) t v, Try.f4.params[j]? = some t → args[j]? = some v → Value.okWide Try.prog W .any base t v := hval0
  have hW' := hW
  obtain ⟨p, q, hA0, hV, rfl, hfz, hnd⟩ := hW
  have hA : DataW.TrodAll enc Try.prog W 0 (fun _ => true) true Try.f4.params.toList args.toList ds p := hA0
  rw [Try.params4] at hA hval
  obtain ⟨v0, vs0, d0, ds0, p0, q0, hargs, rfl, rfl, h0, r0⟩ := trodAll_cons hA
  obtain ⟨rfl, rfl, rfl⟩ := trodAll_nil r0
  obtain rfl : args = #[v0] := by cases args; simp_all
  obtain ⟨rfl, rfl⟩ := trodVars_none hV
  obtain ⟨a0, len0, cap0, rfl⟩ := okWide_slice Try.underlying22 (hval 0 22 v0 rfl rfl)
  have k0 := h0
  have lt0 : ∀ x ∈ p0, x.block < W.heap.size := by obtain ⟨m, hm⟩ := k0; exact DataW.trod_lt m _ _ _ hm
  obtain ⟨z0, w0⟩ : ∃ zs, IsRow .u8 W a0 len0 cap0 zs := by
    obtain ⟨fuel, hf⟩ := h0
    rcases open_ints Try.underlying22 Try.underlying5 (by kernel_rfl) hf with ⟨hcs, _⟩ | ⟨x, l, c, zs, hcs, _, hl, hm, hz, _, hcell, hwz⟩
    · simp [Value.cells] at hcs
      obtain ⟨rfl, rfl, rfl⟩ := hcs
      exact ⟨[], .inl ⟨rfl, rfl, rfl, rfl⟩⟩
    · simp [Value.cells] at hcs
      obtain ⟨rfl, rfl, rfl⟩ := hcs
      exact ⟨zs, .inr ⟨_, rfl, hl, hm, by simpa using hz, hcell, hwz⟩⟩
  clear hA0 hval0
  refine (walk a0 len0 cap0 z0 W w0).mono fun e W' ⟨he, bel⟩ => ?_
  subst he
  exact ⟨_, rfl, _, _, _, [], _, [], hW', trodAll_mk1 (shut_bool Try.underlying4 _), (trodAll_cons_mk (Below.trod laidOut (by kernel_rfl) (of_decide_eq_true (by kernel_rfl)) k0 bel lt0) trodAll_mk0), rfl, bel.frame _, fun h => by cases h⟩

theorem over : Rows.fnNatSumsRow.holds Try.pinned (OpenSpec.ofChange Rows.fnNatSumsSpec) :=
  OpenClaim.holds_of_wide 4 Try.f4 rfl rfl rfl rfl rfl rfl rfl ⟨rfl, rfl, rfl, rfl, rfl⟩ rfl rfl rfl rfl rfl (by kernel_rfl) Try.func4 (by kernel_rfl)
    (of_decide_eq_true (by kernel_rfl)) (by unfold Func.isWrapper; first | (rw [if_pos (by decide +kernel)]; kernel_rfl) | (rw [if_neg (by decide +kernel)]; exact ⟨rfl, rfl⟩))
    (fun os started H enc _ => lifted os started H enc)

/-- The given statement. -/
theorem proved : Rows.FnNatSumsSaid := over

end Go.Proofs.Ytgbmijebhchkiaa.fnNatSums
