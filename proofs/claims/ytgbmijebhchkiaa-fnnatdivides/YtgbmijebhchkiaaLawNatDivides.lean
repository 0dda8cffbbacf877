/- For every code: the naturals drawn from it are divided with quotient and remainder as they must be. No condition. -/
import Derived.Test.YtgbmijebhchkiaaBigRow
import Derived.WalkKit
import Derived.ProofKit
import Derived.OpenShut
import Derived.ShutString
import Derived.ChangeOld
import Derived.ChangeMaps5
import Derived.Below
namespace Go.Proofs.Ytgbmijebhchkiaa.fnNatDivides
open Go.ChangeShapes Go.WideShapes Go.ChangeAt Go.RowKit
open Go.ChangeMaps (open_string shut_string)
set_option linter.unusedVariables false

set_option maxHeartbeats 400000 in
set_option maxRecDepth 100000 in
theorem walk (a : Option Addr) (len cap : Nat) (z : List Int) (w : World) (hR : IsRow .u8 w a len cap z) :
    Calls Try.prog 3 #[.slice a len cap] w fun e w' => e = .returned (.bool true) ∧ Below w.heap.size w w' := by
  obtain ⟨zs, rfl, hN, hZ⟩ := bytes_of_row hR
  clear hR
  by_cases hlen : zs.length ≤ 1048576
  · have cD := drawNatDiv_any a cap zs w hlen hN hZ
    clear hN hZ
    have cB := big_any a zs.length cap w hlen
    go_enter Try.func3, Try.ntmps3
    go_wp2_with fail
    refine cB.mono ?_
    rintro e w0 ⟨rfl, rfl⟩
    clear cB
    go_wp2_with fail
    refine cD.mono ?_
    rintro e w1 ⟨s, t, hs, ht, rfl, B1⟩
    clear cD
    have hs1 : s.size ≤ 1048576 := by omega
    have ht1 : t.size ≤ 1048576 := by omega
    have cI := fun W => implNatDiv s t W hs1 ht1
    have cS := fun W => specNatOk s W hs1
    have cT := fun W => specNatOk t W ht1
    unfold Ans3 at cI
    by_cases hall : NatS s ∧ NatS t ∧ 0 < nv t
    · obtain ⟨h1, h2, h0⟩ := hall
      have hd : divOf s t = (natOf (nv s / nv t), natOf (nv s % nv t), true) := by unfold divOf; rw [if_pos ⟨h1, h2, h0⟩]
      rw [hd] at cI
      have hls := h1.len
      have hlt := h2.len
      obtain ⟨v, hv⟩ : ∃ v, nv s = v := ⟨_, rfl⟩
      obtain ⟨u, hu⟩ : ∃ u, nv t = u := ⟨_, rfl⟩
      rw [hv] at hls cI
      rw [hu] at hlt cI h0
      have eQ := ns_nat (Nat.le_trans (natOf_len_mono (Nat.div_le_self v u)) hls)
      have eR := ns_nat (Nat.le_trans (natOf_len_mono (Nat.mod_le v u)) hls)
      have hle : v / u * u ≤ v := Nat.div_mul_le_self v u
      have hM := Nat.le_trans (natOf_len_mono hle) hls
      have eM := ns_nat hM
      have hsum : v / u * u + v % u = v := by rw [Nat.mul_comm]; exact Nat.div_add_mod v u
      have cM : ∀ W, Calls Try.prog 18 #[.string (ns (v / u)), .string t] W fun e w' => e = .returned (.tuple #[.string (ns (v / u * u)), .bool true]) ∧ Below W.heap.size W w' := fun W => by
        have := implNatMul (ns (v / u)) t W eQ.1.size ht1
        unfold Ans2 mulOf at this
        rw [if_pos ⟨eQ.1, h2⟩, eQ.2, hu, fits_ok hM] at this
        exact this
      have cA : ∀ W, Calls Try.prog 19 #[.string (ns (v / u * u)), .string (ns (v % u))] W fun e w' => e = .returned (.tuple #[.string s, .bool true]) ∧ Below W.heap.size W w' := fun W => by
        have := implNatAdd (ns (v / u * u)) (ns (v % u)) W eM.1.size eR.1.size
        unfold Ans2 addOf at this
        rw [if_pos ⟨eM.1, eR.1⟩, eM.2, eR.2, hsum, fits_ok hls] at this
        have e := h1.str
        rw [hv] at e
        rw [← e]; exact this
      have cC : ∀ W, Calls Try.prog 20 #[.string (ns (v % u)), .string t] W fun e w' => e = .returned (.int .i64 (-1)) ∧ Below W.heap.size W w' := fun W => by
        have := implNatCmp (ns (v % u)) t W eR.1.size ht1
        unfold AnsN cmpOf at this
        rw [if_pos ⟨eR.1, h2⟩, eR.2, hu] at this
        unfold cmpN at this
        rw [if_pos (Nat.mod_lt v h0)] at this
        exact this
      have cI2 : ∀ W, Calls Try.prog 16 #[.string s, .string t] W fun e w' => e = .returned (.tuple #[.string (ns (v / u)), .string (ns (v % u)), .bool true]) ∧ Below W.heap.size W w' := cI
      have hne : (t.toList == [48]) = false := not_zero (by rw [hu]; exact h0)
      clear cI hd hls hlt eQ eR eM hM hle hsum hv hu h0
      generalize ns (v / u) = Q at *
      generalize ns (v % u) = R at *
      generalize ns (v / u * u) = M at *
      go_wp2_with fail
      refine (cI2 _).mono ?_
      rintro e w2 ⟨rfl, B2⟩
      have D2 := B1.trans (B2.mono B1.size)
      clear cI2 B1 B2
      go_wp2_with fail
      refine (cS _).mono ?_
      intro e w3 hE
      obtain ⟨hE, B3⟩ := hE.get
      have D3 := D2.trans (B3.mono D2.size)
      clear cS D2 B3
      rcases hE with ⟨rfl, _⟩ | ⟨rfl, h⟩
      case inr => exact absurd h1 h
      go_wp2_with fail
      refine (cT _).mono ?_
      intro e w4 hE
      obtain ⟨hE, B4⟩ := hE.get
      have D4 := D3.trans (B4.mono D3.size)
      clear cT D3 B4
      rcases hE with ⟨rfl, _⟩ | ⟨rfl, h⟩
      case inr => exact absurd h2 h
      clear h1 h2
      go_wp2_with fail
      refine (cM _).mono ?_
      rintro e w5 ⟨rfl, B5⟩
      have D5 := D4.trans (B5.mono D4.size)
      clear cM B5 D4
      go_wp2_with fail
      refine (cA _).mono ?_
      rintro e w6 ⟨rfl, B6⟩
      have D6 := D5.trans (B6.mono D5.size)
      clear cA B6 D5
      go_wp2_with fail
      refine (cC _).mono ?_
      rintro e w7 ⟨rfl, B7⟩
      have D7 := D6.trans (B7.mono D6.size)
      clear cC B7 D6
      go_wp2
      go_ret
      exact ⟨rfl, D7⟩
    · have hd : divOf s t = ([], [], false) := by unfold divOf; rw [if_neg hall]
      rw [hd] at cI
      clear hd
      have cI2 : ∀ W, Calls Try.prog 16 #[.string s, .string t] W fun e w' => e = .returned (.tuple #[.string ⟨#[]⟩, .string ⟨#[]⟩, .bool false]) ∧ Below W.heap.size W w' := cI
      clear cI
      go_wp2_with fail
      refine (cI2 _).mono ?_
      rintro e w2 ⟨rfl, B2⟩
      have D2 := B1.trans (B2.mono B1.size)
      clear cI2 B1 B2
      go_wp2_with fail
      refine (cS _).mono ?_
      intro e w3 hE
      obtain ⟨hE, B3⟩ := hE.get
      have D3 := D2.trans (B3.mono D2.size)
      clear cS D2 B3
      rcases hE with ⟨rfl, h1⟩ | ⟨rfl, h1⟩
      · go_wp2_with fail
        refine (cT _).mono ?_
        intro e w4 hE
        obtain ⟨hE, B4⟩ := hE.get
        have D4 := D3.trans (B4.mono D3.size)
        clear cT D3 B4
        rcases hE with ⟨rfl, h2⟩ | ⟨rfl, h2⟩
        · obtain rfl := zero_of h2 (fun h => hall ⟨h1, h2, h⟩)
          clear h1 h2 hall
          go_wp2
          go_ret
          exact ⟨rfl, D4⟩
        · clear h1 h2 hall
          go_wp2
          go_ret
          exact ⟨rfl, D4⟩
      · clear h1 hall cT
        go_wp2
        go_ret
        exact ⟨rfl, D3⟩
  · have cB := big_yes a zs.length cap w hlen
    clear hN hZ
    go_enter Try.func3, Try.ntmps3
    go_wp2_with fail
    refine cB.mono ?_
    rintro e w0 ⟨rfl, rfl⟩
    go_wp2
    go_ret
    exact ⟨rfl, Below.refl _ _⟩

theorem own : ownKnob Try.prog.godebug = none := by kernel_rfl
theorem laidOut : laidOutB Try.prog = true := by kernel_rfl

set_option maxRecDepth 100000 in
theorem lifted (os : Os) (started : os.Started) (H : Type) (enc : TypeId × Value → H) :
    ReturnsInHanded {} Try.checked os 3 .any (Rows.fnNatDividesSpec.pre6 enc Try.prog Try.f3 Rows.fnNatDividesRow.domain false) (Rows.fnNatDividesSpec.post enc Try.prog Try.f3 false true false false) := by
  refine returnsInHanded_of_change (C := Try.checked) own started (by kernel_rfl) Try.func3
    (ChangeSpec.witness6 (enc := enc) (C := Try.checked) false ⟨#[], #[.slice none 0 0], []⟩ 8 (by kernel_rfl) (by kernel_rfl) (by kernel_rfl) (by kernel_rfl)) ?_
  intro W base args ds gs before hval0 hW hcnd _
  have hval : ∀ (j : Nat) t v, Try.f3.params[j]? = some t → args[j]? = some v → Value.okWide Try.prog W .any base t v := hval0
  have hW' := hW
  obtain ⟨p, q, hA0, hV, rfl, hfz, hnd⟩ := hW
  have hA : DataW.TrodAll enc Try.prog W 0 (fun _ => true) true Try.f3.params.toList args.toList ds p := hA0
  rw [Try.params3] at hA hval
  obtain ⟨v0, vs0, d0, ds0, p0, q0, hargs, rfl, rfl, h0, r0⟩ := trodAll_cons hA
  obtain ⟨rfl, rfl, rfl⟩ := trodAll_nil r0
  obtain rfl : args = #[v0] := by cases args; simp_all
  obtain ⟨rfl, rfl⟩ := trodVars_none hV
  obtain ⟨a0, len0, cap0, rfl⟩ := okWide_slice Try.underlying22 (hval 0 22 v0 rfl rfl)
  have k0 := h0
  have lt0 : ∀ x ∈ p0, x.block < W.heap.size := by obtain ⟨m, hm⟩ := k0; exact DataW.trod_lt m _ _ _ hm
  obtain ⟨z0, w0⟩ : ∃ zs, IsRow .u8 W a0 len0 cap0 zs := by
    obtain ⟨fuel, hf⟩ := h0
    rcases open_ints Try.underlying22 Try.underlying5 (by kernel_rfl) hf with ⟨hcs, _⟩ | ⟨x, l, c, zs, hcs, _, hl, hm, hz, _, hcell, hwz⟩
    · simp [Value.cells] at hcs
      obtain ⟨rfl, rfl, rfl⟩ := hcs
      exact ⟨[], .inl ⟨rfl, rfl, rfl, rfl⟩⟩
    · simp [Value.cells] at hcs
      obtain ⟨rfl, rfl, rfl⟩ := hcs
      exact ⟨zs, .inr ⟨_, rfl, hl, hm, by simpa using hz, hcell, hwz⟩⟩
  clear hA0 hval0
  refine (walk a0 len0 cap0 z0 W w0).mono fun e W' ⟨he, bel⟩ => ?_
  subst he
  exact ⟨_, rfl, _, _, _, [], _, [], hW', trodAll_mk1 (shut_bool Try.underlying4 _), (trodAll_cons_mk (Below.trod laidOut (by kernel_rfl) (of_decide_eq_true (by kernel_rfl)) k0 bel lt0) trodAll_mk0), rfl, bel.frame _, fun h => by cases h⟩

theorem over : Rows.fnNatDividesRow.holds Try.pinned (OpenSpec.ofChange Rows.fnNatDividesSpec) :=
  OpenClaim.holds_of_wide 3 Try.f3 rfl rfl rfl rfl rfl rfl rfl ⟨rfl, rfl, rfl, rfl, rfl⟩ rfl rfl rfl rfl rfl (by kernel_rfl) Try.func3 (by kernel_rfl)
    (of_decide_eq_true (by kernel_rfl)) (by unfold Func.isWrapper; first | (rw [if_pos (by decide +kernel)]; kernel_rfl) | (rw [if_neg (by decide +kernel)]; exact ⟨rfl, rfl⟩))
    (fun os started H enc _ => lifted os started H enc)

/-- The given statement. -/
theorem proved : Rows.FnNatDividesSaid := over

end Go.Proofs.Ytgbmijebhchkiaa.fnNatDivides
