/- For every code: the natural drawn from it, rounded, differs by at most half of the step, and a tie goes to the even one. No condition. -/
import Derived.Test.YtgbmijebhchkiaaBigRow
import Derived.Test.YtgbmijebhchkiaaImplNat12
import Derived.Test.YtgbmijebhchkiaaSpecNat11
import Derived.WalkKit
import Derived.ProofKit
import Derived.OpenShut
import Derived.ShutString
import Derived.ChangeOld
import Derived.ChangeMaps5
import Derived.Below
namespace Go.Proofs.Ytgbmijebhchkiaa.fnNatNearest
open Go.ChangeShapes Go.WideShapes Go.ChangeAt Go.RowKit
open Go.ChangeMaps (open_string shut_string)
set_option linter.unusedVariables false

def Gives (f : FuncId) (args : Array Value) (P : ByteArray) (b : Bool) : Prop := ∀ W, Calls Try.prog f args W fun e w' => e = .returned (.tuple #[.string P, .bool b]) ∧ Below W.heap.size W w'

theorem near (v m : Nat) : (rnd v m * 10 ^ m ≤ v ∧ (2 * (v - rnd v m * 10 ^ m) < 10 ^ m ∨ 2 * (v - rnd v m * 10 ^ m) = 10 ^ m ∧ rnd v m % 2 = 0)) ∨
    (v < rnd v m * 10 ^ m ∧ (2 * (rnd v m * 10 ^ m - v) < 10 ^ m ∨ 2 * (rnd v m * 10 ^ m - v) = 10 ^ m ∧ rnd v m % 2 = 0)) := by
  have h1 := Nat.div_add_mod v (10 ^ m)
  have h2 := Nat.mod_lt v (pow_pos' m)
  unfold rnd
  generalize v / 10 ^ m = q at *
  generalize v % 10 ^ m = x at *
  generalize 10 ^ m = T at *
  rw [Nat.mul_comm] at h1
  split
  · next h =>
    have e : (q + 1) * T = q * T + T := by rw [Nat.add_mul, Nat.one_mul]
    rw [e]
    right
    refine ⟨by omega, ?_⟩
    rcases h with h | ⟨h, h3⟩
    · left; omega
    · right; exact ⟨by omega, by omega⟩
  · next h =>
    left
    refine ⟨by omega, ?_⟩
    by_cases h3 : 2 * x = T
    · right; exact ⟨by omega, by have : ¬ q % 2 = 1 := fun h4 => h (.inr ⟨h3, h4⟩); omega⟩
    · left; have : ¬ T < 2 * x := fun h4 => h (.inl h4); omega
theorem nlen {x k : Nat} (h : x < 10 ^ k) (hk : 1 ≤ k) : (natOf x).length ≤ k := by
  by_cases h0 : x = 0
  · subst h0; rw [natOf_small (by omega)]; exact hk
  · rw [← len_nz h0]; exact len_le_of h
/-- All that the rounding comes to stays below 10^(K + 1). -/
theorem room {v m k K : Nat} (hv : v < 10 ^ k) (hk : k ≤ K) (hm : m ≤ K) : rnd v m * 10 ^ m < 10 ^ (K + 1) ∧ 10 ^ m < 10 ^ (K + 1) ∧ v < 10 ^ (K + 1) := by
  have h1 : v < 10 ^ K := Nat.lt_of_lt_of_le hv (Nat.pow_le_pow_right (by omega) hk)
  have h2 : 10 ^ m ≤ 10 ^ K := Nat.pow_le_pow_right (by omega) hm
  have h3 := near v m
  have h4 : 10 ^ (K + 1) = 10 * 10 ^ K := by rw [Nat.pow_succ, Nat.mul_comm]
  omega
theorem last_digit (q : Nat) : ∃ j, (ns q).size = j + 1 ∧ ∃ h : j < (ns q).size, (ns q)[j] = dig (q % 10) := by
  have hl : 1 ≤ (natOf q).length := List.length_pos_iff.2 (natOf_ne q)
  have h1 := natOf_at q 0 (by omega)
  rw [dgt_zero, Nat.sub_zero] at h1
  refine ⟨(natOf q).length - 1, by show (natOf q).length = _; omega, by show _ < (natOf q).length; omega, ?_⟩
  have h2 : (natOf q).length - 1 < (natOf q).length := by omega
  rw [List.getElem?_eq_getElem h2] at h1
  exact Option.some.inj h1

set_option maxHeartbeats 400000 in
set_option maxRecDepth 100000 in
theorem walk (a : Option Addr) (len cap : Nat) (z : List Int) (w : World) (hR : IsRow .u8 w a len cap z) :
    Calls Try.prog 5 #[.slice a len cap] w fun e w' => e = .returned (.bool true) ∧ Below w.heap.size w w' := by
  obtain ⟨zs, rfl, hN, hZ⟩ := bytes_of_row hR
  clear hR
  by_cases hlen : zs.length ≤ 1048576
  · have cD := drawNatRound_any a cap zs w hlen hN hZ
    clear hN hZ
    have cB := big_any a zs.length cap w hlen
    go_enter Try.func5, Try.ntmps5
    go_wp2_with fail
    refine cB.mono ?_
    rintro e w0 ⟨rfl, rfl⟩
    clear cB
    go_wp2_with fail
    refine cD.mono ?_
    rintro e w1 ⟨s, n, hs, rfl, B1⟩
    clear cD
    have hs1 : s.size ≤ 1048576 := by omega
    obtain ⟨r, hr⟩ : ∃ r : ByteArray, ⟨(rndOf s n).1.toArray⟩ = r := ⟨_, rfl⟩
    obtain ⟨b, hb⟩ : ∃ b, (rndOf s n).2 = b := ⟨_, rfl⟩
    have cI : Gives 27 #[.string s, .int .i64 n] r b := fun W => by
      have := implNatRound s n W hs1
      unfold Ans2 at this
      rw [hr, hb] at this; exact this
    have cS : Gives 29 #[.string s, .int .i64 n] r b := fun W => by
      have := specNatRound s n W hs1
      unfold Ans2 at this
      rw [hr, hb] at this; exact this
    unfold Gives at cI cS
    go_wp2_with fail
    refine (cI _).mono ?_
    rintro e w2 ⟨rfl, B2⟩
    have D2 := B1.trans (B2.mono B1.size)
    clear cI B1 B2
    go_wp2_with fail
    refine (cS _).mono ?_
    rintro e w3 ⟨rfl, B3⟩
    have D3 := D2.trans (B3.mono D2.size)
    clear cS D2 B3
    cases b
    · clear hr hb
      go_wp2
      go_ret
      exact ⟨rfl, D3⟩
    · by_cases hn3 : n ≤ 300
      · have hn3i : ¬ (300 : Int) < n := by omega
        by_cases hs2 : s.size ≤ 290
        · have hs2i : ¬ (290 : Int) < (s.size : Int) := by omega
          have hall : NatS s ∧ 0 ≤ n ∧ n ≤ 600 := by
            unfold rndOf at hb
            by_cases h : NatS s ∧ 0 ≤ n ∧ n ≤ 600
            · exact h
            · rw [if_neg h] at hb; cases hb
          obtain ⟨h1, hn0, hn6⟩ := hall
          obtain ⟨m, rfl⟩ : ∃ m : Nat, n = m := ⟨n.toNat, by omega⟩
          have hro : rndOf s m = fits (rnd (nv s) m) := by unfold rndOf; rw [if_pos ⟨h1, hn0, hn6⟩, Int.toNat_natCast]
          rw [hro] at hr hb
          obtain ⟨v, hv⟩ : ∃ v, nv s = v := ⟨_, rfl⟩
          rw [hv] at hr hb
          have hvl : v < 10 ^ s.size := by rw [← hv, ← size_list]; exact val_lt h1.2.1
          obtain ⟨q, hq⟩ : ∃ q, rnd v m = q := ⟨_, rfl⟩
          have hnear := near v m
          obtain ⟨K, hK⟩ : ∃ K, max s.size m + 1 = K + 1 := ⟨max s.size m, rfl⟩
          obtain ⟨m1, m2, m3⟩ := room (K := K) (m := m) hvl (by omega) (by omega)
          have hK6 : K + 1 ≤ 301 := by omega
          rw [hq] at hr hb hnear m1
          have hql : (natOf q).length ≤ 600 := by
            unfold fits at hb
            by_cases hl : (natOf q).length ≤ 600
            · exact hl
            · rw [if_neg hl] at hb; cases hb
          have er : r = ns q := by rw [← hr, fits_ok hql]; rfl
          have e1 := h1.str
          rw [hv] at e1
          have eq' := ns_nat hql
          have lB := nlen m1 (by omega)
          have lT := nlen m2 (by omega)
          have eB := ns_nat (Nat.le_trans lB (by omega))
          have eT := ns_nat (Nat.le_trans lT (by omega))
          have one1 := ns_nat (v := 1) (by rw [natOf_small (by omega)]; simp)
          have cB : Gives 26 #[.string r, .int .i64 (m : Int)] (ns (q * 10 ^ m)) true := fun W => by
            rw [er]
            have := specNatShift (ns q) m W eq'.1.size
            unfold Ans2 shiftOf at this
            rw [if_pos ⟨eq'.1, hn0, hn6⟩, eq'.2, Int.toNat_natCast, fits_ok (Nat.le_trans lB (by omega))] at this
            exact this
          have cP : Gives 26 #[.string ⟨#[49]⟩, .int .i64 (m : Int)] (ns (10 ^ m)) true := fun W => by
            have e49 : (⟨#[49]⟩ : ByteArray) = ns 1 := by unfold ns; rw [natOf_small (by omega)]; rfl
            rw [e49]
            have := specNatShift (ns 1) m W one1.1.size
            unfold Ans2 shiftOf at this
            rw [if_pos ⟨one1.1, hn0, hn6⟩, one1.2, Int.toNat_natCast, Nat.one_mul, fits_ok (Nat.le_trans lT (by omega))] at this
            exact this
          have hD : ∃ D, 2 * D < 10 ^ (K + 1) ∧ (2 * D < 10 ^ m ∨ 2 * D = 10 ^ m ∧ q % 2 = 0) ∧ ((q * 10 ^ m ≤ v ∧ D = v - q * 10 ^ m) ∨ (v < q * 10 ^ m ∧ D = q * 10 ^ m - v)) := by
            rcases hnear with ⟨g1, g2⟩ | ⟨g1, g2⟩
            · exact ⟨v - q * 10 ^ m, by omega, g2, .inl ⟨g1, rfl⟩⟩
            · exact ⟨q * 10 ^ m - v, by omega, g2, .inr ⟨g1, rfl⟩⟩
          obtain ⟨D, hD1, hD2, hD3⟩ := hD
          have l2 := nlen hD1 (by omega)
          have l1 := nlen (show D < 10 ^ (K + 1) by omega) (by omega)
          have eD := ns_nat (Nat.le_trans l1 (by omega))
          have e2 := ns_nat (Nat.le_trans l2 (by omega))
          have cW : Gives 22 #[.string (ns D), .string (ns D)] (ns (2 * D)) true := fun W => by
            have := specNatAdd (ns D) (ns D) W eD.1.size eD.1.size
            unfold Ans2 addOf at this
            rw [if_pos ⟨eD.1, eD.1⟩, eD.2, show D + D = 2 * D by omega, fits_ok (Nat.le_trans l2 (by omega))] at this
            exact this
          have cC : ∀ W, Calls Try.prog 31 #[.string (ns (2 * D)), .string (ns (10 ^ m))] W fun e w' => e = .returned (.int .i64 (cmpN (2 * D) (10 ^ m))) ∧ Below W.heap.size W w' := fun W => by
            have := specNatCmp (ns (2 * D)) (ns (10 ^ m)) W e2.1.size eT.1.size
            unfold AnsN cmpOf at this
            rw [if_pos ⟨e2.1, eT.1⟩, e2.2, eT.2] at this
            exact this
          have cSub : (Gives 30 #[.string s, .string (ns (q * 10 ^ m))] (ns D) true) ∨ (Gives 30 #[.string s, .string (ns (q * 10 ^ m))] ⟨#[]⟩ false ∧ Gives 30 #[.string (ns (q * 10 ^ m)), .string s] (ns D) true) := by
            rcases hD3 with ⟨g1, rfl⟩ | ⟨g1, rfl⟩
            · left
              intro W
              have := specNatSub s (ns (q * 10 ^ m)) W hs1 eB.1.size
              unfold Ans2 subOf at this
              rw [if_pos ⟨h1, eB.1, by rw [eB.2, hv]; exact g1⟩, eB.2, hv] at this
              exact this
            · right
              refine ⟨fun W => ?_, fun W => ?_⟩
              · have := specNatSub s (ns (q * 10 ^ m)) W hs1 eB.1.size
                unfold Ans2 subOf at this
                rw [if_neg (fun h => absurd h.2.2 (by rw [eB.2, hv]; omega))] at this
                exact this
              · have := specNatSub (ns (q * 10 ^ m)) s W eB.1.size hs1
                unfold Ans2 subOf at this
                rw [if_pos ⟨eB.1, h1, by rw [eB.2, hv]; omega⟩, eB.2, hv] at this
                exact this
          have hlast := last_digit q
          rw [← er] at hlast
          obtain ⟨j, hj1, hj2, hj3⟩ := hlast
          have hcm : cmpN (2 * D) (10 ^ m) = -1 ∨ (cmpN (2 * D) (10 ^ m) = 0 ∧ q % 2 = 0) := by
            unfold cmpN
            rcases hD2 with g | ⟨g, g2⟩
            · left; rw [if_pos g]
            · right; exact ⟨by rw [if_neg (by omega), if_pos g], g2⟩
          have hrl : r.size ≤ 600 := by rw [er]; exact hql
          clear hr hb hro hv hvl hnear m1 m2 m3 hK hK6 hq hql er e1 eq' lB lT eB eT one1 hD1 hD2 hD3 l2 l1 eD e2 h1
          unfold Gives at *
          generalize ns (q * 10 ^ m) = BB at *
          generalize cmpN (2 * D) (10 ^ m) = cm at *
          generalize ns (10 ^ m) = TT at *
          generalize ns (2 * D) = D2' at *
          generalize ns D = DD at *
          have hji : (r.size : Int) - 1 = (j : Int) := by omega
          have HJ := Lib.hid hj1
          have hx48 : (((r[j].toNat : Nat) : Int) - 48) = ((q % 10 : Nat) : Int) := by rw [hj3, dig_toNat (by omega)]; omega
          obtain ⟨x, hx⟩ : ∃ x, r[j] = x := ⟨_, rfl⟩
          rw [hx] at hx48
          have hq10 : q % 10 < 10 := by omega
          clear hj1 hj3
          go_wp2_with fail
          refine (cB _).mono ?_
          rintro e w4 ⟨rfl, B4⟩
          have D4 := D3.trans (B4.mono D3.size)
          clear cB B4 D3
          go_wp2_with fail
          refine (cP _).mono ?_
          rintro e w5 ⟨rfl, B5⟩
          have D5 := D4.trans (B5.mono D4.size)
          clear cP B5 D4
          rcases cSub with cS1 | ⟨cS1, cS2⟩
          · go_wp2_with fail
            refine (cS1 _).mono ?_
            rintro e w6 ⟨rfl, B6⟩
            have D7 := D5.trans (B6.mono D5.size)
            clear cS1 B6 D5
            go_wp2_with fail
            refine (cW _).mono ?_
            rintro e w8 ⟨rfl, B8⟩
            have D8 := D7.trans (B8.mono D7.size)
            clear cW B8 D7
            go_wp2_with fail
            refine (cC _).mono ?_
            rintro e w9 ⟨rfl, B9⟩
            have D9 := D8.trans (B9.mono D8.size)
            clear cC B9 D8
            rcases hcm with rfl | ⟨rfl, hev⟩
            · go_wp2
              go_ret
              exact ⟨rfl, D9⟩
            · have hev2 : ((q % 10 : Nat) : Int) % 2 = 0 := by omega
              obtain ⟨d, hd⟩ : ∃ d, q % 10 = d := ⟨_, rfl⟩
              rw [hd] at hx48 hev2 hq10
              have v1 := IntWalk.u8_in (d : Int) ⟨by omega, by omega⟩
              clear hd hev
              go_wp2
              go_ret
              exact ⟨rfl, D9⟩
          · go_wp2_with fail
            refine (cS1 _).mono ?_
            rintro e w6 ⟨rfl, B6⟩
            have D6 := D5.trans (B6.mono D5.size)
            clear cS1 B6 D5
            go_wp2_with fail
            refine (cS2 _).mono ?_
            rintro e w7 ⟨rfl, B7⟩
            have D7 := D6.trans (B7.mono D6.size)
            clear cS2 B7 D6
            go_wp2_with fail
            refine (cW _).mono ?_
            rintro e w8 ⟨rfl, B8⟩
            have D8 := D7.trans (B8.mono D7.size)
            clear cW B8 D7
            go_wp2_with fail
            refine (cC _).mono ?_
            rintro e w9 ⟨rfl, B9⟩
            have D9 := D8.trans (B9.mono D8.size)
            clear cC B9 D8
            rcases hcm with rfl | ⟨rfl, hev⟩
            · go_wp2
              go_ret
              exact ⟨rfl, D9⟩
            · have hev2 : ((q % 10 : Nat) : Int) % 2 = 0 := by omega
              obtain ⟨d, hd⟩ : ∃ d, q % 10 = d := ⟨_, rfl⟩
              rw [hd] at hx48 hev2 hq10
              have v1 := IntWalk.u8_in (d : Int) ⟨by omega, by omega⟩
              clear hd hev
              go_wp2
              go_ret
              exact ⟨rfl, D9⟩
        · have hs2i : (290 : Int) < (s.size : Int) := by omega
          clear hr hb
          go_wp2
          go_ret
          exact ⟨rfl, D3⟩
      · have hn3i : (300 : Int) < n := by omega
        clear hr hb
        go_wp2
        go_ret
        exact ⟨rfl, D3⟩
  · have cB := big_yes a zs.length cap w hlen
    clear hN hZ
    go_enter Try.func5, Try.ntmps5
    go_wp2_with fail
    refine cB.mono ?_
    rintro e w0 ⟨rfl, rfl⟩
    go_wp2
    go_ret
    exact ⟨rfl, Below.refl _ _⟩

theorem own : ownKnob Try.prog.godebug = none := by kernel_rfl
theorem laidOut : laidOutB Try.prog = true := by kernel_rfl

set_option maxRecDepth 100000 in
theorem lifted (os : Os) (started : os.Started) (H : Type) (enc : TypeId × Value → H) :
    ReturnsInHanded {} Try.checked os 5 .any (Rows.fnNatNearestSpec.pre6 enc Try.prog Try.f5 Rows.fnNatNearestRow.domain false) (Rows.fnNatNearestSpec.post enc Try.prog Try.f5 false true false false) := by
  refine returnsInHanded_of_change (C := Try.checked) own started (by kernel_rfl) Try.func5
    (ChangeSpec.witness6 (enc := enc) (C := Try.checked) false ⟨#[], #[.slice none 0 0], []⟩ 8 (by kernel_rfl) (by kernel_rfl) (by kernel_rfl) (by kernel_rfl)) ?_
  intro W base args ds gs before hval0 hW hcnd _
  have hval : ∀ (j : Nat) t v, Try.f5.params[j]? = some t → args[j]? = some v → Value.okWide Try.prog W .any base t v := hval0
  have hW' := hW
  obtain ⟨p, q, hA0, hV, rfl, hfz, hnd⟩ := hW
  have hA : DataW.TrodAll enc Try.prog W 0 (fun _ => true) true Try.f5.params.toList args.toList ds p := hA0
  rw [Try.params5] at hA hval
  obtain ⟨v0, vs0, d0, ds0, p0, q0, hargs, rfl, rfl, h0, r0⟩ := trodAll_cons hA
  obtain ⟨rfl, rfl, rfl⟩ := trodAll_nil r0
  obtain rfl : args = #[v0] := by cases args; simp_all
  obtain ⟨rfl, rfl⟩ := trodVars_none hV
  obtain ⟨a0, len0, cap0, rfl⟩ := okWide_slice Try.underlying22 (hval 0 22 v0 rfl rfl)
  have k0 := h0
  have lt0 : ∀ x ∈ p0, x.block < W.heap.size := by obtain ⟨m, hm⟩ := k0; exact DataW.trod_lt m _ _ _ hm
  obtain ⟨z0, w0⟩ : ∃ zs, IsRow .u8 W a0 len0 cap0 zs := by
    obtain ⟨fuel, hf⟩ := h0
    rcases open_ints Try.underlying22 Try.underlying5 (by kernel_rfl) hf with ⟨hcs, _⟩ | ⟨x, l, c, zs, hcs, _, hl, hm, hz, _, hcell, hwz⟩
    · simp [Value.cells] at hcs
      obtain ⟨rfl, rfl, rfl⟩ := hcs
      exact ⟨[], .inl ⟨rfl, rfl, rfl, rfl⟩⟩
    · simp [Value.cells] at hcs
      obtain ⟨rfl, rfl, rfl⟩ := hcs
      exact ⟨zs, .inr ⟨_, rfl, hl, hm, by simpa using hz, hcell, hwz⟩⟩
  clear hA0 hval0
  refine (walk a0 len0 cap0 z0 W w0).mono fun e W' ⟨he, bel⟩ => ?_
  subst he
  exact ⟨_, rfl, _, _, _, [], _, [], hW', trodAll_mk1 (shut_bool Try.underlying4 _), (trodAll_cons_mk (Below.trod laidOut (by kernel_rfl) (of_decide_eq_true (by kernel_rfl)) k0 bel lt0) trodAll_mk0), rfl, bel.frame _, fun h => by cases h⟩

theorem over : Rows.fnNatNearestRow.holds Try.pinned (OpenSpec.ofChange Rows.fnNatNearestSpec) :=
  OpenClaim.holds_of_wide 5 Try.f5 rfl rfl rfl rfl rfl rfl rfl ⟨rfl, rfl, rfl, rfl, rfl⟩ rfl rfl rfl rfl rfl (by kernel_rfl) Try.func5 (by kernel_rfl)
    (of_decide_eq_true (by kernel_rfl)) (by unfold Func.isWrapper; first | (rw [if_pos (by decide +kernel)]; kernel_rfl) | (rw [if_neg (by decide +kernel)]; exact ⟨rfl, rfl⟩))
    (fun os started H enc _ => lifted os started H enc)

/-- The given statement. -/
theorem proved : Rows.FnNatNearestSaid := over

end Go.Proofs.Ytgbmijebhchkiaa.fnNatNearest
