/- For every list of ints, flag and number, impl.RxHas answers as spec.RxHas does and leaves the list as it was. No condition. -/
import Derived.Test.YtimmbllhjmponaaRxHas
import Derived.Test.YtimmbllhjmponaaInts
import Derived.WalkKit
import Derived.ProofKit
import Derived.OpenShut
import Derived.ShutString
import Derived.ChangeOld
import Derived.Below
namespace Go.Proofs.Ytimmbllhjmponaa.fnExactRxHas
open Go.ChangeShapes Go.WideShapes Go.ChangeAt Go.RowKit
open Go.ChangeMaps (open_string shut_string)
set_option linter.unusedVariables false

/-- A slice of ints that came in: it is nil, or leads to a row of cells. -/
def IsRow (k : IntKind) (w : World) (a : Option Addr) (len cap : Nat) (zs : List Int) : Prop :=
  (a = none ∧ len = 0 ∧ cap = 0 ∧ zs = []) ∨
  ∃ x, a = some x ∧ len ≤ cap ∧ cap ≤ maxLen ∧ zs.length = cap ∧ (∀ i, i < zs.length → w.cell? (x.add i) = some (.int k (zs.getD i 0))) ∧ ∀ n ∈ zs, (Lit.int k n).wf = true

theorem nums_of_row {w : World} {a : Option Addr} {len cap : Nat} {z : List Int} (h : IsRow .i64 w a len cap z) : ∃ zs, zs.length = len ∧ Nums .i64 w w.heap.size a zs := by
  rcases h with ⟨rfl, rfl, rfl, rfl⟩ | ⟨x, rfl, hl, hm, hz, hcell, hwz⟩
  · exact ⟨[], rfl, fun j hj => absurd hj (by simp)⟩
  · refine ⟨z.take len, by simp; omega, fun j hj => ?_⟩
    have hj' : j < len := by simp at hj; omega
    obtain ⟨b, off, spot⟩ := x
    have hc := hcell j (by omega)
    have hspot : spot = none := by simpa [Addr.add] using World.cell?_spot (hcell 0 (by omega))
    subst hspot
    rw [Addr.add_lit] at hc
    refine ⟨b, off, rfl, World.block_lt_of_cell? w _ hc, ?_⟩
    rw [hc]
    simp [List.getD, show j < z.length by omega]

theorem walk (a0 : Option Addr) (len0 cap0 : Nat) (z0 : List Int) (neg : Bool) (x : Int) (w : World) (w0 : IsRow .i64 w a0 len0 cap0 z0) (wx : (Lit.int .i64 x).wf = true) :
    Calls Try.prog 3 #[.slice a0 len0 cap0, .bool neg, .int .i64 x] w fun e w' => e = .returned (.bool true) ∧ Below w.heap.size w w' := by
  obtain ⟨zs, rfl, hN⟩ := nums_of_row w0
  clear w0 wx
  by_cases hlen : zs.length ≤ 1048576
  · go_enter Try.func3, Try.ntmps3
    go_wp2_with fail
    refine (toInts_any _ _ zs _ hlen hN).mono ?_
    rintro e w1 ⟨rfl, hown1, hb1⟩
    have N1 := Nums.own hown1
    clear hown1
    go_wp2_with fail
    refine (specHas _ _ zs neg x _ _ hlen N1).mono ?_
    rintro e w2 ⟨rfl, n2, rfl⟩
    have B2 : Below w.heap.size w (w1.drewN n2) := belowDrewN hb1 n2
    generalize w1.drewN n2 = w2 at B2 ⊢
    have N2 : Nums .i64 w2 w2.heap.size a0 zs := (hN.below B2).up B2.size
    clear hb1 N1
    go_wp2_with fail
    refine (toInts_any _ _ zs _ hlen N2).mono ?_
    rintro e w3 ⟨rfl, hown3, hb3⟩
    have N3 := Nums.own hown3
    have B3 : Below w.heap.size w w3 := B2.trans (hb3.mono B2.size)
    clear hown3 hb3 B2 N2
    go_wp2_with fail
    refine (implHas _ _ zs neg x _ _ hlen N3).mono ?_
    rintro e w4 ⟨rfl, n4, rfl⟩
    have B4 : Below w.heap.size w (w3.drewN n4) := belowDrewN B3 n4
    have M4 : Nums .i64 (w3.drewN n4) (w3.drewN n4).heap.size _ zs := N3.below (belowDrewN (Below.refl _ _) n4)
    generalize w3.drewN n4 = w4 at B4 M4 ⊢
    have N4 : Nums .i64 w4 w4.heap.size a0 zs := (hN.below B4).up B4.size
    clear B3 N3
    obtain ⟨hb, hhb⟩ : ∃ hb, hasR zs neg x = hb := ⟨_, rfl⟩
    rw [hhb]
    clear hhb
    go_wp2_with fail
    refine (toInts_any _ _ zs _ hlen N4).mono ?_
    rintro e w5 ⟨rfl, hown5, hb5⟩
    have N5 := Nums.own hown5
    have M5 := (M4.below hb5).up hb5.size
    have B5 : Below w.heap.size w w5 := B4.trans (hb5.mono B4.size)
    clear hown5 hb5 B4 N4 M4
    go_wp2_with fail
    refine (eqInts_any _ _ _ _ zs _ hlen M5 N5).mono ?_
    rintro e w6 ⟨rfl, hb6⟩
    have B6 : Below w.heap.size w w6 := B5.trans (hb6.mono B5.size)
    clear hb6 B5 N5 M5
    go_wp2
    go_ret
    exact ⟨rfl, B6⟩
  · go_enter Try.func3, Try.ntmps3
    go_wp2
    go_ret
    exact ⟨rfl, Below.refl _ _⟩

theorem own : ownKnob Try.prog.godebug = none := by kernel_rfl
theorem laidOut : laidOutB Try.prog = true := by kernel_rfl

set_option maxRecDepth 100000 in
theorem lifted (os : Os) (started : os.Started) (H : Type) (enc : TypeId × Value → H) :
    ReturnsInHanded {} Try.checked os 3 .any (Rows.fnExactRxHasSpec.pre6 enc Try.prog Try.f3 Rows.fnExactRxHasRow.domain false) (Rows.fnExactRxHasSpec.post enc Try.prog Try.f3 false true false false) := by
  refine returnsInHanded_of_change (C := Try.checked) own started (by kernel_rfl) Try.func3
    (ChangeSpec.witness6 (enc := enc) (C := Try.checked) false ⟨#[], #[.slice none 0 0, .bool false, .int .i64 0], []⟩ 8 (by kernel_rfl) (by kernel_rfl) (by kernel_rfl) (by kernel_rfl)) ?_
  intro W base args ds gs before hval0 hW hcnd _
  have hval : ∀ (j : Nat) t v, Try.f3.params[j]? = some t → args[j]? = some v → Value.okWide Try.prog W .any base t v := hval0
  have hW' := hW
  obtain ⟨p, q, hA0, hV, rfl, hfz, hnd⟩ := hW
  have hA : DataW.TrodAll enc Try.prog W 0 (fun _ => true) true Try.f3.params.toList args.toList ds p := hA0
  rw [Try.params3] at hA hval
  obtain ⟨v0, vs0, d0, ds0, p0, q0, hargs, rfl, rfl, h0, r0⟩ := trodAll_cons hA
  obtain ⟨v1, vs1, d1, ds1, p1, q1, rfl, rfl, rfl, h1, r1⟩ := trodAll_cons r0
  obtain ⟨v2, vs2, d2, ds2, p2, q2, rfl, rfl, rfl, h2, r2⟩ := trodAll_cons r1
  obtain ⟨rfl, rfl, rfl⟩ := trodAll_nil r2
  obtain rfl : args = #[v0, v1, v2] := by cases args; simp_all
  obtain ⟨rfl, rfl⟩ := trodVars_none hV
  obtain ⟨a0, len0, cap0, rfl⟩ := okWide_slice Try.underlying22 (hval 0 22 v0 rfl rfl)
  have k0 := h0
  have lt0 : ∀ x ∈ p0, x.block < W.heap.size := by obtain ⟨m, hm⟩ := k0; exact DataW.trod_lt m _ _ _ hm
  obtain ⟨z0, w0⟩ : ∃ zs, IsRow .i64 W a0 len0 cap0 zs := by
    obtain ⟨fuel, hf⟩ := h0
    rcases open_ints Try.underlying22 Try.underlying3 (by kernel_rfl) hf with ⟨hcs, _⟩ | ⟨x, l, c, zs, hcs, _, hl, hm, hz, _, hcell, hwz⟩
    · simp [Value.cells] at hcs
      obtain ⟨rfl, rfl, rfl⟩ := hcs
      exact ⟨[], .inl ⟨rfl, rfl, rfl, rfl⟩⟩
    · simp [Value.cells] at hcs
      obtain ⟨rfl, rfl, rfl⟩ := hcs
      exact ⟨zs, .inr ⟨_, rfl, hl, hm, by simpa using hz, hcell, hwz⟩⟩
  obtain ⟨n1, rfl, rfl, rfl⟩ := open_bool Try.underlying4 (hval 1 4 v1 rfl rfl) h1
  obtain ⟨n2, rfl, rfl, rfl, w2⟩ := open_int Try.underlying3 (hval 2 3 v2 rfl rfl) h2
  clear hA0 hval0
  refine (walk a0 len0 cap0 z0 n1 n2 W w0 w2).mono fun e W' ⟨he, bel⟩ => ?_
  subst he
  exact ⟨_, rfl, _, _, _, [], _, [], hW', trodAll_mk1 (shut_bool Try.underlying4 _), (trodAll_cons_mk (Below.trod laidOut (by kernel_rfl) (of_decide_eq_true (by kernel_rfl)) k0 bel lt0) (trodAll_cons_mk (shut_bool Try.underlying4 _) (trodAll_cons_mk (shut_int Try.underlying3 w2) trodAll_mk0))), rfl, bel.frame _, fun h => by cases h⟩

theorem over : Rows.fnExactRxHasRow.holds Try.pinned (OpenSpec.ofChange Rows.fnExactRxHasSpec) :=
  OpenClaim.holds_of_wide 3 Try.f3 rfl rfl rfl rfl rfl rfl rfl ⟨rfl, rfl, rfl, rfl, rfl⟩ rfl rfl rfl rfl rfl (by kernel_rfl) Try.func3 (by kernel_rfl)
    (of_decide_eq_true (by kernel_rfl)) (by unfold Func.isWrapper; first | (rw [if_pos (by decide +kernel)]; kernel_rfl) | (rw [if_neg (by decide +kernel)]; exact ⟨rfl, rfl⟩))
    (fun os started H enc _ => lifted os started H enc)

/-- The given statement. -/
theorem proved : Rows.FnExactRxHasSaid := over

end Go.Proofs.Ytimmbllhjmponaa.fnExactRxHas
