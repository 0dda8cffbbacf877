/- spec.DrawDecAdd and spec.DrawDecMul: two decimals, bounded. Conditions: the code has at most 1048576 bytes. -/
import Derived.Test.YthijeckcjfnbcaaGreatDoorDrawDec
import Derived.Deep.RegionWith
namespace Go.Proofs.YthijeckcjfnbcaaGreatDoor
set_option linter.unusedVariables false
open Go.RowKit

theorem results_two {fn : Func} {p q : Tmp} (h : fn.results = #[.cell p 25, .cell q 25]) (tmps : Array Value) (w : World) {g k : Nat} {n n2 : Bool} {s s2 : ByteArray} {e e2 : Int}
    (hp : tmps.getD p undef = .pointer (some ⟨g, 0, none⟩)) (hq : tmps.getD q undef = .pointer (some ⟨k, 0, none⟩)) (hg : DecAt w g n s e) (hk : DecAt w k n2 s2 e2) :
    (results fn tmps).run Tryz.prog w = .ok (.tuple #[.agg (row3 n s e), .agg (row3 n2 s2 e2)]) w := by
  have hl := run_loadVar_row (P := Tryz.prog) w g 25 25 (row3 n s e) (0, 0) _ hg Tryz.underlying25 rfl Tryz.sizeDec
  have hm := run_loadVar_row (P := Tryz.prog) w k 25 25 (row3 n2 s2 e2) (0, 0) _ hk Tryz.underlying25 rfl Tryz.sizeDec
  have e0 : (results fn tmps).run Tryz.prog w = ((asAddr (tmps.getD p undef)).run Tryz.prog w).andThen fun a w₁ => ((loadVar 25 a).run Tryz.prog w₁).andThen fun v w₂ => ((asAddr (tmps.getD q undef)).run Tryz.prog w₂).andThen fun b w₃ => ((loadVar 25 b).run Tryz.prog w₃).andThen fun u w₄ => .ok (.tuple #[v, u]) w₄ := by
    simp only [results, h]
    simp [Sem.run_bind, Result.andThen]
  rw [e0, hp, hq]
  simp [asAddr, Result.andThen, hl, hm]
/-- What drawing two decimals leaves. -/
def DrawnTwo (w : World) (r : Ending) (w' : World) : Prop :=
  ∃ (n : Bool) (t : ByteArray) (x : Int) (n2 : Bool) (t2 : ByteArray) (x2 : Int), (t.size ≤ 1000 ∧ -9223372036854775808 ≤ x ∧ x ≤ 9223372036854775807) ∧ (t2.size ≤ 1000 ∧ -9223372036854775808 ≤ x2 ∧ x2 ≤ 9223372036854775807) ∧
    r = .returned (.tuple #[.agg (row3 n t x), .agg (row3 n2 t2 x2)]) ∧ Below w.heap.size w w'

set_option maxHeartbeats 4000000 in
set_option maxRecDepth 100000 in
theorem drawTwo_add (a : Option Addr) (c : Nat) (zs : List Int) (w : World) (hlen : zs.length ≤ 1048576) (hN : Nums .u8 w w.heap.size a zs) (hZ : Bytes zs) :
    Calls Tryz.prog 6 #[.slice a zs.length c] w (DrawnTwo w) := by
  obtain ⟨wa, hwa⟩ : ∃ wa, w.alloc (.cells #[.bool false, .string ⟨#[]⟩, .int .i64 0] 25) = wa := ⟨_, rfl⟩
  have hsa : wa.heap.size = w.heap.size + 1 := by rw [← hwa]; simp
  have K0 : DecAt wa w.heap.size false ⟨#[]⟩ 0 := by rw [← hwa]; exact DecAt.new w false ⟨#[]⟩ 0
  have B0 : Below w.heap.size w wa := by rw [← hwa]; exact (Below.refl _ _).alloc (Nat.le_refl _) _
  obtain ⟨wb, hwb⟩ : ∃ wb, wa.alloc (.cells #[.bool false, .string ⟨#[]⟩, .int .i64 0] 25) = wb := ⟨_, rfl⟩
  have hsb : wb.heap.size = w.heap.size + 2 := by rw [← hwb]; simp; omega
  have L0 : DecAt wb (w.heap.size + 1) false ⟨#[]⟩ 0 := by rw [← hwb, ← hsa]; exact DecAt.new wa false ⟨#[]⟩ 0
  have K1 : DecAt wb w.heap.size false ⟨#[]⟩ 0 := by rw [← hwb]; exact K0.alloc _
  have B1 : Below w.heap.size w wb := by rw [← hwb]; exact B0.alloc (by omega) _
  have cO := open_cur a c zs wb hlen ((hN.below B1).up (by omega))
  rw [hsb] at cO
  clear hN K0 B0
  go_enter Tryz.func6, Tryz.ntmps6
  go_wp2_with fail
  refine cO.mono ?_
  rintro e w3 ⟨rfl, hc3, B3⟩
  have K3 := K1.below B3 (by omega)
  have L3 := L0.below B3 (by omega)
  have D3 := B1.trans (B3.mono (by omega))
  have cD := dec_curC hlen hZ (by omega) (by omega) hc3
  clear cO B3 K1 L0 B1 hwa hwb
  go_wp2_with fail
  refine cD.mono ?_
  rintro e w4 ⟨n, t, x, h1, h2, h3, rfl, B4, hc4⟩
  have K4 := B4.dec K3 (by omega)
  have L4 := B4.dec L3 (by omega)
  have D4 := D3.trans (B4.2.1.mono (by omega))
  clear cD B4 K3 L3 D3 hc3
  have hp4 := hc4.lt
  have X4 := DecAt.new w4 false ⟨#[]⟩ 0
  obtain ⟨w5, hw5⟩ : ∃ q, (w4.alloc (.cells #[.bool false, .string ⟨#[]⟩, .int .i64 0] 25)).setRow w4.heap.size (row3 n t x) = q := ⟨_, rfl⟩
  have X5 : DecAt w5 w4.heap.size n t x := by rw [← hw5]; exact X4.row
  have K5 : DecAt w5 w.heap.size false ⟨#[]⟩ 0 := by rw [← hw5]; exact (K4.alloc _).rowO (by omega) _
  have L5 : DecAt w5 (w.heap.size + 1) false ⟨#[]⟩ 0 := by rw [← hw5]; exact (L4.alloc _).rowO (by omega) _
  have hc5 : Cur (w.heap.size + 2) a c zs (0 + 30) w5 := by rw [← hw5]; exact (hc4.alloc _).row (by omega) _
  have D5 : Below w.heap.size w w5 := by rw [← hw5]; exact below_row3 (D4.alloc (by omega) _) (by omega) _
  clear K4 L4 D4 hc4
  go_wp2_with (with_reducible show wpList _ _ _ (⟨_, .store _ _ _, _, _, _, _⟩ :: _) _ _; refine store_dec w4.heap.size rfl rfl X4 ?_)
  rw [hw5]
  clear hw5 X4
  have X5' : DecAt w5.drew w4.heap.size n t x := X5
  have K5' : DecAt w5.drew w.heap.size false ⟨#[]⟩ 0 := K5
  have L5' : DecAt w5.drew (w.heap.size + 1) false ⟨#[]⟩ 0 := L5
  have D5' : Below w.heap.size w w5.drew := D5.drew
  have cD2 := dec_curC hlen hZ (by omega) (by omega) hc5.drew
  have hp5 := hc5.lt
  have hx5 := X5.lt
  obtain ⟨x0, x1, x2⟩ := X5.cell
  clear X5 K5 L5 D5 hc5
  go_region_with (first | (go_at_call 23; refine cD2.mono ?_; rintro e w6 ⟨n2, t2, y2, q1, q2, q3, rfl, B6, hc6⟩; have X6 := B6.dec X5' (by omega); have K6 := B6.dec K5' (by omega); have L6 := B6.dec L5' (by omega); have D6 := D5'.trans (B6.2.1.mono (by omega)); obtain ⟨z0, z1, z2⟩ := X6.cell; obtain ⟨k0, k1, k2⟩ := K6.cell; obtain ⟨l0, l1, l2⟩ := L6.cell; have kf0 := K6.frozen 0; have kf1 := K6.frozen 1; have kf2 := K6.frozen 2; have lf0 := L6.frozen 0; have lf1 := L6.frozen 1; have lf2 := L6.frozen 2; clear B6 hc6 X6))
  all_goals
    go_wp2
    have RK := (K6.set n t x).setO (show w.heap.size ≠ w.heap.size + 1 by omega) (.bool n2) (.string t2) (.int .i64 y2)
    have RL := (L6.setO (show w.heap.size + 1 ≠ w.heap.size by omega) (.bool n) (.string t) (.int .i64 x)).set n2 t2 y2
    have RD := Below.set3 (Below.set3 D6 (p := w.heap.size) (v0 := .bool n) (v1 := .string t) (v2 := .int .i64 x) (Nat.le_refl _)) (p := w.heap.size + 1) (v0 := .bool n2) (v1 := .string t2) (v2 := .int .i64 y2) (by omega)
    refine bodyPost_ret (v := .tuple #[.agg (row3 n t x), .agg (row3 n2 t2 y2)]) (results_two rfl _ _ rfl rfl RK RL) rfl ?_
    exact ⟨n, t, x, n2, t2, y2, ⟨h1, h2, h3⟩, ⟨q1, q2, q3⟩, rfl, RD⟩

end Go.Proofs.YthijeckcjfnbcaaGreatDoor
