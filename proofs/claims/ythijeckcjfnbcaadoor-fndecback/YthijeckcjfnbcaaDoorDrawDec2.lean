/- spec.DrawDecText: what is drawn is bounded; laws.pick at the place 1 below 5. Conditions: the codes have at most 1048576 bytes. -/
import Derived.Test.YthijeckcjfnbcaaDoorDrawDec
namespace Go.Proofs.YthijeckcjfnbcaaDoor
set_option linter.unusedVariables false
open Go.RowKit

set_option maxHeartbeats 1000000 in
set_option maxRecDepth 100000 in
theorem drawDecText_any (a : Option Addr) (c : Nat) (zs : List Int) (w : World) (hlen : zs.length ≤ 1048576) (hN : Nums .u8 w w.heap.size a zs) (hZ : Bytes zs) :
    Calls Tryd.prog 6 #[.slice a zs.length c] w (DrawnDec w.heap.size w) := by
  have K0 := DecAt.new w false ⟨#[]⟩ 0
  have B0 : Below w.heap.size w (w.alloc (.cells #[.bool false, .string ⟨#[]⟩, .int .i64 0] 25)) := (Below.refl _ _).alloc (Nat.le_refl _) _
  have cO := open_cur a c zs (w.alloc (.cells #[.bool false, .string ⟨#[]⟩, .int .i64 0] 25)) hlen ((hN.below B0).up B0.size)
  clear hN
  go_enter Tryd.func6, Tryd.ntmps6
  go_wp2_with fail
  refine cO.mono ?_
  rintro e w1 ⟨rfl, hc1, B1⟩
  have K1 := K0.belowS B1
  have D1 := below_kept B0 (Nat.le_refl _) B1
  have hsz : (w.alloc (.cells #[.bool false, .string ⟨#[]⟩, .int .i64 0] 25)).heap.size = w.heap.size + 1 := by simp
  rw [hsz] at hc1
  have cD := dec_cur hlen hZ (by omega) (by omega) hc1
  clear hsz
  clear cO B1 K0
  go_wp2_with fail
  refine cD.mono ?_
  rintro e w2 ⟨n, t, x, h1, h2, h3, rfl, B2⟩
  have K2 : DecAt w2 w.heap.size false ⟨#[]⟩ 0 := K1.below B2 (by omega)
  have D2 : Below w.heap.size w w2 := D1.trans (B2.mono (by omega))
  clear cD B2 K1 D1 hc1
  go_wp2_with (with_reducible show wpList _ _ _ (⟨_, .store _ _ _, _, _, _, _⟩ :: _) _ _; refine store_dec w.heap.size rfl rfl K2 ?_)
  refine bodyPost_ret (v := .agg (row3 n t x)) (results_dec rfl _ _ rfl K2.row) rfl ?_
  exact ⟨n, t, x, h1, h2, h3, rfl, below_row3 D2 (Nat.le_refl _) _⟩

end Go.Proofs.YthijeckcjfnbcaaDoor
