/- spec.DrawDecText: what is drawn is bounded; laws.pick at the place 1 below 5. Conditions: the codes have at most 1048576 bytes. -/
import Derived.Test.YtlhdolcadlabpaaDoorDrawDec
namespace Go.Proofs.YtlhdolcadlabpaaDoor
set_option linter.unusedVariables false
open Go.RowKit

set_option maxHeartbeats 1000000 in
set_option maxRecDepth 100000 in
theorem drawDecText_any (a : Option Addr) (c : Nat) (zs : List Int) (w : World) (hlen : zs.length ≤ 1048576) (hN : Nums .u8 w w.heap.size a zs) (hZ : Bytes zs) :
    Calls Tryd.prog 8 #[.slice a zs.length c] w (DrawnDec w.heap.size w) := by
  have K0 := DecAt.new w false ⟨#[]⟩ 0
  have B0 : Below w.heap.size w (w.alloc (.cells #[.bool false, .string ⟨#[]⟩, .int .i64 0] 25)) := (Below.refl _ _).alloc (Nat.le_refl _) _
  have cO := open_cur a c zs (w.alloc (.cells #[.bool false, .string ⟨#[]⟩, .int .i64 0] 25)) hlen ((hN.below B0).up B0.size)
  clear hN
  go_enter Tryd.func8, Tryd.ntmps8
  go_wp2_with fail
  refine cO.mono ?_
  rintro e w1 ⟨rfl, hc1, B1⟩
  have K1 := K0.belowS B1
  have D1 := below_kept B0 (Nat.le_refl _) B1
  have hsz : (w.alloc (.cells #[.bool false, .string ⟨#[]⟩, .int .i64 0] 25)).heap.size = w.heap.size + 1 := by simp
  rw [hsz] at hc1
  have cD := dec_cur hlen hZ (by omega) (by omega) hc1
  clear hsz
  clear cO B1 K0
  go_wp2_with fail
  refine cD.mono ?_
  rintro e w2 ⟨n, t, x, h1, h2, h3, rfl, B2⟩
  have K2 : DecAt w2 w.heap.size false ⟨#[]⟩ 0 := K1.below B2 (by omega)
  have D2 : Below w.heap.size w w2 := D1.trans (B2.mono (by omega))
  clear cD B2 K1 D1 hc1
  go_wp2_with (with_reducible show wpList _ _ _ (⟨_, .store _ _ _, _, _, _, _⟩ :: _) _ _; refine store_dec w.heap.size rfl rfl K2 ?_)
  refine bodyPost_ret (v := .agg (row3 n t x)) (results_dec rfl _ _ rfl K2.row) rfl ?_
  exact ⟨n, t, x, h1, h2, h3, rfl, below_row3 D2 (Nat.le_refl _) _⟩

set_option maxHeartbeats 4000000 in
set_option maxRecDepth 100000 in
theorem lawPick5 (a : Option Addr) (c : Nat) (zs : List Int) (w : World) (hlen : zs.length ≤ 1048576) (hN : Nums .u8 w w.heap.size a zs) (hZ : Bytes zs) :
    Calls Tryd.prog 11 #[.slice a zs.length c, .int .i64 1, .int .i64 5] w fun e w' => ∃ x : Nat, x < 5 ∧ e = .returned (.int .i64 x) ∧ Below w.heap.size w w' := by
  by_cases hz : zs.length = 0
  · have hzi : (zs.length : Int) = 0 := by omega
    clear hN hZ
    go_enter Tryd.func11, Tryd.ntmps11
    go_wp2
    go_ret
    exact ⟨0, by omega, rfl, Below.refl _ _⟩
  · have HN := Lib.hid hN
    have HZ := Lib.hid hZ
    have hzi : ((zs.length : Int) == 0) = false := beq_eq_false_iff_ne.2 (by omega)
    have hzp : (0 : Int) < (zs.length : Int) := by omega
    clear hN hZ
    go_enter Tryd.func11, Tryd.ntmps11
    go_wp2
    go_loopw [7, 8] (fun x k wr => ∃ (q y : Nat), k = .int .i64 q ∧ x = .int .i64 y ∧ (q = 0 ∧ y = 0 ∨ q = 1 ∧ y ≤ 255 ∨ q = 2 ∧ y ≤ 8160 ∨ q = 3 ∧ y ≤ 253215) ∧ Below w.heap.size w wr) (fun _ k _ => 3 - (intOf k).toNat)
    case atStart => exact ⟨0, 0, rfl, rfl, .inl ⟨rfl, rfl⟩, Below.refl _ _⟩
    case round =>
      obtain ⟨q, y, rfl, rfl, hq, hbel⟩ := hrel
      have HQ := Lib.hid hq
      have hq3 : q ≤ 3 := by omega
      have hy : y ≤ 253215 := by omega
      by_cases hlt : q < 3
      · have hy2 : y ≤ 8160 := by omega
        have hqi : (q : Int) < 3 := by omega
        clear hq
        obtain ⟨j, hj⟩ : ∃ j : Nat, (1 + (q : Int)) % (zs.length : Int) = j := ⟨((1 + (q : Int)) % (zs.length : Int)).toNat, by have := Int.emod_nonneg (1 + (q : Int)) (show (zs.length : Int) ≠ 0 by omega); omega⟩
        have hjl : j < zs.length := by have := Int.emod_lt_of_pos (1 + (q : Int)) hzp; omega
        obtain ⟨b, o, rfl, hb, hc0⟩ := HN.out j hjl
        obtain ⟨z, hz⟩ : ∃ z, zs[j] = z := ⟨_, rfl⟩
        have hzb := HZ.out j hjl
        rw [hz] at hc0 hzb
        have z0 := hzb.1
        have z1 := hzb.2
        have hc : wr.cell? ⟨b, o + j, none⟩ = some (.int .u8 z) := (hbel.cell (p := ⟨b, o + j, none⟩) hb).trans hc0
        clear hz hzb hc0
        go_wp2
        go_roundw
        case rel =>
          refine ⟨q + 1, 31 * y + z.toNat, by go_num, ?_, by have := HQ.out; omega, hbel⟩
          congr 1
          omega
        case measure => simp [intOf]; omega
      · have hqi : (q : Int) = 3 := by omega
        clear hq
        go_wp2
        go_ret
        refine ⟨((y + 1) % 5), by omega, ?_, hbel⟩
        congr 2

end Go.Proofs.YtlhdolcadlabpaaDoor
