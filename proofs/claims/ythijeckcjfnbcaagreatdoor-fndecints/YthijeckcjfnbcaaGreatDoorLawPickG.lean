/- laws.pick hands out a number below its bound. Conditions: the code has at most 1048576 bytes; the place at most 9, the bound 2 to 2000. -/
import Derived.Test.YthijeckcjfnbcaaGreatDoorDraw
namespace Go.Proofs.YthijeckcjfnbcaaGreatDoor
set_option linter.unusedVariables false
open Go.RowKit

set_option maxHeartbeats 4000000 in
set_option maxRecDepth 100000 in
theorem lawPickG (p m : Nat) (hp9 : p ≤ 9) (hm1 : 2 ≤ m) (hm2 : m ≤ 2000) (a : Option Addr) (c : Nat) (zs : List Int) (w : World) (hlen : zs.length ≤ 1048576) (hN : Nums .u8 w w.heap.size a zs) (hZ : Bytes zs) :
    Calls Tryz.prog 16 #[.slice a zs.length c, .int .i64 p, .int .i64 m] w fun e w' => ∃ x : Nat, x < m ∧ e = .returned (.int .i64 x) ∧ Below w.heap.size w w' := by
  have hmi : ¬ (m : Int) < 2 := by omega
  by_cases hz : zs.length = 0
  · have hzi : (zs.length : Int) = 0 := by omega
    clear hN hZ
    go_enter Tryz.func16, Tryz.ntmps16
    go_wp2
    go_ret
    exact ⟨0, by omega, rfl, Below.refl _ _⟩
  · have HN := Lib.hid hN
    have HZ := Lib.hid hZ
    have hzi : ((zs.length : Int) == 0) = false := beq_eq_false_iff_ne.2 (by omega)
    have hzp : (0 : Int) < (zs.length : Int) := by omega
    have hmp : (0 : Int) < (m : Int) := by omega
    clear hN hZ
    go_enter Tryz.func16, Tryz.ntmps16
    go_wp2
    go_loopw [7, 8] (fun x k wr => ∃ (q y : Nat), k = .int .i64 q ∧ x = .int .i64 y ∧ (q = 0 ∧ y = 0 ∨ q = 1 ∧ y ≤ 255 ∨ q = 2 ∧ y ≤ 8160 ∨ q = 3 ∧ y ≤ 253215) ∧ Below w.heap.size w wr) (fun _ k _ => 3 - (intOf k).toNat)
    case atStart => exact ⟨0, 0, rfl, rfl, .inl ⟨rfl, rfl⟩, Below.refl _ _⟩
    case round =>
      obtain ⟨q, y, rfl, rfl, hq, hbel⟩ := hrel
      have HQ := Lib.hid hq
      have hq3 : q ≤ 3 := by omega
      have hy : y ≤ 253215 := by omega
      by_cases hlt : q < 3
      · have hy2 : y ≤ 8160 := by omega
        have hqi : (q : Int) < 3 := by omega
        clear hq
        obtain ⟨j, hj⟩ : ∃ j : Nat, ((p : Int) + (q : Int)) % (zs.length : Int) = j := ⟨(((p : Int) + (q : Int)) % (zs.length : Int)).toNat, by have := Int.emod_nonneg ((p : Int) + (q : Int)) (show (zs.length : Int) ≠ 0 by omega); omega⟩
        have hjl : j < zs.length := by have := Int.emod_lt_of_pos ((p : Int) + (q : Int)) hzp; omega
        obtain ⟨b, o, rfl, hb, hc0⟩ := HN.out j hjl
        obtain ⟨z, hz⟩ : ∃ z, zs[j] = z := ⟨_, rfl⟩
        have hzb := HZ.out j hjl
        rw [hz] at hc0 hzb
        have z0 := hzb.1
        have z1 := hzb.2
        have hc : wr.cell? ⟨b, o + j, none⟩ = some (.int .u8 z) := (hbel.cell (p := ⟨b, o + j, none⟩) hb).trans hc0
        clear hz hzb hc0
        go_wp2
        go_roundw
        case rel =>
          refine ⟨q + 1, 31 * y + z.toNat, by go_num, ?_, by have := HQ.out; omega, hbel⟩
          congr 1
          omega
        case measure => simp [intOf]; omega
      · have hqi : (q : Int) = 3 := by omega
        clear hq
        obtain ⟨r, hr⟩ : ∃ r : Nat, ((y : Int) + (p : Int)) % (m : Int) = r := ⟨(((y : Int) + (p : Int)) % (m : Int)).toNat, by have := Int.emod_nonneg ((y : Int) + (p : Int)) (show (m : Int) ≠ 0 by omega); omega⟩
        have hrm : r < m := by have := Int.emod_lt_of_pos ((y : Int) + (p : Int)) hmp; omega
        go_wp2
        go_ret
        exact ⟨r, hrm, by rw [hr]; rfl, hbel⟩

end Go.Proofs.YthijeckcjfnbcaaGreatDoor
