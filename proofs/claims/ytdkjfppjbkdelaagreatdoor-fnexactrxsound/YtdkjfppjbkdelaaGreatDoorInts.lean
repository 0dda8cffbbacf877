/- laws.toIntS copies a list of ints into new memory; laws.eqIntS tells whether two lists are equal. Conditions: at most 1048576 elements. -/
import Derived.Test.YtdkjfppjbkdelaaGreatDoorRows
import Derived.Test.YtdkjfppjbkdelaaGreatDoorMem
import Derived.Deep.QuietTactic
import Derived.BigQuiet
namespace Go.Proofs.YtdkjfppjbkdelaaGreatDoor
open Go.RowKit

theorem Tryz.infoInt : (Tryz.prog.info? 3).map (fun i => (i.zero, i.size, i.bytes)) = some (some (.int .i64 0), 1, 8) := by kernel_rfl
theorem Tryz.infoByte : (Tryz.prog.info? 5).map (fun i => (i.zero, i.size, i.bytes)) = some (some (.int .u8 0), 1, 1) := by kernel_rfl

theorem copied_step (zs : List Int) (k : Nat) (h : k < zs.length) :
    (((zs.take k ++ List.replicate (zs.length - k) 0).map (Value.int .i64)).set k (.int .i64 zs[k])) = (zs.take (k + 1) ++ List.replicate (zs.length - (k + 1)) 0).map (Value.int .i64) := by
  apply List.ext_getElem?
  intro j
  simp only [List.getElem?_set, List.getElem?_map, List.getElem?_append, List.length_take, List.length_map, List.length_append, List.length_replicate, List.getElem?_take, List.getElem?_replicate]
  by_cases h1 : k = j
  · subst h1
    simp [h, show min k zs.length = k by omega, show min (k + 1) zs.length = k + 1 by omega, show 0 < zs.length - k by omega]
  · rcases Nat.lt_or_gt_of_ne h1 with h2 | h2
    · simp [show ¬ j < k by omega, show ¬ j < k + 1 by omega, h1, show min k zs.length = k by omega, show min (k+1) zs.length = k + 1 by omega]
      congr 1
      by_cases h3 : j < zs.length
      · simp [show j - k < zs.length - k by omega, show j - (k + 1) < zs.length - (k + 1) by omega]
      · simp [show ¬ j - k < zs.length - k by omega, show ¬ j - (k + 1) < zs.length - (k + 1) by omega]
    · simp [show j < k by omega, show j < k + 1 by omega, h1, show min k zs.length = k by omega, show min (k+1) zs.length = k + 1 by omega]

set_option maxHeartbeats 1000000 in
set_option maxRecDepth 100000 in
theorem toInts_any (A : Option Addr) (c : Nat) (zs : List Int) (w : World) (hlen : zs.length ≤ 1048576) (hN : Nums .i64 w w.heap.size A zs) :
    Calls Tryz.prog 164 #[.slice A zs.length c] w fun e w' => e = .returned (.slice (some ⟨w.heap.size, 0, none⟩) zs.length zs.length) ∧
      w'.ownsRow w.heap.size 3 1 (.slice (some ⟨w.heap.size, 0, none⟩) zs.length zs.length) zs.length (zs.map (Value.int .i64)) ∧ Below w.heap.size w w' := by
  obtain ⟨i0, hi, hz0, hz1, hz2⟩ := info_parts Tryz.infoInt
  go_enter Tryz.func164, Tryz.ntmps164
  go_wp2_with (at_make; refine wpList_make_full _ rfl _ _ 45 rfl w.heap.size 3 i0 (.int .i64 0) 1 Tryz.underlying45 hi hz0 hz1 _ _ _ _ zs.length rfl rfl rfl rfl (by rw [hz2]; omega) (by unfold maxLen; omega) (Nat.le_refl _) ?_; intro w0 hown0 hgrow0)
  have hb0 : Below w.heap.size w w0 := (Below.refl _ _).grown hgrow0 (Nat.le_refl _) (fun k h => by cases h)
  have hown0' : w0.ownsRow w.heap.size 3 1 (.slice (some ⟨w.heap.size, 0, none⟩) zs.length zs.length) zs.length ((zs.take 0 ++ List.replicate (zs.length - 0) 0).map (Value.int .i64)) := by
    have e : (madeCells (Value.int IntKind.i64 0).cells (zs.length * 1)).toList = (zs.take 0 ++ List.replicate (zs.length - 0) 0).map (Value.int .i64) := by
      rw [Nat.mul_one]
      show (madeCells #[Value.int IntKind.i64 0] zs.length).toList = _
      rw [toList_madeCells_one]
      simp
    rw [← e]
    exact hown0
  clear hown0 hgrow0
  go_wp2
  go_loopw [4] (fun i wr => ∃ k : Nat, k ≤ zs.length ∧ i = .int .i64 k ∧ wr.ownsRow w.heap.size 3 1 (.slice (some ⟨w.heap.size, 0, none⟩) zs.length zs.length) zs.length ((zs.take k ++ List.replicate (zs.length - k) 0).map (Value.int .i64)) ∧ Below w.heap.size w wr)
    (fun i _ => zs.length - (intOf i).toNat)
  case atStart => exact ⟨0, Nat.zero_le _, rfl, hown0', hb0⟩
  case round =>
    obtain ⟨k, hk, rfl, hown, hbel⟩ := hrel
    clear hown0' hb0
    by_cases hlt : k < zs.length
    · obtain ⟨b, o, rfl, hb, hc⟩ := hN k hlt
      have hcr : wr.cell? ⟨b, o + k, none⟩ = some (.int .i64 zs[k]) := (hbel.cell (p := ⟨b, o + k, none⟩) hb).trans hc
      have hco : wr.cell? ⟨w.heap.size, k, none⟩ = some (.int .i64 0) := by
        rw [hown.cellAt k (by omega)]
        simp [show min k zs.length = k by omega, show 0 < zs.length - k by omega]
      have hfo : wr.frozen? ⟨w.heap.size, k, none⟩ = false := hown.frozenAt k
      have hst := hown.stored k (.int .i64 zs[k])
      have HS : Hid (_ = _) := copied_step zs k hlt
      clear hc hN
      go_wp2
      go_roundw
      case rel => exact ⟨k + 1, hlt, by go_num, by rw [← HS.out]; exact hst.1, hbel.setCell (Nat.le_refl _) _⟩
      case measure => simp [intOf]; omega
    · obtain rfl : k = zs.length := by omega
      go_wp2
      go_ret
      exact ⟨rfl, by simpa using hown, hbel⟩

set_option maxHeartbeats 1000000 in
set_option maxRecDepth 100000 in
theorem eqInts_any (A B : Option Addr) (c d : Nat) (zs : List Int) (w : World) (hlen : zs.length ≤ 1048576) (hA : Nums .i64 w w.heap.size A zs) (hB : Nums .i64 w w.heap.size B zs) :
    Calls Tryz.prog 165 #[.slice A zs.length c, .slice B zs.length d] w fun e w' => e = .returned (.bool true) ∧ Below w.heap.size w w' := by
  go_enter Tryz.func165, Tryz.ntmps165
  go_wp2
  go_loopw [5] (fun i wr => ∃ k : Nat, k ≤ zs.length ∧ i = .int .i64 k ∧ Below w.heap.size w wr) (fun i _ => zs.length - (intOf i).toNat)
  case atStart => exact ⟨0, Nat.zero_le _, rfl, Below.refl _ _⟩
  case round =>
    obtain ⟨k, hk, rfl, hbel⟩ := hrel
    by_cases hlt : k < zs.length
    · obtain ⟨b, o, rfl, hb, hc⟩ := hA k hlt
      obtain ⟨b', o', rfl, hb', hc'⟩ := hB k hlt
      have hcr : wr.cell? ⟨b, o + k, none⟩ = some (.int .i64 zs[k]) := (hbel.cell (p := ⟨b, o + k, none⟩) hb).trans hc
      have hcr' : wr.cell? ⟨b', o' + k, none⟩ = some (.int .i64 zs[k]) := (hbel.cell (p := ⟨b', o' + k, none⟩) hb').trans hc'
      have hltz : (k : Int) < (zs.length : Int) := by omega
      clear hc hc' hA hB
      go_wp2
      go_quiet (fail)
      go_wp2
      go_roundw
      case rel => exact ⟨k + 1, hlt, by go_num, belowDrewN hbel _⟩
      case measure => simp [intOf]; omega
    · go_wp2
      go_ret
      exact ⟨rfl, hbel⟩

end Go.Proofs.YtdkjfppjbkdelaaGreatDoor
