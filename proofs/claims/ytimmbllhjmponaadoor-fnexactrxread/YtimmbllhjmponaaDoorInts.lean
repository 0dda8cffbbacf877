/- laws.toIntS copies a list of ints into new memory; laws.eqIntS tells whether two lists are equal. Conditions: at most 1048576 elements. -/
import Derived.Test.YtimmbllhjmponaaDoorRows
import Derived.Test.YtimmbllhjmponaaDoorMem
import Derived.Deep.QuietTactic
import Derived.BigQuiet
namespace Go.Proofs.YtimmbllhjmponaaDoor
open Go.RowKit

theorem Tryd.infoInt : (Tryd.prog.info? 3).map (fun i => (i.zero, i.size, i.bytes)) = some (some (.int .i64 0), 1, 8) := by kernel_rfl
theorem Tryd.infoByte : (Tryd.prog.info? 5).map (fun i => (i.zero, i.size, i.bytes)) = some (some (.int .u8 0), 1, 1) := by kernel_rfl

theorem copied_step (zs : List Int) (k : Nat) (h : k < zs.length) :
    (((zs.take k ++ List.replicate (zs.length - k) 0).map (Value.int .i64)).set k (.int .i64 zs[k])) = (zs.take (k + 1) ++ List.replicate (zs.length - (k + 1)) 0).map (Value.int .i64) := by
  apply List.ext_getElem?
  intro j
  simp only [List.getElem?_set, List.getElem?_map, List.getElem?_append, List.length_take, List.length_map, List.length_append, List.length_replicate, List.getElem?_take, List.getElem?_replicate]
  by_cases h1 : k = j
  · subst h1
    simp [h, show min k zs.length = k by omega, show min (k + 1) zs.length = k + 1 by omega, show 0 < zs.length - k by omega]
  · rcases Nat.lt_or_gt_of_ne h1 with h2 | h2
    · simp [show ¬ j < k by omega, show ¬ j < k + 1 by omega, h1, show min k zs.length = k by omega, show min (k+1) zs.length = k + 1 by omega]
      congr 1
      by_cases h3 : j < zs.length
      · simp [show j - k < zs.length - k by omega, show j - (k + 1) < zs.length - (k + 1) by omega]
      · simp [show ¬ j - k < zs.length - k by omega, show ¬ j - (k + 1) < zs.length - (k + 1) by omega]
    · simp [show j < k by omega, show j < k + 1 by omega, h1, show min k zs.length = k by omega, show min (k+1) zs.length = k + 1 by omega]

set_option maxHeartbeats 1000000 in
set_option maxRecDepth 100000 in
theorem eqInts_any (A B : Option Addr) (c d : Nat) (zs : List Int) (w : World) (hlen : zs.length ≤ 1048576) (hA : Nums .i64 w w.heap.size A zs) (hB : Nums .i64 w w.heap.size B zs) :
    Calls Tryd.prog 34 #[.slice A zs.length c, .slice B zs.length d] w fun e w' => e = .returned (.bool true) ∧ Below w.heap.size w w' := by
  go_enter Tryd.func34, Tryd.ntmps34
  go_wp2
  go_loopw [5] (fun i wr => ∃ k : Nat, k ≤ zs.length ∧ i = .int .i64 k ∧ Below w.heap.size w wr) (fun i _ => zs.length - (intOf i).toNat)
  case atStart => exact ⟨0, Nat.zero_le _, rfl, Below.refl _ _⟩
  case round =>
    obtain ⟨k, hk, rfl, hbel⟩ := hrel
    by_cases hlt : k < zs.length
    · obtain ⟨b, o, rfl, hb, hc⟩ := hA k hlt
      obtain ⟨b', o', rfl, hb', hc'⟩ := hB k hlt
      have hcr : wr.cell? ⟨b, o + k, none⟩ = some (.int .i64 zs[k]) := (hbel.cell (p := ⟨b, o + k, none⟩) hb).trans hc
      have hcr' : wr.cell? ⟨b', o' + k, none⟩ = some (.int .i64 zs[k]) := (hbel.cell (p := ⟨b', o' + k, none⟩) hb').trans hc'
      have hltz : (k : Int) < (zs.length : Int) := by omega
      clear hc hc' hA hB
      go_wp2
      go_quiet (fail)
      go_wp2
      go_roundw
      case rel => exact ⟨k + 1, hlt, by go_num, belowDrewN hbel _⟩
      case measure => simp [intOf]; omega
    · go_wp2
      go_ret
      exact ⟨rfl, hbel⟩

end Go.Proofs.YtimmbllhjmponaaDoor
