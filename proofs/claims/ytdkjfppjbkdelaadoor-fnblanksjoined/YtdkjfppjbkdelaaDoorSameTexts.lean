/- laws.sameTexts tells whether two lists of strings are equal. Conditions: at most 1048576 elements. -/
import Derived.Test.YtdkjfppjbkdelaaDoorStrMem
namespace Go.Proofs.YtdkjfppjbkdelaaDoor
set_option linter.unusedVariables false
open Go.RowKit

set_option maxHeartbeats 1000000 in
set_option maxRecDepth 100000 in
theorem sameTexts_any (A B : Option Addr) (c d : Nat) (xs : List ByteArray) (w : World) (hlen : xs.length ≤ 1048576) (hA : Strs w w.heap.size A xs) (hB : Strs w w.heap.size B xs) :
    Calls Tryd.prog 9 #[.slice A xs.length c, .slice B xs.length d] w fun e w' => e = .returned (.bool true) ∧ Below w.heap.size w w' := by
  go_enter Tryd.func9, Tryd.ntmps9
  go_wp2
  go_loopw [5] (fun i wr => ∃ k : Nat, k ≤ xs.length ∧ i = .int .i64 k ∧ Below w.heap.size w wr) (fun i _ => xs.length - (intOf i).toNat)
  case atStart => exact ⟨0, Nat.zero_le _, rfl, Below.refl _ _⟩
  case round =>
    obtain ⟨k, hk, rfl, hbel⟩ := hrel
    by_cases hlt : k < xs.length
    · obtain ⟨b, o, rfl, hb, hc⟩ := hA k hlt
      obtain ⟨b', o', rfl, hb', hc'⟩ := hB k hlt
      have hcr : wr.cell? ⟨b, o + k, none⟩ = some (.string xs[k]) := (hbel.cell (p := ⟨b, o + k, none⟩) hb).trans hc
      have hcr' : wr.cell? ⟨b', o' + k, none⟩ = some (.string xs[k]) := (hbel.cell (p := ⟨b', o' + k, none⟩) hb').trans hc'
      have hltz : (k : Int) < (xs.length : Int) := by omega
      clear hc hc' hA hB
      go_wp2
      go_quiet (fail)
      go_wp2
      go_roundw
      case rel => exact ⟨k + 1, hlt, by go_num, belowDrewN hbel _⟩
      case measure => simp [intOf]; omega
    · go_wp2
      go_ret
      exact ⟨rfl, hbel⟩

end Go.Proofs.YtdkjfppjbkdelaaDoor
