/- spec.DecWhole. Condition: at most 1048576 digits. -/
import Derived.Test.YthijeckcjfnbcaaGreatDoorWholeMath
import Derived.Test.YthijeckcjfnbcaaGreatDoorSpecDec2
import Derived.Test.YthijeckcjfnbcaaGreatDoorKept
namespace Go.Proofs.YthijeckcjfnbcaaGreatDoor
set_option linter.unusedVariables false
open Go.RowKit

/-- An answer of an int and a bool. -/
def AnsIB (p : Int × Bool) (w : World) (r : Ending) (w' : World) : Prop := r = .returned (.tuple #[.int .i64 p.1, .bool p.2]) ∧ Below w.heap.size w w'
abbrev ten18 : List UInt8 := [49, 48, 48, 48, 48, 48, 48, 48, 48, 48, 48, 48, 48, 48, 48, 48, 48, 48, 48]
theorem ten18_val : val ten18 = 1000000000000000000 := by decide
theorem ten18_nat : natOf 1000000000000000000 = ten18 := by
  have := canon_eq (l := ten18) (fun b hb => by
    simp only [ten18, List.mem_cons, List.not_mem_nil, or_false] at hb
    unfold IsD
    rcases hb with h | h | h | h | h | h | h | h | h | h | h | h | h | h | h | h | h | h | h <;> (subst h; decide)) ⟨by simp, .inr (by simp)⟩
  rwa [ten18_val] at this
theorem val_take_le (l : List UInt8) (k : Nat) : val (l.take k) ≤ val l := by
  have h := val_append (l.take k) (l.drop k)
  rw [List.take_append_drop] at h
  have hp : 1 ≤ 10 ^ (l.drop k).length := Nat.pow_pos (by omega)
  have h1 : val (l.take k) * 1 ≤ val (l.take k) * 10 ^ (l.drop k).length := Nat.mul_le_mul_left _ hp
  omega

end Go.Proofs.YthijeckcjfnbcaaGreatDoor
