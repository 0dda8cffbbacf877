/- spec.l02Sub where the lesser number's row of digits may be the longer one (noughts ahead). Conditions: digits, at most 100000 of them. -/
import Derived.Test.YtlhdolcadlabpaaDoorSpecNat8
namespace Go.Proofs.YtlhdolcadlabpaaDoor
set_option linter.unusedVariables false
open Go.RowKit
open Go.Lib (byteCells)

theorem low_big {l : List UInt8} (h : Digs l) {k : Nat} (hv : val l < 10 ^ k) : low l k = val l := by
  rcases Nat.lt_or_ge k l.length with g | g
  · have e := val_append (l.take (l.length - k)) (l.drop (l.length - k))
    rw [List.take_append_drop, List.length_drop, show l.length - (l.length - k) = k by omega] at e
    unfold low
    have hp : 0 < 10 ^ k := Nat.pow_pos (by omega)
    rcases Nat.eq_zero_or_pos (val (l.take (l.length - k))) with h0 | h0
    · rw [h0] at e; omega
    · have : 1 * 10 ^ k ≤ val (l.take (l.length - k)) * 10 ^ k := Nat.mul_le_mul_right _ h0
      omega
  · exact low_all g

end Go.Proofs.YtlhdolcadlabpaaDoor
