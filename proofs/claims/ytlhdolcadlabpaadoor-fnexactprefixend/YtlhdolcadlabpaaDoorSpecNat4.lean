/- The specification's naturals taken off. Conditions: digits, at most 100000 bytes; what is taken off is no greater and no longer. -/
import Derived.Test.YtlhdolcadlabpaaDoorSpecNat3
namespace Go.Proofs.YtlhdolcadlabpaaDoor
set_option linter.unusedVariables false
open Go.RowKit
open Go.Lib (byteCells)

theorem off_step {acc : List UInt8} {k o x y d o' A B : Nat} (hd : Digs acc) (hl : acc.length = k) (hv : val acc + B = A + o * 10 ^ k) (he : d + y + o = x + 10 * o') (hd10 : d < 10) :
    Digs (dig d :: acc) ∧ (dig d :: acc).length = k + 1 ∧ val (dig d :: acc) + (y * 10 ^ k + B) = (x * 10 ^ k + A) + o' * 10 ^ (k + 1) := by
  refine ⟨fun b hb => ?_, by simp [hl], ?_⟩
  · rcases List.mem_cons.1 hb with rfl | hb
    · exact dig_is hd10
    · exact hd b hb
  · rw [val_cons, dv_dig hd10, hl, Nat.pow_succ]
    have h1 : o' * (10 ^ k * 10) = 10 * o' * 10 ^ k := by rw [Nat.mul_comm (10 ^ k) 10, ← Nat.mul_assoc, Nat.mul_comm o' 10]
    have h2 : (d + y + o) * 10 ^ k = (x + 10 * o') * 10 ^ k := by rw [he]
    rw [Nat.add_mul, Nat.add_mul, Nat.add_mul] at h2
    rw [h1]
    omega

def SubRel (la lb : List UInt8) (w : World) (v ov kv : Value) (wr : World) : Prop :=
  ∃ (k o : Nat) (acc : List UInt8) (g cp : Nat), kv = .int .i64 k ∧ ov = .int .i64 o ∧ v = .slice (some ⟨g, 0, none⟩) acc.length cp ∧ wr.ownsRow w.heap.size 5 1 v acc.length (byteCells acc) ∧
    Digs acc ∧ acc.length = k ∧ o ≤ 1 ∧ val acc + low lb k = low la k + o * 10 ^ k ∧ k ≤ la.length ∧ Below w.heap.size w wr

end Go.Proofs.YtlhdolcadlabpaaDoor
