/- spec.l01Text makes the text of code points. Conditions: each is one; at most 1048576 of them. -/
import Derived.Test.YtbdacfljdpdmiabDoorSpecRunes
import Derived.Test.YtbdacfljdpdmiabDoorTextMath
namespace Go.Proofs.YtbdacfljdpdmiabDoor
open Go.RowKit
open Go.Lib (encodeRuneZ encodeRune byteCells runeCells encodeRuneZ_length)

def StrIs (l : List UInt8) (w : World) (e : Ending) (w' : World) : Prop := e = .returned (.string ⟨l.toArray⟩) ∧ Below w.heap.size w w'

theorem cat_take (zs : List Int) (k : Nat) (h : k < zs.length) : cat (zs.take (k + 1)) = cat (zs.take k) ++ encodeRune zs[k] := by
  rw [List.take_succ_eq_append_getElem h, cat_snoc]


end Go.Proofs.YtbdacfljdpdmiabDoor
