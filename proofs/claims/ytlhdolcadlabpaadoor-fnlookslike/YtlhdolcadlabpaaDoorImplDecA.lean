/- impl.DecOk answers whether a decimal is valid. Condition: at most 1048576 digits. -/
import Derived.Test.YtlhdolcadlabpaaDoorSpecDec1
import Derived.Test.YtlhdolcadlabpaaDoorImplNat1
import Derived.Test.YtlhdolcadlabpaaDoorSpecDecA
import Derived.Test.YtlhdolcadlabpaaDoorShelf
namespace Go.Proofs.YtlhdolcadlabpaaDoor
set_option linter.unusedVariables false
open Go.RowKit

theorem cell_below {w w' : World} {a : Addr} {v : Value} (h : w.cell? a = some v) (hb : Below w.heap.size w w') (hl : a.block < w.heap.size) : w'.cell? a = some v := (hb.cell hl).trans h

end Go.Proofs.YtlhdolcadlabpaaDoor

/- strings.Clone, impl's magnitude, impl.DecNeg. Condition: at most 1048576 digits. -/
namespace Go.Proofs.YtlhdolcadlabpaaDoor
set_option linter.unusedVariables false
open Go.RowKit

set_option maxHeartbeats 400000 in
theorem implClone (s : ByteArray) (w : World) (hs : s.size ≤ 1048576) : Calls Tryd.prog 54 #[.string s] w fun r w' => r = .returned (.string s) ∧ Below w.heap.size w w' := by
  have c := fun W => Tryd.stringslite_Clone s W (by omega)
  go_enter Tryd.func54, Tryd.ntmps54
  go_wp2_with fail
  refine (c _).mono ?_
  rintro r w1 ⟨rfl, B1⟩
  clear c
  go_wp2
  go_ret
  exact ⟨rfl, B1⟩

set_option maxHeartbeats 400000 in
theorem implMagnitude (n : Bool) (s : ByteArray) (e : Int) (w : World) (hs : s.size ≤ 1048576) (b1 : -1000000000 ≤ e) (b2 : e ≤ 1000000000) :
    Calls Tryd.prog 55 #[.agg #[.bool n, .string s, .int .i64 e]] w fun r w' => r = .returned (.int .i64 (e + s.size - 1)) ∧ Below w.heap.size w w' := by
  have B : Below w.heap.size w (w.alloc (.cells #[.bool n, .string s, .int .i64 e] 25)) := (Below.refl _ _).alloc (Nat.le_refl _) _
  go_enter Tryd.func55, Tryd.ntmps55
  go_wp2
  go_ret
  exact ⟨rfl, B⟩

end Go.Proofs.YtlhdolcadlabpaaDoor
