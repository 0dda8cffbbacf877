/- strings.Clone, impl's magnitude, impl.DecNeg. Condition: at most 1048576 digits. -/
import Derived.Test.YtpkmhojcccpolabGreatDoorImplDec1
import Derived.Test.YtpkmhojcccpolabGreatDoorDecPlain
import Derived.Test.YtpkmhojcccpolabGreatDoorShelf
namespace Go.Proofs.YtpkmhojcccpolabGreatDoor
set_option linter.unusedVariables false
open Go.RowKit

set_option maxHeartbeats 400000 in
theorem implClone (s : ByteArray) (w : World) (hs : s.size ≤ 1048576) : Calls Tryz.prog 44 #[.string s] w fun r w' => r = .returned (.string s) ∧ Below w.heap.size w w' := by
  have c := fun W => Tryz.stringslite_Clone s W (by omega)
  go_enter Tryz.func44, Tryz.ntmps44
  go_wp2_with fail
  refine (c _).mono ?_
  rintro r w1 ⟨rfl, B1⟩
  clear c
  go_wp2
  go_ret
  exact ⟨rfl, B1⟩

set_option maxHeartbeats 400000 in
theorem implMagnitude (n : Bool) (s : ByteArray) (e : Int) (w : World) (hs : s.size ≤ 1048576) (b1 : -1000000000 ≤ e) (b2 : e ≤ 1000000000) :
    Calls Tryz.prog 45 #[.agg #[.bool n, .string s, .int .i64 e]] w fun r w' => r = .returned (.int .i64 (e + s.size - 1)) ∧ Below w.heap.size w w' := by
  have B : Below w.heap.size w (w.alloc (.cells #[.bool n, .string s, .int .i64 e] 25)) := (Below.refl _ _).alloc (Nat.le_refl _) _
  go_enter Tryz.func45, Tryz.ntmps45
  go_wp2
  go_ret
  exact ⟨rfl, B⟩

end Go.Proofs.YtpkmhojcccpolabGreatDoor
