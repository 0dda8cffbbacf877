/- A decimal that came in as an argument: its fields, and its reading behind the call. No condition. -/
import Derived.Test.YthijeckcjfnbcaaGreatDoorDecAt
import Derived.WalkKit
import Derived.ProofKit
import Derived.OpenShut
import Derived.ShutString
import Derived.ChangeOld
import Derived.ChangeMaps5
import Derived.Below
import Derived.Deep.Strs
namespace Go.Proofs.YthijeckcjfnbcaaGreatDoor
set_option linter.unusedVariables false
open Go.ChangeShapes Go.WideShapes Go.ChangeAt Go.RowKit Go.Deep
open Go.ChangeMaps (open_string shut_string)

theorem Tryz.cellsBoolD : Tryz.prog.cellsOf 4 = 1 := by kernel_rfl
theorem Tryz.cellsStringD : Tryz.prog.cellsOf 9 = 1 := by kernel_rfl
theorem Tryz.cellsIntD : Tryz.prog.cellsOf 3 = 1 := by kernel_rfl
end Go.Proofs.YthijeckcjfnbcaaGreatDoor
