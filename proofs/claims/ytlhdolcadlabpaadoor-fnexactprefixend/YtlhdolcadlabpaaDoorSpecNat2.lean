/- The specification's naturals held against each other, added, taken off. Conditions: digits, at most 1048576 bytes. -/
import Derived.Test.YtlhdolcadlabpaaDoorSpecNat1
namespace Go.Proofs.YtlhdolcadlabpaaDoor
set_option linter.unusedVariables false
open Go.RowKit
open Go.Lib (byteCells)

def cmpN (a b : Nat) : Int := if a < b then -1 else if a = b then 0 else 1

end Go.Proofs.YtlhdolcadlabpaaDoor
