/- The text of a decimal, plainly. No program in it. -/
import Derived.Test.YthijeckcjfnbcaaGreatDoorSpecDecA
namespace Go.Proofs.YthijeckcjfnbcaaGreatDoor
set_option linter.unusedVariables false

/-- The magnitude. -/
def DecV.mag (d : DecV) : Int := d.exp + d.dig.length - 1
def sciOf (d : DecV) : List UInt8 :=
  d.dig.take 1 ++ (if 1 < d.dig.length then [46] ++ d.dig.drop 1 else []) ++ (if d.mag < 0 then [101, 45] ++ natOf d.mag.natAbs else [101, 43] ++ natOf d.mag.natAbs)
def plainOf (d : DecV) : List UInt8 :=
  if 0 ≤ d.exp then d.dig ++ List.replicate d.exp.toNat 48
  else if 0 ≤ d.mag then d.dig.take (d.mag + 1).toNat ++ [46] ++ d.dig.drop (d.mag + 1).toNat
  else [48, 46] ++ List.replicate (-d.mag - 1).toNat 48 ++ d.dig
def signOf (d : DecV) : List UInt8 := if d.neg then [45] else []
/-- The text of a valid decimal; nothing for another. -/
noncomputable def textR (d : DecV) : List UInt8 :=
  if d.Ok then (if d.dig = [] then [48] else if d.mag < -7 ∨ 20 < d.mag then signOf d ++ sciOf d else signOf d ++ plainOf d) else []

end Go.Proofs.YthijeckcjfnbcaaGreatDoor
