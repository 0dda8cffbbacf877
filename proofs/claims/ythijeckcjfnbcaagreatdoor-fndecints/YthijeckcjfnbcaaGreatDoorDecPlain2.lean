/- What DecDiv, DecMod, DecInt and DecPow answer, plainly. No program in it. -/
import Derived.Test.YthijeckcjfnbcaaGreatDoorSpecDecA
import Derived.Test.YthijeckcjfnbcaaGreatDoorDecMath4
namespace Go.Proofs.YthijeckcjfnbcaaGreatDoor
set_option linter.unusedVariables false

noncomputable def divR (a b : DecV) : DecV × Int := if a.Ok ∧ b.Ok then (if b.dig = [] then (DecV.zero, 2) else divV a b) else (DecV.zero, 3)
noncomputable def modR (a b : DecV) : DecV × Int := if a.Ok ∧ b.Ok then (if b.dig = [] then (DecV.zero, 2) else modV a b) else (DecV.zero, 3)
noncomputable def intR (a : DecV) : DecV := if a.Ok then intOfD a else DecV.zero
theorem nil_size {s : ByteArray} : s.data.toList = [] ↔ s.size = 0 := by rw [← size_list]; exact List.length_eq_zero_iff.symm
/-- The digits of a valid decimal that is not 0 are a natural. -/
theorem ok_nat {n : Bool} {s : ByteArray} {e : Int} (h : (dOf n s e).Ok) (h0 : s.size ≠ 0) : NatS s ∧ 0 < nv s := by
  have hne : s.data.toList ≠ [] := fun g => h0 (nil_size.1 g)
  obtain ⟨p1, p2, _⟩ := h.pos hne
  obtain ⟨d, q, _⟩ := ok_size h
  exact ⟨⟨⟨hne, .inr p2⟩, d, by omega⟩, p1⟩
theorem natS_of {v : Nat} (h : (natOf v).length ≤ 600) : NatS ⟨(natOf v).toArray⟩ := ⟨natOf_canon v, natOf_digs v, h⟩

end Go.Proofs.YthijeckcjfnbcaaGreatDoor
