/- spec.DecNeg and spec.l03Sum of valid decimals. -/
import Derived.Test.YtlhdolcadlabpaaDoorSpecDec3
namespace Go.Proofs.YtlhdolcadlabpaaDoor
set_option linter.unusedVariables false
open Go.RowKit

/-- Two more blocks than a valid decimal needs; behind it a decimal is stored. -/
theorem neg_list {n : Bool} {s : ByteArray} {e : Int} (h : s.size ≠ 0) : negOf (dOf n s e) = dOf (!n) s e := by
  unfold negOf
  rw [if_neg]
  · rfl
  · show s.data.toList ≠ []
    intro g
    have := size_list s
    rw [g] at this; simp at this; omega
theorem neg_nil {n : Bool} {s : ByteArray} {e : Int} (h : s.size = 0) : negOf (dOf n s e) = DecV.zero := by
  unfold negOf
  rw [if_pos]
  exact List.eq_nil_of_length_eq_zero (by show s.data.toList.length = 0; rw [size_list]; exact h)
theorem mk_list (s : ByteArray) : (⟨s.data.toList.toArray⟩ : ByteArray) = s := by rw [Array.toArray_toList]

end Go.Proofs.YtlhdolcadlabpaaDoor
