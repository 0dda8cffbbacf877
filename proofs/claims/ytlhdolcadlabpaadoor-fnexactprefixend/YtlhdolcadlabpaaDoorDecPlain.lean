/- What the functions of two decimals answer, plainly; worlds that hold two decimals. No program in it. -/
import Derived.Test.YtlhdolcadlabpaaDoorSpecDec5
import Derived.Test.YtlhdolcadlabpaaDoorKept
namespace Go.Proofs.YtlhdolcadlabpaaDoor
set_option linter.unusedVariables false
open Go.RowKit

noncomputable instance (d : DecV) : Decidable d.Ok := Classical.propDecidable _
noncomputable def addR (a b : DecV) : DecV × Int := if a.Ok ∧ b.Ok then formOf (sumOf a b).1 (sumOf a b).2 (low2 a b) else (DecV.zero, 3)
noncomputable def subR (a b : DecV) : DecV × Int := if a.Ok ∧ b.Ok then formOf (sumOf a (negOf b)).1 (sumOf a (negOf b)).2 (low2 a (negOf b)) else (DecV.zero, 3)
noncomputable def mulR (a b : DecV) : DecV × Int := if a.Ok ∧ b.Ok then formOf (a.neg != b.neg) (val a.dig * val b.dig) (a.exp + b.exp) else (DecV.zero, 3)
noncomputable def cmpR (a b : DecV) : Int := if a.Ok ∧ b.Ok then cmpS a b else 2
noncomputable def negR (a : DecV) : DecV := if a.Ok then negOf a else DecV.zero

theorem held4 {w0 w w' : World} {a b c : Nat} {n n2 n3 : Bool} {s s2 s3 : ByteArray} {e e2 e3 : Int} (h : DecAt w a n s e ∧ DecAt w b n2 s2 e2 ∧ DecAt w c n3 s3 e3 ∧ Below w0.heap.size w0 w) (hb : Below w.heap.size w w') :
    DecAt w' a n s e ∧ DecAt w' b n2 s2 e2 ∧ DecAt w' c n3 s3 e3 ∧ Below w0.heap.size w0 w' := ⟨h.1.belowS hb, h.2.1.belowS hb, h.2.2.1.belowS hb, below_kept h.2.2.2 (Nat.le_refl _) hb⟩
theorem held3 {w0 w w' : World} {a b : Nat} {n n2 : Bool} {s s2 : ByteArray} {e e2 : Int} (h : DecAt w a n s e ∧ DecAt w b n2 s2 e2 ∧ Below w0.heap.size w0 w) (hb : Below w.heap.size w w') :
    DecAt w' a n s e ∧ DecAt w' b n2 s2 e2 ∧ Below w0.heap.size w0 w' := ⟨h.1.belowS hb, h.2.1.belowS hb, below_kept h.2.2 (Nat.le_refl _) hb⟩
/-- A negative of a decimal that is valid, by its fields. -/
theorem neg_fields {n : Bool} {s : ByteArray} {e : Int} (h : (dOf n s e).Ok) : ∃ (m : Bool) (f : Int), negOf (dOf n s e) = dOf m s f := by
  by_cases h0 : s.size = 0
  · refine ⟨false, 0, ?_⟩
    rw [neg_nil h0]
    exact (dOf_zero.2 ⟨rfl, toList_nil.2 h0, rfl⟩).symm
  · exact ⟨!n, e, neg_list h0⟩

end Go.Proofs.YtlhdolcadlabpaaDoor
