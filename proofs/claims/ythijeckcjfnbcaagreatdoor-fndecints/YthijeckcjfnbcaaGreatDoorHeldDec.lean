/- Worlds that hold a decimal and the answer's. -/
import Derived.Test.YthijeckcjfnbcaaGreatDoorTailA
namespace Go.Proofs.YthijeckcjfnbcaaGreatDoor
set_option linter.unusedVariables false
open Go.RowKit

theorem held3row {w0 w : World} {a b g : Nat} {n n2 : Bool} {s s2 : ByteArray} {e e2 : Int} (C : Array Value) (h : DecAt w a n s e ∧ DecAt w b n2 s2 e2 ∧ Below w0.heap.size w0 w) (ha : a ≠ g) (hb : b ≠ g) (h0 : w0.heap.size ≤ g) :
    DecAt (w.setRow g C) a n s e ∧ DecAt (w.setRow g C) b n2 s2 e2 ∧ Below w0.heap.size w0 (w.setRow g C) :=
  ⟨(setRow_other _ _ _ _ ha).trans h.1, (setRow_other _ _ _ _ hb).trans h.2.1, below_row3 h.2.2 h0 _⟩
theorem ext_take (s : ByteArray) (k : Nat) : (s.extract 0 k).data.toList = s.data.toList.take k := by
  rw [ByteArray.data_extract, Array.toList_extract]
  simp [List.extract_eq_take_drop]
theorem ans_self {n : Bool} {s : ByteArray} {e : Int} {w w' : World} (h : Below w.heap.size w w') : AnsD (dOf n s e) w (.returned (.agg (row3 n s e))) w' := by
  refine ⟨?_, h⟩
  show _ = Ending.returned (.agg #[.bool n, .string ⟨s.data.toList.toArray⟩, .int .i64 e])
  rw [mk_list]

end Go.Proofs.YthijeckcjfnbcaaGreatDoor
