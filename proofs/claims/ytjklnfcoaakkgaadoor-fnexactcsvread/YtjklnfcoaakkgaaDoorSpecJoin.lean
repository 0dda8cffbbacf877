/- spec.Joined joins texts as the plain function. Conditions: at most 1048576 strings, each of at most 1048576 bytes. -/
import Derived.Test.YtjklnfcoaakkgaaDoorJoinMath
import Derived.Test.YtjklnfcoaakkgaaDoorStrMem
import Derived.Test.YtjklnfcoaakkgaaDoorImplOk
import Derived.Lib.AppendStr
namespace Go.Proofs.YtjklnfcoaakkgaaDoor
set_option linter.unusedVariables false
open Go.RowKit
open Go.Lib (byteCells)

set_option maxHeartbeats 1000000 in
set_option maxRecDepth 100000 in
theorem specTextOkJ (s : ByteArray) (w : World) (hs : s.size ≤ 1048576) : Calls Tryd.prog 41 #[.string s] w (BoolIs (runesOf s).isSome w) := by
  have cR := specRunes s w hs
  unfold IntsAre at cR
  unfold BoolIs
  generalize (runesOf s).isSome = b at cR ⊢
  generalize (runesOf s).getD [] = l at cR
  go_enter Tryd.func41, Tryd.ntmps41
  go_wp2_with fail
  refine cR.mono ?_
  rintro e w1 ⟨v, rfl, hown, hb⟩
  obtain ⟨A, c, rfl⟩ := own_form hown
  clear hown cR
  go_wp2
  go_ret
  exact ⟨rfl, hb⟩

/-- A string and a flag. -/
def JoinIs (o : Option (List UInt8)) (w : World) (e : Ending) (w' : World) : Prop := e = .returned (.tuple #[.string ⟨(o.getD []).toArray⟩, .bool o.isSome]) ∧ Below w.heap.size w w'
theorem JoinIs.no {o : Option (List UInt8)} {w w' : World} (h : o = none) (hb : Below w.heap.size w w') : JoinIs o w (.returned (.tuple #[.string ⟨#[]⟩, .bool false])) w' := by subst h; exact ⟨rfl, hb⟩
theorem JoinIs.yes {o : Option (List UInt8)} {l : List UInt8} {w w' : World} (h : o = some l) (hb : Below w.heap.size w w') : JoinIs o w (.returned (.tuple #[.string ⟨l.toArray⟩, .bool true])) w' := by subst h; exact ⟨rfl, hb⟩
theorem strCells_eq (s : ByteArray) : Lib.strCells s = byteCells s.data.toList := rfl

theorem cells_join (a b : List UInt8) : byteCells (a ++ b) = byteCells a ++ byteCells b := by simp [byteCells]
theorem size_join (x : ByteArray) : x.data.toList.length = x.size := Array.length_toList
theorem row_join {w : World} {B : Nat} {e : TypeId} {v : Value} {a : List UInt8} {x : ByteArray} {m : Nat} (hm : a.length + x.size = m) (h : w.ownsRow B e 1 v m (byteCells a ++ Lib.strCells x)) : w.ownsRow B e 1 v (a ++ x.data.toList).length (byteCells (a ++ x.data.toList)) := by
  rw [cells_join, List.length_append, size_join, hm, ← strCells_eq]; exact h
theorem row_keep {w w' : World} {B : Nat} {e : TypeId} {n : Nat} {v : Value} {xs : List Value} (h : w.ownsRow B e 1 v n xs) (hb : Below w.heap.size w w') : w'.ownsRow B e 1 v n xs :=
  h.kept (row := none) ⟨hb.os, hb.tape, hb.output, hb.size, fun k hk _ => hb.block k hk⟩ (by cases hv : v.ownBlock <;> simp)

def SJRel (sep : ByteArray) (xs : List ByteArray) (R : Option (List UInt8)) (w : World) (v i : Value) (wr : World) : Prop :=
  ∃ (k : Nat) (acc : List UInt8), k ≤ xs.length ∧ i = .int .i64 k ∧ acc.length ≤ 1000 ∧ wr.ownsRow w.heap.size 5 1 v acc.length (byteCells acc) ∧ joinFrom sep (decide (k = 0)) acc (xs.drop k) = R ∧ Below w.heap.size w wr

end Go.Proofs.YtjklnfcoaakkgaaDoor
