/- spec.NatCmp, NatAdd, NatSub. Conditions: at most 1048576 bytes. -/
import Derived.Test.YtlhdolcadlabpaaDoorSpecNat4
namespace Go.Proofs.YtlhdolcadlabpaaDoor
set_option linter.unusedVariables false
open Go.RowKit
open Go.Lib (byteCells)

instance (b : UInt8) : Decidable (IsD b) := inferInstanceAs (Decidable (_ ∧ _))
instance (l : List UInt8) : Decidable (Digs l) := inferInstanceAs (Decidable (∀ b ∈ l, IsD b))
instance (l : List UInt8) : Decidable (Canon l) := inferInstanceAs (Decidable (_ ∧ _))
instance (s : ByteArray) : Decidable (NatS s) := inferInstanceAs (Decidable (_ ∧ _ ∧ _))

/-- The number of a string. -/
def nv (s : ByteArray) : Nat := val s.data.toList
/-- A result within 600 digits. -/
def fits (v : Nat) : List UInt8 × Bool := if (natOf v).length ≤ 600 then (natOf v, true) else ([], false)
def Ans2 (p : List UInt8 × Bool) (w : World) (e : Ending) (w' : World) : Prop := e = .returned (.tuple #[.string ⟨p.1.toArray⟩, .bool p.2]) ∧ Below w.heap.size w w'

def cmpOf (s t : ByteArray) : Int := if NatS s ∧ NatS t then cmpN (nv s) (nv t) else 2
def addOf (s t : ByteArray) : List UInt8 × Bool := if NatS s ∧ NatS t then fits (nv s + nv t) else ([], false)
def subOf (s t : ByteArray) : List UInt8 × Bool := if NatS s ∧ NatS t ∧ nv t ≤ nv s then (natOf (nv s - nv t), true) else ([], false)

theorem NatS.eq {s : ByteArray} (h : NatS s) : s.data.toList = natOf (nv s) := (canon_eq h.2.1 h.1).symm
theorem NatS.mono {s t : ByteArray} (h : NatS s) (g : NatS t) (hle : nv t ≤ nv s) : t.size ≤ s.size := by
  rcases Nat.lt_or_ge s.size t.size with h1 | h1
  · have := canon_len_lt h.2.1 g.2.1 g.1 (by rw [size_list, size_list]; exact h1) h.1.1
    unfold nv at hle
    omega
  · exact h1

theorem AnsB.get {P : Prop} {w w' : World} {e : Ending} (h : AnsB P w e w') : (e = .returned (.bool true) ∧ P ∨ e = .returned (.bool false) ∧ ¬ P) ∧ Below w.heap.size w w' := by
  obtain ⟨b, rfl, hb, hB⟩ := h
  refine ⟨?_, hB⟩
  cases b with
  | true => exact .inl ⟨rfl, hb.1 rfl⟩
  | false => exact .inr ⟨rfl, fun h => by cases hb.2 h⟩




end Go.Proofs.YtlhdolcadlabpaaDoor
