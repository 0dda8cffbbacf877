/- spec.NatDiv, spec.NatShift. Conditions: at most 1048576 bytes. -/
import Derived.Test.YtlhdolcadlabpaaDoorSpecNat6
namespace Go.Proofs.YtlhdolcadlabpaaDoor
set_option linter.unusedVariables false
open Go.RowKit
open Go.Lib (byteCells)

def Ans3 (p q : List UInt8) (b : Bool) (w : World) (e : Ending) (w' : World) : Prop := e = .returned (.tuple #[.string ⟨p.toArray⟩, .string ⟨q.toArray⟩, .bool b]) ∧ Below w.heap.size w w'
def divOf (s t : ByteArray) : List UInt8 × List UInt8 × Bool := if NatS s ∧ NatS t ∧ 0 < nv t then (natOf (nv s / nv t), natOf (nv s % nv t), true) else ([], [], false)
def shiftOf (s : ByteArray) (n : Int) : List UInt8 × Bool := if NatS s ∧ 0 ≤ n ∧ n ≤ 600 then fits (nv s * 10 ^ n.toNat) else ([], false)

theorem zero_of {t : ByteArray} (h : NatS t) (h0 : ¬ 0 < nv t) : t = ⟨#[48]⟩ := by
  have h1 := h.eq
  rw [show nv t = 0 by omega, natOf_small (by omega)] at h1
  apply ByteArray.ext
  apply Array.ext'
  rw [h1]; rfl
theorem not_zero {t : ByteArray} (h0 : 0 < nv t) : (t.toList == [48]) = false := by
  refine beq_eq_false_iff_ne.2 fun e => ?_
  rw [ByteArray.toList_eq] at e
  unfold nv at h0
  rw [e] at h0
  exact absurd h0 (by decide)
theorem val_zeros (n : Nat) : val (List.replicate n 48) = 0 ∧ Digs (List.replicate n (48 : UInt8)) := by
  induction n with
  | zero => exact ⟨rfl, digs_nil⟩
  | succ n ih =>
    rw [List.replicate_succ']
    refine ⟨by rw [val_snoc, ih.1]; rfl, ih.2.append (digs_one ⟨by decide, by decide⟩)⟩



end Go.Proofs.YtlhdolcadlabpaaDoor
