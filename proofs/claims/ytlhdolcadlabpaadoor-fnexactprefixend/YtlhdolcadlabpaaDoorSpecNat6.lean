/- spec.NatSub, spec.l02Div. Conditions: at most 1048576 bytes; l02Div: naturals, the second not 0. -/
import Derived.Test.YtlhdolcadlabpaaDoorSpecNat5
namespace Go.Proofs.YtlhdolcadlabpaaDoor
set_option linter.unusedVariables false
open Go.RowKit
open Go.Lib (byteCells)


theorem natOf_len_mono {a b : Nat} (h : a ≤ b) : (natOf a).length ≤ (natOf b).length := by
  rcases Nat.lt_or_ge (natOf b).length (natOf a).length with h1 | h1
  · have := canon_len_lt (natOf_digs b) (natOf_digs a) (natOf_canon a) h1 (natOf_ne b)
    rw [val_natOf, val_natOf] at this
    omega
  · exact h1

/-- One digit more of a division. -/
theorem div_step {P x B q d : Nat} (hB : 0 < B) (hq : q = P / B) (h : (10 * (P % B) + x) / B = d) : 10 * q + d = (10 * P + x) / B := by
  have h1 := Nat.div_add_mod P B
  subst hq
  have : 10 * P + x = (10 * (P / B)) * B + (10 * (P % B) + x) := by
    have : 10 * P = 10 * (P / B) * B + 10 * (P % B) := by rw [Nat.mul_assoc, ← Nat.mul_add, Nat.mul_comm (P / B) B, h1]
    omega
  rw [this, Nat.add_comm (10 * (P / B) * B), Nat.add_mul_div_right _ _ hB, h]
  omega
theorem mod_step {P x B : Nat} : (10 * (P % B) + x) % B = (10 * P + x) % B := by
  rw [Nat.add_mod, Nat.mul_mod, Nat.mod_mod, ← Nat.mul_mod, ← Nat.add_mod]

theorem trim_len : ∀ (l : List UInt8), l ≠ [] → (trim l).length ≤ l.length
  | [], h => absurd rfl h
  | [b], _ => Nat.le_refl _
  | b :: c :: l, _ => by
    rw [trim]
    split
    · have := trim_len (c :: l) (by simp)
      simp at this ⊢; omega
    · exact Nat.le_refl _
theorem ext_one (s : ByteArray) (i : Nat) (h : i < s.size) : (s.extract i (i + 1)).data.toList = [s[i]] := by
  have hl := size_list s
  rw [ByteArray.data_extract, Array.toList_extract]
  simp only [List.extract_eq_take_drop, Nat.add_sub_cancel_left]
  rw [List.drop_eq_getElem_cons (by rw [hl]; exact h)]
  rfl

def DivRel (la : List UInt8) (B : Nat) (w : World) (v rv iv : Value) (wr : World) : Prop :=
  ∃ (i : Nat) (acc : List UInt8), i ≤ la.length ∧ iv = .int .i64 i ∧ rv = .string ⟨(natOf (val (la.take i) % B)).toArray⟩ ∧ wr.ownsRow w.heap.size 5 1 v acc.length (byteCells acc) ∧ Digs acc ∧ acc.length = i ∧ val acc = val (la.take i) / B ∧ Below w.heap.size w wr

def Ans22 (p q : List UInt8) (w : World) (e : Ending) (w' : World) : Prop := e = .returned (.tuple #[.string ⟨p.toArray⟩, .string ⟨q.toArray⟩]) ∧ Below w.heap.size w w'


end Go.Proofs.YtlhdolcadlabpaaDoor
