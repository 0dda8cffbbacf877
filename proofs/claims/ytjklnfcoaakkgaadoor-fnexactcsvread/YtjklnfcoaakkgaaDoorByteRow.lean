/- A row of bytes that a call owns: what appending to it does. No condition beyond what each theorem states. -/
import Derived.Test.YtjklnfcoaakkgaaDoorSpecJoin
namespace Go.Proofs.YtjklnfcoaakkgaaDoor
set_option linter.unusedVariables false
open Go.RowKit
open Go.Lib (byteCells)

/-- The row holds the bytes; B: the blocks from which on it may lie. -/
def BytesR (w : World) (B : Nat) (v : Value) (acc : List UInt8) : Prop := w.ownsRow B 5 1 v acc.length (byteCells acc)
theorem BytesR.nil (w : World) (B : Nat) : BytesR w B (.slice none 0 0) [] := ⟨by simp [byteCells], .inl ⟨rfl, rfl⟩⟩
theorem BytesR.form {w : World} {B : Nat} {v : Value} {acc : List UInt8} (h : BytesR w B v acc) : ∃ A c, v = .slice A acc.length c := own_form h
theorem BytesR.below {w w' : World} {B : Nat} {v : Value} {acc : List UInt8} (h : BytesR w B v acc) (hb : Below w.heap.size w w') : BytesR w' B v acc := row_keep h hb
theorem BytesR.block {w : World} {B : Nat} {v : Value} {acc : List UInt8} (h : BytesR w B v acc) : ∀ k, v.ownBlock = some k → B ≤ k := own_block h

section
variable {w w' : World} {B : Nat} {v v' : Value} {acc : List UInt8} {ops : Array Oper} {rest : List Oper} {a : Act} {Q : Exit → Act → World → Prop} {dst : Option Tmp} {ty : TypeId} {pos : String} {after : Array Edge} {sl x : Operand}
theorem app_strR {u : ByteArray} (hr : BytesR w B v acc) (hB : B ≤ w.heap.size) (hs : a.eval sl = v) (hx : a.eval x = .string u) (hlim : acc.length + u.size ≤ 1000000)
    (h : ∀ A' c' w', BytesR w' B (.slice A' (acc.length + u.size) c') (acc ++ u.data.toList) → w.grownBy w' v.ownBlock → wpList Tryd.prog ops Q rest (a.put dst (.slice A' (acc.length + u.size) c')) w') :
    wpList Tryd.prog ops Q (⟨dst, .call { callee := .builtin .append, args := #[sl, x], argTypes := #[22, 9] }, ty, pos, after, none⟩ :: rest) a w := by
  obtain ⟨i0, hi, hz0, hz1, hz2⟩ := info_parts Tryd.infoByte
  refine Lib.wpList_append_own_string w rfl sl x 22 9 rfl B 5 i0 Tryd.underlying22 Tryd.underlying9 hi hz0 hz1 hz2 v _ _ hs hr u hx (by unfold maxLen; omega) (by omega) hB ?_
  intro v' w' ho hg _
  have hr' : BytesR w' B v' (acc ++ u.data.toList) := row_join rfl ho
  obtain ⟨A', c', rfl⟩ := own_form ho
  exact h A' c' w' hr' hg
theorem app_byteR {c : UInt8} {z : Int} {g : Nat} (hr : BytesR w B v acc) (hB : B ≤ w.heap.size) (hz : z = (c.toNat : Int)) (hs : a.eval sl = v) (hx : a.eval x = .slice (some ⟨g, 0, none⟩) 1 1) (hg : g = w.heap.size) (hlim : acc.length ≤ 1000000)
    (h : ∀ A' c' w', BytesR w' B (.slice A' (acc.length + 1) c') (acc ++ [c]) → (w.alloc (.cells #[.int .u8 z] 5)).grownBy w' v.ownBlock → wpList Tryd.prog ops Q rest (a.put dst (.slice A' (acc.length + 1) c')) w') :
    wpList Tryd.prog ops Q (⟨dst, .call { callee := .builtin .append, args := #[sl, x], argTypes := #[22, 22] }, ty, pos, after, none⟩ :: rest) a (w.alloc (.cells #[.int .u8 z] 5)) := by
  obtain ⟨i0, hi, hz0, hz1, hz2⟩ := info_parts Tryd.infoByte
  subst hz
  subst hg
  refine wpList_append_own _ rfl sl x 22 rfl B 5 i0 (.int .u8 0) 1 1 Tryd.underlying22 hi hz0 hz1 hz2 rfl (by decide) v _ _ hs (World.ownsRow.alloc hr _) ⟨w.heap.size, 0, none⟩ 1 1 [.int .u8 (c.toNat : Int)] hx rfl ?_ ?_ (by unfold maxLen; omega) (by omega) (by simp; omega) ?_
  · intro j u hu
    rcases j with _ | j
    · obtain rfl : Value.int .u8 (c.toNat : Int) = u := by simpa using hu
      rw [Addr.add_lit, Nat.zero_add, cell_of_row _ w.heap.size 0 _ 5 (0, 0) (heap_alloc_new w _)]
      rfl
    · simp at hu
  · intro u hu
    rw [List.mem_singleton.1 hu]; rfl
  intro v' w' ho hg _
  obtain ⟨A', c', rfl⟩ := own_form ho
  refine h A' c' w' ?_ hg
  unfold BytesR
  rw [cells_join, List.length_append]
  exact ho
end

end Go.Proofs.YtjklnfcoaakkgaaDoor
