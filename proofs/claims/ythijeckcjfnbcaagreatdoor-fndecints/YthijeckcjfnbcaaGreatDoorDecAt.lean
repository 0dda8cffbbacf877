/- A decimal of three fields in a block: its cells, and what leaves it as it is. Contracts of the law's own helpers. No condition. -/
import Derived.Test.YthijeckcjfnbcaaGreatDoorRows
import Derived.Test.YthijeckcjfnbcaaGreatDoorMem
import Derived.Test.YthijeckcjfnbcaaGreatDoorDecMathA
import Derived.Deep.QuietTactic
import Derived.BigQuiet
import Derived.Lib.Hide
import Derived.IntWalk
namespace Go.Proofs.YthijeckcjfnbcaaGreatDoor
set_option linter.unusedVariables false
open Go.RowKit

/-- A decimal's value. -/
def dv3 (n : Bool) (s : ByteArray) (e : Int) : Value := .agg #[.bool n, .string s, .int .i64 e]
/-- A decimal lies at block p. -/
def DecAt (w : World) (p : Nat) (n : Bool) (s : ByteArray) (e : Int) : Prop := w.heap[p]? = some (.cells #[.bool n, .string s, .int .i64 e] 25 (0, 0))
/-- An answer that is a decimal; with a code. -/
def AnsD (d : DecV) (w : World) (e : Ending) (w' : World) : Prop := e = .returned (.agg #[.bool d.neg, .string ⟨d.dig.toArray⟩, .int .i64 d.exp]) ∧ Below w.heap.size w w'
def AnsDC (p : DecV × Int) (w : World) (e : Ending) (w' : World) : Prop := e = .returned (.tuple #[.agg #[.bool p.1.neg, .string ⟨p.1.dig.toArray⟩, .int .i64 p.1.exp], .int .i64 p.2]) ∧ Below w.heap.size w w'

section
variable {w w' : World} {p : Nat} {n : Bool} {s : ByteArray} {e : Int}
theorem DecAt.cell (h : DecAt w p n s e) : w.cell? ⟨p, 0, none⟩ = some (.bool n) ∧ w.cell? ⟨p, 1, none⟩ = some (.string s) ∧ w.cell? ⟨p, 2, none⟩ = some (.int .i64 e) := by
  unfold DecAt at h
  refine ⟨?_, ?_, ?_⟩ <;> rw [cell_of_row w p _ _ _ _ h] <;> rfl
theorem DecAt.frozen (h : DecAt w p n s e) (j : Nat) : w.frozen? ⟨p, j, none⟩ = false := frozen_of_row w p j _ _ h
theorem DecAt.lt (h : DecAt w p n s e) : p < w.heap.size := (Array.getElem?_eq_some_iff.1 h).1
theorem DecAt.below (h : DecAt w p n s e) {B : Nat} (hb : Below B w w') (hp : p < B) : DecAt w' p n s e := (hb.block p hp).trans h
theorem DecAt.belowS (h : DecAt w p n s e) (hb : Below w.heap.size w w') : DecAt w' p n s e := h.below hb h.lt
theorem DecAt.new (w : World) (n : Bool) (s : ByteArray) (e : Int) : DecAt (w.alloc (.cells #[.bool n, .string s, .int .i64 e] 25)) w.heap.size n s e := heap_alloc_new w _
theorem DecAt.alloc (h : DecAt w p n s e) (o : Obj) : DecAt (w.alloc o) p n s e := (Below.heap_alloc w o p h.lt).trans h
theorem DecAt.drewN (h : DecAt w p n s e) (q : Nat) : DecAt (w.drewN q) p n s e := h
end

/-- The zero decimal lies at block p; what may be stored there. -/
theorem DecAt.set {w : World} {p : Nat} {n : Bool} {s : ByteArray} {e : Int} (h : DecAt w p n s e) (n' : Bool) (s' : ByteArray) (e' : Int) :
    DecAt (((w.setCell ⟨p, 0, none⟩ (.bool n')).setCell ⟨p, 1, none⟩ (.string s')).setCell ⟨p, 2, none⟩ (.int .i64 e')) p n' s' e' := by
  unfold DecAt at h ⊢
  have h1 := heap_setCell_same w p 0 _ _ (.bool n') h
  have h2 := heap_setCell_same _ p 1 _ _ (.string s') h1
  have h3 := heap_setCell_same _ p 2 _ _ (.int .i64 e') h2
  rw [h3]; rfl

theorem DecAt.setO {w : World} {p g : Nat} {n : Bool} {s : ByteArray} {e : Int} (h : DecAt w p n s e) (hg : p ≠ g) (v0 v1 v2 : Value) :
    DecAt (((w.setCell ⟨g, 0, none⟩ v0).setCell ⟨g, 1, none⟩ v1).setCell ⟨g, 2, none⟩ v2) p n s e := by
  unfold DecAt at h ⊢
  rw [Below.heap_setCell _ _ _ _ hg, Below.heap_setCell _ _ _ _ hg, Below.heap_setCell _ _ _ _ hg]
  exact h
theorem Below.set3 {w w1 : World} {B p : Nat} {v0 v1 v2 : Value} (h : Below B w w1) (hp : B ≤ p) : Below B w (((w1.setCell ⟨p, 0, none⟩ v0).setCell ⟨p, 1, none⟩ v1).setCell ⟨p, 2, none⟩ v2) :=
  ((h.setCell hp _).setCell hp _).setCell hp _


theorem ans_dec {n : Bool} {s : ByteArray} {e : Int} : (⟨(dOf n s e).dig.toArray⟩ : ByteArray) = s := by
  show (⟨s.data.toList.toArray⟩ : ByteArray) = s
  rw [Array.toArray_toList]

theorem dOf_zero {n : Bool} {s : ByteArray} {e : Int} : dOf n s e = DecV.zero ↔ n = false ∧ s.toList = [] ∧ e = 0 := by
  rw [ByteArray.toList_eq]
  unfold dOf DecV.zero
  simp

set_option maxHeartbeats 400000 in
theorem implIsZero (n : Bool) (s : ByteArray) (e : Int) (w : World) :
    Calls Tryz.prog 41 #[.agg #[.bool n, .string s, .int .i64 e]] w (AnsB (dOf n s e = DecV.zero) w) := by
  have B : ∀ n, Below w.heap.size w (w.alloc (.cells #[.bool n, .string s, .int .i64 e] 25)) := fun n => (Below.refl _ _).alloc (Nat.le_refl _) _
  rw [dOf_zero]
  cases n
  · by_cases hs : s.toList = []
    · by_cases he : e = 0
      · subst he
        go_enter Tryz.func41, Tryz.ntmps41
        go_wp2
        go_ret
        exact ⟨_, rfl, by simp [hs], B _⟩
      · go_enter Tryz.func41, Tryz.ntmps41
        go_wp2
        go_ret
        exact ⟨_, rfl, by simp [he], B _⟩
    · go_enter Tryz.func41, Tryz.ntmps41
      go_wp2
      go_ret
      exact ⟨_, rfl, by simp [hs], B _⟩
  · go_enter Tryz.func41, Tryz.ntmps41
    go_wp2
    go_ret
    exact ⟨_, rfl, by simp, B _⟩

end Go.Proofs.YthijeckcjfnbcaaGreatDoor
