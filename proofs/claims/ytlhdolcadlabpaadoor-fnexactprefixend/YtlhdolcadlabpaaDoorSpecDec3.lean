/- spec.l03Dig and spec.l03Level: the digits of two valid decimals by one power of ten. -/
import Derived.Test.YtlhdolcadlabpaaDoorSpecDec1
import Derived.Test.YtlhdolcadlabpaaDoorKept
namespace Go.Proofs.YtlhdolcadlabpaaDoor
set_option linter.unusedVariables false
open Go.RowKit

theorem lt_of_cell {w : World} {b o : Nat} {v : Value} (h : w.cell? ⟨b, o, none⟩ = some v) : b < w.heap.size := by
  rcases Nat.lt_or_ge b w.heap.size with g | g
  · exact g
  · exfalso
    unfold World.cell? at h
    simp [Array.getElem?_eq_none g] at h
theorem cell_kept {w w' : World} {b o : Nat} {v : Value} (h : w.cell? ⟨b, o, none⟩ = some v) (hb : Below w.heap.size w w') : w'.cell? ⟨b, o, none⟩ = some v := (hb.cell (lt_of_cell h)).trans h
theorem below_kept {w w1 w2 : World} {B : Nat} (h : Below B w w1) (hB : B ≤ w.heap.size) (hb : Below w1.heap.size w1 w2) : Below B w w2 := h.trans (hb.mono (Nat.le_trans hB h.size))

theorem held7 {w0 w w' : World} {a b : Nat} {x0 x1 x2 y0 y1 y2 : Value}
    (h : w.cell? ⟨a, 0, none⟩ = some x0 ∧ w.cell? ⟨a, 1, none⟩ = some x1 ∧ w.cell? ⟨a, 2, none⟩ = some x2 ∧ w.cell? ⟨b, 0, none⟩ = some y0 ∧ w.cell? ⟨b, 1, none⟩ = some y1 ∧ w.cell? ⟨b, 2, none⟩ = some y2 ∧ Below w0.heap.size w0 w) (hb : Below w.heap.size w w') :
    w'.cell? ⟨a, 0, none⟩ = some x0 ∧ w'.cell? ⟨a, 1, none⟩ = some x1 ∧ w'.cell? ⟨a, 2, none⟩ = some x2 ∧ w'.cell? ⟨b, 0, none⟩ = some y0 ∧ w'.cell? ⟨b, 1, none⟩ = some y1 ∧ w'.cell? ⟨b, 2, none⟩ = some y2 ∧ Below w0.heap.size w0 w' :=
  ⟨cell_kept h.1 hb, cell_kept h.2.1 hb, cell_kept h.2.2.1 hb, cell_kept h.2.2.2.1 hb, cell_kept h.2.2.2.2.1 hb, cell_kept h.2.2.2.2.2.1 hb, below_kept h.2.2.2.2.2.2 (Nat.le_refl _) hb⟩

/-- The digits, 0 having one. -/
def dig0 (s : ByteArray) : ByteArray := if s.size = 0 then ⟨#[48]⟩ else s

theorem dig0_facts {s : ByteArray} (hd : Digs s.data.toList) : Digs (dig0 s).data.toList ∧ val (dig0 s).data.toList = val s.data.toList ∧ (dig0 s).size ≤ s.size + 1 := by
  unfold dig0
  split
  · next h =>
    have : s.data.toList = [] := List.eq_nil_of_length_eq_zero (by rw [size_list]; exact h)
    rw [this]
    exact ⟨digs_one ⟨by decide, by decide⟩, rfl, by show 1 ≤ _; omega⟩
  · exact ⟨hd, rfl, by omega⟩

def Ans3L (x y : ByteArray) (e : Int) (w : World) (r : Ending) (w' : World) : Prop := r = .returned (.tuple #[.string x, .string y, .int .i64 e]) ∧ Below w.heap.size w w'
def padZ (s : ByteArray) (k : Nat) : ByteArray := dig0 s ++ ⟨(List.replicate k 48).toArray⟩

end Go.Proofs.YtlhdolcadlabpaaDoor
