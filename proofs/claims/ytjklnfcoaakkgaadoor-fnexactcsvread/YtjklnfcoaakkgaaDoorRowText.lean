/- Plain mathematics of chapters 9 and 10: the text of rows of cells. No program in it. -/
import Derived.Test.YtjklnfcoaakkgaaDoorCsvMath
import Derived.Test.YtjklnfcoaakkgaaDoorRowOk
namespace Go.Proofs.YtjklnfcoaakkgaaDoor
set_option linter.unusedVariables false

theorem u8_ne {x : UInt8} (n : Nat) (h : x ≠ UInt8.ofNat n) : x.toNat ≠ n := fun e => h (by rw [← e]; simp)
theorem u8_eq {x : UInt8} (n : Nat) (hn : n < 256) (h : x = UInt8.ofNat n) : x.toNat = n := by rw [h]; simp; omega

/-- The cells of a row behind what stands. -/
def cellsFrom (sep : ByteArray) (wr : ByteArray → ByteArray) : Bool → List UInt8 → List ByteArray → List UInt8
  | _, acc, [] => acc
  | first, acc, x :: r => cellsFrom sep wr false ((if first then acc else acc ++ sep.data.toList) ++ (wr x).data.toList) r
/-- The rows behind what stands; none where a row cannot be written or the text is too long. -/
def rowsFrom (sep : ByteArray) (wr : ByteArray → ByteArray) : List UInt8 → List (List ByteArray) → Option (List UInt8)
  | acc, [] => some acc
  | acc, xs :: r => if rowOkB xs then (if 4000 < (cellsFrom sep wr true acc xs ++ [10]).length then none else rowsFrom sep wr (cellsFrom sep wr true acc xs ++ [10]) r) else none
section
variable {sep : ByteArray} {wr : ByteArray → ByteArray} {acc : List UInt8} {xs : List ByteArray} {rs : List (List ByteArray)} {k : Nat}
theorem cells_end {b : Bool} (h : xs.length ≤ k) : cellsFrom sep wr b acc (xs.drop k) = acc := by rw [List.drop_eq_nil_of_le h, cellsFrom]
theorem cells_first (h : k < xs.length) : cellsFrom sep wr true acc (xs.drop k) = cellsFrom sep wr false (acc ++ (wr xs[k]).data.toList) (xs.drop (k + 1)) := by
  rw [List.drop_eq_getElem_cons h, cellsFrom]; rfl
theorem cells_next (h : k < xs.length) : cellsFrom sep wr false acc (xs.drop k) = cellsFrom sep wr false ((acc ++ sep.data.toList) ++ (wr xs[k]).data.toList) (xs.drop (k + 1)) := by
  rw [List.drop_eq_getElem_cons h, cellsFrom]; rfl
theorem rows_end (h : rs.length ≤ k) : rowsFrom sep wr acc (rs.drop k) = some acc := by rw [List.drop_eq_nil_of_le h, rowsFrom]
theorem rows_bad (h : k < rs.length) (hx : rowOkB rs[k] = false) : rowsFrom sep wr acc (rs.drop k) = none := by
  rw [List.drop_eq_getElem_cons h, rowsFrom, if_neg (by rw [hx]; simp)]
theorem rows_long (h : k < rs.length) (hx : rowOkB rs[k] = true) (hl : 4000 < (cellsFrom sep wr true acc rs[k] ++ [10]).length) : rowsFrom sep wr acc (rs.drop k) = none := by
  rw [List.drop_eq_getElem_cons h, rowsFrom, if_pos hx, if_pos hl]
theorem rows_on (h : k < rs.length) (hx : rowOkB rs[k] = true) (hl : ¬ 4000 < (cellsFrom sep wr true acc rs[k] ++ [10]).length) : rowsFrom sep wr acc (rs.drop k) = rowsFrom sep wr (cellsFrom sep wr true acc rs[k] ++ [10]) (rs.drop (k + 1)) := by
  rw [List.drop_eq_getElem_cons h, rowsFrom, if_pos hx, if_neg hl]
end
theorem rows_none {sep : ByteArray} {wr : ByteArray → ByteArray} : ∀ {rs : List (List ByteArray)} {acc : List UInt8}, rowsOkB rs = false → rowsFrom sep wr acc rs = none
  | [], acc, h => by simp [rowsOkB] at h
  | xs :: r, acc, h => by
    rw [rowsFrom]
    by_cases hx : rowOkB xs = true
    · rw [if_pos hx]
      split
      · rfl
      · refine rows_none ?_
        simpa [rowsOkB, hx] using h
    · rw [if_neg hx]
theorem rowsOk_at {rs : List (List ByteArray)} {k : Nat} (h : rowsOkB rs = true) (hk : k < rs.length) : rowOkB rs[k] = true := List.all_eq_true.1 h _ (List.getElem_mem hk)
theorem rowOk_bounds {xs : List ByteArray} (h : rowOkB xs = true) : xs.length ≤ 100 ∧ ∀ x ∈ xs, x.size ≤ 1000 ∧ (runesOf x).isSome = true := by
  by_cases hin : 1 ≤ xs.length ∧ xs.length ≤ 100
  · rw [rowOk_in hin] at h
    exact ⟨hin.2, fun x hx => have hx' := List.all_eq_true.1 h x hx; ⟨text_size hx', hx'⟩⟩
  · rw [rowOk_short hin] at h; cases h

/-- A cell's bytes with each quotation mark doubled. -/
def dblL : List UInt8 → List UInt8
  | [] => []
  | b :: l => if b = 34 then 34 :: 34 :: dblL l else b :: dblL l
def csvCell (s : ByteArray) : ByteArray := if s.data.toList.any stopB then ⟨(34 :: (dblL s.data.toList ++ [34])).toArray⟩ else s
theorem dbl_len : ∀ l : List UInt8, (dblL l).length ≤ 2 * l.length
  | [] => by simp [dblL]
  | b :: l => by
    have := dbl_len l
    rw [dblL]
    split <;> simp <;> omega
theorem dbl_append : ∀ a b : List UInt8, dblL (a ++ b) = dblL a ++ dblL b
  | [], b => rfl
  | x :: a, b => by
    rw [List.cons_append, dblL, dblL, dbl_append a b]
    split <;> simp
theorem dbl_plain : ∀ {l : List UInt8}, l.any stopB = false → dblL l = l
  | [], _ => rfl
  | b :: l, h => by
    rw [List.any_cons, Bool.or_eq_false_iff] at h
    rw [dblL, if_neg (fun e => by rw [e] at h; exact absurd h.1 (by decide)), dbl_plain h.2]
theorem csvCell_len (s : ByteArray) : (csvCell s).size ≤ 2 * s.size + 2 := by
  unfold csvCell
  split
  · show (34 :: (dblL s.data.toList ++ [34])).toArray.size ≤ _
    have := dbl_len s.data.toList
    have h2 : s.data.toList.length = s.size := Array.length_toList
    simp
    omega
  · omega
theorem csvCell_yes {s : ByteArray} (h : s.data.toList.any stopB = true) : csvCell s = ⟨(34 :: (dblL s.data.toList ++ [34])).toArray⟩ := by unfold csvCell; rw [if_pos h]
theorem csvCell_no {s : ByteArray} (h : s.data.toList.any stopB = false) : csvCell s = s := by unfold csvCell; rw [if_neg (by rw [h]; simp)]
theorem drop_bt {s : ByteArray} {i : Nat} (h : i < s.size) : s.data.toList.drop i = bt s i :: s.data.toList.drop (i + 1) := by
  rw [← bt_in h]
  have h' : i < s.data.toList.length := by rw [Array.length_toList]; exact h
  rw [List.drop_eq_getElem_cons h']
  rfl
theorem drop_out {s : ByteArray} {i : Nat} (h : ¬ i < s.size) : s.data.toList.drop i = [] := List.drop_eq_nil_of_le (by rw [Array.length_toList]; exact Nat.le_of_not_lt h)
/-- The text of rows with commas. -/
def csvTextR (rs : List (List ByteArray)) : Option (List UInt8) := rowsFrom ⟨#[44]⟩ csvCell [] rs

end Go.Proofs.YtjklnfcoaakkgaaDoor
