/- Plain mathematics of chapter 9: how a file reads as rows of cells. No program in it. -/
import Derived.Test.YtjklnfcoaakkgaaDoorJoinMath
import Derived.Lib.Hide
import Derived.Lib.IndexAny
namespace Go.Proofs.YtjklnfcoaakkgaaDoor
set_option linter.unusedVariables false

/-- The byte at a place, 0 behind the end. -/
def bt (s : ByteArray) (i : Nat) : UInt8 := if h : i < s.size then s[i] else 0
theorem bt_in {s : ByteArray} {i : Nat} (h : i < s.size) : s[i] = bt s i := by unfold bt; rw [dif_pos h]
theorem bt_out {s : ByteArray} {i : Nat} (h : ¬ i < s.size) : bt s i = 0 := by unfold bt; rw [dif_neg h]

/-- With how many bytes a row ends at a place; none where no row ends. -/
def rowEndR (s : ByteArray) (i : Nat) : Option Nat :=
  if i < s.size then (if bt s i = 10 then some 1 else if bt s i = 13 ∧ bt s (i + 1) = 10 then some 2 else none) else some 0
def cellEndB (s : ByteArray) (i : Nat) : Bool := (rowEndR s i).isSome || decide (bt s i = 44)
theorem rowEnd_out {s : ByteArray} {i : Nat} (h : ¬ i < s.size) : rowEndR s i = some 0 := if_neg h
theorem rowEnd_10 {s : ByteArray} {i : Nat} (h : i < s.size) (hx : bt s i = 10) : rowEndR s i = some 1 := by unfold rowEndR; rw [if_pos h, if_pos hx]
theorem rowEnd_13 {s : ByteArray} {i : Nat} (h : i < s.size) (hx : bt s i = 13) (hy : bt s (i + 1) = 10) : rowEndR s i = some 2 := by unfold rowEndR; rw [if_pos h, if_neg (by rw [hx]; decide), if_pos ⟨hx, hy⟩]
theorem rowEnd_no {s : ByteArray} {i : Nat} (h : i < s.size) (hx : bt s i ≠ 10) (hy : ¬ (bt s i = 13 ∧ bt s (i + 1) = 10)) : rowEndR s i = none := by unfold rowEndR; rw [if_pos h, if_neg hx, if_neg hy]
theorem rowEnd_le {s : ByteArray} {i n : Nat} (h : rowEndR s i = some n) (hi : i ≤ s.size) : i + n ≤ s.size ∧ (i < s.size → 1 ≤ n) := by
  unfold rowEndR at h
  split at h
  · split at h
    · injection h with h; subst h; omega
    · split at h
      · rename_i h1 h2 h3
        injection h with h; subst h
        have : i + 1 < s.size := by
          by_cases q : i + 1 < s.size
          · exact q
          · have := h3.2; rw [bt_out q] at this; exact absurd this (by decide)
        omega
      · cases h
  · injection h with h; subst h; omega

/-- The first place from i on at which a byte of a kind stands, or the end. -/
def scanTo (p : UInt8 → Bool) (s : ByteArray) (i : Nat) : Nat := if i < s.size then (if p (bt s i) then i else scanTo p s (i + 1)) else i
termination_by s.size - i
theorem scan_out {p : UInt8 → Bool} {s : ByteArray} {i : Nat} (h : ¬ i < s.size) : scanTo p s i = i := by rw [scanTo, if_neg h]
theorem scan_hit {p : UInt8 → Bool} {s : ByteArray} {i : Nat} (h : i < s.size) (hp : p (bt s i) = true) : scanTo p s i = i := by rw [scanTo, if_pos h, if_pos hp]
theorem scan_on {p : UInt8 → Bool} {s : ByteArray} {i : Nat} (h : i < s.size) (hp : p (bt s i) = false) : scanTo p s i = scanTo p s (i + 1) := by rw [scanTo, if_pos h, if_neg (by rw [hp]; simp)]
theorem scan_bound (p : UInt8 → Bool) (s : ByteArray) : ∀ (f i : Nat), s.size ≤ i + f → i ≤ s.size → i ≤ scanTo p s i ∧ scanTo p s i ≤ s.size
  | 0, i, hf, hi => by rw [scan_out (by omega)]; omega
  | f + 1, i, hf, hi => by
    by_cases h : i < s.size
    · cases hp : p (bt s i) with
      | true => rw [scan_hit h hp]; omega
      | false =>
        rw [scan_on h hp]
        have := scan_bound p s f (i + 1) (by omega) (by omega)
        omega
    · rw [scan_out h]; omega
theorem scan_ge {p : UInt8 → Bool} {s : ByteArray} {i : Nat} (hi : i ≤ s.size) : i ≤ scanTo p s i := (scan_bound p s s.size i (by omega) hi).1
theorem scan_le {p : UInt8 → Bool} {s : ByteArray} {i : Nat} (hi : i ≤ s.size) : scanTo p s i ≤ s.size := (scan_bound p s s.size i (by omega) hi).2
theorem scan_at {p : UInt8 → Bool} {s : ByteArray} : ∀ (f i : Nat), s.size ≤ i + f → scanTo p s i < s.size → p (bt s (scanTo p s i)) = true
  | 0, i, hf, h => by rw [scan_out (by omega)] at h; omega
  | f + 1, i, hf, h => by
    by_cases hi : i < s.size
    · cases hp : p (bt s i) with
      | true => rw [scan_hit hi hp]; exact hp
      | false =>
        rw [scan_on hi hp] at h ⊢
        exact scan_at f (i + 1) (by omega) h
    · rw [scan_out hi] at h; omega
theorem scan_hits {p : UInt8 → Bool} {s : ByteArray} {i : Nat} (h : scanTo p s i < s.size) : p (bt s (scanTo p s i)) = true := scan_at s.size i (by omega) h

/-- A byte at which a cell that does not begin with a quotation mark stops. -/
def stopB (b : UInt8) : Bool := b == 44 || b == 34 || b == 10 || b == 13
def plainEnd (s : ByteArray) (i : Nat) : Nat := scanTo stopB s i
def quoteB (b : UInt8) : Bool := b == 34

abbrev CellRes := Except (Nat × Nat) (ByteArray × Nat)
/-- A cell that does not begin with a quotation mark. -/
def plainR (s : ByteArray) (i : Nat) : CellRes :=
  if cellEndB s (plainEnd s i) then .ok (s.extract i (plainEnd s i), plainEnd s i) else if bt s (plainEnd s i) = 34 then .error (plainEnd s i, 2) else .error (plainEnd s i, 4)
/-- What stands between quotation marks, from a place behind the first one on, and the place behind the last one. -/
def quotedR (s : ByteArray) (i : Nat) (out : List UInt8) : Option (List UInt8 × Nat) :=
  if i < s.size then (if bt s i = 34 then (if bt s (i + 1) = 34 then quotedR s (i + 2) (out ++ [34]) else some (out, i + 1)) else quotedR s (i + 1) (out ++ [bt s i])) else none
termination_by s.size - i
theorem quoted_out {s : ByteArray} {i : Nat} {out : List UInt8} (h : ¬ i < s.size) : quotedR s i out = none := by rw [quotedR, if_neg h]
theorem quoted_pair {s : ByteArray} {i : Nat} {out : List UInt8} (h : i < s.size) (hx : bt s i = 34) (hy : bt s (i + 1) = 34) : quotedR s i out = quotedR s (i + 2) (out ++ [34]) := by rw [quotedR, if_pos h, if_pos hx, if_pos hy]
theorem quoted_end {s : ByteArray} {i : Nat} {out : List UInt8} (h : i < s.size) (hx : bt s i = 34) (hy : bt s (i + 1) ≠ 34) : quotedR s i out = some (out, i + 1) := by rw [quotedR, if_pos h, if_pos hx, if_neg hy]
theorem quoted_on {s : ByteArray} {i : Nat} {out : List UInt8} (h : i < s.size) (hx : bt s i ≠ 34) : quotedR s i out = quotedR s (i + 1) (out ++ [bt s i]) := by rw [quotedR, if_pos h, if_neg hx]
theorem pair_in {s : ByteArray} {i : Nat} (hy : bt s (i + 1) = 34) : i + 1 < s.size := by
  by_cases q : i + 1 < s.size
  · exact q
  · rw [bt_out q] at hy; exact absurd hy (by decide)
theorem extract_one {s : ByteArray} {i : Nat} (h : i < s.size) : (s.extract i (i + 1)).data.toList = [bt s i] := by
  rw [← bt_in h]
  have h' : i < s.data.size := h
  rw [ByteArray.data_extract, Array.toList_extract]
  simp only [List.extract_eq_take_drop]
  rw [show i + 1 - i = 1 by omega, List.drop_eq_getElem_cons (by simpa using h')]
  rfl
theorem extract_more {s : ByteArray} {i j : Nat} (h : i < s.size) (hj : i + 1 ≤ j) : (s.extract i j).data.toList = bt s i :: (s.extract (i + 1) j).data.toList := by
  rw [← bt_in h]
  have h' : i < s.data.size := h
  rw [ByteArray.data_extract, Array.toList_extract, ByteArray.data_extract, Array.toList_extract]
  simp only [List.extract_eq_take_drop]
  rw [show j - i = (j - (i + 1)) + 1 by omega, List.drop_eq_getElem_cons (by simpa using h'), List.take_succ_cons]
  rfl
theorem extract_self {s : ByteArray} {i : Nat} : (s.extract i i).data.toList = [] := by
  rw [ByteArray.data_extract, Array.toList_extract]
  simp only [List.extract_eq_take_drop]
  simp
/-- The program goes from quotation mark to quotation mark. -/
theorem quoted_jump (s : ByteArray) : ∀ (f i : Nat) (out : List UInt8), s.size ≤ i + f → i ≤ s.size → quotedR s i out = quotedR s (scanTo quoteB s i) (out ++ (s.extract i (scanTo quoteB s i)).data.toList)
  | 0, i, out, hf, hi => by rw [scan_out (by omega), extract_self, List.append_nil]
  | f + 1, i, out, hf, hi => by
    by_cases h : i < s.size
    · cases hp : quoteB (bt s i) with
      | true => rw [scan_hit h hp, extract_self, List.append_nil]
      | false =>
        have hx : bt s i ≠ 34 := by intro e; rw [e] at hp; exact absurd hp (by decide)
        have hge : i + 1 ≤ scanTo quoteB s (i + 1) := scan_ge (by omega)
        rw [quoted_on h hx, scan_on h hp, quoted_jump s f (i + 1) _ (by omega) (by omega), extract_more h hge, List.append_assoc]
        rfl
    · rw [scan_out h, extract_self, List.append_nil]
theorem quoted_far (s : ByteArray) : ∀ (f i : Nat) (out o : List UInt8) (e : Nat), s.size ≤ i + f → quotedR s i out = some (o, e) → i < e ∧ e ≤ s.size ∧ o.length + i ≤ out.length + e
  | 0, i, out, o, e, hf, h => by rw [quoted_out (by omega)] at h; cases h
  | f + 1, i, out, o, e, hf, h => by
    by_cases hi : i < s.size
    · by_cases hx : bt s i = 34
      · by_cases hy : bt s (i + 1) = 34
        · rw [quoted_pair hi hx hy] at h
          have := quoted_far s f (i + 2) _ o e (by omega) h
          simp at this
          omega
        · rw [quoted_end hi hx hy] at h
          injection h with h
          injection h with h1 h2
          subst h1 h2
          omega
      · rw [quoted_on hi hx] at h
        have := quoted_far s f (i + 1) _ o e (by omega) h
        simp at this
        omega
    · rw [quoted_out hi] at h; cases h

/-- What a cell that begins with a quotation mark comes to behind its last one. -/
def closedR (s : ByteArray) (o : List UInt8) (e : Nat) : CellRes := if cellEndB s e then .ok (⟨o.toArray⟩, e) else .error (e, 2)
def quotedCell (s : ByteArray) (i : Nat) (out : List UInt8) : CellRes :=
  match quotedR s i out with
  | none => .error (s.size, 3)
  | some (o, e) => closedR s o e
theorem quotedCell_none {s : ByteArray} {i : Nat} {out : List UInt8} (h : quotedR s i out = none) : quotedCell s i out = .error (s.size, 3) := by unfold quotedCell; rw [h]
theorem quotedCell_some {s : ByteArray} {i e : Nat} {out o : List UInt8} (h : quotedR s i out = some (o, e)) : quotedCell s i out = closedR s o e := by unfold quotedCell; rw [h]
theorem closed_yes {s : ByteArray} {o : List UInt8} {e : Nat} (h : cellEndB s e = true) : closedR s o e = .ok (⟨o.toArray⟩, e) := if_pos h
theorem closed_no {s : ByteArray} {o : List UInt8} {e : Nat} (h : cellEndB s e = false) : closedR s o e = .error (e, 2) := if_neg (by rw [h]; simp)
theorem plain_yes {s : ByteArray} {i e : Nat} (he : plainEnd s i = e) (h : cellEndB s e = true) : plainR s i = .ok (s.extract i e, e) := by unfold plainR; rw [he, if_pos h]
theorem plain_quote {s : ByteArray} {i e : Nat} (he : plainEnd s i = e) (h : cellEndB s e = false) (hq : bt s e = 34) : plainR s i = .error (e, 2) := by unfold plainR; rw [he, if_neg (by rw [h]; simp), if_pos hq]
theorem plain_end {s : ByteArray} {i e : Nat} (he : plainEnd s i = e) (h : cellEndB s e = false) (hq : bt s e ≠ 34) : plainR s i = .error (e, 4) := by unfold plainR; rw [he, if_neg (by rw [h]; simp), if_neg hq]
/-- A cell that begins at a place. -/
def cellR (s : ByteArray) (i : Nat) : CellRes := if bt s i = 34 then quotedCell s (i + 1) [] else plainR s i
theorem cell_quoted {s : ByteArray} {i : Nat} (h : bt s i = 34) : cellR s i = quotedCell s (i + 1) [] := if_pos h
theorem cell_plain {s : ByteArray} {i : Nat} (h : bt s i ≠ 34) : cellR s i = plainR s i := if_neg h

/-- The rows, a place, a code. -/
abbrev RowsRes := List (List ByteArray) × Nat × Nat
mutual
/-- From the beginning of a cell on, at rows and cells that stand already. -/
def csvC (s : ByteArray) (f i : Nat) (rs : List (List ByteArray)) (cs : List ByteArray) : RowsRes :=
  match f with
  | 0 => (rs, 0, 0)
  | f + 1 => if cs.length = 100 then (rs, i, 5) else contC s f i rs cs (cellR s i)
termination_by (f, 0)
/-- From a cell's reading on; b is where it begins. -/
def contC (s : ByteArray) (f b : Nat) (rs : List (List ByteArray)) (cs : List ByteArray) (r : CellRes) : RowsRes :=
  match r with
  | .error (p, c) => (rs, p, c)
  | .ok (x, e) =>
    if 1000 < x.size then (rs, b, 6)
    else match rowEndR s e with
      | none => csvC s f (e + 1) rs (cs ++ [x])
      | some n => if e + n < s.size then csvC s f (e + n) (rs ++ [cs ++ [x]]) [] else (rs ++ [cs ++ [x]], 0, 0)
termination_by (f, 1)
end
/-- From the beginning of a row on. -/
def csvB (s : ByteArray) (f i : Nat) (rs : List (List ByteArray)) : RowsRes := if i < s.size then csvC s f i rs [] else (rs, 0, 0)
section
variable {s : ByteArray} {f i b e n p c : Nat} {rs : List (List ByteArray)} {cs : List ByteArray} {x : ByteArray}
theorem csvC_many (h : cs.length = 100) : csvC s (f + 1) i rs cs = (rs, i, 5) := by unfold csvC; exact if_pos h
theorem csvC_cell (h : cs.length ≠ 100) : csvC s (f + 1) i rs cs = contC s f i rs cs (cellR s i) := by
  conv => lhs; unfold csvC
  exact if_neg h
theorem contC_err : contC s f b rs cs (.error (p, c)) = (rs, p, c) := by unfold contC; rfl
theorem contC_long (h : 1000 < x.size) : contC s f b rs cs (.ok (x, e)) = (rs, b, 6) := by unfold contC; exact if_pos h
theorem contC_next (h : ¬ 1000 < x.size) (hr : rowEndR s e = none) : contC s f b rs cs (.ok (x, e)) = csvC s f (e + 1) rs (cs ++ [x]) := by
  conv => lhs; unfold contC
  simp only [if_neg h, hr]
theorem contC_row (h : ¬ 1000 < x.size) (hr : rowEndR s e = some n) : contC s f b rs cs (.ok (x, e)) = csvB s f (e + n) (rs ++ [cs ++ [x]]) := by
  conv => lhs; unfold contC
  simp only [if_neg h, hr]
  rfl
end
/-- How a file reads. -/
def csvR (s : ByteArray) : RowsRes := csvB s (s.size + 1) 0 []

end Go.Proofs.YtjklnfcoaakkgaaDoor
