/- Plain mathematics of chapter 8: joining texts. No program in it. -/
import Derived.Test.YtjklnfcoaakkgaaDoorValidA
import Derived.Lib.Hide
namespace Go.Proofs.YtjklnfcoaakkgaaDoor
set_option linter.unusedVariables false

/-- Joining what is left to what stands already; none where a part or the whole is no text. -/
def joinFrom (sep : ByteArray) : Bool → List UInt8 → List ByteArray → Option (List UInt8)
  | _, acc, [] => some acc
  | first, acc, x :: r =>
    if (runesOf x).isSome = true then
      (let a := (if first then acc else acc ++ sep.data.toList) ++ x.data.toList
       if 1000 < a.length then none else joinFrom sep false a r)
    else none
def joinT (sep : ByteArray) (xs : List ByteArray) : Option (List UInt8) := if (runesOf sep).isSome = true then joinFrom sep true [] xs else none
theorem joinT_no {sep : ByteArray} (xs : List ByteArray) (h : (runesOf sep).isSome = false) : joinT sep xs = none := by unfold joinT; rw [if_neg (by rw [h]; simp)]
theorem joinT_yes {sep : ByteArray} (xs : List ByteArray) (h : (runesOf sep).isSome = true) : joinT sep xs = joinFrom sep true [] xs := by unfold joinT; rw [if_pos h]
/-- What stands behind the part at place k. -/
def joinOne (sep : ByteArray) (first : Bool) (acc : List UInt8) (x : ByteArray) : List UInt8 := (if first then acc else acc ++ sep.data.toList) ++ x.data.toList
theorem joinFrom_bad {sep : ByteArray} {b : Bool} {acc : List UInt8} {xs : List ByteArray} {k : Nat} (h : k < xs.length) (hx : (runesOf xs[k]).isSome = false) : joinFrom sep b acc (xs.drop k) = none := by
  rw [List.drop_eq_getElem_cons h, joinFrom, if_neg (by rw [hx]; simp)]
theorem joinFrom_long {sep : ByteArray} {b : Bool} {acc : List UInt8} {xs : List ByteArray} {k : Nat} (h : k < xs.length) (hx : (runesOf xs[k]).isSome = true) (hl : 1000 < (joinOne sep b acc xs[k]).length) : joinFrom sep b acc (xs.drop k) = none := by
  rw [List.drop_eq_getElem_cons h, joinFrom, if_pos hx]
  exact if_pos hl
theorem joinFrom_on {sep : ByteArray} {b : Bool} {acc : List UInt8} {xs : List ByteArray} {k : Nat} (h : k < xs.length) (hx : (runesOf xs[k]).isSome = true) (hl : ¬ 1000 < (joinOne sep b acc xs[k]).length) : joinFrom sep b acc (xs.drop k) = joinFrom sep false (joinOne sep b acc xs[k]) (xs.drop (k + 1)) := by
  rw [List.drop_eq_getElem_cons h, joinFrom, if_pos hx]
  exact if_neg hl
theorem joinFrom_end {sep : ByteArray} {b : Bool} {acc : List UInt8} {xs : List ByteArray} {k : Nat} (h : xs.length ≤ k) : joinFrom sep b acc (xs.drop k) = some acc := by
  rw [List.drop_eq_nil_of_le h, joinFrom]
theorem joinOne_len (sep : ByteArray) (b : Bool) (acc : List UInt8) (x : ByteArray) : (joinOne sep b acc x).length = acc.length + (if b then 0 else sep.size) + x.size := by
  have h1 : x.data.toList.length = x.size := Array.length_toList
  have h2 : sep.data.toList.length = sep.size := Array.length_toList
  unfold joinOne
  cases b <;> simp [h1, h2] <;> omega
theorem joinOne_first (sep : ByteArray) (acc : List UInt8) (x : ByteArray) : joinOne sep true acc x = acc ++ x.data.toList := rfl
theorem joinOne_next (sep : ByteArray) (acc : List UInt8) (x : ByteArray) : joinOne sep false acc x = (acc ++ sep.data.toList) ++ x.data.toList := rfl
theorem text_size {x : ByteArray} (h : (runesOf x).isSome = true) : x.size ≤ 1000 := by
  unfold runesOf at h
  split at h
  · cases h
  · omega

end Go.Proofs.YtjklnfcoaakkgaaDoor
