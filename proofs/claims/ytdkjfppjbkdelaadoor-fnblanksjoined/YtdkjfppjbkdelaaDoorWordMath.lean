/- Plain mathematics of chapter 8: the words of a text. No program in it. -/
import Derived.Test.YtdkjfppjbkdelaaDoorRunesA
import Derived.Lib.Hide
namespace Go.Proofs.YtdkjfppjbkdelaaDoor
set_option linter.unusedVariables false
namespace Wd
theorem size_list (x : ByteArray) : x.data.toList.length = x.size := Array.length_toList
theorem drop_at {s : ByteArray} {k : Nat} (h : k < s.size) : s.data.toList.drop k = s[k] :: s.data.toList.drop (k + 1) := List.drop_eq_getElem_cons (l := s.data.toList) (i := k) (by rw [size_list]; exact h)
theorem drop_end {s : ByteArray} {k : Nat} (h : ¬ k < s.size) : s.data.toList.drop k = [] := List.drop_eq_nil_of_le (by rw [size_list]; omega)
def isBl (b : UInt8) : Bool := decide (b.toNat = 32 ∨ b.toNat = 9 ∨ b.toNat = 10 ∨ b.toNat = 13)
/-- How many blanks stand ahead. -/
def blN (l : List UInt8) : Nat := (l.takeWhile isBl).length
theorem blN_nil : blN [] = 0 := rfl
theorem blN_cons {b : UInt8} {l : List UInt8} (h : isBl b = true) : blN (b :: l) = blN l + 1 := by unfold blN; rw [List.takeWhile_cons_of_pos h]; rfl
theorem blN_stop {b : UInt8} {l : List UInt8} (h : isBl b = false) : blN (b :: l) = 0 := by unfold blN; rw [List.takeWhile_cons_of_neg (by rw [h]; simp)]; rfl
theorem bl_step {s : ByteArray} {k V : Nat} (h : k + blN (s.data.toList.drop k) = V) (hk : k < s.size) (hx : isBl s[k] = true) : (k + 1) + blN (s.data.toList.drop (k + 1)) = V := by
  rw [drop_at hk, blN_cons hx] at h
  omega
theorem bl_end {s : ByteArray} {k V : Nat} (h : k + blN (s.data.toList.drop k) = V) (hx : ∀ hk : k < s.size, isBl s[k] = false) : k = V := by
  by_cases hk : k < s.size
  · rw [drop_at hk, blN_stop (hx hk)] at h; omega
  · rw [drop_end hk, blN_nil] at h; omega
theorem blN_le : ∀ l : List UInt8, blN l ≤ l.length
  | [] => by simp [blN_nil]
  | b :: r => by
    cases h : isBl b with
    | true => rw [blN_cons h]; have := blN_le r; simp; omega
    | false => rw [blN_stop h]; simp

/-- The words of what is left, one being under way. -/
def wordsR : List UInt8 → List UInt8 → List (List UInt8)
  | cur, [] => if cur = [] then [] else [cur]
  | cur, b :: r => if isBl b then (if cur = [] then [] else [cur]) ++ wordsR [] r else wordsR (cur ++ [b]) r
/-- What a word that is done adds. -/
def wordAdd (cur : List UInt8) : List (List UInt8) := if cur = [] then [] else [cur]
theorem wordsR_nil (cur : List UInt8) : wordsR cur [] = wordAdd cur := rfl
theorem wordsR_blank {cur : List UInt8} {b : UInt8} {r : List UInt8} (h : isBl b = true) : wordsR cur (b :: r) = wordAdd cur ++ wordsR [] r := by rw [wordsR, if_pos h]; rfl
theorem wordsR_on {cur : List UInt8} {b : UInt8} {r : List UInt8} (h : isBl b = false) : wordsR cur (b :: r) = wordsR (cur ++ [b]) r := by rw [wordsR, if_neg (by rw [h]; simp)]
theorem wordAdd_nil : wordAdd [] = [] := rfl
theorem wordAdd_one {cur : List UInt8} (h : cur ≠ []) : wordAdd cur = [cur] := if_neg h
/-- Blanks ahead change nothing. -/
theorem wordsR_skip : ∀ l : List UInt8, wordsR [] (l.drop (blN l)) = wordsR [] l
  | [] => rfl
  | b :: r => by
    cases h : isBl b with
    | true =>
      rw [blN_cons h, List.drop_succ_cons, wordsR_skip r, wordsR_blank h, wordAdd_nil, List.nil_append]
    | false => rw [blN_stop h]; rfl
/-- A word is over at a blank or at the end. -/
theorem wordsR_over {cur : List UInt8} {l : List UInt8} (hc : cur ≠ []) (h : ∀ b r, l = b :: r → isBl b = true) : wordsR cur l = cur :: wordsR [] l := by
  cases l with
  | nil => rw [wordsR_nil, wordAdd_one hc]; rfl
  | cons b r =>
    have hb := h b r rfl
    rw [wordsR_blank hb, wordAdd_one hc, wordsR_blank hb]
    rfl
/-- The words of a text, nothing of what is none. -/
def blanksR (s : ByteArray) : List (List UInt8) := if (runesOf s).isSome = true then wordsR [] s.data.toList else []
theorem blanksR_no {s : ByteArray} (h : (runesOf s).isSome = false) : blanksR s = [] := by unfold blanksR; rw [if_neg (by rw [h]; simp)]
theorem blanksR_yes {s : ByteArray} (h : (runesOf s).isSome = true) : blanksR s = wordsR [] s.data.toList := by unfold blanksR; rw [if_pos h]
theorem wordsR_count : ∀ (l cur : List UInt8), (wordsR cur l).length ≤ l.length + 1
  | [], cur => by rw [wordsR_nil]; unfold wordAdd; split <;> simp
  | b :: r, cur => by
    cases h : isBl b with
    | true =>
      rw [wordsR_blank h, List.length_append]
      have := wordsR_count r []
      have h2 : (wordAdd cur).length ≤ 1 := by unfold wordAdd; split <;> simp
      simp only [List.length_cons]
      omega
    | false =>
      rw [wordsR_on h]
      have := wordsR_count r (cur ++ [b])
      simp only [List.length_cons]
      omega
theorem wordsR_pos : ∀ (l cur : List UInt8), ∀ x ∈ wordsR cur l, x ≠ []
  | [], cur, x, h => by
    rw [wordsR_nil] at h
    unfold wordAdd at h
    split at h
    · cases h
    · simp at h; subst h; assumption
  | b :: r, cur, x, h => by
    cases hb : isBl b with
    | true =>
      rw [wordsR_blank hb] at h
      rcases List.mem_append.1 h with h | h
      · unfold wordAdd at h
        split at h
        · cases h
        · simp at h; subst h; assumption
      · exact wordsR_pos r [] x h
    | false => rw [wordsR_on hb] at h; exact wordsR_pos r _ x h
theorem wordsR_len : ∀ (l cur : List UInt8), ∀ x ∈ wordsR cur l, x.length ≤ cur.length + l.length
  | [], cur, x, h => by
    rw [wordsR_nil] at h
    unfold wordAdd at h
    split at h
    · cases h
    · simp at h; subst h; simp
  | b :: r, cur, x, h => by
    cases hb : isBl b with
    | true =>
      rw [wordsR_blank hb] at h
      rcases List.mem_append.1 h with h | h
      · unfold wordAdd at h
        split at h
        · cases h
        · simp at h; subst h; simp
      · have := wordsR_len r [] x h; simp only [List.length_cons, List.length_nil] at *; omega
    | false => rw [wordsR_on hb] at h; have := wordsR_len r _ x h; simp only [List.length_append, List.length_cons, List.length_nil] at *; omega

end Wd

end Go.Proofs.YtdkjfppjbkdelaaDoor
