/- Plain mathematics: a part of a text by code points, and by byte offsets. No program in it. -/
import Derived.Test.YtdkjfppjbkdelaaDoorValidA
namespace Go.Proofs.YtdkjfppjbkdelaaDoor
open Go.Lib

/-- The code points with numbers from lo + 1 to hi. -/
def seg (l : List Int) (lo hi : Nat) : List Int := (l.take hi).drop lo

theorem seg_in {l : List Int} {lo hi k : Nat} (hk : k < l.length) (h1 : lo ≤ k) (h2 : k < hi) : seg l lo (min (k + 1) hi) = seg l lo (min k hi) ++ [l[k]] := by
  unfold seg
  rw [Nat.min_eq_left (by omega), Nat.min_eq_left (by omega), List.take_succ_eq_append_getElem hk, List.drop_append_of_le_length (by simp; omega)]
theorem seg_out {l : List Int} {lo hi k : Nat} (h : ¬ (lo ≤ k ∧ k < hi)) : seg l lo (min (k + 1) hi) = seg l lo (min k hi) := by
  unfold seg
  by_cases h2 : k < hi
  · rw [List.drop_eq_nil_of_le (by simp; omega), List.drop_eq_nil_of_le (by simp; omega)]
  · rw [Nat.min_eq_right (by omega), Nat.min_eq_right (by omega)]
theorem seg_end {l : List Int} {lo hi k : Nat} (h : l.length ≤ k) : seg l lo (min k hi) = seg l lo hi := by
  unfold seg
  by_cases h2 : k ≤ hi
  · rw [Nat.min_eq_left h2, List.take_of_length_le h, List.take_of_length_le (by omega)]
  · rw [Nat.min_eq_right (by omega)]
theorem seg_zero (l : List Int) (lo hi : Nat) : seg l lo (min 0 hi) = [] := by simp [seg]
theorem seg_mem {l : List Int} {lo hi : Nat} {c : Int} (h : c ∈ seg l lo hi) : c ∈ l := List.mem_of_mem_take (List.mem_of_mem_drop h)

/-- Where the code points begin. -/
def offsOf (l : List Int) : List Int := (List.range l.length).map fun j : Nat => ((cat (l.take j)).length : Int)
theorem offsOf_snoc (l : List Int) (c : Int) : offsOf (l ++ [c]) = offsOf l ++ [((cat l).length : Int)] := by
  unfold offsOf
  rw [List.length_append, List.length_singleton, List.range_succ, List.map_append]
  congr 1
  · apply List.map_congr_left
    intro j hj
    rw [List.mem_range] at hj
    rw [List.take_append_of_le_length (by omega)]
  · simp
theorem offsOf_length (l : List Int) : (offsOf l).length = l.length := by simp [offsOf]
theorem offs_at (l : List Int) (j : Nat) (h : j ≤ l.length) : (offsOf l ++ [((cat l).length : Int)])[j]? = some ((cat (l.take j)).length : Int) := by
  rcases Nat.lt_or_ge j l.length with h1 | h1
  · rw [List.getElem?_append_left (by rw [offsOf_length]; exact h1)]
    simp [offsOf, h1]
  · obtain rfl : j = l.length := by omega
    rw [List.getElem?_append_right (by rw [offsOf_length]; omega), offsOf_length]
    simp

/-- The bytes between two offsets. -/
theorem cat_seg (l : List Int) (a b : Nat) (h : a ≤ b) : ((cat l).take (cat (l.take b)).length).drop (cat (l.take a)).length = cat (seg l a b) := by
  have h1 : cat l = cat (l.take b) ++ cat (l.drop b) := by rw [← cat_append, List.take_append_drop]
  have h2 : cat (l.take b) = cat (l.take a) ++ cat (seg l a b) := by
    rw [← cat_append]
    congr 1
    unfold seg
    have : (l.take b).take a = l.take a := by rw [List.take_take, Nat.min_eq_left h]
    rw [← this, List.take_append_drop]
  rw [h1, List.take_left, h2, List.drop_left]
theorem cat_mono (l : List Int) (a b : Nat) (h : a ≤ b) : (cat (l.take a)).length ≤ (cat (l.take b)).length := by
  have : (l.take b).take a = l.take a := by rw [List.take_take, Nat.min_eq_left h]
  rw [← this]
  conv => rhs; rw [← List.take_append_drop a (l.take b)]
  rw [cat_append, List.length_append]
  omega
theorem cat_take_le (l : List Int) (a : Nat) : (cat (l.take a)).length ≤ (cat l).length := by
  conv => rhs; rw [← List.take_append_drop a l]
  rw [cat_append, List.length_append]
  omega

/-- The width of a code point is the number of its bytes. -/
theorem width_of {s : ByteArray} {i : Nat} (hi : i < s.size) (h : (nx s i).2 ≠ 0) : (encodeRune ((nx s i).1 : Int)).length = (nx s i).2 := by
  have hlen : s.data.toList.length = s.size := Array.length_toList
  obtain ⟨hd, hg⟩ := nx_point h
  have hne : s.data.toList.drop i ≠ [] := by
    intro e
    have := congrArg List.length e
    rw [List.length_drop, hlen] at this
    simp at this
    omega
  have hdec := encode_decode (s.data.toList.drop i) hne (by rw [decodeL_drop]; omega)
  rw [decodeL_drop, ← hd] at hdec
  have hf := nx_fits hi
  rw [hdec, List.length_take, List.length_drop, hlen]
  omega

/-- What both hand back: the part by numbers. -/
def loOf (from_ : Int) : Nat := (from_ - 1).toNat
def hiOf (from_ count : Int) : Nat := (from_ + count - 1).toNat
def partOf (s : ByteArray) (from_ count : Int) : List UInt8 := if count < 1 then [] else ((runesOf s).map fun l => cat (seg l (loOf from_) (hiOf from_ count))).getD []

end Go.Proofs.YtdkjfppjbkdelaaDoor
