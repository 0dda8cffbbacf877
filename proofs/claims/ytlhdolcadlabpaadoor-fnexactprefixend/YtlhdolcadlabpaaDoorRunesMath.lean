/- Plain mathematics: the code points of a string, none where it is no text. No program in it. -/
import Derived.Test.YtlhdolcadlabpaaDoorDec
namespace Go.Proofs.YtlhdolcadlabpaaDoor
open Go.Lib

theorem decodeN_fits (n b0 b1 b2 b3 : Nat) (hn : 1 ≤ n) : (decodeN n b0 b1 b2 b3).2 ≤ n ∧ 1 ≤ (decodeN n b0 b1 b2 b3).2 := by
  unfold decodeN
  repeat' split
  all_goals simp only
  all_goals omega
theorem nx_fits {s : ByteArray} {i : Nat} (hi : i < s.size) : i + (nx s i).2 ≤ s.size := by
  rw [nx_eq]
  have := decodeN_fits (s.size - i) (s.get! i).toNat (s.get! (i + 1)).toNat (s.get! (i + 2)).toNat (s.get! (i + 3)).toNat (by omega)
  unfold nxN clean
  split
  · simp only; omega
  · omega
theorem nx_point {s : ByteArray} {i : Nat} (h : (nx s i).2 ≠ 0) : nx s i = Utf8.decode s i ∧ ¬ ((Utf8.decode s i).1 = 0 ∨ ((Utf8.decode s i).1 = 65533 ∧ (Utf8.decode s i).2 = 1)) := by
  unfold nx clean at h ⊢
  split at h
  · simp at h
  · rename_i g
    rw [if_neg g]
    exact ⟨rfl, g⟩
theorem nx_none {s : ByteArray} {i : Nat} (hi : i < s.size) (h : (nx s i).2 = 0) : (Utf8.decode s i).1 = 0 ∨ ((Utf8.decode s i).1 = 65533 ∧ (Utf8.decode s i).2 = 1) := by
  unfold nx clean at h
  split at h
  · assumption
  · have := decodeN_fits (s.size - i) (s.get! i).toNat (s.get! (i + 1)).toNat (s.get! (i + 2)).toNat (s.get! (i + 3)).toNat (by omega)
    rw [← decode_at] at this
    omega

/-- The code points from a place on, by so many steps at most; none where something there is no code point. -/
def runesFrom (s : ByteArray) : Nat → Nat → Option (List Int)
  | 0, _ => some []
  | f + 1, i => if i < s.size then (if (nx s i).2 = 0 then none else (runesFrom s f (i + (nx s i).2)).map (((nx s i).1 : Int) :: ·)) else some []
def runesOf (s : ByteArray) : Option (List Int) := if 1000 < s.size then none else runesFrom s s.size 0

theorem runesFrom_end {s : ByteArray} {f i : Nat} (h : ¬ i < s.size) : runesFrom s f i = some [] := by
  cases f <;> simp [runesFrom, h]
theorem runesFrom_no {s : ByteArray} {f i : Nat} (hf : s.size ≤ i + f) (hi : i < s.size) (h : (nx s i).2 = 0) : runesFrom s f i = none := by
  cases f with
  | zero => omega
  | succ f => rw [runesFrom, if_pos hi, if_pos h]
theorem runesFrom_on {s : ByteArray} {f i : Nat} (hf : s.size ≤ i + f) (hi : i < s.size) (h : (nx s i).2 ≠ 0) :
    runesFrom s f i = (runesFrom s (f - 1) (i + (nx s i).2)).map (((nx s i).1 : Int) :: ·) := by
  cases f with
  | zero => omega
  | succ f => rw [runesFrom, if_pos hi, if_neg h]; rfl

theorem map_snoc (o : Option (List Int)) (acc : List Int) (c : Int) : (o.map (c :: ·)).map (acc ++ ·) = o.map ((acc ++ [c]) ++ ·) := by
  cases o <;> simp

end Go.Proofs.YtlhdolcadlabpaaDoor
