/- Plain mathematics: the code point at a place of a string, as the specification reads it, is what the model's decoder reads there, unless that is no code point. No program in it. -/
import Derived.Test.YtlhdolcadlabpaaDoorUtf
import Derived.Lib.DecodeN
namespace Go.Proofs.YtlhdolcadlabpaaDoor
open Go.Lib

/-- What the decoder's answer is worth: nothing where it is the code point 0 or an error of one byte. -/
def clean (d : Nat × Nat) : Nat × Nat := if d.1 = 0 ∨ (d.1 = 65533 ∧ d.2 = 1) then (0, 0) else d
def nxN (n b0 b1 b2 b3 : Nat) : Nat × Nat := clean (decodeN n b0 b1 b2 b3)
/-- The code point at a place and how many bytes it has; 0, 0 of none. -/
def nx (s : ByteArray) (i : Nat) : Nat × Nat := clean (Utf8.decode s i)

theorem nx_eq (s : ByteArray) (i : Nat) : nx s i = nxN (s.size - i) (s.get! i).toNat (s.get! (i + 1)).toNat (s.get! (i + 2)).toNat (s.get! (i + 3)).toNat := by
  unfold nx nxN; rw [decode_at]

theorem clean_bad : clean (65533, 1) = (0, 0) := rfl
theorem clean_zero (k : Nat) : clean (0, k) = (0, 0) := rfl
theorem clean_good {c k : Nat} (h : c ≠ 0) (hk : c ≠ 65533 ∨ k ≠ 1) : clean (c, k) = (c, k) := by
  unfold clean; rw [if_neg (by simp only; omega)]

section
variable {n b0 b1 b2 b3 : Nat}
theorem n_zero (h : b0 = 0) : nxN n b0 b1 b2 b3 = (0, 0) := by
  unfold nxN decodeN; rw [if_pos (by omega), h]; rfl
theorem n_asc (h : 1 ≤ b0) (h' : b0 < 128) : nxN n b0 b1 b2 b3 = (b0, 1) := by
  unfold nxN decodeN; rw [if_pos h', clean_good (by omega) (by omega)]
theorem n_odd (h : (128 ≤ b0 ∧ b0 < 192) ∨ 248 ≤ b0) (h' : b0 < 256) : nxN n b0 b1 b2 b3 = (0, 0) := by
  unfold nxN decodeN; rw [if_neg (by omega), if_neg (by omega), if_neg (by omega), if_neg (by omega)]; rfl
theorem n_two_no (h : 192 ≤ b0 ∧ b0 ≤ 223) (h' : n < 2 ∨ b1 < 128 ∨ 191 < b1) : nxN n b0 b1 b2 b3 = (0, 0) := by
  unfold nxN decodeN; rw [if_neg (by omega), if_neg (by omega), if_neg (by omega), if_neg (by omega)]; rfl
theorem n_three_no (h : 224 ≤ b0 ∧ b0 ≤ 239) (h' : n < 3 ∨ b1 < 128 ∨ 191 < b1 ∨ b2 < 128 ∨ 191 < b2) : nxN n b0 b1 b2 b3 = (0, 0) := by
  unfold nxN decodeN; rw [if_neg (by omega), if_neg (by omega), if_neg (by omega), if_neg (by omega)]; rfl
theorem n_four_no (h : 240 ≤ b0 ∧ b0 ≤ 247) (h' : n < 4 ∨ b1 < 128 ∨ 191 < b1 ∨ b2 < 128 ∨ 191 < b2 ∨ b3 < 128 ∨ 191 < b3) : nxN n b0 b1 b2 b3 = (0, 0) := by
  unfold nxN decodeN; rw [if_neg (by omega), if_neg (by omega), if_neg (by omega), if_neg (by omega)]; rfl

theorem enc_len {c : Int} (h : pt c = true) : (encodeRuneZ c).length = if c < 128 then 1 else if c < 2048 then 2 else if c < 65536 then 3 else 4 := by
  by_cases h1 : c < 128
  · rw [enc1 h h1, if_pos h1]; rfl
  · by_cases h2 : c < 2048
    · rw [enc2 h1 h2, if_neg h1, if_pos h2]; rfl
    · by_cases h3 : c < 65536
      · rw [enc3 h h2 h3, if_neg h1, if_neg h2, if_pos h3]; rfl
      · rw [enc4 h h3, if_neg h1, if_neg h2, if_neg h3]; rfl

/-- The last test of the specification: a code point, in its shortest form. -/
def fine (c : Int) (k : Nat) : Bool := pt c && decide ((encodeRuneZ c).length = k)

theorem fine_two {c : Int} (h0 : 0 ≤ c) (h1 : c < 2048) : fine c 2 = decide (128 ≤ c) := by
  unfold fine
  by_cases hp : pt c = true
  · rw [enc_len hp, hp]
    by_cases h : c < 128
    · simp [h]
    · simp [h, h1]; omega
  · have hp' : pt c = false := by simpa using hp
    have := pt_not.1 hp'
    rw [hp']; simp; omega
theorem fine_three {c : Int} (h0 : 0 ≤ c) (h1 : c < 65536) : fine c 3 = decide (2048 ≤ c ∧ (c < 55296 ∨ 57344 ≤ c)) := by
  unfold fine
  by_cases hp : pt c = true
  · rw [enc_len hp, hp]
    have := pt_iff.1 hp
    by_cases h : c < 128
    · simp [h]; omega
    · by_cases h2 : c < 2048
      · simp [h, h2]; omega
      · simp [h, h2, h1]; omega
  · have hp' : pt c = false := by simpa using hp
    have := pt_not.1 hp'
    rw [hp']; simp; omega
theorem fine_four {c : Int} (h0 : 0 ≤ c) (h1 : c < 2097152) : fine c 4 = decide (65536 ≤ c ∧ c ≤ 1114111) := by
  unfold fine
  by_cases hp : pt c = true
  · rw [enc_len hp, hp]
    have := pt_iff.1 hp
    by_cases h : c < 128
    · simp [h]; omega
    · by_cases h2 : c < 2048
      · simp [h, h2]; omega
      · by_cases h3 : c < 65536
        · simp [h, h2, h3]; omega
        · simp [h, h2, h3]; omega
  · have hp' : pt c = false := by simpa using hp
    have := pt_not.1 hp'
    rw [hp']; simp; omega

/-- What the specification hands back behind the last test. -/
def back (c : Int) (k : Nat) : Nat × Nat := if fine c k then (c.toNat, k) else (0, 0)

theorem n_two {c : Int} (h : 192 ≤ b0 ∧ b0 ≤ 223) (hn : 2 ≤ n) (h1 : 128 ≤ b1 ∧ b1 ≤ 191) (hc : c = 64 * ((b0 : Int) - 192) + b1 - 128) : nxN n b0 b1 b2 b3 = back c 2 := by
  unfold nxN decodeN back
  rw [if_neg (by omega), if_pos (by omega), fine_two (by omega) (by omega)]
  by_cases g : 128 ≤ c
  · rw [if_pos (by omega), decide_eq_true g, if_pos rfl, clean_good (by omega) (by omega)]
    congr 1; omega
  · rw [if_neg (by omega), decide_eq_false g]; rfl
theorem n_three {c : Int} (h : 224 ≤ b0 ∧ b0 ≤ 239) (hn : 3 ≤ n) (h1 : 128 ≤ b1 ∧ b1 ≤ 191) (h2 : 128 ≤ b2 ∧ b2 ≤ 191) (hc : c = 64 * (64 * ((b0 : Int) - 224) + b1 - 128) + b2 - 128) : nxN n b0 b1 b2 b3 = back c 3 := by
  unfold nxN decodeN back
  rw [if_neg (by omega), if_neg (by omega), if_pos (by omega), fine_three (by omega) (by omega)]
  by_cases g : 2048 ≤ c ∧ (c < 55296 ∨ 57344 ≤ c)
  · rw [if_pos (by omega), decide_eq_true g, if_pos rfl, clean_good (by omega) (by omega)]
    congr 1; omega
  · rw [if_neg (by omega), decide_eq_false g]; rfl
theorem n_four {c : Int} (h : 240 ≤ b0 ∧ b0 ≤ 247) (hn : 4 ≤ n) (h1 : 128 ≤ b1 ∧ b1 ≤ 191) (h2 : 128 ≤ b2 ∧ b2 ≤ 191) (h3 : 128 ≤ b3 ∧ b3 ≤ 191) (hc : c = 64 * (64 * (64 * ((b0 : Int) - 240) + b1 - 128) + b2 - 128) + b3 - 128) : nxN n b0 b1 b2 b3 = back c 4 := by
  unfold nxN decodeN back
  rw [if_neg (by omega), if_neg (by omega), if_neg (by omega), if_pos (by omega), fine_four (by omega) (by omega)]
  by_cases g : 65536 ≤ c ∧ c ≤ 1114111
  · rw [if_pos (by omega), decide_eq_true g, if_pos rfl, clean_good (by omega) (by omega)]
    congr 1; omega
  · rw [if_neg (by omega), decide_eq_false g]; rfl
end

theorem back_yes {c : Int} {k : Nat} (h : pt c = true) (hl : (encodeRuneZ c).length = k) : back c k = (c.toNat, k) := by
  unfold back fine; rw [h, decide_eq_true hl]; rfl
theorem back_no {c : Int} {k : Nat} (h : pt c = false ∨ ¬ (encodeRuneZ c).length = k) : back c k = (0, 0) := by
  unfold back fine
  rcases h with h | h
  · rw [h]; rfl
  · rw [decide_eq_false h]; simp

end Go.Proofs.YtlhdolcadlabpaaDoor
