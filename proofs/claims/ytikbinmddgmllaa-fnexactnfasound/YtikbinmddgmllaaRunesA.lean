/- spec.l01Point and impl.isCodePoint tell code points; spec.l01Bytes makes the bytes of one. No condition (l01Bytes: a code point). -/
import Derived.Test.YtikbinmddgmllaaRows
import Derived.Test.YtikbinmddgmllaaMem
import Derived.Test.YtikbinmddgmllaaUtf
import Derived.Lib.Hide
import Derived.Lib.DecodeN
namespace Go.Proofs.Ytikbinmddgmllaa
open Go.RowKit Go.Lib

theorem ret_bool {a b : Bool} (h : a = b) : Ending.returned (.bool a) = .returned (.bool b) := by rw [h]

set_option maxHeartbeats 400000 in
theorem between_any (n lo hi : Int) (w : World) :
    Calls Try.prog 11 #[.int .i64 n, .int .i64 lo, .int .i64 hi] w fun e w' => e = .returned (.bool (decide (lo ≤ n ∧ n ≤ hi))) ∧ w = w' := by
  by_cases h1 : lo ≤ n
  · by_cases h2 : n ≤ hi
    all_goals
      go_enter Try.func11, Try.ntmps11
      go_wp2
      go_ret
      exact ⟨ret_bool (by simp [h1, h2]), rfl⟩
  · go_enter Try.func11, Try.ntmps11
    go_wp2
    go_ret
    exact ⟨ret_bool (by simp; omega), rfl⟩

set_option maxHeartbeats 400000 in
theorem point_any (c : Int) (w : World) :
    Calls Try.prog 10 #[.int .i64 c] w fun e w' => e = .returned (.bool (pt c)) ∧ w = w' := by
  by_cases h1 : (1 : Int) ≤ c ∧ c ≤ 1114111
  · by_cases h2 : (55296 : Int) ≤ c ∧ c ≤ 57343
    all_goals
      have e1 : decide ((1 : Int) ≤ c ∧ c ≤ 1114111) = true := decide_eq_true h1
      have e2 := h2
      first
        | have e2 : decide ((55296 : Int) ≤ c ∧ c ≤ 57343) = true := decide_eq_true h2
          go_enter Try.func10, Try.ntmps10
          go_wp2_with (go_at_call 11; refine (between_any _ _ _ _).mono ?_; rintro e w' ⟨rfl, rfl⟩)
          go_ret
          exact ⟨ret_bool (by unfold pt; simp; omega), rfl⟩
        | have e2 : decide ((55296 : Int) ≤ c ∧ c ≤ 57343) = false := decide_eq_false h2
          go_enter Try.func10, Try.ntmps10
          go_wp2_with (go_at_call 11; refine (between_any _ _ _ _).mono ?_; rintro e w' ⟨rfl, rfl⟩)
          go_ret
          exact ⟨ret_bool (by unfold pt; simp; omega), rfl⟩
  · have e1 : decide ((1 : Int) ≤ c ∧ c ≤ 1114111) = false := decide_eq_false h1
    go_enter Try.func10, Try.ntmps10
    go_wp2_with (go_at_call 11; refine (between_any _ _ _ _).mono ?_; rintro e w' ⟨rfl, rfl⟩)
    go_ret
    exact ⟨ret_bool (by unfold pt; simp; omega), rfl⟩

set_option maxHeartbeats 400000 in
theorem isPoint_any (c : Int) (w : World) :
    Calls Try.prog 17 #[.int .i64 c] w fun e w' => e = .returned (.bool (pt c)) ∧ w = w' := by
  by_cases h1 : (1 : Int) ≤ c
  · by_cases h2 : c ≤ 1114111
    · by_cases h3 : c < 55296
      · go_enter Try.func17, Try.ntmps17
        go_wp2
        go_ret
        exact ⟨ret_bool (by unfold pt; simp; omega), rfl⟩
      · by_cases h4 : (57343 : Int) < c
        all_goals
          go_enter Try.func17, Try.ntmps17
          go_wp2
          go_ret
          exact ⟨ret_bool (by unfold pt; simp; omega), rfl⟩
    · go_enter Try.func17, Try.ntmps17
      go_wp2
      go_ret
      exact ⟨ret_bool (by unfold pt; simp; omega), rfl⟩
  · go_enter Try.func17, Try.ntmps17
    go_wp2
    go_ret
    exact ⟨ret_bool (by unfold pt; simp; omega), rfl⟩

/-- What l01Bytes hands back: a new block with the bytes of c. -/
def BytesOf (c : Int) (w : World) (e : Ending) (w' : World) : Prop :=
  e = .returned (.slice (some ⟨w.heap.size, 0, none⟩) (encodeRuneZ c).length (encodeRuneZ c).length) ∧ w' = w.alloc (.cells ((encodeRuneZ c).map (Value.int .u8)).toArray 5)

end Go.Proofs.Ytikbinmddgmllaa

/- Plain mathematics: the code point at a place of a string, as the specification reads it, is what the model's decoder reads there, unless that is no code point. No program in it. -/
namespace Go.Proofs.Ytikbinmddgmllaa
open Go.Lib

/-- What the decoder's answer is worth: nothing where it is the code point 0 or an error of one byte. -/
def clean (d : Nat × Nat) : Nat × Nat := if d.1 = 0 ∨ (d.1 = 65533 ∧ d.2 = 1) then (0, 0) else d
def nxN (n b0 b1 b2 b3 : Nat) : Nat × Nat := clean (decodeN n b0 b1 b2 b3)
/-- The code point at a place and how many bytes it has; 0, 0 of none. -/
def nx (s : ByteArray) (i : Nat) : Nat × Nat := clean (Utf8.decode s i)

theorem nx_eq (s : ByteArray) (i : Nat) : nx s i = nxN (s.size - i) (s.get! i).toNat (s.get! (i + 1)).toNat (s.get! (i + 2)).toNat (s.get! (i + 3)).toNat := by
  unfold nx nxN; rw [decode_at]

theorem clean_bad : clean (65533, 1) = (0, 0) := rfl
theorem clean_zero (k : Nat) : clean (0, k) = (0, 0) := rfl
theorem clean_good {c k : Nat} (h : c ≠ 0) (hk : c ≠ 65533 ∨ k ≠ 1) : clean (c, k) = (c, k) := by
  unfold clean; rw [if_neg (by simp only; omega)]

section
variable {n b0 b1 b2 b3 : Nat}
theorem n_zero (h : b0 = 0) : nxN n b0 b1 b2 b3 = (0, 0) := by
  unfold nxN decodeN; rw [if_pos (by omega), h]; rfl
theorem n_asc (h : 1 ≤ b0) (h' : b0 < 128) : nxN n b0 b1 b2 b3 = (b0, 1) := by
  unfold nxN decodeN; rw [if_pos h', clean_good (by omega) (by omega)]
theorem n_odd (h : (128 ≤ b0 ∧ b0 < 192) ∨ 248 ≤ b0) (h' : b0 < 256) : nxN n b0 b1 b2 b3 = (0, 0) := by
  unfold nxN decodeN; rw [if_neg (by omega), if_neg (by omega), if_neg (by omega), if_neg (by omega)]; rfl
theorem n_two_no (h : 192 ≤ b0 ∧ b0 ≤ 223) (h' : n < 2 ∨ b1 < 128 ∨ 191 < b1) : nxN n b0 b1 b2 b3 = (0, 0) := by
  unfold nxN decodeN; rw [if_neg (by omega), if_neg (by omega), if_neg (by omega), if_neg (by omega)]; rfl
theorem n_three_no (h : 224 ≤ b0 ∧ b0 ≤ 239) (h' : n < 3 ∨ b1 < 128 ∨ 191 < b1 ∨ b2 < 128 ∨ 191 < b2) : nxN n b0 b1 b2 b3 = (0, 0) := by
  unfold nxN decodeN; rw [if_neg (by omega), if_neg (by omega), if_neg (by omega), if_neg (by omega)]; rfl
theorem n_four_no (h : 240 ≤ b0 ∧ b0 ≤ 247) (h' : n < 4 ∨ b1 < 128 ∨ 191 < b1 ∨ b2 < 128 ∨ 191 < b2 ∨ b3 < 128 ∨ 191 < b3) : nxN n b0 b1 b2 b3 = (0, 0) := by
  unfold nxN decodeN; rw [if_neg (by omega), if_neg (by omega), if_neg (by omega), if_neg (by omega)]; rfl

theorem enc_len {c : Int} (h : pt c = true) : (encodeRuneZ c).length = if c < 128 then 1 else if c < 2048 then 2 else if c < 65536 then 3 else 4 := by
  by_cases h1 : c < 128
  · rw [enc1 h h1, if_pos h1]; rfl
  · by_cases h2 : c < 2048
    · rw [enc2 h1 h2, if_neg h1, if_pos h2]; rfl
    · by_cases h3 : c < 65536
      · rw [enc3 h h2 h3, if_neg h1, if_neg h2, if_pos h3]; rfl
      · rw [enc4 h h3, if_neg h1, if_neg h2, if_neg h3]; rfl

/-- The last test of the specification: a code point, in its shortest form. -/
def fine (c : Int) (k : Nat) : Bool := pt c && decide ((encodeRuneZ c).length = k)

theorem fine_two {c : Int} (h0 : 0 ≤ c) (h1 : c < 2048) : fine c 2 = decide (128 ≤ c) := by
  unfold fine
  by_cases hp : pt c = true
  · rw [enc_len hp, hp]
    by_cases h : c < 128
    · simp [h]
    · simp [h, h1]; omega
  · have hp' : pt c = false := by simpa using hp
    have := pt_not.1 hp'
    rw [hp']; simp; omega
theorem fine_three {c : Int} (h0 : 0 ≤ c) (h1 : c < 65536) : fine c 3 = decide (2048 ≤ c ∧ (c < 55296 ∨ 57344 ≤ c)) := by
  unfold fine
  by_cases hp : pt c = true
  · rw [enc_len hp, hp]
    have := pt_iff.1 hp
    by_cases h : c < 128
    · simp [h]; omega
    · by_cases h2 : c < 2048
      · simp [h, h2]; omega
      · simp [h, h2, h1]; omega
  · have hp' : pt c = false := by simpa using hp
    have := pt_not.1 hp'
    rw [hp']; simp; omega
theorem fine_four {c : Int} (h0 : 0 ≤ c) (h1 : c < 2097152) : fine c 4 = decide (65536 ≤ c ∧ c ≤ 1114111) := by
  unfold fine
  by_cases hp : pt c = true
  · rw [enc_len hp, hp]
    have := pt_iff.1 hp
    by_cases h : c < 128
    · simp [h]; omega
    · by_cases h2 : c < 2048
      · simp [h, h2]; omega
      · by_cases h3 : c < 65536
        · simp [h, h2, h3]; omega
        · simp [h, h2, h3]; omega
  · have hp' : pt c = false := by simpa using hp
    have := pt_not.1 hp'
    rw [hp']; simp; omega

/-- What the specification hands back behind the last test. -/
def back (c : Int) (k : Nat) : Nat × Nat := if fine c k then (c.toNat, k) else (0, 0)

theorem n_two {c : Int} (h : 192 ≤ b0 ∧ b0 ≤ 223) (hn : 2 ≤ n) (h1 : 128 ≤ b1 ∧ b1 ≤ 191) (hc : c = 64 * ((b0 : Int) - 192) + b1 - 128) : nxN n b0 b1 b2 b3 = back c 2 := by
  unfold nxN decodeN back
  rw [if_neg (by omega), if_pos (by omega), fine_two (by omega) (by omega)]
  by_cases g : 128 ≤ c
  · rw [if_pos (by omega), decide_eq_true g, if_pos rfl, clean_good (by omega) (by omega)]
    congr 1; omega
  · rw [if_neg (by omega), decide_eq_false g]; rfl
theorem n_three {c : Int} (h : 224 ≤ b0 ∧ b0 ≤ 239) (hn : 3 ≤ n) (h1 : 128 ≤ b1 ∧ b1 ≤ 191) (h2 : 128 ≤ b2 ∧ b2 ≤ 191) (hc : c = 64 * (64 * ((b0 : Int) - 224) + b1 - 128) + b2 - 128) : nxN n b0 b1 b2 b3 = back c 3 := by
  unfold nxN decodeN back
  rw [if_neg (by omega), if_neg (by omega), if_pos (by omega), fine_three (by omega) (by omega)]
  by_cases g : 2048 ≤ c ∧ (c < 55296 ∨ 57344 ≤ c)
  · rw [if_pos (by omega), decide_eq_true g, if_pos rfl, clean_good (by omega) (by omega)]
    congr 1; omega
  · rw [if_neg (by omega), decide_eq_false g]; rfl
theorem n_four {c : Int} (h : 240 ≤ b0 ∧ b0 ≤ 247) (hn : 4 ≤ n) (h1 : 128 ≤ b1 ∧ b1 ≤ 191) (h2 : 128 ≤ b2 ∧ b2 ≤ 191) (h3 : 128 ≤ b3 ∧ b3 ≤ 191) (hc : c = 64 * (64 * (64 * ((b0 : Int) - 240) + b1 - 128) + b2 - 128) + b3 - 128) : nxN n b0 b1 b2 b3 = back c 4 := by
  unfold nxN decodeN back
  rw [if_neg (by omega), if_neg (by omega), if_neg (by omega), if_pos (by omega), fine_four (by omega) (by omega)]
  by_cases g : 65536 ≤ c ∧ c ≤ 1114111
  · rw [if_pos (by omega), decide_eq_true g, if_pos rfl, clean_good (by omega) (by omega)]
    congr 1; omega
  · rw [if_neg (by omega), decide_eq_false g]; rfl
end

theorem back_yes {c : Int} {k : Nat} (h : pt c = true) (hl : (encodeRuneZ c).length = k) : back c k = (c.toNat, k) := by
  unfold back fine; rw [h, decide_eq_true hl]; rfl
theorem back_no {c : Int} {k : Nat} (h : pt c = false ∨ ¬ (encodeRuneZ c).length = k) : back c k = (0, 0) := by
  unfold back fine
  rcases h with h | h
  · rw [h]; rfl
  · rw [decide_eq_false h]; simp

end Go.Proofs.Ytikbinmddgmllaa

/- spec.l01Next reads the code point at a place of a string. Conditions: the place is inside; the string has at most 1048576 bytes. -/
namespace Go.Proofs.Ytikbinmddgmllaa
open Go.RowKit
open Go.Lib (encodeRuneZ encodeRune byteCells runeCells encodeRuneZ_length)
set_option linter.unusedVariables false

def NextIs (s : ByteArray) (i : Nat) (w : World) (e : Ending) (w' : World) : Prop :=
  e = .returned (.tuple #[.int .i64 (nx s i).1, .int .i64 (nx s i).2]) ∧ Below w.heap.size w w'

theorem NextIs.no {s : ByteArray} {i : Nat} {w w' : World} (h : nx s i = (0, 0)) (hb : Below w.heap.size w w') : NextIs s i w (.returned (.tuple #[.int .i64 0, .int .i64 0])) w' := by
  unfold NextIs; rw [h]; exact ⟨rfl, hb⟩
theorem NextIs.yes {s : ByteArray} {i : Nat} {k : Nat} {c : Int} {w w' : World} (h : nx s i = (c.toNat, k)) (h0 : 0 ≤ c) (hb : Below w.heap.size w w') : NextIs s i w (.returned (.tuple #[.int .i64 c, .int .i64 k])) w' := by
  unfold NextIs; rw [h]; exact ⟨by simp only; rw [Int.toNat_of_nonneg h0], hb⟩

theorem get_at {s : ByteArray} {i : Nat} (h : i < s.size) : s.get! i = s[i]'h := by
  simp [ByteArray.get!, h]
  rfl

end Go.Proofs.Ytikbinmddgmllaa

/- Plain mathematics: the code points of a string, none where it is no text. No program in it. -/
namespace Go.Proofs.Ytikbinmddgmllaa
open Go.Lib

theorem decodeN_fits (n b0 b1 b2 b3 : Nat) (hn : 1 ≤ n) : (decodeN n b0 b1 b2 b3).2 ≤ n ∧ 1 ≤ (decodeN n b0 b1 b2 b3).2 := by
  unfold decodeN
  repeat' split
  all_goals simp only
  all_goals omega
theorem nx_fits {s : ByteArray} {i : Nat} (hi : i < s.size) : i + (nx s i).2 ≤ s.size := by
  rw [nx_eq]
  have := decodeN_fits (s.size - i) (s.get! i).toNat (s.get! (i + 1)).toNat (s.get! (i + 2)).toNat (s.get! (i + 3)).toNat (by omega)
  unfold nxN clean
  split
  · simp only; omega
  · omega
theorem nx_point {s : ByteArray} {i : Nat} (h : (nx s i).2 ≠ 0) : nx s i = Utf8.decode s i ∧ ¬ ((Utf8.decode s i).1 = 0 ∨ ((Utf8.decode s i).1 = 65533 ∧ (Utf8.decode s i).2 = 1)) := by
  unfold nx clean at h ⊢
  split at h
  · simp at h
  · rename_i g
    rw [if_neg g]
    exact ⟨rfl, g⟩
theorem nx_none {s : ByteArray} {i : Nat} (hi : i < s.size) (h : (nx s i).2 = 0) : (Utf8.decode s i).1 = 0 ∨ ((Utf8.decode s i).1 = 65533 ∧ (Utf8.decode s i).2 = 1) := by
  unfold nx clean at h
  split at h
  · assumption
  · have := decodeN_fits (s.size - i) (s.get! i).toNat (s.get! (i + 1)).toNat (s.get! (i + 2)).toNat (s.get! (i + 3)).toNat (by omega)
    rw [← decode_at] at this
    omega

/-- The code points from a place on, by so many steps at most; none where something there is no code point. -/
def runesFrom (s : ByteArray) : Nat → Nat → Option (List Int)
  | 0, _ => some []
  | f + 1, i => if i < s.size then (if (nx s i).2 = 0 then none else (runesFrom s f (i + (nx s i).2)).map (((nx s i).1 : Int) :: ·)) else some []
def runesOf (s : ByteArray) : Option (List Int) := if 1000 < s.size then none else runesFrom s s.size 0

theorem runesFrom_end {s : ByteArray} {f i : Nat} (h : ¬ i < s.size) : runesFrom s f i = some [] := by
  cases f <;> simp [runesFrom, h]
theorem runesFrom_no {s : ByteArray} {f i : Nat} (hf : s.size ≤ i + f) (hi : i < s.size) (h : (nx s i).2 = 0) : runesFrom s f i = none := by
  cases f with
  | zero => omega
  | succ f => rw [runesFrom, if_pos hi, if_pos h]
theorem runesFrom_on {s : ByteArray} {f i : Nat} (hf : s.size ≤ i + f) (hi : i < s.size) (h : (nx s i).2 ≠ 0) :
    runesFrom s f i = (runesFrom s (f - 1) (i + (nx s i).2)).map (((nx s i).1 : Int) :: ·) := by
  cases f with
  | zero => omega
  | succ f => rw [runesFrom, if_pos hi, if_neg h]; rfl

theorem map_snoc (o : Option (List Int)) (acc : List Int) (c : Int) : (o.map (c :: ·)).map (acc ++ ·) = o.map ((acc ++ [c]) ++ ·) := by
  cases o <;> simp

end Go.Proofs.Ytikbinmddgmllaa
