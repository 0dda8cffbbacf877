/- spec.l01Point and impl.isCodePoint tell code points; spec.l01Bytes makes the bytes of one. No condition (l01Bytes: a code point). -/
import Derived.Test.YtjklnfcoaakkgaaDoorRows
import Derived.Test.YtjklnfcoaakkgaaDoorMem
import Derived.Test.YtjklnfcoaakkgaaDoorUtf
import Derived.Lib.Hide
import Derived.Lib.DecodeN
namespace Go.Proofs.YtjklnfcoaakkgaaDoor
open Go.RowKit Go.Lib

theorem ret_bool {a b : Bool} (h : a = b) : Ending.returned (.bool a) = .returned (.bool b) := by rw [h]

set_option maxHeartbeats 400000 in
theorem between_any (n lo hi : Int) (w : World) :
    Calls Tryd.prog 40 #[.int .i64 n, .int .i64 lo, .int .i64 hi] w fun e w' => e = .returned (.bool (decide (lo ≤ n ∧ n ≤ hi))) ∧ w = w' := by
  by_cases h1 : lo ≤ n
  · by_cases h2 : n ≤ hi
    all_goals
      go_enter Tryd.func40, Tryd.ntmps40
      go_wp2
      go_ret
      exact ⟨ret_bool (by simp [h1, h2]), rfl⟩
  · go_enter Tryd.func40, Tryd.ntmps40
    go_wp2
    go_ret
    exact ⟨ret_bool (by simp; omega), rfl⟩

set_option maxHeartbeats 400000 in
theorem point_any (c : Int) (w : World) :
    Calls Tryd.prog 72 #[.int .i64 c] w fun e w' => e = .returned (.bool (pt c)) ∧ w = w' := by
  by_cases h1 : (1 : Int) ≤ c ∧ c ≤ 1114111
  · by_cases h2 : (55296 : Int) ≤ c ∧ c ≤ 57343
    all_goals
      have e1 : decide ((1 : Int) ≤ c ∧ c ≤ 1114111) = true := decide_eq_true h1
      have e2 := h2
      first
        | have e2 : decide ((55296 : Int) ≤ c ∧ c ≤ 57343) = true := decide_eq_true h2
          go_enter Tryd.func72, Tryd.ntmps72
          go_wp2_with (go_at_call 40; refine (between_any _ _ _ _).mono ?_; rintro e w' ⟨rfl, rfl⟩)
          go_ret
          exact ⟨ret_bool (by unfold pt; simp; omega), rfl⟩
        | have e2 : decide ((55296 : Int) ≤ c ∧ c ≤ 57343) = false := decide_eq_false h2
          go_enter Tryd.func72, Tryd.ntmps72
          go_wp2_with (go_at_call 40; refine (between_any _ _ _ _).mono ?_; rintro e w' ⟨rfl, rfl⟩)
          go_ret
          exact ⟨ret_bool (by unfold pt; simp; omega), rfl⟩
  · have e1 : decide ((1 : Int) ≤ c ∧ c ≤ 1114111) = false := decide_eq_false h1
    go_enter Tryd.func72, Tryd.ntmps72
    go_wp2_with (go_at_call 40; refine (between_any _ _ _ _).mono ?_; rintro e w' ⟨rfl, rfl⟩)
    go_ret
    exact ⟨ret_bool (by unfold pt; simp; omega), rfl⟩

/-- What l01Bytes hands back: a new block with the bytes of c. -/
def BytesOf (c : Int) (w : World) (e : Ending) (w' : World) : Prop :=
  e = .returned (.slice (some ⟨w.heap.size, 0, none⟩) (encodeRuneZ c).length (encodeRuneZ c).length) ∧ w' = w.alloc (.cells ((encodeRuneZ c).map (Value.int .u8)).toArray 5)

set_option maxHeartbeats 1000000 in
theorem bytes_any (c : Int) (w : World) (h : pt c = true) :
    Calls Tryd.prog 73 #[.int .i64 c] w (BytesOf c w) := by
  have hb := pt_iff.1 h
  have b0 : 0 ≤ c := by omega
  have b1 : c ≤ 1114111 := by omega
  clear hb
  by_cases h1 : c < 128
  · have H := Lib.hid (enc1 h h1); clear h
    go_enter Tryd.func73, Tryd.ntmps73
    go_wp2
    go_ret
    unfold BytesOf; rw [H.out]; exact ⟨rfl, rfl⟩
  · by_cases h2 : c < 2048
    · have H := Lib.hid (enc2 h1 h2); clear h
      go_enter Tryd.func73, Tryd.ntmps73
      go_wp2
      go_ret
      unfold BytesOf; rw [H.out]; exact ⟨rfl, rfl⟩
    · by_cases h3 : c < 65536
      · have H := Lib.hid (enc3 h h2 h3); clear h
        go_enter Tryd.func73, Tryd.ntmps73
        go_wp2
        go_ret
        unfold BytesOf; rw [H.out]; exact ⟨rfl, rfl⟩
      · have H := Lib.hid (enc4 h h3); clear h
        go_enter Tryd.func73, Tryd.ntmps73
        go_wp2
        go_ret
        unfold BytesOf; rw [H.out]; exact ⟨rfl, rfl⟩

end Go.Proofs.YtjklnfcoaakkgaaDoor

/- Plain mathematics: the code point at a place of a string, as the specification reads it, is what the model's decoder reads there, unless that is no code point. No program in it. -/
namespace Go.Proofs.YtjklnfcoaakkgaaDoor
open Go.Lib

/-- What the decoder's answer is worth: nothing where it is the code point 0 or an error of one byte. -/
def clean (d : Nat × Nat) : Nat × Nat := if d.1 = 0 ∨ (d.1 = 65533 ∧ d.2 = 1) then (0, 0) else d
def nxN (n b0 b1 b2 b3 : Nat) : Nat × Nat := clean (decodeN n b0 b1 b2 b3)
/-- The code point at a place and how many bytes it has; 0, 0 of none. -/
def nx (s : ByteArray) (i : Nat) : Nat × Nat := clean (Utf8.decode s i)

theorem nx_eq (s : ByteArray) (i : Nat) : nx s i = nxN (s.size - i) (s.get! i).toNat (s.get! (i + 1)).toNat (s.get! (i + 2)).toNat (s.get! (i + 3)).toNat := by
  unfold nx nxN; rw [decode_at]

theorem clean_bad : clean (65533, 1) = (0, 0) := rfl
theorem clean_zero (k : Nat) : clean (0, k) = (0, 0) := rfl
theorem clean_good {c k : Nat} (h : c ≠ 0) (hk : c ≠ 65533 ∨ k ≠ 1) : clean (c, k) = (c, k) := by
  unfold clean; rw [if_neg (by simp only; omega)]

section
variable {n b0 b1 b2 b3 : Nat}
theorem n_zero (h : b0 = 0) : nxN n b0 b1 b2 b3 = (0, 0) := by
  unfold nxN decodeN; rw [if_pos (by omega), h]; rfl
theorem n_asc (h : 1 ≤ b0) (h' : b0 < 128) : nxN n b0 b1 b2 b3 = (b0, 1) := by
  unfold nxN decodeN; rw [if_pos h', clean_good (by omega) (by omega)]
theorem n_odd (h : (128 ≤ b0 ∧ b0 < 192) ∨ 248 ≤ b0) (h' : b0 < 256) : nxN n b0 b1 b2 b3 = (0, 0) := by
  unfold nxN decodeN; rw [if_neg (by omega), if_neg (by omega), if_neg (by omega), if_neg (by omega)]; rfl
theorem n_two_no (h : 192 ≤ b0 ∧ b0 ≤ 223) (h' : n < 2 ∨ b1 < 128 ∨ 191 < b1) : nxN n b0 b1 b2 b3 = (0, 0) := by
  unfold nxN decodeN; rw [if_neg (by omega), if_neg (by omega), if_neg (by omega), if_neg (by omega)]; rfl
theorem n_three_no (h : 224 ≤ b0 ∧ b0 ≤ 239) (h' : n < 3 ∨ b1 < 128 ∨ 191 < b1 ∨ b2 < 128 ∨ 191 < b2) : nxN n b0 b1 b2 b3 = (0, 0) := by
  unfold nxN decodeN; rw [if_neg (by omega), if_neg (by omega), if_neg (by omega), if_neg (by omega)]; rfl
theorem n_four_no (h : 240 ≤ b0 ∧ b0 ≤ 247) (h' : n < 4 ∨ b1 < 128 ∨ 191 < b1 ∨ b2 < 128 ∨ 191 < b2 ∨ b3 < 128 ∨ 191 < b3) : nxN n b0 b1 b2 b3 = (0, 0) := by
  unfold nxN decodeN; rw [if_neg (by omega), if_neg (by omega), if_neg (by omega), if_neg (by omega)]; rfl

theorem enc_len {c : Int} (h : pt c = true) : (encodeRuneZ c).length = if c < 128 then 1 else if c < 2048 then 2 else if c < 65536 then 3 else 4 := by
  by_cases h1 : c < 128
  · rw [enc1 h h1, if_pos h1]; rfl
  · by_cases h2 : c < 2048
    · rw [enc2 h1 h2, if_neg h1, if_pos h2]; rfl
    · by_cases h3 : c < 65536
      · rw [enc3 h h2 h3, if_neg h1, if_neg h2, if_pos h3]; rfl
      · rw [enc4 h h3, if_neg h1, if_neg h2, if_neg h3]; rfl

/-- The last test of the specification: a code point, in its shortest form. -/
def fine (c : Int) (k : Nat) : Bool := pt c && decide ((encodeRuneZ c).length = k)

theorem fine_two {c : Int} (h0 : 0 ≤ c) (h1 : c < 2048) : fine c 2 = decide (128 ≤ c) := by
  unfold fine
  by_cases hp : pt c = true
  · rw [enc_len hp, hp]
    by_cases h : c < 128
    · simp [h]
    · simp [h, h1]; omega
  · have hp' : pt c = false := by simpa using hp
    have := pt_not.1 hp'
    rw [hp']; simp; omega
theorem fine_three {c : Int} (h0 : 0 ≤ c) (h1 : c < 65536) : fine c 3 = decide (2048 ≤ c ∧ (c < 55296 ∨ 57344 ≤ c)) := by
  unfold fine
  by_cases hp : pt c = true
  · rw [enc_len hp, hp]
    have := pt_iff.1 hp
    by_cases h : c < 128
    · simp [h]; omega
    · by_cases h2 : c < 2048
      · simp [h, h2]; omega
      · simp [h, h2, h1]; omega
  · have hp' : pt c = false := by simpa using hp
    have := pt_not.1 hp'
    rw [hp']; simp; omega
theorem fine_four {c : Int} (h0 : 0 ≤ c) (h1 : c < 2097152) : fine c 4 = decide (65536 ≤ c ∧ c ≤ 1114111) := by
  unfold fine
  by_cases hp : pt c = true
  · rw [enc_len hp, hp]
    have := pt_iff.1 hp
    by_cases h : c < 128
    · simp [h]; omega
    · by_cases h2 : c < 2048
      · simp [h, h2]; omega
      · by_cases h3 : c < 65536
        · simp [h, h2, h3]; omega
        · simp [h, h2, h3]; omega
  · have hp' : pt c = false := by simpa using hp
    have := pt_not.1 hp'
    rw [hp']; simp; omega

/-- What the specification hands back behind the last test. -/
def back (c : Int) (k : Nat) : Nat × Nat := if fine c k then (c.toNat, k) else (0, 0)

theorem n_two {c : Int} (h : 192 ≤ b0 ∧ b0 ≤ 223) (hn : 2 ≤ n) (h1 : 128 ≤ b1 ∧ b1 ≤ 191) (hc : c = 64 * ((b0 : Int) - 192) + b1 - 128) : nxN n b0 b1 b2 b3 = back c 2 := by
  unfold nxN decodeN back
  rw [if_neg (by omega), if_pos (by omega), fine_two (by omega) (by omega)]
  by_cases g : 128 ≤ c
  · rw [if_pos (by omega), decide_eq_true g, if_pos rfl, clean_good (by omega) (by omega)]
    congr 1; omega
  · rw [if_neg (by omega), decide_eq_false g]; rfl
theorem n_three {c : Int} (h : 224 ≤ b0 ∧ b0 ≤ 239) (hn : 3 ≤ n) (h1 : 128 ≤ b1 ∧ b1 ≤ 191) (h2 : 128 ≤ b2 ∧ b2 ≤ 191) (hc : c = 64 * (64 * ((b0 : Int) - 224) + b1 - 128) + b2 - 128) : nxN n b0 b1 b2 b3 = back c 3 := by
  unfold nxN decodeN back
  rw [if_neg (by omega), if_neg (by omega), if_pos (by omega), fine_three (by omega) (by omega)]
  by_cases g : 2048 ≤ c ∧ (c < 55296 ∨ 57344 ≤ c)
  · rw [if_pos (by omega), decide_eq_true g, if_pos rfl, clean_good (by omega) (by omega)]
    congr 1; omega
  · rw [if_neg (by omega), decide_eq_false g]; rfl
theorem n_four {c : Int} (h : 240 ≤ b0 ∧ b0 ≤ 247) (hn : 4 ≤ n) (h1 : 128 ≤ b1 ∧ b1 ≤ 191) (h2 : 128 ≤ b2 ∧ b2 ≤ 191) (h3 : 128 ≤ b3 ∧ b3 ≤ 191) (hc : c = 64 * (64 * (64 * ((b0 : Int) - 240) + b1 - 128) + b2 - 128) + b3 - 128) : nxN n b0 b1 b2 b3 = back c 4 := by
  unfold nxN decodeN back
  rw [if_neg (by omega), if_neg (by omega), if_neg (by omega), if_pos (by omega), fine_four (by omega) (by omega)]
  by_cases g : 65536 ≤ c ∧ c ≤ 1114111
  · rw [if_pos (by omega), decide_eq_true g, if_pos rfl, clean_good (by omega) (by omega)]
    congr 1; omega
  · rw [if_neg (by omega), decide_eq_false g]; rfl
end

theorem back_yes {c : Int} {k : Nat} (h : pt c = true) (hl : (encodeRuneZ c).length = k) : back c k = (c.toNat, k) := by
  unfold back fine; rw [h, decide_eq_true hl]; rfl
theorem back_no {c : Int} {k : Nat} (h : pt c = false ∨ ¬ (encodeRuneZ c).length = k) : back c k = (0, 0) := by
  unfold back fine
  rcases h with h | h
  · rw [h]; rfl
  · rw [decide_eq_false h]; simp

end Go.Proofs.YtjklnfcoaakkgaaDoor

/- spec.l01Next reads the code point at a place of a string. Conditions: the place is inside; the string has at most 1048576 bytes. -/
namespace Go.Proofs.YtjklnfcoaakkgaaDoor
open Go.RowKit
open Go.Lib (encodeRuneZ encodeRune byteCells runeCells encodeRuneZ_length)
set_option linter.unusedVariables false

def NextIs (s : ByteArray) (i : Nat) (w : World) (e : Ending) (w' : World) : Prop :=
  e = .returned (.tuple #[.int .i64 (nx s i).1, .int .i64 (nx s i).2]) ∧ Below w.heap.size w w'

theorem NextIs.no {s : ByteArray} {i : Nat} {w w' : World} (h : nx s i = (0, 0)) (hb : Below w.heap.size w w') : NextIs s i w (.returned (.tuple #[.int .i64 0, .int .i64 0])) w' := by
  unfold NextIs; rw [h]; exact ⟨rfl, hb⟩
theorem NextIs.yes {s : ByteArray} {i : Nat} {k : Nat} {c : Int} {w w' : World} (h : nx s i = (c.toNat, k)) (h0 : 0 ≤ c) (hb : Below w.heap.size w w') : NextIs s i w (.returned (.tuple #[.int .i64 c, .int .i64 k])) w' := by
  unfold NextIs; rw [h]; exact ⟨by simp only; rw [Int.toNat_of_nonneg h0], hb⟩

theorem get_at {s : ByteArray} {i : Nat} (h : i < s.size) : s.get! i = s[i]'h := by
  simp [ByteArray.get!, h]
  rfl

set_option maxHeartbeats 4000000 in
set_option maxRecDepth 100000 in
theorem next_odd (s : ByteArray) (i : Nat) (w : World) (hs : s.size ≤ 1048576) (hi : i < s.size) (x0 y1 y2 y3 : UInt8) (hs0 : s[i]'hi = x0) (h0 : (128 ≤ x0.toNat ∧ x0.toNat < 192) ∨ 248 ≤ x0.toNat)
    (HX : Hid (nx s i = nxN (s.size - i) x0.toNat y1.toNat y2.toNat y3.toNat)) : Calls Tryd.prog 56 #[.string s, .int .i64 i] w (NextIs s i w) := by
  have hx := x0.toNat_lt
  have d0 : decide ((x0.toNat : Int) < 128) = false := decide_eq_false (by omega)
  have d1 : decide ((192 : Int) ≤ x0.toNat ∧ (x0.toNat : Int) ≤ 223) = false := decide_eq_false (by omega)
  have d2 : decide ((224 : Int) ≤ x0.toNat ∧ (x0.toNat : Int) ≤ 239) = false := decide_eq_false (by omega)
  have d3 : decide ((240 : Int) ≤ x0.toNat ∧ (x0.toNat : Int) ≤ 247) = false := decide_eq_false (by omega)
  have E := Lib.hid (n_odd (n := s.size - i) (b1 := y1.toNat) (b2 := y2.toNat) (b3 := y3.toNat) h0 hx)
  clear h0
  go_enter Tryd.func56, Tryd.ntmps56
  go_wp2_with (go_at_call 40; refine (between_any _ _ _ _).mono ?_; rintro e w' ⟨rfl, rfl⟩)
  go_ret2
  exact NextIs.no (by rw [HX.out, E.out]) (Below.refl _ _)

set_option maxHeartbeats 4000000 in
set_option maxRecDepth 100000 in
theorem next_one (s : ByteArray) (i : Nat) (w : World) (hs : s.size ≤ 1048576) (hi : i < s.size) (x0 y1 y2 y3 : UInt8) (hs0 : s[i]'hi = x0) (h0 : x0.toNat < 128)
    (HX : Hid (nx s i = nxN (s.size - i) x0.toNat y1.toNat y2.toNat y3.toNat)) : Calls Tryd.prog 56 #[.string s, .int .i64 i] w (NextIs s i w) := by
  have d0 : decide ((x0.toNat : Int) < 128) = true := decide_eq_true (by omega)
  have d1 : decide ((s.size : Int) - (i : Int) < 1) = false := decide_eq_false (by omega)
  have hx := x0.toNat_lt
  have E : Hid (nxN (s.size - i) x0.toNat y1.toNat y2.toNat y3.toNat = back (x0.toNat : Int) 1) := by
    show _ = _
    by_cases hz : x0.toNat = 0
    · rw [n_zero hz, back_no (.inl (pt_not.2 (by omega)))]
    · have hp : pt (x0.toNat : Int) = true := pt_iff.2 (by omega)
      rw [n_asc (by omega) h0, back_yes hp (by rw [enc1 hp (by omega)]; rfl)]
      simp
  go_enter Tryd.func56, Tryd.ntmps56
  go_wp2_with (go_at_call 40; refine (between_any _ _ _ _).mono ?_; rintro e w' ⟨rfl, rfl⟩)
  go_loop [8, 9] (fun c j => c = .int .i64 x0.toNat ∧ j = .int .i64 1) (fun _ _ => 0)
  case atStart => exact ⟨rfl, rfl⟩
  case round =>
    obtain ⟨rfl, rfl⟩ := hrel
    by_cases hp : pt (x0.toNat : Int) = true
    · by_cases hl : (encodeRuneZ (x0.toNat : Int)).length = 1
      · have hl1 : (((encodeRuneZ (x0.toNat : Int)).length : Int) != 1) = false := by rw [hl]; rfl
        have HL := Lib.hid hl; clear hl
        go_wp2_with (first | (go_at_call 72; refine (point_any _ _).mono ?_; rintro e w' ⟨rfl, rfl⟩) | (go_at_call 73; refine (bytes_any _ _ hp).mono ?_; rintro e w' ⟨rfl, rfl⟩))
        go_ret2
        exact NextIs.yes (k := 1) (by rw [HX.out, E.out]; exact back_yes hp HL.out) (by omega) ((Below.refl _ _).alloc (Nat.le_refl _) _)
      · have hl1 : (((encodeRuneZ (x0.toNat : Int)).length : Int) != 1) = true := by simp; omega
        have HL := Lib.hid hl; clear hl
        go_wp2_with (first | (go_at_call 72; refine (point_any _ _).mono ?_; rintro e w' ⟨rfl, rfl⟩) | (go_at_call 73; refine (bytes_any _ _ hp).mono ?_; rintro e w' ⟨rfl, rfl⟩))
        go_ret2
        exact NextIs.no (by rw [HX.out, E.out]; exact back_no (.inr HL.out)) ((Below.refl _ _).alloc (Nat.le_refl _) _)
    · have hp' : pt (x0.toNat : Int) = false := by simpa using hp
      clear hp
      go_wp2_with (go_at_call 72; refine (point_any _ _).mono ?_; rintro e w' ⟨rfl, rfl⟩)
      go_ret2
      exact NextIs.no (by rw [HX.out, E.out]; exact back_no (.inl hp')) (Below.refl _ _)

set_option maxHeartbeats 4000000 in
set_option maxRecDepth 100000 in
theorem next_two_short (s : ByteArray) (i : Nat) (w : World) (hs : s.size ≤ 1048576) (hi : i < s.size) (x0 x1 x2 x3 : UInt8) (hs0 : s[i]'hi = x0) (h0 : 192 ≤ x0.toNat ∧ x0.toNat ≤ 223) (hk : s.size - i < 2)
    (HX : Hid (nx s i = nxN (s.size - i) x0.toNat x1.toNat x2.toNat x3.toNat)) : Calls Tryd.prog 56 #[.string s, .int .i64 i] w (NextIs s i w) := by
  have hx := x0.toNat_lt
  have d0 : decide ((x0.toNat : Int) < 128) = false := decide_eq_false (by omega)
  have e0 : decide ((192 : Int) ≤ x0.toNat ∧ (x0.toNat : Int) ≤ 223) = true := decide_eq_true (by omega)
  have f1 : decide ((s.size : Int) - (i : Int) < 2) = true := decide_eq_true (by omega)
  have E := Lib.hid (n_two_no (n := s.size - i) (b1 := x1.toNat) (b2 := x2.toNat) (b3 := x3.toNat) h0 (.inl hk))
  go_enter Tryd.func56, Tryd.ntmps56
  go_wp2_with (go_at_call 40; refine (between_any _ _ _ _).mono ?_; rintro e w' ⟨rfl, rfl⟩)
  go_ret2
  exact NextIs.no (by rw [HX.out, E.out]) (Below.refl _ _)

set_option maxHeartbeats 4000000 in
set_option maxRecDepth 100000 in
theorem next_two (s : ByteArray) (i : Nat) (w : World) (hs : s.size ≤ 1048576) (hk : i + 2 ≤ s.size) (x0 x1 x2 x3 : UInt8) (hs0 : s[i]'(by omega) = x0) (hs1 : s[i + 1]'(by omega) = x1) (h0 : 192 ≤ x0.toNat ∧ x0.toNat ≤ 223)
    (HX : Hid (nx s i = nxN (s.size - i) x0.toNat x1.toNat x2.toNat x3.toNat)) : Calls Tryd.prog 56 #[.string s, .int .i64 i] w (NextIs s i w) := by
  have hx := x0.toNat_lt
  have hx1 := x1.toNat_lt
  have d0 : decide ((x0.toNat : Int) < 128) = false := decide_eq_false (by omega)
  have e0 : decide ((192 : Int) ≤ x0.toNat ∧ (x0.toNat : Int) ≤ 223) = true := decide_eq_true (by omega)
  have f1 : decide ((s.size : Int) - (i : Int) < 2) = false := decide_eq_false (by omega)
  obtain ⟨c1, hc1⟩ : ∃ c1, (x0.toNat : Int) - 192 = c1 := ⟨_, rfl⟩
  obtain ⟨c2, hc2⟩ : ∃ c2, 64 * c1 + (x1.toNat : Int) - 128 = c2 := ⟨_, rfl⟩
  have b1 : 0 ≤ c1 ∧ c1 ≤ 31 := by omega
  have b2 : 128 ≤ x1.toNat ∧ x1.toNat ≤ 191 → 0 ≤ c2 ∧ c2 ≤ 2047 := by intros; omega
  have C1 := Lib.hid hc1; clear hc1
  have C2 := Lib.hid hc2; clear hc2
  have D2 := Lib.hid b2; clear b2
  go_enter Tryd.func56, Tryd.ntmps56
  go_wp2_with (go_at_call 40; refine (between_any _ _ _ _).mono ?_; rintro e w' ⟨rfl, rfl⟩)
  rw [C1.out]
  go_loop [8, 9] (fun c j => (j = .int .i64 1 ∧ c = .int .i64 c1) ∨ (j = .int .i64 2 ∧ c = .int .i64 c2 ∧ 128 ≤ x1.toNat ∧ x1.toNat ≤ 191)) (fun _ j => 5 - (intOf j).toNat)
  case atStart => exact .inl ⟨rfl, rfl⟩
  case round =>
    rcases hrel with ⟨rfl, rfl⟩ | ⟨rfl, rfl, p1, q1⟩
    · have bj := b1
      by_cases hc : 128 ≤ x1.toNat ∧ x1.toNat ≤ 191
      · have g : decide ((128 : Int) ≤ x1.toNat ∧ (x1.toNat : Int) ≤ 191) = true := decide_eq_true (by omega)
        go_wp2_with (go_at_call 40; refine (between_any _ _ _ _).mono ?_; rintro e w' ⟨rfl, rfl⟩)
        go_round
        case rel => exact .inr (⟨rfl, by rw [← C2.out], hc.1, hc.2⟩)
        case measure => simp [intOf]
      · have g : decide ((128 : Int) ≤ x1.toNat ∧ (x1.toNat : Int) ≤ 191) = false := decide_eq_false (by omega)
        have E := Lib.hid (n_two_no (n := s.size - i) (b1 := x1.toNat) (b2 := x2.toNat) (b3 := x3.toNat) h0 (by omega))
        clear hc
        go_wp2_with (go_at_call 40; refine (between_any _ _ _ _).mono ?_; rintro e w' ⟨rfl, rfl⟩)
        go_ret2
        exact NextIs.no (by rw [HX.out, E.out]) (Below.refl _ _)
    · have bj := D2.out ⟨p1, q1⟩
      have E := Lib.hid (n_two (n := s.size - i) (b0 := x0.toNat) (b1 := x1.toNat) (b2 := x2.toNat) (b3 := x3.toNat) (c := c2) h0 (by omega) ⟨p1, q1⟩ (by rw [← C2.out, ← C1.out]))
      by_cases hp : pt c2 = true
      · by_cases hl : (encodeRuneZ c2).length = 2
        · have hl1 : (((encodeRuneZ c2).length : Int) != 2) = false := by rw [hl]; rfl
          have HL := Lib.hid hl; clear hl
          go_wp2_with (first | (go_at_call 72; refine (point_any _ _).mono ?_; rintro e w' ⟨rfl, rfl⟩) | (go_at_call 73; refine (bytes_any _ _ hp).mono ?_; rintro e w' ⟨rfl, rfl⟩))
          go_ret2
          exact NextIs.yes (k := 2) (by rw [HX.out, E.out]; exact back_yes hp HL.out) (by omega) ((Below.refl _ _).alloc (Nat.le_refl _) _)
        · have hl1 : (((encodeRuneZ c2).length : Int) != 2) = true := by simp; omega
          have HL := Lib.hid hl; clear hl
          go_wp2_with (first | (go_at_call 72; refine (point_any _ _).mono ?_; rintro e w' ⟨rfl, rfl⟩) | (go_at_call 73; refine (bytes_any _ _ hp).mono ?_; rintro e w' ⟨rfl, rfl⟩))
          go_ret2
          exact NextIs.no (by rw [HX.out, E.out]; exact back_no (.inr HL.out)) ((Below.refl _ _).alloc (Nat.le_refl _) _)
      · have hp' : pt c2 = false := by simpa using hp
        clear hp
        go_wp2_with (go_at_call 72; refine (point_any _ _).mono ?_; rintro e w' ⟨rfl, rfl⟩)
        go_ret2
        exact NextIs.no (by rw [HX.out, E.out]; exact back_no (.inl hp')) (Below.refl _ _)

set_option maxHeartbeats 4000000 in
set_option maxRecDepth 100000 in
theorem next_three_short (s : ByteArray) (i : Nat) (w : World) (hs : s.size ≤ 1048576) (hi : i < s.size) (x0 x1 x2 x3 : UInt8) (hs0 : s[i]'hi = x0) (h0 : 224 ≤ x0.toNat ∧ x0.toNat ≤ 239) (hk : s.size - i < 3)
    (HX : Hid (nx s i = nxN (s.size - i) x0.toNat x1.toNat x2.toNat x3.toNat)) : Calls Tryd.prog 56 #[.string s, .int .i64 i] w (NextIs s i w) := by
  have hx := x0.toNat_lt
  have d0 : decide ((x0.toNat : Int) < 128) = false := decide_eq_false (by omega)
  have e0 : decide ((192 : Int) ≤ x0.toNat ∧ (x0.toNat : Int) ≤ 223) = false := decide_eq_false (by omega)
  have e1 : decide ((224 : Int) ≤ x0.toNat ∧ (x0.toNat : Int) ≤ 239) = true := decide_eq_true (by omega)
  have f1 : decide ((s.size : Int) - (i : Int) < 3) = true := decide_eq_true (by omega)
  have E := Lib.hid (n_three_no (n := s.size - i) (b1 := x1.toNat) (b2 := x2.toNat) (b3 := x3.toNat) h0 (.inl hk))
  go_enter Tryd.func56, Tryd.ntmps56
  go_wp2_with (go_at_call 40; refine (between_any _ _ _ _).mono ?_; rintro e w' ⟨rfl, rfl⟩)
  go_ret2
  exact NextIs.no (by rw [HX.out, E.out]) (Below.refl _ _)

set_option maxHeartbeats 4000000 in
set_option maxRecDepth 100000 in
theorem next_three (s : ByteArray) (i : Nat) (w : World) (hs : s.size ≤ 1048576) (hk : i + 3 ≤ s.size) (x0 x1 x2 x3 : UInt8) (hs0 : s[i]'(by omega) = x0) (hs1 : s[i + 1]'(by omega) = x1) (hs2 : s[i + 2]'(by omega) = x2) (h0 : 224 ≤ x0.toNat ∧ x0.toNat ≤ 239)
    (HX : Hid (nx s i = nxN (s.size - i) x0.toNat x1.toNat x2.toNat x3.toNat)) : Calls Tryd.prog 56 #[.string s, .int .i64 i] w (NextIs s i w) := by
  have hx := x0.toNat_lt
  have hx1 := x1.toNat_lt
  have hx2 := x2.toNat_lt
  have d0 : decide ((x0.toNat : Int) < 128) = false := decide_eq_false (by omega)
  have e0 : decide ((192 : Int) ≤ x0.toNat ∧ (x0.toNat : Int) ≤ 223) = false := decide_eq_false (by omega)
  have e1 : decide ((224 : Int) ≤ x0.toNat ∧ (x0.toNat : Int) ≤ 239) = true := decide_eq_true (by omega)
  have f1 : decide ((s.size : Int) - (i : Int) < 3) = false := decide_eq_false (by omega)
  obtain ⟨c1, hc1⟩ : ∃ c1, (x0.toNat : Int) - 224 = c1 := ⟨_, rfl⟩
  obtain ⟨c2, hc2⟩ : ∃ c2, 64 * c1 + (x1.toNat : Int) - 128 = c2 := ⟨_, rfl⟩
  obtain ⟨c3, hc3⟩ : ∃ c3, 64 * c2 + (x2.toNat : Int) - 128 = c3 := ⟨_, rfl⟩
  have b1 : 0 ≤ c1 ∧ c1 ≤ 15 := by omega
  have b2 : 128 ≤ x1.toNat ∧ x1.toNat ≤ 191 → 0 ≤ c2 ∧ c2 ≤ 1023 := by intros; omega
  have b3 : 128 ≤ x1.toNat ∧ x1.toNat ≤ 191 → 128 ≤ x2.toNat ∧ x2.toNat ≤ 191 → 0 ≤ c3 ∧ c3 ≤ 65535 := by intros; omega
  have C1 := Lib.hid hc1; clear hc1
  have C2 := Lib.hid hc2; clear hc2
  have C3 := Lib.hid hc3; clear hc3
  have D2 := Lib.hid b2; clear b2
  have D3 := Lib.hid b3; clear b3
  go_enter Tryd.func56, Tryd.ntmps56
  go_wp2_with (go_at_call 40; refine (between_any _ _ _ _).mono ?_; rintro e w' ⟨rfl, rfl⟩)
  rw [C1.out]
  go_loop [8, 9] (fun c j => (j = .int .i64 1 ∧ c = .int .i64 c1) ∨ (j = .int .i64 2 ∧ c = .int .i64 c2 ∧ 128 ≤ x1.toNat ∧ x1.toNat ≤ 191) ∨ (j = .int .i64 3 ∧ c = .int .i64 c3 ∧ 128 ≤ x1.toNat ∧ x1.toNat ≤ 191 ∧ 128 ≤ x2.toNat ∧ x2.toNat ≤ 191)) (fun _ j => 5 - (intOf j).toNat)
  case atStart => exact .inl ⟨rfl, rfl⟩
  case round =>
    rcases hrel with ⟨rfl, rfl⟩ | ⟨rfl, rfl, p1, q1⟩ | ⟨rfl, rfl, p1, q1, p2, q2⟩
    · have bj := b1
      by_cases hc : 128 ≤ x1.toNat ∧ x1.toNat ≤ 191
      · have g : decide ((128 : Int) ≤ x1.toNat ∧ (x1.toNat : Int) ≤ 191) = true := decide_eq_true (by omega)
        go_wp2_with (go_at_call 40; refine (between_any _ _ _ _).mono ?_; rintro e w' ⟨rfl, rfl⟩)
        go_round
        case rel => exact .inr (.inl ⟨rfl, by rw [← C2.out], hc.1, hc.2⟩)
        case measure => simp [intOf]
      · have g : decide ((128 : Int) ≤ x1.toNat ∧ (x1.toNat : Int) ≤ 191) = false := decide_eq_false (by omega)
        have E := Lib.hid (n_three_no (n := s.size - i) (b1 := x1.toNat) (b2 := x2.toNat) (b3 := x3.toNat) h0 (by omega))
        clear hc
        go_wp2_with (go_at_call 40; refine (between_any _ _ _ _).mono ?_; rintro e w' ⟨rfl, rfl⟩)
        go_ret2
        exact NextIs.no (by rw [HX.out, E.out]) (Below.refl _ _)
    · have bj := D2.out ⟨p1, q1⟩
      by_cases hc : 128 ≤ x2.toNat ∧ x2.toNat ≤ 191
      · have g : decide ((128 : Int) ≤ x2.toNat ∧ (x2.toNat : Int) ≤ 191) = true := decide_eq_true (by omega)
        go_wp2_with (go_at_call 40; refine (between_any _ _ _ _).mono ?_; rintro e w' ⟨rfl, rfl⟩)
        go_round
        case rel => exact .inr (.inr (⟨rfl, by rw [← C3.out], p1, q1, hc.1, hc.2⟩))
        case measure => simp [intOf]
      · have g : decide ((128 : Int) ≤ x2.toNat ∧ (x2.toNat : Int) ≤ 191) = false := decide_eq_false (by omega)
        have E := Lib.hid (n_three_no (n := s.size - i) (b1 := x1.toNat) (b2 := x2.toNat) (b3 := x3.toNat) h0 (by omega))
        clear hc
        go_wp2_with (go_at_call 40; refine (between_any _ _ _ _).mono ?_; rintro e w' ⟨rfl, rfl⟩)
        go_ret2
        exact NextIs.no (by rw [HX.out, E.out]) (Below.refl _ _)
    · have bj := D3.out ⟨p1, q1⟩ ⟨p2, q2⟩
      have E := Lib.hid (n_three (n := s.size - i) (b0 := x0.toNat) (b1 := x1.toNat) (b2 := x2.toNat) (b3 := x3.toNat) (c := c3) h0 (by omega) ⟨p1, q1⟩ ⟨p2, q2⟩ (by rw [← C3.out, ← C2.out, ← C1.out]))
      by_cases hp : pt c3 = true
      · by_cases hl : (encodeRuneZ c3).length = 3
        · have hl1 : (((encodeRuneZ c3).length : Int) != 3) = false := by rw [hl]; rfl
          have HL := Lib.hid hl; clear hl
          go_wp2_with (first | (go_at_call 72; refine (point_any _ _).mono ?_; rintro e w' ⟨rfl, rfl⟩) | (go_at_call 73; refine (bytes_any _ _ hp).mono ?_; rintro e w' ⟨rfl, rfl⟩))
          go_ret2
          exact NextIs.yes (k := 3) (by rw [HX.out, E.out]; exact back_yes hp HL.out) (by omega) ((Below.refl _ _).alloc (Nat.le_refl _) _)
        · have hl1 : (((encodeRuneZ c3).length : Int) != 3) = true := by simp; omega
          have HL := Lib.hid hl; clear hl
          go_wp2_with (first | (go_at_call 72; refine (point_any _ _).mono ?_; rintro e w' ⟨rfl, rfl⟩) | (go_at_call 73; refine (bytes_any _ _ hp).mono ?_; rintro e w' ⟨rfl, rfl⟩))
          go_ret2
          exact NextIs.no (by rw [HX.out, E.out]; exact back_no (.inr HL.out)) ((Below.refl _ _).alloc (Nat.le_refl _) _)
      · have hp' : pt c3 = false := by simpa using hp
        clear hp
        go_wp2_with (go_at_call 72; refine (point_any _ _).mono ?_; rintro e w' ⟨rfl, rfl⟩)
        go_ret2
        exact NextIs.no (by rw [HX.out, E.out]; exact back_no (.inl hp')) (Below.refl _ _)

set_option maxHeartbeats 4000000 in
set_option maxRecDepth 100000 in
theorem next_four_short (s : ByteArray) (i : Nat) (w : World) (hs : s.size ≤ 1048576) (hi : i < s.size) (x0 x1 x2 x3 : UInt8) (hs0 : s[i]'hi = x0) (h0 : 240 ≤ x0.toNat ∧ x0.toNat ≤ 247) (hk : s.size - i < 4)
    (HX : Hid (nx s i = nxN (s.size - i) x0.toNat x1.toNat x2.toNat x3.toNat)) : Calls Tryd.prog 56 #[.string s, .int .i64 i] w (NextIs s i w) := by
  have hx := x0.toNat_lt
  have d0 : decide ((x0.toNat : Int) < 128) = false := decide_eq_false (by omega)
  have e0 : decide ((192 : Int) ≤ x0.toNat ∧ (x0.toNat : Int) ≤ 223) = false := decide_eq_false (by omega)
  have e1 : decide ((224 : Int) ≤ x0.toNat ∧ (x0.toNat : Int) ≤ 239) = false := decide_eq_false (by omega)
  have e2 : decide ((240 : Int) ≤ x0.toNat ∧ (x0.toNat : Int) ≤ 247) = true := decide_eq_true (by omega)
  have f1 : decide ((s.size : Int) - (i : Int) < 4) = true := decide_eq_true (by omega)
  have E := Lib.hid (n_four_no (n := s.size - i) (b1 := x1.toNat) (b2 := x2.toNat) (b3 := x3.toNat) h0 (.inl hk))
  go_enter Tryd.func56, Tryd.ntmps56
  go_wp2_with (go_at_call 40; refine (between_any _ _ _ _).mono ?_; rintro e w' ⟨rfl, rfl⟩)
  go_ret2
  exact NextIs.no (by rw [HX.out, E.out]) (Below.refl _ _)

set_option maxHeartbeats 4000000 in
set_option maxRecDepth 100000 in
theorem next_four (s : ByteArray) (i : Nat) (w : World) (hs : s.size ≤ 1048576) (hk : i + 4 ≤ s.size) (x0 x1 x2 x3 : UInt8) (hs0 : s[i]'(by omega) = x0) (hs1 : s[i + 1]'(by omega) = x1) (hs2 : s[i + 2]'(by omega) = x2) (hs3 : s[i + 3]'(by omega) = x3) (h0 : 240 ≤ x0.toNat ∧ x0.toNat ≤ 247)
    (HX : Hid (nx s i = nxN (s.size - i) x0.toNat x1.toNat x2.toNat x3.toNat)) : Calls Tryd.prog 56 #[.string s, .int .i64 i] w (NextIs s i w) := by
  have hx := x0.toNat_lt
  have hx1 := x1.toNat_lt
  have hx2 := x2.toNat_lt
  have hx3 := x3.toNat_lt
  have d0 : decide ((x0.toNat : Int) < 128) = false := decide_eq_false (by omega)
  have e0 : decide ((192 : Int) ≤ x0.toNat ∧ (x0.toNat : Int) ≤ 223) = false := decide_eq_false (by omega)
  have e1 : decide ((224 : Int) ≤ x0.toNat ∧ (x0.toNat : Int) ≤ 239) = false := decide_eq_false (by omega)
  have e2 : decide ((240 : Int) ≤ x0.toNat ∧ (x0.toNat : Int) ≤ 247) = true := decide_eq_true (by omega)
  have f1 : decide ((s.size : Int) - (i : Int) < 4) = false := decide_eq_false (by omega)
  obtain ⟨c1, hc1⟩ : ∃ c1, (x0.toNat : Int) - 240 = c1 := ⟨_, rfl⟩
  obtain ⟨c2, hc2⟩ : ∃ c2, 64 * c1 + (x1.toNat : Int) - 128 = c2 := ⟨_, rfl⟩
  obtain ⟨c3, hc3⟩ : ∃ c3, 64 * c2 + (x2.toNat : Int) - 128 = c3 := ⟨_, rfl⟩
  obtain ⟨c4, hc4⟩ : ∃ c4, 64 * c3 + (x3.toNat : Int) - 128 = c4 := ⟨_, rfl⟩
  have b1 : 0 ≤ c1 ∧ c1 ≤ 7 := by omega
  have b2 : 128 ≤ x1.toNat ∧ x1.toNat ≤ 191 → 0 ≤ c2 ∧ c2 ≤ 511 := by intros; omega
  have b3 : 128 ≤ x1.toNat ∧ x1.toNat ≤ 191 → 128 ≤ x2.toNat ∧ x2.toNat ≤ 191 → 0 ≤ c3 ∧ c3 ≤ 32767 := by intros; omega
  have b4 : 128 ≤ x1.toNat ∧ x1.toNat ≤ 191 → 128 ≤ x2.toNat ∧ x2.toNat ≤ 191 → 128 ≤ x3.toNat ∧ x3.toNat ≤ 191 → 0 ≤ c4 ∧ c4 ≤ 2097151 := by intros; omega
  have C1 := Lib.hid hc1; clear hc1
  have C2 := Lib.hid hc2; clear hc2
  have C3 := Lib.hid hc3; clear hc3
  have C4 := Lib.hid hc4; clear hc4
  have D2 := Lib.hid b2; clear b2
  have D3 := Lib.hid b3; clear b3
  have D4 := Lib.hid b4; clear b4
  go_enter Tryd.func56, Tryd.ntmps56
  go_wp2_with (go_at_call 40; refine (between_any _ _ _ _).mono ?_; rintro e w' ⟨rfl, rfl⟩)
  rw [C1.out]
  go_loop [8, 9] (fun c j => (j = .int .i64 1 ∧ c = .int .i64 c1) ∨ (j = .int .i64 2 ∧ c = .int .i64 c2 ∧ 128 ≤ x1.toNat ∧ x1.toNat ≤ 191) ∨ (j = .int .i64 3 ∧ c = .int .i64 c3 ∧ 128 ≤ x1.toNat ∧ x1.toNat ≤ 191 ∧ 128 ≤ x2.toNat ∧ x2.toNat ≤ 191) ∨ (j = .int .i64 4 ∧ c = .int .i64 c4 ∧ 128 ≤ x1.toNat ∧ x1.toNat ≤ 191 ∧ 128 ≤ x2.toNat ∧ x2.toNat ≤ 191 ∧ 128 ≤ x3.toNat ∧ x3.toNat ≤ 191)) (fun _ j => 5 - (intOf j).toNat)
  case atStart => exact .inl ⟨rfl, rfl⟩
  case round =>
    rcases hrel with ⟨rfl, rfl⟩ | ⟨rfl, rfl, p1, q1⟩ | ⟨rfl, rfl, p1, q1, p2, q2⟩ | ⟨rfl, rfl, p1, q1, p2, q2, p3, q3⟩
    · have bj := b1
      by_cases hc : 128 ≤ x1.toNat ∧ x1.toNat ≤ 191
      · have g : decide ((128 : Int) ≤ x1.toNat ∧ (x1.toNat : Int) ≤ 191) = true := decide_eq_true (by omega)
        go_wp2_with (go_at_call 40; refine (between_any _ _ _ _).mono ?_; rintro e w' ⟨rfl, rfl⟩)
        go_round
        case rel => exact .inr (.inl ⟨rfl, by rw [← C2.out], hc.1, hc.2⟩)
        case measure => simp [intOf]
      · have g : decide ((128 : Int) ≤ x1.toNat ∧ (x1.toNat : Int) ≤ 191) = false := decide_eq_false (by omega)
        have E := Lib.hid (n_four_no (n := s.size - i) (b1 := x1.toNat) (b2 := x2.toNat) (b3 := x3.toNat) h0 (by omega))
        clear hc
        go_wp2_with (go_at_call 40; refine (between_any _ _ _ _).mono ?_; rintro e w' ⟨rfl, rfl⟩)
        go_ret2
        exact NextIs.no (by rw [HX.out, E.out]) (Below.refl _ _)
    · have bj := D2.out ⟨p1, q1⟩
      by_cases hc : 128 ≤ x2.toNat ∧ x2.toNat ≤ 191
      · have g : decide ((128 : Int) ≤ x2.toNat ∧ (x2.toNat : Int) ≤ 191) = true := decide_eq_true (by omega)
        go_wp2_with (go_at_call 40; refine (between_any _ _ _ _).mono ?_; rintro e w' ⟨rfl, rfl⟩)
        go_round
        case rel => exact .inr (.inr (.inl ⟨rfl, by rw [← C3.out], p1, q1, hc.1, hc.2⟩))
        case measure => simp [intOf]
      · have g : decide ((128 : Int) ≤ x2.toNat ∧ (x2.toNat : Int) ≤ 191) = false := decide_eq_false (by omega)
        have E := Lib.hid (n_four_no (n := s.size - i) (b1 := x1.toNat) (b2 := x2.toNat) (b3 := x3.toNat) h0 (by omega))
        clear hc
        go_wp2_with (go_at_call 40; refine (between_any _ _ _ _).mono ?_; rintro e w' ⟨rfl, rfl⟩)
        go_ret2
        exact NextIs.no (by rw [HX.out, E.out]) (Below.refl _ _)
    · have bj := D3.out ⟨p1, q1⟩ ⟨p2, q2⟩
      by_cases hc : 128 ≤ x3.toNat ∧ x3.toNat ≤ 191
      · have g : decide ((128 : Int) ≤ x3.toNat ∧ (x3.toNat : Int) ≤ 191) = true := decide_eq_true (by omega)
        go_wp2_with (go_at_call 40; refine (between_any _ _ _ _).mono ?_; rintro e w' ⟨rfl, rfl⟩)
        go_round
        case rel => exact .inr (.inr (.inr (⟨rfl, by rw [← C4.out], p1, q1, p2, q2, hc.1, hc.2⟩)))
        case measure => simp [intOf]
      · have g : decide ((128 : Int) ≤ x3.toNat ∧ (x3.toNat : Int) ≤ 191) = false := decide_eq_false (by omega)
        have E := Lib.hid (n_four_no (n := s.size - i) (b1 := x1.toNat) (b2 := x2.toNat) (b3 := x3.toNat) h0 (by omega))
        clear hc
        go_wp2_with (go_at_call 40; refine (between_any _ _ _ _).mono ?_; rintro e w' ⟨rfl, rfl⟩)
        go_ret2
        exact NextIs.no (by rw [HX.out, E.out]) (Below.refl _ _)
    · have bj := D4.out ⟨p1, q1⟩ ⟨p2, q2⟩ ⟨p3, q3⟩
      have E := Lib.hid (n_four (n := s.size - i) (b0 := x0.toNat) (b1 := x1.toNat) (b2 := x2.toNat) (b3 := x3.toNat) (c := c4) h0 (by omega) ⟨p1, q1⟩ ⟨p2, q2⟩ ⟨p3, q3⟩ (by rw [← C4.out, ← C3.out, ← C2.out, ← C1.out]))
      by_cases hp : pt c4 = true
      · by_cases hl : (encodeRuneZ c4).length = 4
        · have hl1 : (((encodeRuneZ c4).length : Int) != 4) = false := by rw [hl]; rfl
          have HL := Lib.hid hl; clear hl
          go_wp2_with (first | (go_at_call 72; refine (point_any _ _).mono ?_; rintro e w' ⟨rfl, rfl⟩) | (go_at_call 73; refine (bytes_any _ _ hp).mono ?_; rintro e w' ⟨rfl, rfl⟩))
          go_ret2
          exact NextIs.yes (k := 4) (by rw [HX.out, E.out]; exact back_yes hp HL.out) (by omega) ((Below.refl _ _).alloc (Nat.le_refl _) _)
        · have hl1 : (((encodeRuneZ c4).length : Int) != 4) = true := by simp; omega
          have HL := Lib.hid hl; clear hl
          go_wp2_with (first | (go_at_call 72; refine (point_any _ _).mono ?_; rintro e w' ⟨rfl, rfl⟩) | (go_at_call 73; refine (bytes_any _ _ hp).mono ?_; rintro e w' ⟨rfl, rfl⟩))
          go_ret2
          exact NextIs.no (by rw [HX.out, E.out]; exact back_no (.inr HL.out)) ((Below.refl _ _).alloc (Nat.le_refl _) _)
      · have hp' : pt c4 = false := by simpa using hp
        clear hp
        go_wp2_with (go_at_call 72; refine (point_any _ _).mono ?_; rintro e w' ⟨rfl, rfl⟩)
        go_ret2
        exact NextIs.no (by rw [HX.out, E.out]; exact back_no (.inl hp')) (Below.refl _ _)

/-- At every place inside the string. -/
theorem next_any (s : ByteArray) (i : Nat) (w : World) (hs : s.size ≤ 1048576) (hi : i < s.size) : Calls Tryd.prog 56 #[.string s, .int .i64 i] w (NextIs s i w) := by
  have HX : Hid (nx s i = nxN (s.size - i) (s[i]'hi).toNat (s.get! (i + 1)).toNat (s.get! (i + 2)).toNat (s.get! (i + 3)).toNat) := by
    have := nx_eq s i; rw [get_at hi] at this; exact this
  by_cases h1 : (s[i]'hi).toNat < 128
  · exact next_one s i w hs hi _ _ _ _ rfl h1 HX
  by_cases h2 : (s[i]'hi).toNat < 192
  · exact next_odd s i w hs hi _ _ _ _ rfl (.inl ⟨by omega, h2⟩) HX
  by_cases h3 : (s[i]'hi).toNat < 224
  · by_cases hk : i + 2 ≤ s.size
    · exact next_two s i w hs hk _ _ _ _ rfl (get_at (by omega)).symm ⟨by omega, by omega⟩ HX
    · exact next_two_short s i w hs hi _ _ _ _ rfl ⟨by omega, by omega⟩ (by omega) HX
  by_cases h4 : (s[i]'hi).toNat < 240
  · by_cases hk : i + 3 ≤ s.size
    · exact next_three s i w hs hk _ _ _ _ rfl (get_at (by omega)).symm (get_at (by omega)).symm ⟨by omega, by omega⟩ HX
    · exact next_three_short s i w hs hi _ _ _ _ rfl ⟨by omega, by omega⟩ (by omega) HX
  by_cases h5 : (s[i]'hi).toNat < 248
  · by_cases hk : i + 4 ≤ s.size
    · exact next_four s i w hs hk _ _ _ _ rfl (get_at (by omega)).symm (get_at (by omega)).symm (get_at (by omega)).symm ⟨by omega, by omega⟩ HX
    · exact next_four_short s i w hs hi _ _ _ _ rfl ⟨by omega, by omega⟩ (by omega) HX
  · exact next_odd s i w hs hi _ _ _ _ rfl (.inr (by omega)) HX

end Go.Proofs.YtjklnfcoaakkgaaDoor

/- Plain mathematics: the code points of a string, none where it is no text. No program in it. -/
namespace Go.Proofs.YtjklnfcoaakkgaaDoor
open Go.Lib

theorem decodeN_fits (n b0 b1 b2 b3 : Nat) (hn : 1 ≤ n) : (decodeN n b0 b1 b2 b3).2 ≤ n ∧ 1 ≤ (decodeN n b0 b1 b2 b3).2 := by
  unfold decodeN
  repeat' split
  all_goals simp only
  all_goals omega
theorem nx_fits {s : ByteArray} {i : Nat} (hi : i < s.size) : i + (nx s i).2 ≤ s.size := by
  rw [nx_eq]
  have := decodeN_fits (s.size - i) (s.get! i).toNat (s.get! (i + 1)).toNat (s.get! (i + 2)).toNat (s.get! (i + 3)).toNat (by omega)
  unfold nxN clean
  split
  · simp only; omega
  · omega
theorem nx_point {s : ByteArray} {i : Nat} (h : (nx s i).2 ≠ 0) : nx s i = Utf8.decode s i ∧ ¬ ((Utf8.decode s i).1 = 0 ∨ ((Utf8.decode s i).1 = 65533 ∧ (Utf8.decode s i).2 = 1)) := by
  unfold nx clean at h ⊢
  split at h
  · simp at h
  · rename_i g
    rw [if_neg g]
    exact ⟨rfl, g⟩
theorem nx_none {s : ByteArray} {i : Nat} (hi : i < s.size) (h : (nx s i).2 = 0) : (Utf8.decode s i).1 = 0 ∨ ((Utf8.decode s i).1 = 65533 ∧ (Utf8.decode s i).2 = 1) := by
  unfold nx clean at h
  split at h
  · assumption
  · have := decodeN_fits (s.size - i) (s.get! i).toNat (s.get! (i + 1)).toNat (s.get! (i + 2)).toNat (s.get! (i + 3)).toNat (by omega)
    rw [← decode_at] at this
    omega

/-- The code points from a place on, by so many steps at most; none where something there is no code point. -/
def runesFrom (s : ByteArray) : Nat → Nat → Option (List Int)
  | 0, _ => some []
  | f + 1, i => if i < s.size then (if (nx s i).2 = 0 then none else (runesFrom s f (i + (nx s i).2)).map (((nx s i).1 : Int) :: ·)) else some []
def runesOf (s : ByteArray) : Option (List Int) := if 1000 < s.size then none else runesFrom s s.size 0

theorem runesFrom_end {s : ByteArray} {f i : Nat} (h : ¬ i < s.size) : runesFrom s f i = some [] := by
  cases f <;> simp [runesFrom, h]
theorem runesFrom_no {s : ByteArray} {f i : Nat} (hf : s.size ≤ i + f) (hi : i < s.size) (h : (nx s i).2 = 0) : runesFrom s f i = none := by
  cases f with
  | zero => omega
  | succ f => rw [runesFrom, if_pos hi, if_pos h]
theorem runesFrom_on {s : ByteArray} {f i : Nat} (hf : s.size ≤ i + f) (hi : i < s.size) (h : (nx s i).2 ≠ 0) :
    runesFrom s f i = (runesFrom s (f - 1) (i + (nx s i).2)).map (((nx s i).1 : Int) :: ·) := by
  cases f with
  | zero => omega
  | succ f => rw [runesFrom, if_pos hi, if_neg h]; rfl

theorem map_snoc (o : Option (List Int)) (acc : List Int) (c : Int) : (o.map (c :: ·)).map (acc ++ ·) = o.map ((acc ++ [c]) ++ ·) := by
  cases o <;> simp

end Go.Proofs.YtjklnfcoaakkgaaDoor
