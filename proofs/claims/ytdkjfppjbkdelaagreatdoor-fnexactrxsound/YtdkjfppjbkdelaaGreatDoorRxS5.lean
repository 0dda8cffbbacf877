/- The specification's reader of patterns: l05Class; how it reads a class's name. No condition. -/
import Derived.Test.YtdkjfppjbkdelaaGreatDoorRxIA
namespace Go.Proofs.YtdkjfppjbkdelaaGreatDoor
set_option linter.unusedVariables false
open Go.RowKit

set_option maxHeartbeats 1000000 in
set_option maxRecDepth 100000 in
theorem sends_alpha (w : World) : Calls Tryz.prog 214 #[.string ⟨#[97, 108, 112, 104, 97]⟩] w (NewInts [65, 90, 97, 122] w) := by
  go_enter Tryz.func214, Tryz.ntmps214
  go_wp2
  go_ret
  exact ⟨_, rfl, new_ints w [65, 90, 97, 122] (by decide), (Keep.refl [] w).alloc _⟩
set_option maxHeartbeats 1000000 in
set_option maxRecDepth 100000 in
theorem sends_digit (w : World) : Calls Tryz.prog 214 #[.string ⟨#[100, 105, 103, 105, 116]⟩] w (NewInts [48, 57] w) := by
  go_enter Tryz.func214, Tryz.ntmps214
  go_wp2
  go_ret
  exact ⟨_, rfl, new_ints w [48, 57] (by decide), (Keep.refl [] w).alloc _⟩
set_option maxHeartbeats 1000000 in
set_option maxRecDepth 100000 in
theorem sends_alnum (w : World) : Calls Tryz.prog 214 #[.string ⟨#[97, 108, 110, 117, 109]⟩] w (NewInts [48, 57, 65, 90, 97, 122] w) := by
  go_enter Tryz.func214, Tryz.ntmps214
  go_wp2
  go_ret
  exact ⟨_, rfl, new_ints w [48, 57, 65, 90, 97, 122] (by decide), (Keep.refl [] w).alloc _⟩
set_option maxHeartbeats 1000000 in
set_option maxRecDepth 100000 in
theorem sends_upper (w : World) : Calls Tryz.prog 214 #[.string ⟨#[117, 112, 112, 101, 114]⟩] w (NewInts [65, 90] w) := by
  go_enter Tryz.func214, Tryz.ntmps214
  go_wp2
  go_ret
  exact ⟨_, rfl, new_ints w [65, 90] (by decide), (Keep.refl [] w).alloc _⟩
set_option maxHeartbeats 1000000 in
set_option maxRecDepth 100000 in
theorem sends_lower (w : World) : Calls Tryz.prog 214 #[.string ⟨#[108, 111, 119, 101, 114]⟩] w (NewInts [97, 122] w) := by
  go_enter Tryz.func214, Tryz.ntmps214
  go_wp2
  go_ret
  exact ⟨_, rfl, new_ints w [97, 122] (by decide), (Keep.refl [] w).alloc _⟩
set_option maxHeartbeats 1000000 in
set_option maxRecDepth 100000 in
theorem sends_space (w : World) : Calls Tryz.prog 214 #[.string ⟨#[115, 112, 97, 99, 101]⟩] w (NewInts [9, 13, 32, 32] w) := by
  go_enter Tryz.func214, Tryz.ntmps214
  go_wp2
  go_ret
  exact ⟨_, rfl, new_ints w [9, 13, 32, 32] (by decide), (Keep.refl [] w).alloc _⟩
set_option maxHeartbeats 1000000 in
set_option maxRecDepth 100000 in
theorem sends_blank (w : World) : Calls Tryz.prog 214 #[.string ⟨#[98, 108, 97, 110, 107]⟩] w (NewInts [9, 9, 32, 32] w) := by
  go_enter Tryz.func214, Tryz.ntmps214
  go_wp2
  go_ret
  exact ⟨_, rfl, new_ints w [9, 9, 32, 32] (by decide), (Keep.refl [] w).alloc _⟩
set_option maxHeartbeats 1000000 in
set_option maxRecDepth 100000 in
theorem sends_punct (w : World) : Calls Tryz.prog 214 #[.string ⟨#[112, 117, 110, 99, 116]⟩] w (NewInts [33, 47, 58, 64, 91, 96, 123, 126] w) := by
  go_enter Tryz.func214, Tryz.ntmps214
  go_wp2
  go_ret
  exact ⟨_, rfl, new_ints w [33, 47, 58, 64, 91, 96, 123, 126] (by decide), (Keep.refl [] w).alloc _⟩
set_option maxHeartbeats 1000000 in
set_option maxRecDepth 100000 in
theorem sends_xdigit (w : World) : Calls Tryz.prog 214 #[.string ⟨#[120, 100, 105, 103, 105, 116]⟩] w (NewInts [48, 57, 65, 70, 97, 102] w) := by
  go_enter Tryz.func214, Tryz.ntmps214
  go_wp2
  go_ret
  exact ⟨_, rfl, new_ints w [48, 57, 65, 70, 97, 102] (by decide), (Keep.refl [] w).alloc _⟩

set_option maxHeartbeats 1000000 in
set_option maxRecDepth 100000 in
theorem sends_none (t : ByteArray) (w : World) (h0 : (t.toList == [97, 108, 112, 104, 97]) = false) (h1 : (t.toList == [100, 105, 103, 105, 116]) = false) (h2 : (t.toList == [97, 108, 110, 117, 109]) = false) (h3 : (t.toList == [117, 112, 112, 101, 114]) = false) (h4 : (t.toList == [108, 111, 119, 101, 114]) = false) (h5 : (t.toList == [115, 112, 97, 99, 101]) = false) (h6 : (t.toList == [98, 108, 97, 110, 107]) = false) (h7 : (t.toList == [112, 117, 110, 99, 116]) = false) (h8 : (t.toList == [120, 100, 105, 103, 105, 116]) = false) : Calls Tryz.prog 214 #[.string t] w (NewInts [] w) := by
  go_enter Tryz.func214, Tryz.ntmps214
  go_wp2
  go_ret
  exact ⟨_, rfl, new_ints w [] (by decide), (Keep.refl [] w).alloc _⟩

set_option maxRecDepth 100000 in
theorem sclass_any (bs : List UInt8) (w : World) : Calls Tryz.prog 214 #[.string ⟨bs.toArray⟩] w (NewInts (classOf (bs.map bi)) w) := by
  have no : ∀ l : List UInt8, ¬ bs = l → ((⟨bs.toArray⟩ : ByteArray).toList == l) = false := fun l h => by rw [list_ba, beq_eq_false_iff_ne]; exact h
  by_cases h0 : bs = [97, 108, 112, 104, 97]
  · rw [h0]
    have e : classOf (([97, 108, 112, 104, 97] : List UInt8).map bi) = [65, 90, 97, 122] := by decide
    rw [e]
    exact sends_alpha w
  by_cases h1 : bs = [100, 105, 103, 105, 116]
  · rw [h1]
    have e : classOf (([100, 105, 103, 105, 116] : List UInt8).map bi) = [48, 57] := by decide
    rw [e]
    exact sends_digit w
  by_cases h2 : bs = [97, 108, 110, 117, 109]
  · rw [h2]
    have e : classOf (([97, 108, 110, 117, 109] : List UInt8).map bi) = [48, 57, 65, 90, 97, 122] := by decide
    rw [e]
    exact sends_alnum w
  by_cases h3 : bs = [117, 112, 112, 101, 114]
  · rw [h3]
    have e : classOf (([117, 112, 112, 101, 114] : List UInt8).map bi) = [65, 90] := by decide
    rw [e]
    exact sends_upper w
  by_cases h4 : bs = [108, 111, 119, 101, 114]
  · rw [h4]
    have e : classOf (([108, 111, 119, 101, 114] : List UInt8).map bi) = [97, 122] := by decide
    rw [e]
    exact sends_lower w
  by_cases h5 : bs = [115, 112, 97, 99, 101]
  · rw [h5]
    have e : classOf (([115, 112, 97, 99, 101] : List UInt8).map bi) = [9, 13, 32, 32] := by decide
    rw [e]
    exact sends_space w
  by_cases h6 : bs = [98, 108, 97, 110, 107]
  · rw [h6]
    have e : classOf (([98, 108, 97, 110, 107] : List UInt8).map bi) = [9, 9, 32, 32] := by decide
    rw [e]
    exact sends_blank w
  by_cases h7 : bs = [112, 117, 110, 99, 116]
  · rw [h7]
    have e : classOf (([112, 117, 110, 99, 116] : List UInt8).map bi) = [33, 47, 58, 64, 91, 96, 123, 126] := by decide
    rw [e]
    exact sends_punct w
  by_cases h8 : bs = [120, 100, 105, 103, 105, 116]
  · rw [h8]
    have e : classOf (([120, 100, 105, 103, 105, 116] : List UInt8).map bi) = [48, 57, 65, 70, 97, 102] := by decide
    rw [e]
    exact sends_xdigit w
  have e : classOf (bs.map bi) = [] := by
    have ne : ∀ l : List UInt8, ¬ bs = l → ¬ bs.map bi = l.map bi := fun l h e => h (bi_inj e)
    unfold classOf
    rw [if_neg (show ¬ bs.map bi = [97, 108, 112, 104, 97] from ne [97, 108, 112, 104, 97] h0)]
    rw [if_neg (show ¬ bs.map bi = [100, 105, 103, 105, 116] from ne [100, 105, 103, 105, 116] h1)]
    rw [if_neg (show ¬ bs.map bi = [97, 108, 110, 117, 109] from ne [97, 108, 110, 117, 109] h2)]
    rw [if_neg (show ¬ bs.map bi = [117, 112, 112, 101, 114] from ne [117, 112, 112, 101, 114] h3)]
    rw [if_neg (show ¬ bs.map bi = [108, 111, 119, 101, 114] from ne [108, 111, 119, 101, 114] h4)]
    rw [if_neg (show ¬ bs.map bi = [115, 112, 97, 99, 101] from ne [115, 112, 97, 99, 101] h5)]
    rw [if_neg (show ¬ bs.map bi = [98, 108, 97, 110, 107] from ne [98, 108, 97, 110, 107] h6)]
    rw [if_neg (show ¬ bs.map bi = [112, 117, 110, 99, 116] from ne [112, 117, 110, 99, 116] h7)]
    rw [if_neg (show ¬ bs.map bi = [120, 100, 105, 103, 105, 116] from ne [120, 100, 105, 103, 105, 116] h8)]
  rw [e]
  exact sends_none _ w (no _ h0) (no _ h1) (no _ h2) (no _ h3) (no _ h4) (no _ h5) (no _ h6) (no _ h7) (no _ h8)

/-! ### The name as the specification reads it -/
/-- The code points from a place on, up to a colon or one that is not ASCII. -/
def scanN (s : List Int) : Nat → Nat → List Int
  | 0, _ => []
  | f + 1, k => if k < s.length ∧ pk s k ≠ 58 ∧ pk s k < 128 then pk s k :: scanN s f (k + 1) else []
theorem let_scan {x : Int} (h : isLet x = true) : x ≠ 58 ∧ x < 128 ∧ x ≠ 0 := by
  have : 97 ≤ x ∧ x ≤ 122 ∨ 65 ≤ x ∧ x ≤ 90 := by simpa [isLet] using h
  omega
/-- Where the letters end at a colon, both readings are one. -/
theorem scan_lets {s : List Int} : ∀ (f k : Nat), s.length < k + f → (∀ x ∈ scanN s f k, isLet x = true) → isLet (pk s (k + (scanN s f k).length)) = false → lets s f k = scanN s f k
  | 0, k, hf, h, he => rfl
  | f + 1, k, hf, h, he => by
    rw [scanN] at h he ⊢
    rw [lets]
    split at h
    · next hc =>
      rw [if_pos hc] at he ⊢
      have hx : isLet (pk s k) = true := h _ (by simp)
      rw [if_pos hx]
      congr 1
      exact scan_lets f (k + 1) (by omega) (fun x hx' => h x (by simp [hx'])) (by rw [show k + 1 + (scanN s f (k + 1)).length = k + (pk s k :: scanN s f (k + 1)).length by simp; omega]; exact he)
    · next hc =>
      rw [if_neg hc] at he ⊢
      simp at he
      rw [if_neg (by rw [he]; simp)]
theorem lets_scan {s : List Int} : ∀ (f k : Nat), s.length < k + f → pk s (k + (lets s f k).length) = 58 → scanN s f k = lets s f k
  | 0, k, hf, h => rfl
  | f + 1, k, hf, h => by
    rw [lets] at h ⊢
    rw [scanN]
    split at h
    · next hx =>
      rw [if_pos hx]
      have := let_scan hx
      rw [if_pos ⟨lt_of_pk this.2.2, this.1, this.2.1⟩]
      congr 1
      exact lets_scan f (k + 1) (by omega) (by rw [show k + 1 + (lets s f (k + 1)).length = k + (pk s k :: lets s f (k + 1)).length by simp; omega]; exact h)
    · next hx =>
      rw [if_neg hx]
      simp at h
      rw [if_neg (by omega)]
theorem classOf_lets {n : List Int} (h : classOf n ≠ []) : ∀ x ∈ n, isLet x = true := by
  unfold classOf at h
  repeat' (split at h; · next e => rw [e]; decide)
  exact absurd rfl h
/-- The class, by the specification's reading. -/
theorem class_scan {s : List Int} {i : Nat} (hi : i + 2 ≤ s.length + 1) : classR s i = if classOf (scanN s (s.length + 1) (i + 2)) ≠ [] ∧ pk s (i + 2 + (scanN s (s.length + 1) (i + 2)).length) = 58 ∧ pk s (i + 3 + (scanN s (s.length + 1) (i + 2)).length) = 93 then
    some (classOf (scanN s (s.length + 1) (i + 2)), i + 4 + (scanN s (s.length + 1) (i + 2)).length) else none := by
  unfold classR
  by_cases h : classOf (lets s (s.length + 1) (i + 2)) ≠ [] ∧ pk s (i + 2 + (lets s (s.length + 1) (i + 2)).length) = 58 ∧ pk s (i + 3 + (lets s (s.length + 1) (i + 2)).length) = 93
  · have e := lets_scan (s.length + 1) (i + 2) (by omega) h.2.1
    rw [e]
  · rw [if_neg h]
    by_cases h2 : classOf (scanN s (s.length + 1) (i + 2)) ≠ [] ∧ pk s (i + 2 + (scanN s (s.length + 1) (i + 2)).length) = 58 ∧ pk s (i + 3 + (scanN s (s.length + 1) (i + 2)).length) = 93
    · have e := scan_lets (s.length + 1) (i + 2) (by omega) (classOf_lets h2.1) (by rw [h2.2.1]; decide)
      rw [← e] at h2
      exact absurd h2 h
    · rw [if_neg h2]

end Go.Proofs.YtdkjfppjbkdelaaGreatDoor
