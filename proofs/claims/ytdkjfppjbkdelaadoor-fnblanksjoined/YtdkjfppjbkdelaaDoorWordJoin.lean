/- Plain mathematics of chapter 8: the words of a text are texts; joined by blanks they fit and have the same words. No program in it. -/
import Derived.Test.YtdkjfppjbkdelaaDoorWordMath
import Derived.Test.YtdkjfppjbkdelaaDoorJoinMath
import Derived.Test.YtdkjfppjbkdelaaDoorPartsMath
namespace Go.Proofs.YtdkjfppjbkdelaaDoor
set_option linter.unusedVariables false
open Go.Lib (encodeRuneZ encodeRune)
namespace Wd

/-- Is a code point a blank? -/
def isBlP (c : Int) : Bool := decide (c = 32 ∨ c = 9 ∨ c = 10 ∨ c = 13)
theorem enc_ascii {c : Int} (h0 : 0 ≤ c) (h1 : c ≤ 127) : encodeRune c = [c.toNat.toUInt8] := by
  unfold encodeRune; rw [Go.Lib.encodeRuneZ_one h0 h1]; rfl
theorem toU8 {n : Nat} (h : n < 256) : n.toUInt8.toNat = n := by
  show n % 256 = n
  omega
theorem enc_blank {c : Int} (h : isBlP c = true) : ∃ b, encodeRune c = [b] ∧ isBl b = true := by
  have h1 : c = 32 ∨ c = 9 ∨ c = 10 ∨ c = 13 := by simpa [isBlP] using h
  refine ⟨c.toNat.toUInt8, enc_ascii (by omega) (by omega), ?_⟩
  unfold isBl
  rw [toU8 (by omega)]
  simp
  omega
theorem enc_high {c : Int} (h : 127 < c) : ∀ x ∈ encodeRuneZ c, 128 ≤ x ∧ x < 256 := by
  intro x hx
  unfold encodeRuneZ at hx
  rw [if_neg (by omega)] at hx
  split at hx
  · simp at hx; omega
  · split at hx
    · simp at hx; omega
    · split at hx
      · simp at hx; omega
      · simp at hx; omega
theorem enc_word {c : Int} (hp : pt c = true) (h : isBlP c = false) : ∀ b ∈ encodeRune c, isBl b = false := by
  have h1 : ¬ (c = 32 ∨ c = 9 ∨ c = 10 ∨ c = 13) := by simpa [isBlP] using h
  have hc := pt_iff.1 hp
  intro b hb
  unfold isBl
  by_cases h2 : c ≤ 127
  · rw [enc_ascii (by omega) h2] at hb
    simp at hb
    subst hb
    rw [toU8 (by omega)]
    simp
    omega
  · unfold encodeRune at hb
    obtain ⟨x, hx, rfl⟩ := List.mem_map.1 hb
    obtain ⟨h3, h4⟩ := enc_high (by omega) x hx
    rw [toU8 (by omega)]
    simp
    omega
theorem wordsR_run {cur : List UInt8} : ∀ (u r : List UInt8) (cur : List UInt8), (∀ b ∈ u, isBl b = false) → wordsR cur (u ++ r) = wordsR (cur ++ u) r
  | [], r, cur, h => by simp
  | b :: u, r, cur, h => by
    rw [List.cons_append, wordsR_on (h b (by simp)), wordsR_run (cur := cur) u r (cur ++ [b]) fun x hx => h x (by simp [hx]), List.append_assoc]
    rfl
/-- The words by their code points. -/
def addP (p : List Int) : List (List Int) := if p = [] then [] else [p]
def wordsP : List Int → List Int → List (List Int)
  | p, [] => addP p
  | p, c :: l => if isBlP c then addP p ++ wordsP [] l else wordsP (p ++ [c]) l
theorem cat_empty {p : List Int} : cat p = [] ↔ p = [] := by
  constructor
  · intro h
    have := cat_length_ge p
    rw [h] at this
    exact List.eq_nil_of_length_eq_zero (by simpa using this)
  · rintro rfl; rfl
theorem addP_cat (p : List Int) : (addP p).map cat = wordAdd (cat p) := by
  unfold addP wordAdd
  by_cases h : p = []
  · rw [if_pos h, if_pos (cat_empty.2 h)]; rfl
  · rw [if_neg h, if_neg (fun e => h (cat_empty.1 e))]; rfl
theorem wordsP_cat : ∀ (l p : List Int), (∀ c ∈ l, pt c = true) → wordsR (cat p) (cat l) = (wordsP p l).map cat
  | [], p, h => by rw [cat_nil, wordsR_nil, wordsP, addP_cat]
  | c :: l, p, h => by
    have hl : ∀ x ∈ l, pt x = true := fun x hx => h x (by simp [hx])
    rw [cat_cons, wordsP]
    cases hb : isBlP c with
    | true =>
      obtain ⟨b, e, hb2⟩ := enc_blank hb
      rw [e, if_pos rfl, List.cons_append, List.nil_append, wordsR_blank hb2, List.map_append, addP_cat]
      have := wordsP_cat l [] hl
      rw [cat_nil] at this
      rw [this]
    | false =>
      rw [if_neg (by simp), wordsR_run (cur := cat p) _ _ _ (enc_word (h c (by simp)) hb), ← cat_snoc]
      exact wordsP_cat l (p ++ [c]) hl
theorem wordsP_pts : ∀ (l p : List Int), (∀ c ∈ l, pt c = true) → (∀ c ∈ p, pt c = true) → ∀ q ∈ wordsP p l, ∀ c ∈ q, pt c = true
  | [], p, h, hp, q, hq => by
    rw [wordsP] at hq
    unfold addP at hq
    split at hq
    · cases hq
    · simp at hq; subst hq; exact hp
  | c :: l, p, h, hp, q, hq => by
    have hl : ∀ x ∈ l, pt x = true := fun x hx => h x (by simp [hx])
    rw [wordsP] at hq
    split at hq
    · rcases List.mem_append.1 hq with hq | hq
      · unfold addP at hq
        split at hq
        · cases hq
        · simp at hq; subst hq; exact hp
      · exact wordsP_pts l [] hl (fun x hx => by cases hx) q hq
    · exact wordsP_pts l (p ++ [c]) hl (fun x hx => by rcases List.mem_append.1 hx with hx | hx; exact hp x hx; simp at hx; subst hx; exact h x (by simp)) q hq
/-- How long the words are, with a sign behind each. -/
def sumW (ws : List (List UInt8)) : Nat := (ws.map fun w => w.length + 1).sum
theorem sumW_nil : sumW [] = 0 := rfl
theorem sumW_cons (w : List UInt8) (ws : List (List UInt8)) : sumW (w :: ws) = w.length + 1 + sumW ws := by simp [sumW]
theorem sumW_append (a b : List (List UInt8)) : sumW (a ++ b) = sumW a + sumW b := by simp [sumW]
theorem sumW_add (cur : List UInt8) : sumW (wordAdd cur) ≤ cur.length + 1 ∧ (cur = [] → sumW (wordAdd cur) = 0) := by
  unfold wordAdd
  split
  · next h => subst h; exact ⟨by rw [sumW_nil]; omega, fun _ => sumW_nil⟩
  · next h => exact ⟨by rw [sumW_cons, sumW_nil]; omega, fun e => absurd e h⟩
theorem wordsR_sum : ∀ (l cur : List UInt8), sumW (wordsR cur l) ≤ cur.length + l.length + 1
  | [], cur => by rw [wordsR_nil]; have := (sumW_add cur).1; simp; omega
  | b :: r, cur => by
    cases h : isBl b with
    | true =>
      rw [wordsR_blank h, sumW_append]
      have h1 := (sumW_add cur).1
      have h2 := wordsR_sum r []
      simp only [List.length_nil, List.length_cons] at *
      omega
    | false =>
      rw [wordsR_on h]
      have := wordsR_sum r (cur ++ [b])
      simp only [List.length_append, List.length_cons, List.length_nil] at *
      omega
/-- No word holds a blank. -/
theorem wordsR_clean : ∀ (l cur : List UInt8), (∀ b ∈ cur, isBl b = false) → ∀ x ∈ wordsR cur l, ∀ b ∈ x, isBl b = false
  | [], cur, hc, x, hx => by
    rw [wordsR_nil] at hx
    unfold wordAdd at hx
    split at hx
    · cases hx
    · simp at hx; subst hx; exact hc
  | a :: r, cur, hc, x, hx => by
    cases h : isBl a with
    | true =>
      rw [wordsR_blank h] at hx
      rcases List.mem_append.1 hx with hx | hx
      · unfold wordAdd at hx
        split at hx
        · cases hx
        · simp at hx; subst hx; exact hc
      · exact wordsR_clean r [] (fun b hb => by cases hb) x hx
    | false =>
      rw [wordsR_on h] at hx
      exact wordsR_clean r _ (fun b hb => by rcases List.mem_append.1 hb with hb | hb; exact hc b hb; simp at hb; subst hb; exact h) x hx
/-- The words with a blank between them. -/
def joinW : List (List UInt8) → List UInt8
  | [] => []
  | [w] => w
  | w :: v :: r => w ++ 32 :: joinW (v :: r)
theorem joinW_words : ∀ ws : List (List UInt8), (∀ w ∈ ws, w ≠ []) → (∀ w ∈ ws, ∀ b ∈ w, isBl b = false) → wordsR [] (joinW ws) = ws
  | [], _, _ => rfl
  | [w], h, hc => by
    have e : joinW [w] = w ++ [] := by rw [joinW, List.append_nil]
    rw [e, wordsR_run (cur := []) w [] [] (hc w (by simp)), List.nil_append, wordsR_nil, wordAdd_one (h w (by simp))]
  | w :: v :: r, h, hc => by
    rw [joinW, wordsR_run (cur := []) w _ [] (hc w (by simp)), List.nil_append, wordsR_blank (by decide), wordAdd_one (h w (by simp)), joinW_words (v :: r) (fun x hx => h x (by simp [hx])) fun x hx => hc x (by simp [hx])]
    rfl
theorem joinW_len : ∀ ws : List (List UInt8), (joinW ws).length ≤ sumW ws - 1
  | [] => by simp [joinW]
  | [w] => by rw [joinW, sumW_cons, sumW_nil]; omega
  | w :: v :: r => by
    rw [joinW, List.length_append, List.length_cons, sumW_cons]
    have h1 := joinW_len (v :: r)
    have h2 : 1 ≤ sumW (v :: r) := by rw [sumW_cons]; omega
    omega
end Wd

end Go.Proofs.YtdkjfppjbkdelaaDoor
