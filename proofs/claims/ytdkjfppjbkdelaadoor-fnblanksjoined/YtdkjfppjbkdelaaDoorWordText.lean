/- Plain mathematics of chapter 8: Joined of the words of a text is a text with the same words, no longer than it. No program in it. -/
import Derived.Test.YtdkjfppjbkdelaaDoorWordJoin
namespace Go.Proofs.YtdkjfppjbkdelaaDoor
set_option linter.unusedVariables false
open Go.Lib (encodeRuneZ encodeRune)
namespace Wd

def bl1 : ByteArray := ⟨#[32]⟩
theorem bl1_text : (runesOf bl1).isSome = true := by decide
def toB (l : List UInt8) : ByteArray := ⟨l.toArray⟩
theorem toB_list (l : List UInt8) : (toB l).data.toList = l := by unfold toB; simp
def tailW (ws : List (List UInt8)) : List UInt8 := ws.flatMap fun w => 32 :: w
theorem tailW_cons (w : List UInt8) (ws : List (List UInt8)) : tailW (w :: ws) = 32 :: w ++ tailW ws := by simp [tailW]
theorem joinW_tail : ∀ (w : List UInt8) (r : List (List UInt8)), joinW (w :: r) = w ++ tailW r
  | w, [] => by simp [joinW, tailW]
  | w, v :: r => by rw [joinW, joinW_tail v r, tailW_cons, List.cons_append]
theorem joinOne_tail (acc w : List UInt8) : joinOne bl1 false acc (toB w) = acc ++ (32 :: w) := by
  unfold joinOne
  rw [toB_list]
  simp [bl1]
theorem join_tail : ∀ (ws : List (List UInt8)) (acc : List UInt8), (∀ w ∈ ws, (runesOf (toB w)).isSome = true) → acc.length + sumW ws ≤ 1000 → joinFrom bl1 false acc (ws.map toB) = some (acc ++ tailW ws)
  | [], acc, _, _ => by simp [joinFrom, tailW]
  | w :: r, acc, h, hl => by
    rw [sumW_cons] at hl
    have h1 := joinFrom_on (sep := bl1) (b := false) (acc := acc) (xs := (w :: r).map toB) (k := 0) (by simp) (by simpa using h w (by simp)) (by simp only [List.map_cons, List.getElem_cons_zero]; rw [joinOne_tail]; simp; omega)
    simp only [List.drop_zero, List.map_cons, List.getElem_cons_zero, List.drop_succ_cons] at h1
    rw [List.map_cons, h1, joinOne_tail, join_tail r _ (fun x hx => h x (by simp [hx])) (by simp; omega), tailW_cons, List.append_assoc]
theorem join_words {ws : List (List UInt8)} (h : ∀ w ∈ ws, (runesOf (toB w)).isSome = true) (hl : sumW ws ≤ 1001) : joinR bl1 (ws.map toB) = some (joinW ws) := by
  rw [joinR_yes _ bl1_text]
  cases ws with
  | nil => rfl
  | cons w r =>
    rw [sumW_cons] at hl
    have e0 : joinOne bl1 true [] (toB w) = w := by unfold joinOne; rw [toB_list]; rfl
    have h1 := joinFrom_on (sep := bl1) (b := true) (acc := []) (xs := (w :: r).map toB) (k := 0) (by simp) (by simpa using h w (by simp)) (by simp only [List.map_cons, List.getElem_cons_zero]; rw [e0]; omega)
    simp only [List.drop_zero, List.map_cons, List.getElem_cons_zero, List.drop_succ_cons] at h1
    rw [List.map_cons, h1, e0, join_tail r w (fun x hx => h x (by simp [hx])) (by omega), joinW_tail]
/-- The code points of joined words. -/
def joinP : List (List Int) → List Int
  | [] => []
  | [w] => w
  | w :: v :: r => w ++ 32 :: joinP (v :: r)
theorem joinP_cat : ∀ qs : List (List Int), joinW (qs.map cat) = cat (joinP qs)
  | [] => rfl
  | [q] => rfl
  | q :: v :: r => by
    have := joinP_cat (v :: r)
    rw [List.map_cons, List.map_cons, joinW, joinP, cat_append, cat_cons]
    rw [List.map_cons] at this
    rw [this]
    rfl
theorem joinP_pts : ∀ qs : List (List Int), (∀ q ∈ qs, ∀ c ∈ q, pt c = true) → ∀ c ∈ joinP qs, pt c = true
  | [], h, c, hc => by cases hc
  | [q], h, c, hc => h q (by simp) c hc
  | q :: v :: r, h, c, hc => by
    rw [joinP] at hc
    rcases List.mem_append.1 hc with hc | hc
    · exact h q (by simp) c hc
    · rcases List.mem_cons.1 hc with rfl | hc
      · decide
      · exact joinP_pts (v :: r) (fun x hx => h x (by simp [hx])) c hc
/-- The words of a text: each a text; joined a text with the same words, no longer. -/
theorem blanks_joined (s : ByteArray) : (∀ w ∈ blanksR s, w ≠ []) ∧ (blanksR s).length ≤ 1001 ∧
    joinR bl1 ((blanksR s).map toB) = some (joinW (blanksR s)) ∧ (toB (joinW (blanksR s))).size ≤ s.size ∧ blanksR (toB (joinW (blanksR s))) = blanksR s := by
  cases h : runesOf s with
  | none =>
    have e : blanksR s = [] := blanksR_no (by rw [h]; rfl)
    rw [e]
    refine ⟨fun w hw => (by cases hw), by simp, rfl, Nat.zero_le _, ?_⟩
    decide
  | some l =>
    obtain ⟨h1, h2, h3⟩ := text_cat h
    have hs : s.data.toList.length = s.size := size_list s
    have e : blanksR s = wordsR [] s.data.toList := blanksR_yes (by rw [h]; rfl)
    have e2 : wordsR [] s.data.toList = (wordsP [] l).map cat := by
      have := wordsP_cat l [] h2
      rw [cat_nil, h1] at this
      exact this
    have hp := wordsP_pts l [] h2 (fun c hc => by cases hc)
    have hsum := wordsR_sum s.data.toList []
    have hcnt := wordsR_count s.data.toList []
    have hlen := wordsR_len s.data.toList []
    have hne := wordsR_pos s.data.toList []
    have hcl := wordsR_clean s.data.toList [] (fun b hb => by cases hb)
    rw [e]
    rw [List.length_nil] at hsum
    have hjl := joinW_len (wordsR [] s.data.toList)
    have htx : ∀ w ∈ wordsR [] s.data.toList, (runesOf (toB w)).isSome = true := fun w hw => by
      have hwl := hlen w hw
      rw [List.length_nil] at hwl
      rw [e2] at hw
      obtain ⟨q, hq, rfl⟩ := List.mem_map.1 hw
      have := runes_of_cat (hp q hq) (by omega)
      unfold toB
      rw [this]
      rfl
    have hsz : (toB (joinW (wordsR [] s.data.toList))).size = (joinW (wordsR [] s.data.toList)).length := by rw [← size_list, toB_list]
    refine ⟨hne, by omega, join_words htx (by omega), by rw [hsz]; omega, ?_⟩
    have hr : (runesOf (toB (joinW (wordsR [] s.data.toList)))).isSome = true := by
      have e3 : joinW (wordsR [] s.data.toList) = cat (joinP (wordsP [] l)) := by rw [e2, joinP_cat]
      have := runes_of_cat (joinP_pts _ hp) (by rw [← e3]; omega)
      unfold toB
      rw [e3, this]
      rfl
    rw [blanksR_yes hr, toB_list, joinW_words _ hne hcl]
end Wd

end Go.Proofs.YtdkjfppjbkdelaaDoor
