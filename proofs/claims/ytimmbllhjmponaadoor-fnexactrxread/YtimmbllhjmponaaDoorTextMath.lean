/- Plain mathematics: the bytes of a list of code points; a text is the bytes of its code points. No program in it. -/
import Derived.Test.YtimmbllhjmponaaDoorValid
namespace Go.Proofs.YtimmbllhjmponaaDoor
open Go.Lib

/-- The bytes of code points, one behind the other. -/
def cat (l : List Int) : List UInt8 := l.flatMap encodeRune

theorem cat_nil : cat [] = [] := rfl
theorem cat_cons (c : Int) (l : List Int) : cat (c :: l) = encodeRune c ++ cat l := by simp [cat]
theorem cat_append (a b : List Int) : cat (a ++ b) = cat a ++ cat b := by simp [cat]
theorem cat_snoc (a : List Int) (c : Int) : cat (a ++ [c]) = cat a ++ encodeRune c := by simp [cat]
theorem cat_length_le (l : List Int) : (cat l).length ≤ 4 * l.length := by
  induction l with
  | nil => simp [cat]
  | cons c l ih =>
    rw [cat_cons, List.length_append, List.length_cons]
    have := (encodeRune_length c).2
    omega
theorem cat_length_ge (l : List Int) : l.length ≤ (cat l).length := by
  induction l with
  | nil => simp [cat]
  | cons c l ih =>
    rw [cat_cons, List.length_append, List.length_cons]
    have := (encodeRune_length c).1
    omega

theorem decode_valid (s : ByteArray) (i : Nat) (h : (nx s i).2 ≠ 0) : pt ((nx s i).1 : Int) = true := by
  obtain ⟨h1, h2⟩ := nx_point h
  rw [h1]
  have hc : (Utf8.decode s i).1 = 65533 ∨ ((Utf8.decode s i).1 < 55296 ∨ 57344 ≤ (Utf8.decode s i).1) ∧ (Utf8.decode s i).1 ≤ 1114111 := by
    rw [decode_at]
    have hb0 := (s.get! i).toNat_lt
    have hb1 := (s.get! (i + 1)).toNat_lt
    generalize (s.get! i).toNat = b0 at *
    generalize (s.get! (i + 1)).toNat = b1 at *
    generalize (s.get! (i + 2)).toNat = b2
    generalize (s.get! (i + 3)).toNat = b3
    unfold decodeN
    repeat' split
    all_goals simp only
    all_goals omega
  exact pt_iff.2 (by omega)

/-- From a place on: the bytes there are the bytes of the code points there, and each is one. -/
theorem runes_cat (s : ByteArray) : ∀ f i l, runesFrom s f i = some l → s.size ≤ i + f → cat l = s.data.toList.drop i ∧ ∀ c ∈ l, pt c = true
  | 0, i, l, h, hf => by
    have hlen : s.data.toList.length = s.size := Array.length_toList
    rw [runesFrom_end (by omega)] at h
    cases h
    rw [List.drop_eq_nil_of_le (by omega)]
    exact ⟨rfl, fun c hc => by cases hc⟩
  | f + 1, i, l, h, hf => by
    have hlen : s.data.toList.length = s.size := Array.length_toList
    by_cases hi : i < s.size
    · by_cases h0 : (nx s i).2 = 0
      · rw [runesFrom_no hf hi h0] at h; cases h
      · rw [runesFrom_on hf hi h0] at h
        obtain ⟨l', h1, rfl⟩ := Option.map_eq_some_iff.1 h
        have hp := decode_valid s i h0
        obtain ⟨hd, hg⟩ := nx_point h0
        have ih := runes_cat s f _ l' h1 (by omega)
        have hne : s.data.toList.drop i ≠ [] := by
          intro e
          have := congrArg List.length e
          rw [List.length_drop, hlen] at this
          simp at this
          omega
        have hdec := encode_decode (s.data.toList.drop i) hne (by rw [decodeL_drop]; omega)
        rw [decodeL_drop, ← hd] at hdec
        refine ⟨?_, fun c hc => ?_⟩
        · rw [cat_cons, ih.1, hdec, ← List.drop_drop, List.take_append_drop]
        · rcases List.mem_cons.1 hc with rfl | hc
          · exact hp
          · exact ih.2 c hc
    · rw [runesFrom_end hi] at h
      cases h
      rw [List.drop_eq_nil_of_le (by omega)]
      exact ⟨rfl, fun c hc => by cases hc⟩

theorem text_cat {s : ByteArray} {l : List Int} (h : runesOf s = some l) : cat l = s.data.toList ∧ (∀ c ∈ l, pt c = true) ∧ s.size ≤ 1000 := by
  unfold runesOf at h
  split at h
  · cases h
  · have := runes_cat s _ 0 l h (by omega)
    exact ⟨by simpa using this.1, this.2, by omega⟩

/-- A string is its bytes. -/
theorem bytes_of (s : ByteArray) : (⟨s.data.toList.toArray⟩ : ByteArray) = s := by cases s; simp

end Go.Proofs.YtimmbllhjmponaaDoor
