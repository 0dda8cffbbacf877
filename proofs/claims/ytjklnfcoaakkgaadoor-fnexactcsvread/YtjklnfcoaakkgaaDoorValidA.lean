/- Plain mathematics: a string of at most 1000 bytes has code points just if the library's decoder finds no error in it and it has no byte 0. No program in it. -/
import Derived.Test.YtjklnfcoaakkgaaDoorRunesA
import Derived.Lib.ValidLaws
import Derived.Lib.MapLaws
import Derived.Lib.Bytealg
namespace Go.Proofs.YtjklnfcoaakkgaaDoor
open Go.Lib

def zf (l : List UInt8) : Bool := l.all (· != 0)

theorem zf_append (a b : List UInt8) : zf (a ++ b) = (zf a && zf b) := by simp [zf]

theorem index_zf (l : List UInt8) : decide (indexByte l 0 < 0) = zf l := by
  induction l with
  | nil => rfl
  | cons b l ih =>
    have hge := indexByte_ge l 0
    unfold indexByte zf
    by_cases hb : b = 0
    · subst hb; simp
    · have hb' : (b == 0) = false := by simpa using hb
      rw [List.all_cons, ← zf, ← ih, hb']
      by_cases h1 : indexByte l 0 = -1
      · simp [h1, hb]
      · have h2 : decide (indexByte l 0 < 0) = false := decide_eq_false (by omega)
        rw [h2]; simp [h1]; omega

theorem encZ_zero (c : Int) (h0 : 0 ≤ c) : (∀ x ∈ encodeRuneZ c, x ≠ 0) ↔ c ≠ 0 := by
  constructor
  · intro h e
    subst e
    exact h 0 (by decide) rfl
  · intro hc x hx
    unfold encodeRuneZ at hx
    split at hx
    · simp at hx; omega
    · split at hx
      · simp at hx; omega
      · split at hx
        · simp at hx; omega
        · split at hx
          · simp at hx; omega
          · simp at hx; omega

theorem zf_enc (c : Nat) : zf (encodeRune c) = decide (c ≠ 0) := by
  rw [Bool.eq_iff_iff]
  have h := encZ_zero (c : Int) (by omega)
  have hb := encodeRuneZ_byte (c : Int)
  simp only [zf, encodeRune, List.all_eq_true, List.mem_map, bne_iff_ne, decide_eq_true_eq, ne_eq]
  constructor
  · intro g e
    exact (h.1 (fun x hx e0 => g _ ⟨x, hx, rfl⟩ (by subst e0; rfl))) (by omega)
  · rintro g y ⟨x, hx, rfl⟩ e0
    have h1 := h.2 (by omega) x hx
    obtain ⟨b0, b1⟩ := hb x hx
    have : x.toNat.toUInt8.toNat = 0 := by rw [e0]; rfl
    simp at this
    omega

/-- The two ways of telling that all from a place on are code points. -/
theorem valid_from (s : ByteArray) : ∀ f i, s.size ≤ i + f → (validD (s.data.toList.drop i) && zf (s.data.toList.drop i)) = (runesFrom s f i).isSome
  | 0, i, hf => by
    have hlen : s.data.toList.length = s.size := Array.length_toList
    rw [runesFrom_end (by omega), List.drop_eq_nil_of_le (by omega)]
    rfl
  | f + 1, i, hf => by
    have hlen : s.data.toList.length = s.size := Array.length_toList
    by_cases hi : i < s.size
    · have hne : s.data.toList.drop i ≠ [] := by
        intro e
        have := congrArg List.length e
        rw [List.length_drop, hlen] at this
        simp at this
        omega
      rw [validD_step _ hne, decodeL_drop]
      by_cases hbad : (Utf8.decode s i).1 = 65533 ∧ (Utf8.decode s i).2 = 1
      · have hn : (nx s i).2 = 0 := by unfold nx clean; rw [if_pos (.inr hbad)]
        rw [if_pos hbad, runesFrom_no hf hi hn]
        rfl
      · rw [if_neg hbad]
        have hdec := encode_decode (s.data.toList.drop i) hne (by rw [decodeL_drop]; exact hbad)
        rw [decodeL_drop] at hdec
        have hsp : s.data.toList.drop i = encodeRune ((Utf8.decode s i).1 : Int) ++ s.data.toList.drop (i + (Utf8.decode s i).2) := by
          rw [hdec, ← List.drop_drop, List.take_append_drop]
        have hz : zf (s.data.toList.drop i) = (decide ((Utf8.decode s i).1 ≠ 0) && zf (s.data.toList.drop (i + (Utf8.decode s i).2))) := by
          rw [congrArg zf hsp, zf_append, zf_enc]
        rw [hz, List.drop_drop]
        by_cases h0 : (Utf8.decode s i).1 = 0
        · have hn : (nx s i).2 = 0 := by unfold nx clean; rw [if_pos (.inl h0)]
          rw [runesFrom_no hf hi hn]
          simp [h0]
        · have hnx : nx s i = Utf8.decode s i := by unfold nx clean; rw [if_neg (by omega)]
          have hw := decodeN_fits (s.size - i) (s.get! i).toNat (s.get! (i + 1)).toNat (s.get! (i + 2)).toNat (s.get! (i + 3)).toNat (by omega)
          rw [← decode_at] at hw
          rw [runesFrom_on hf hi (by rw [hnx]; omega), hnx]
          have ih := valid_from s f (i + (Utf8.decode s i).2) (by omega)
          simp only [Option.isSome_map, Nat.add_sub_cancel, ← ih]
          simp [h0]
    · rw [runesFrom_end hi, List.drop_eq_nil_of_le (by omega)]
      rfl

theorem textOk_eq (s : ByteArray) (h : s.size ≤ 1000) : (validD s.data.toList && decide (indexByte s.data.toList 0 < 0)) = (runesOf s).isSome := by
  unfold runesOf
  rw [index_zf, if_neg (by omega), ← valid_from s s.size 0 (by omega)]
  simp

end Go.Proofs.YtjklnfcoaakkgaaDoor

/- Plain mathematics: the bytes of a list of code points; a text is the bytes of its code points. No program in it. -/
namespace Go.Proofs.YtjklnfcoaakkgaaDoor
open Go.Lib

/-- The bytes of code points, one behind the other. -/
def cat (l : List Int) : List UInt8 := l.flatMap encodeRune

theorem cat_nil : cat [] = [] := rfl
theorem cat_cons (c : Int) (l : List Int) : cat (c :: l) = encodeRune c ++ cat l := by simp [cat]
theorem cat_append (a b : List Int) : cat (a ++ b) = cat a ++ cat b := by simp [cat]
theorem cat_snoc (a : List Int) (c : Int) : cat (a ++ [c]) = cat a ++ encodeRune c := by simp [cat]
theorem cat_length_le (l : List Int) : (cat l).length ≤ 4 * l.length := by
  induction l with
  | nil => simp [cat]
  | cons c l ih =>
    rw [cat_cons, List.length_append, List.length_cons]
    have := (encodeRune_length c).2
    omega
theorem cat_length_ge (l : List Int) : l.length ≤ (cat l).length := by
  induction l with
  | nil => simp [cat]
  | cons c l ih =>
    rw [cat_cons, List.length_append, List.length_cons]
    have := (encodeRune_length c).1
    omega

theorem decode_valid (s : ByteArray) (i : Nat) (h : (nx s i).2 ≠ 0) : pt ((nx s i).1 : Int) = true := by
  obtain ⟨h1, h2⟩ := nx_point h
  rw [h1]
  have hc : (Utf8.decode s i).1 = 65533 ∨ ((Utf8.decode s i).1 < 55296 ∨ 57344 ≤ (Utf8.decode s i).1) ∧ (Utf8.decode s i).1 ≤ 1114111 := by
    rw [decode_at]
    have hb0 := (s.get! i).toNat_lt
    have hb1 := (s.get! (i + 1)).toNat_lt
    generalize (s.get! i).toNat = b0 at *
    generalize (s.get! (i + 1)).toNat = b1 at *
    generalize (s.get! (i + 2)).toNat = b2
    generalize (s.get! (i + 3)).toNat = b3
    unfold decodeN
    repeat' split
    all_goals simp only
    all_goals omega
  exact pt_iff.2 (by omega)

/-- From a place on: the bytes there are the bytes of the code points there, and each is one. -/
theorem runes_cat (s : ByteArray) : ∀ f i l, runesFrom s f i = some l → s.size ≤ i + f → cat l = s.data.toList.drop i ∧ ∀ c ∈ l, pt c = true
  | 0, i, l, h, hf => by
    have hlen : s.data.toList.length = s.size := Array.length_toList
    rw [runesFrom_end (by omega)] at h
    cases h
    rw [List.drop_eq_nil_of_le (by omega)]
    exact ⟨rfl, fun c hc => by cases hc⟩
  | f + 1, i, l, h, hf => by
    have hlen : s.data.toList.length = s.size := Array.length_toList
    by_cases hi : i < s.size
    · by_cases h0 : (nx s i).2 = 0
      · rw [runesFrom_no hf hi h0] at h; cases h
      · rw [runesFrom_on hf hi h0] at h
        obtain ⟨l', h1, rfl⟩ := Option.map_eq_some_iff.1 h
        have hp := decode_valid s i h0
        obtain ⟨hd, hg⟩ := nx_point h0
        have ih := runes_cat s f _ l' h1 (by omega)
        have hne : s.data.toList.drop i ≠ [] := by
          intro e
          have := congrArg List.length e
          rw [List.length_drop, hlen] at this
          simp at this
          omega
        have hdec := encode_decode (s.data.toList.drop i) hne (by rw [decodeL_drop]; omega)
        rw [decodeL_drop, ← hd] at hdec
        refine ⟨?_, fun c hc => ?_⟩
        · rw [cat_cons, ih.1, hdec, ← List.drop_drop, List.take_append_drop]
        · rcases List.mem_cons.1 hc with rfl | hc
          · exact hp
          · exact ih.2 c hc
    · rw [runesFrom_end hi] at h
      cases h
      rw [List.drop_eq_nil_of_le (by omega)]
      exact ⟨rfl, fun c hc => by cases hc⟩

theorem text_cat {s : ByteArray} {l : List Int} (h : runesOf s = some l) : cat l = s.data.toList ∧ (∀ c ∈ l, pt c = true) ∧ s.size ≤ 1000 := by
  unfold runesOf at h
  split at h
  · cases h
  · have := runes_cat s _ 0 l h (by omega)
    exact ⟨by simpa using this.1, this.2, by omega⟩

/-- A string is its bytes. -/
theorem bytes_of (s : ByteArray) : (⟨s.data.toList.toArray⟩ : ByteArray) = s := by cases s; simp

end Go.Proofs.YtjklnfcoaakkgaaDoor
