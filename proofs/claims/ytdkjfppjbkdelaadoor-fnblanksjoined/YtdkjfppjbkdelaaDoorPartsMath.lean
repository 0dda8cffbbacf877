/- Plain mathematics: the code points of the bytes of code points are they; a text is its first part and the rest. No program in it. -/
import Derived.Test.YtdkjfppjbkdelaaDoorFindMath
import Derived.Test.YtdkjfppjbkdelaaDoorPartMath
namespace Go.Proofs.YtdkjfppjbkdelaaDoor
open Go.Lib

theorem runesFrom_cat (s : ByteArray) : ∀ (l p : List Int) (f : Nat), s.data.toList = cat p ++ cat l → (∀ c ∈ l, pt c = true) → s.size ≤ (cat p).length + f → runesFrom s f (cat p).length = some l
  | [], p, f, h, _, _ => by
    have hlen : s.data.toList.length = s.size := Array.length_toList
    rw [h, cat_nil, List.append_nil] at hlen
    exact runesFrom_end (by omega)
  | c :: l, p, f, h, hp, hf => by
    have hlen : s.data.toList.length = s.size := Array.length_toList
    have pc := hp c (List.mem_cons_self ..)
    have hc := pt_iff.1 pc
    have hd : Utf8.decode s (cat p).length = (c.toNat, (encodeRune c).length) := by
      rw [← decodeL_drop, h, List.drop_left, cat_cons]
      exact decode_encode pc (cat l)
    have hel := encodeRune_length c
    rw [h, List.length_append, cat_cons, List.length_append] at hlen
    have h0 : (nx s (cat p).length).2 ≠ 0 := by
      intro e
      rcases nx_none (by omega) e with e1 | ⟨e1, e2⟩
      · rw [hd] at e1
        simp only at e1
        omega
      · rw [hd] at e1 e2
        simp only at e1 e2
        obtain rfl : c = 65533 := by omega
        revert e2
        decide
    have hn : nx s (cat p).length = (c.toNat, (encodeRune c).length) := (nx_point h0).1.trans hd
    rw [runesFrom_on hf (by omega) h0, hn]
    have ih := runesFrom_cat s l (p ++ [c]) (f - 1) (by rw [h, cat_snoc, cat_cons, List.append_assoc]) (fun x hx => hp x (List.mem_cons_of_mem _ hx)) (by rw [cat_snoc, List.length_append]; omega)
    rw [cat_snoc, List.length_append] at ih
    simp only [ih, Option.map_some]
    congr 2
    omega

theorem runes_of_cat {l : List Int} (hp : ∀ c ∈ l, pt c = true) (hl : (cat l).length ≤ 1000) : runesOf ⟨(cat l).toArray⟩ = some l := by
  unfold runesOf
  have hs : (⟨(cat l).toArray⟩ : ByteArray).size = (cat l).length := rfl
  rw [if_neg (by omega)]
  exact runesFrom_cat _ l [] _ (by simp [cat_nil]) hp (by rw [hs]; simp [cat_nil])

theorem cat_inj {a b : List Int} (ha : ∀ c ∈ a, pt c = true) (hb : ∀ c ∈ b, pt c = true) (h : cat a = cat b) : a = b := by
  have h1 := (cat_prefix a b ha hb).1 (by rw [h]; exact List.prefix_refl _)
  have h2 := (cat_prefix b a hb ha).1 (by rw [h]; exact List.prefix_refl _)
  exact h1.eq_of_length (Nat.le_antisymm h1.length_le h2.length_le)

theorem text_length {s : ByteArray} {l : List Int} (h : runesOf s = some l) : l.length ≤ 1000 := by
  obtain ⟨h1, h2, h3⟩ := text_cat h
  have hlen : s.data.toList.length = s.size := Array.length_toList
  have := cat_length_ge l
  rw [h1, hlen] at this
  omega

theorem part_none {s : ByteArray} (h : runesOf s = none) (f c : Int) : partOf s f c = [] := by
  unfold partOf
  rw [h]
  split <;> rfl

theorem part_size (s : ByteArray) (f c : Int) : (partOf s f c).length ≤ s.size := by
  cases h : runesOf s with
  | none => rw [part_none h]; exact Nat.zero_le _
  | some l =>
    obtain ⟨h1, h2, h3⟩ := text_cat h
    have hlen : s.data.toList.length = s.size := Array.length_toList
    unfold partOf
    rw [h]
    split
    · exact Nat.zero_le _
    · show (cat (seg l (loOf f) (hiOf f c))).length ≤ s.size
      rw [← hlen, ← h1]
      by_cases hh : loOf f ≤ hiOf f c
      · rw [← cat_seg l _ _ hh, List.length_drop, List.length_take]
        omega
      · unfold seg
        rw [List.drop_eq_nil_of_le (by rw [List.length_take]; omega), cat_nil]
        exact Nat.zero_le _

theorem part_mid {s : ByteArray} {l : List Int} (h : runesOf s = some l) (i n : Nat) : partOf s ((i : Int) + 1) (n : Int) = cat ((l.drop i).take n) := by
  unfold partOf
  rw [h]
  by_cases hn : (n : Int) < 1
  · obtain rfl : n = 0 := by omega
    simp [cat_nil]
  · rw [if_neg hn]
    show cat (seg l (loOf ((i : Int) + 1)) (hiOf ((i : Int) + 1) n)) = _
    have e1 : loOf ((i : Int) + 1) = i := by unfold loOf; omega
    have e2 : hiOf ((i : Int) + 1) n = i + n := by unfold hiOf; omega
    rw [e1, e2]
    unfold seg
    rw [List.drop_take, Nat.add_sub_cancel_left]

/-- The first n code points and the rest. -/
theorem parts_back {s : ByteArray} {l : List Int} (h : runesOf s = some l) (n : Nat) :
    (⟨(partOf s 1 n).toArray⟩ ++ ⟨(partOf s ((n : Int) + 1) 1000).toArray⟩ : ByteArray) = s := by
  obtain ⟨h1, h2, h3⟩ := text_cat h
  have e1 := part_mid h 0 n
  have e2 := part_mid h n 1000
  have hl := text_length h
  rw [show ((0 : Nat) : Int) + 1 = 1 by rfl, List.drop_zero] at e1
  rw [show ((1000 : Nat) : Int) = 1000 by rfl, List.take_of_length_le (by rw [List.length_drop]; omega)] at e2
  rw [e1, e2]
  apply ByteArray.ext
  apply Array.ext'
  rw [ByteArray.data_append, Array.toList_append]
  show cat (l.take n) ++ cat (l.drop n) = _
  rw [← cat_append, List.take_append_drop, h1]

theorem first_runes {s : ByteArray} {l : List Int} (h : runesOf s = some l) (n : Nat) : runesOf ⟨(partOf s 1 n).toArray⟩ = some (l.take n) := by
  obtain ⟨h1, h2, h3⟩ := text_cat h
  have hlen : s.data.toList.length = s.size := Array.length_toList
  have e1 := part_mid h 0 n
  rw [show ((0 : Nat) : Int) + 1 = 1 by rfl, List.drop_zero] at e1
  rw [e1]
  refine runes_of_cat (fun c hc => h2 c (List.mem_of_mem_take hc)) ?_
  have := cat_take_le l n
  rw [h1, hlen] at this
  omega

/-- Where a part is a text. -/
theorem part_stands {s t : ByteArray} {a b : List Int} (hs : runesOf s = some a) (ht : runesOf t = some b) (i : Nat) : ((⟨(partOf s ((i : Int) + 1) (b.length : Int)).toArray⟩ : ByteArray) = t) ↔ b <+: a.drop i := by
  obtain ⟨h1, h2, h3⟩ := text_cat hs
  obtain ⟨g1, g2, g3⟩ := text_cat ht
  rw [part_mid hs i b.length]
  constructor
  · intro e
    have e1 : cat ((a.drop i).take b.length) = cat b := by
      rw [g1, ← e]
    have e2 := cat_inj (fun c hc => h2 c (List.mem_of_mem_drop (List.mem_of_mem_take hc))) g2 e1
    rw [← e2]
    exact List.take_prefix _ _
  · intro e
    rw [List.prefix_iff_eq_take.1 e, List.length_take]
    have : min b.length (a.drop i).length = b.length := Nat.min_eq_left e.length_le
    rw [this, ← List.prefix_iff_eq_take.1 e, g1]

theorem text_empty {t : ByteArray} {b : List Int} (ht : runesOf t = some b) : t.size = 0 ↔ b = [] := by
  obtain ⟨g1, g2, g3⟩ := text_cat ht
  have hlen : t.data.toList.length = t.size := Array.length_toList
  rw [← g1] at hlen
  constructor
  · intro e
    have := cat_length_ge b
    exact List.eq_nil_of_length_eq_zero (by omega)
  · rintro rfl
    rw [← hlen]; rfl

theorem findL_cases (a b : List Int) : (findL a b = 0 ∧ ∀ j, j < a.length → ¬ b <+: a.drop j) ∨ ∃ i, i < a.length ∧ findL a b = i + 1 ∧ b <+: a.drop i ∧ ∀ j, j < i → ¬ b <+: a.drop j := by
  by_cases h : ∃ i, i < a.length ∧ b <+: a.drop i
  · right
    obtain ⟨i, hi, hp⟩ := h
    induction i using Nat.strongRecOn with
    | _ i ih =>
      by_cases hn : ∀ j, j < i → ¬ b <+: a.drop j
      · exact ⟨i, hi, findL_hit hi hp hn, hp, hn⟩
      · simp only [Classical.not_forall] at hn
        obtain ⟨j, hj, hq⟩ := hn
        exact ih j hj (by omega) (Classical.not_not.1 hq)
  · left
    have hn : ∀ j, j < a.length → ¬ b <+: a.drop j := fun j hj hp => h ⟨j, hj, hp⟩
    exact ⟨findL_none hn, hn⟩

end Go.Proofs.YtdkjfppjbkdelaaDoor
