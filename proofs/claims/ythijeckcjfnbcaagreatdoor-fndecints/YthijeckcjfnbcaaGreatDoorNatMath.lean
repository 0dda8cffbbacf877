/- Plain mathematics: natural numbers as strings of digits. No program in it. -/
import Derived.Lib.Hide
import GoSem.Op.String
namespace Go.Proofs.YthijeckcjfnbcaaGreatDoor

/-- The digit of a number below 10, and back. -/
def dig (n : Nat) : UInt8 := UInt8.ofNat (48 + n)
def dv (b : UInt8) : Nat := b.toNat - 48
def IsD (b : UInt8) : Prop := 48 ≤ b.toNat ∧ b.toNat ≤ 57
def Digs (l : List UInt8) : Prop := ∀ b ∈ l, IsD b
/-- The number that a string of digits tells. -/
def val (l : List UInt8) : Nat := l.foldl (fun r b => 10 * r + dv b) 0

theorem dig_toNat {n : Nat} (h : n < 10) : (dig n).toNat = 48 + n := by unfold dig; simp; omega
theorem dig_is {n : Nat} (h : n < 10) : IsD (dig n) := by unfold IsD; rw [dig_toNat h]; omega
theorem dv_dig {n : Nat} (h : n < 10) : dv (dig n) = n := by unfold dv; rw [dig_toNat h]; omega
theorem dig_dv {b : UInt8} (h : IsD b) : dig (dv b) = b := by
  unfold IsD at h
  apply UInt8.toNat_inj.1
  have h1 : dv b < 10 := by unfold dv; omega
  rw [dig_toNat h1]; unfold dv; omega
theorem dv_lt {b : UInt8} (h : IsD b) : dv b < 10 := by unfold IsD at h; unfold dv; omega

theorem val_nil : val [] = 0 := rfl
theorem val_snoc (l : List UInt8) (b : UInt8) : val (l ++ [b]) = 10 * val l + dv b := by simp [val]
theorem foldl_val (l : List UInt8) : ∀ r, l.foldl (fun r b => 10 * r + dv b) r = r * 10 ^ l.length + val l := by
  induction l with
  | nil => intro r; simp [val]
  | cons b l ih =>
    intro r
    show l.foldl _ (10 * r + dv b) = _
    have e : val (b :: l) = l.foldl (fun r b => 10 * r + dv b) (10 * 0 + dv b) := rfl
    rw [ih, e, ih, List.length_cons, Nat.pow_succ, Nat.add_mul, Nat.mul_zero, Nat.zero_add, Nat.add_assoc]
    congr 1
    rw [Nat.mul_comm (10 ^ l.length) 10, ← Nat.mul_assoc, Nat.mul_comm 10 r]
theorem val_append (a b : List UInt8) : val (a ++ b) = val a * 10 ^ b.length + val b := by
  unfold val
  rw [List.foldl_append, foldl_val b]
  rfl
theorem val_cons (b : UInt8) (l : List UInt8) : val (b :: l) = dv b * 10 ^ l.length + val l := by
  have := val_append [b] l
  simpa [val] using this
theorem Digs.cons {b : UInt8} {l : List UInt8} (h : Digs (b :: l)) : IsD b ∧ Digs l := ⟨h b (List.mem_cons_self ..), fun c hc => h c (List.mem_cons_of_mem _ hc)⟩
theorem Digs.append {a b : List UInt8} (ha : Digs a) (hb : Digs b) : Digs (a ++ b) := fun c hc => (List.mem_append.1 hc).elim (ha c) (hb c)
theorem digs_nil : Digs [] := fun _ h => by cases h
theorem digs_one {b : UInt8} (h : IsD b) : Digs [b] := fun c hc => by rw [List.mem_singleton.1 hc]; exact h
theorem val_lt : ∀ {l : List UInt8}, Digs l → val l < 10 ^ l.length
  | [], _ => by simp [val]
  | b :: l, h => by
    have h1 := val_lt h.cons.2
    have h2 := dv_lt h.cons.1
    rw [val_cons, List.length_cons, Nat.pow_succ]
    have h3 : dv b * 10 ^ l.length ≤ 9 * 10 ^ l.length := Nat.mul_le_mul_right _ (by omega)
    omega

/-- The digits of a number, with no needless nought ahead. -/
def natOf (v : Nat) : List UInt8 := if v < 10 then [dig v] else natOf (v / 10) ++ [dig (v % 10)]
termination_by v
decreasing_by omega

theorem natOf_small {v : Nat} (h : v < 10) : natOf v = [dig v] := by rw [natOf, if_pos h]
theorem natOf_big {v : Nat} (h : ¬ v < 10) : natOf v = natOf (v / 10) ++ [dig (v % 10)] := by rw [natOf, if_neg h]
theorem natOf_digs (v : Nat) : Digs (natOf v) := by
  induction v using Nat.strongRecOn with
  | _ v ih =>
    by_cases h : v < 10
    · rw [natOf_small h]; exact digs_one (dig_is h)
    · rw [natOf_big h]; exact (ih (v / 10) (by omega)).append (digs_one (dig_is (by omega)))
theorem val_natOf (v : Nat) : val (natOf v) = v := by
  induction v using Nat.strongRecOn with
  | _ v ih =>
    by_cases h : v < 10
    · rw [natOf_small h]; simp [val, dv_dig h]
    · rw [natOf_big h, val_snoc, ih (v / 10) (by omega), dv_dig (by omega)]; omega
theorem natOf_ne (v : Nat) : natOf v ≠ [] := by
  by_cases h : v < 10
  · rw [natOf_small h]; simp
  · rw [natOf_big h]; simp

theorem head_app {a b : List UInt8} (h : a ≠ []) : (a ++ b).head? = a.head? := by
  cases a with
  | nil => exact absurd rfl h
  | cons _ _ => rfl

/-- No needless nought ahead. -/
def Canon (l : List UInt8) : Prop := l ≠ [] ∧ (l.length = 1 ∨ l.head? ≠ some 48)

theorem pos_of_head {l : List UInt8} (h : Digs l) (hn : l ≠ []) (hh : l.head? ≠ some 48) : 10 ^ (l.length - 1) ≤ val l := by
  cases l with
  | nil => exact absurd rfl hn
  | cons b l =>
    have h1 : dv b ≠ 0 := by
      intro e
      apply hh
      have hb := h.cons.1
      unfold IsD at hb
      unfold dv at e
      rw [List.head?_cons]
      congr 1
      apply UInt8.toNat_inj.1
      show b.toNat = 48
      omega
    rw [val_cons, List.length_cons, Nat.add_sub_cancel]
    have h3 : 1 * 10 ^ l.length ≤ dv b * 10 ^ l.length := Nat.mul_le_mul_right _ (by omega)
    omega

theorem natOf_val : ∀ (n : Nat) (l : List UInt8), l.length = n → Digs l → Canon l → natOf (val l) = l := by
  intro n
  induction n with
  | zero => intro l hl _ hc; exact absurd (List.eq_nil_of_length_eq_zero hl) hc.1
  | succ n ih =>
    intro l hl hd hc
    obtain ⟨l', b, rfl⟩ : ∃ l' b, l = l' ++ [b] := ⟨l.dropLast, l.getLast hc.1, (List.dropLast_concat_getLast hc.1).symm⟩
    have hb : IsD b := hd b (by simp)
    have hd' : Digs l' := fun c hc => hd c (by simp [hc])
    have h2 := dv_lt hb
    rw [val_snoc]
    by_cases h0 : l' = []
    · subst h0
      rw [val_nil, natOf_small (by omega)]
      simp [dig_dv hb]
    · have hh : l'.head? ≠ some 48 := by
        rcases hc.2 with h | h
        · have := List.length_pos_iff.2 h0
          simp at h; exact absurd h h0
        · rwa [head_app h0] at h
      have hp := pos_of_head hd' h0 hh
      have hp2 : 1 ≤ 10 ^ (l'.length - 1) := Nat.pow_pos (by omega)
      have ihh := ih l' (by simp at hl; omega) hd' ⟨h0, .inr hh⟩
      rw [natOf_big (by omega), show (10 * val l' + dv b) / 10 = val l' by omega, show (10 * val l' + dv b) % 10 = dv b by omega, ihh, dig_dv hb]

theorem canon_eq {l : List UInt8} (hd : Digs l) (hc : Canon l) : natOf (val l) = l := natOf_val _ l rfl hd hc

theorem natOf_head : ∀ v, 1 ≤ v → (natOf v).head? ≠ some 48 := by
  intro v
  induction v using Nat.strongRecOn with
  | _ v ih =>
    intro hv
    by_cases h : v < 10
    · rw [natOf_small h]
      intro e
      have e1 := dig_toNat h
      simp at e
      rw [e] at e1
      have : (48 : UInt8).toNat = 48 := rfl
      omega
    · rw [natOf_big h, head_app (natOf_ne _)]
      exact ih (v / 10) (by omega) (by omega)
theorem natOf_canon (v : Nat) : Canon (natOf v) := by
  refine ⟨natOf_ne v, ?_⟩
  by_cases h : v < 10
  · left; rw [natOf_small h]; rfl
  · right; exact natOf_head v (by omega)

/-- A row of digits without needless noughts ahead. -/
def trim : List UInt8 → List UInt8
  | [] => [48]
  | [b] => [b]
  | b :: c :: l => if b = 48 then trim (c :: l) else b :: c :: l

theorem trim_ok : ∀ (l : List UInt8), Digs l → Digs (trim l) ∧ Canon (trim l) ∧ val (trim l) = val l
  | [], _ => ⟨digs_one ⟨by decide, by decide⟩, ⟨by simp [trim], .inl rfl⟩, rfl⟩
  | [b], h => ⟨h, ⟨by simp [trim], .inl rfl⟩, rfl⟩
  | b :: c :: l, h => by
    by_cases hb : b = 48
    · have ih := trim_ok (c :: l) h.cons.2
      have e : trim (b :: c :: l) = trim (c :: l) := by rw [trim, if_pos hb]
      rw [e]
      refine ⟨ih.1, ih.2.1, ?_⟩
      rw [ih.2.2, val_cons b, hb]
      simp [dv]
    · have e : trim (b :: c :: l) = b :: c :: l := by rw [trim, if_neg hb]
      rw [e]
      exact ⟨h, ⟨by simp, .inr (by simpa using hb)⟩, rfl⟩
theorem trim_eq {l : List UInt8} (h : Digs l) : trim l = natOf (val l) := by
  obtain ⟨h1, h2, h3⟩ := trim_ok l h
  rw [← h3, canon_eq h1 h2]

/-- Digits by place from the end. -/
def digAt (l : List UInt8) (k : Nat) : Nat := if k < l.length then dv (l.getD (l.length - 1 - k) 0) else 0
/-- The number of the last k digits. -/
def low (l : List UInt8) (k : Nat) : Nat := val (l.drop (l.length - k))
theorem low_zero (l : List UInt8) : low l 0 = 0 := by simp [low, val]
theorem low_all {l : List UInt8} {k : Nat} (h : l.length ≤ k) : low l k = val l := by unfold low; rw [show l.length - k = 0 by omega]; simp
theorem low_succ (l : List UInt8) (k : Nat) : low l (k + 1) = digAt l k * 10 ^ k + low l k := by
  unfold low digAt
  by_cases h : k < l.length
  · rw [if_pos h]
    have h1 : l.length - (k + 1) < l.length := by omega
    rw [List.drop_eq_getElem_cons h1, show l.length - (k + 1) + 1 = l.length - k by omega, val_cons, List.length_drop, show l.length - (l.length - k) = k by omega]
    congr 3
    simp [List.getD, show l.length - 1 - k = l.length - (k + 1) by omega, h1]
  · rw [if_neg h, show l.length - (k + 1) = 0 by omega, show l.length - k = 0 by omega]
    simp
theorem digAt_lt {l : List UInt8} (h : Digs l) (k : Nat) : digAt l k < 10 := by
  unfold digAt
  split
  · rename_i hk
    have : l.length - 1 - k < l.length := by omega
    simp only [List.getD, List.getElem?_eq_getElem this, Option.getD_some]
    exact dv_lt (h _ (List.getElem_mem _))
  · omega
theorem low_lt {l : List UInt8} (h : Digs l) (k : Nat) : low l k < 10 ^ k := by
  induction k with
  | zero => rw [low_zero]; simp
  | succ k ih =>
    rw [low_succ, Nat.pow_succ]
    have h2 := digAt_lt h k
    have h3 : digAt l k * 10 ^ k ≤ 9 * 10 ^ k := Nat.mul_le_mul_right _ (by omega)
    omega

/-- The weighted sum of a row, least place first. -/
def wsum : List Nat → Nat
  | [] => 0
  | x :: l => x + 10 * wsum l
theorem wsum_set : ∀ (l : List Nat) (m v : Nat), (h : m < l.length) → wsum (l.set m (l[m] + v)) = wsum l + v * 10 ^ m
  | x :: l, 0, v, _ => by simp [wsum]; omega
  | x :: l, m + 1, v, h => by
    have h' : m < l.length := by simpa using h
    have ih := wsum_set l m v h'
    simp only [List.set_cons_succ, List.getElem_cons_succ, wsum, ih, Nat.pow_succ]
    rw [Nat.mul_add, ← Nat.add_assoc]
    congr 1
    rw [Nat.mul_comm 10, Nat.mul_assoc]
theorem wsum_zero (n : Nat) : wsum (List.replicate n 0) = 0 := by
  induction n with
  | zero => rfl
  | succ n ih => rw [List.replicate_succ, wsum, ih]
theorem wsum_snoc (l : List Nat) (x : Nat) : wsum (l ++ [x]) = wsum l + x * 10 ^ l.length := by
  induction l with
  | nil => simp [wsum]
  | cons y l ih =>
    rw [List.cons_append, wsum, ih, wsum, List.length_cons, Nat.pow_succ, Nat.mul_add, ← Nat.add_assoc]
    congr 1
    rw [Nat.mul_comm 10, Nat.mul_assoc]

/-- Held against each other: by length, then by digits. -/
theorem canon_len_lt {a b : List UInt8} (ha : Digs a) (hb : Digs b) (cb : Canon b) (h : a.length < b.length) (h0 : a ≠ []) : val a < val b := by
  have h1 := val_lt ha
  have hb1 : b.head? ≠ some 48 := by
    rcases cb.2 with h2 | h2
    · have := List.length_pos_iff.2 h0; omega
    · exact h2
  have h2 := pos_of_head hb cb.1 hb1
  have h3 : 10 ^ a.length ≤ 10 ^ (b.length - 1) := Nat.pow_le_pow_right (by omega) (by omega)
  omega
theorem same_len_lt : ∀ {a b : List UInt8}, Digs a → Digs b → a.length = b.length → (val a < val b ↔ a < b)
  | [], [], _, _, _ => by simp [val]
  | [], _ :: _, _, _, h => by simp at h
  | _ :: _, [], _, _, h => by simp at h
  | x :: a, y :: b, ha, hb, h => by
    have hl : a.length = b.length := by simpa using h
    have ih := same_len_lt ha.cons.2 hb.cons.2 hl
    have h1 := val_lt ha.cons.2
    have h2 := val_lt hb.cons.2
    have dx := ha.cons.1
    have dy := hb.cons.1
    rw [val_cons, val_cons, List.cons_lt_cons_iff, ← ih, hl]
    rw [hl] at h1
    have exy : (x < y ↔ dv x < dv y) ∧ (x = y ↔ dv x = dv y) := by
      unfold IsD at dx dy
      unfold dv
      constructor
      · rw [UInt8.lt_iff_toNat_lt]; omega
      · rw [← UInt8.toNat_inj]; omega
    rw [exy.1, exy.2]
    generalize dv x = p
    generalize dv y = q
    generalize 10 ^ b.length = T at *
    constructor
    · intro hlt
      rcases Nat.lt_trichotomy p q with h3 | h3 | h3
      · exact .inl h3
      · subst h3; exact .inr ⟨rfl, by omega⟩
      · exfalso
        have : (q + 1) * T ≤ p * T := Nat.mul_le_mul_right _ h3
        rw [Nat.add_mul] at this
        omega
    · rintro (h3 | ⟨rfl, h3⟩)
      · have : (p + 1) * T ≤ q * T := Nat.mul_le_mul_right _ h3
        rw [Nat.add_mul] at this
        omega
      · omega

theorem less_iff : ∀ (a b : List UInt8), Op.bytesLess a b = true ↔ a < b
  | [], [] => by simp [Op.bytesLess]
  | _ :: _, [] => by simp [Op.bytesLess]
  | [], _ :: _ => by simp [Op.bytesLess]
  | x :: a, y :: b => by
    rw [List.cons_lt_cons_iff, ← less_iff a b]
    simp [Op.bytesLess]

/-- Two numbers' digits, held against each other. -/
theorem held_facts (a b : Nat) :
    (a < b → (natOf a).length < (natOf b).length ∨ ((natOf a).length = (natOf b).length ∧ Op.bytesLess (natOf a) (natOf b) = true)) ∧
    (b < a → (natOf b).length < (natOf a).length ∨ ((natOf a).length = (natOf b).length ∧ Op.bytesLess (natOf a) (natOf b) = false)) ∧
    (natOf a = natOf b → a = b) ∧ Op.bytesLess (natOf a) (natOf a) = false := by
  have ha := val_natOf a
  have hb := val_natOf b
  have len : ∀ x y, (natOf x).length < (natOf y).length → x < y := fun x y h => by
    have := canon_len_lt (natOf_digs x) (natOf_digs y) (natOf_canon y) h (natOf_ne x)
    rwa [val_natOf, val_natOf] at this
  have eql : ∀ x y, (natOf x).length = (natOf y).length → (Op.bytesLess (natOf x) (natOf y) = true ↔ x < y) := fun x y h => by
    have := same_len_lt (natOf_digs x) (natOf_digs y) h
    rw [val_natOf, val_natOf] at this
    rw [less_iff]; exact this.symm
  refine ⟨fun h => ?_, fun h => ?_, fun h => by rw [← ha, h, hb], ?_⟩
  · rcases Nat.lt_trichotomy (natOf a).length (natOf b).length with h1 | h1 | h1
    · exact .inl h1
    · exact .inr ⟨h1, (eql a b h1).2 h⟩
    · exact absurd (len b a h1) (by omega)
  · rcases Nat.lt_trichotomy (natOf a).length (natOf b).length with h1 | h1 | h1
    · exact absurd (len a b h1) (by omega)
    · refine .inr ⟨h1, ?_⟩
      rw [← Bool.not_eq_true, eql a b h1]; omega
    · exact .inl h1
  · rw [← Bool.not_eq_true, eql a a rfl]; omega

end Go.Proofs.YthijeckcjfnbcaaGreatDoor
