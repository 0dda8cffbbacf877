/- A product that needs no rounding, divided by one factor, is the other one. No program in it. -/
import Derived.Test.YthijeckcjfnbcaaGreatDoorDecPlain2
namespace Go.Proofs.YthijeckcjfnbcaaGreatDoor
set_option linter.unusedVariables false

theorem form_fit (neg : Bool) {v : Nat} {e : Int} (h0 : v ≠ 0) (h : v < 10 ^ 20) (e1 : -99 ≤ e) (e2 : e ≤ 80) : ∃ s k : Nat, v = s * 10 ^ k ∧ k ≤ 20 ∧ s ≠ 0 ∧ formOf neg v e = (⟨neg, natOf s, e + k⟩, 0) := by
  obtain ⟨q1, q2, q3⟩ := strip_ok v h0
  obtain ⟨⟨s, k⟩, hs⟩ : ∃ p, strip v = p := ⟨_, rfl⟩
  rw [hs] at q1 q2 q3
  dsimp only at q1 q2 q3
  have hk : k < 20 := by
    have h1 : 10 ^ k ≤ s * 10 ^ k := Nat.le_mul_of_pos_left _ (by omega)
    exact (Nat.pow_lt_pow_iff_right (by omega : 1 < 10)).1 (by omega)
  have hsl : (natOf s).length ≤ 20 - k := by
    refine natOf_len_lt ?_ q2
    refine Nat.lt_of_mul_lt_mul_right (a := 10 ^ k) ?_
    rw [← Nat.pow_add, Nat.sub_add_cancel (by omega), ← q3]
    exact h
  have hs1 : 1 ≤ (natOf s).length := List.length_pos_iff.2 (natOf_canon s).1
  have ho : over v = 0 := by
    have := natOf_len_lt h h0
    unfold over
    omega
  refine ⟨s, k, q3, by omega, q2, ?_⟩
  unfold formOf
  rw [if_neg h0, ho, rnd_zero, hs]
  dsimp only
  rw [if_neg (by omega), if_neg (by omega)]
  have : e + ((0 : Nat) : Int) + (k : Int) = e + k := by omega
  rw [this]
theorem mul_div_back {a b : DecV} (ha : a.Ok) (hb : b.Ok) (la : a.dig.length ≤ 10) (lb : b.dig.length ≤ 10) (hbn : b.dig ≠ []) (x1 : -40 ≤ a.exp) (x2 : a.exp ≤ 30) (y1 : -40 ≤ b.exp) (y2 : b.exp ≤ 30) :
    (mulR a b).2 = 0 ∧ divR (mulR a b).1 b = (a, 0) := by
  have hvb := (hb.pos hbn).1
  have hM : mulR a b = formOf (a.neg != b.neg) (val a.dig * val b.dig) (a.exp + b.exp) := by unfold mulR; rw [if_pos ⟨ha, hb⟩]
  have hD : ∀ m : DecV, m.Ok → divR m b = divV m b := fun m hm => by unfold divR; rw [if_pos ⟨hm, hb⟩, if_neg hbn]
  have hself := form_self ha
  by_cases hn : a.dig = []
  · have e := ha.nil hn
    subst e
    have e0 : val DecV.zero.dig = 0 := rfl
    rw [hM, e0, Nat.zero_mul, form_zero]
    refine ⟨rfl, ?_⟩
    rw [hD _ (.inl rfl)]
    unfold divV
    rw [e0, Nat.zero_mul, Nat.zero_mod, if_pos rfl, Nat.zero_div, form_zero]
  · have hva := (ha.pos hn).1
    have pa : val a.dig < 10 ^ 10 := Nat.lt_of_lt_of_le (val_lt ha.digs) (Nat.pow_le_pow_right (by omega) la)
    have pb : val b.dig < 10 ^ 10 := Nat.lt_of_lt_of_le (val_lt hb.digs) (Nat.pow_le_pow_right (by omega) lb)
    have pp : val a.dig * val b.dig < 10 ^ 20 := by
      have := Nat.mul_lt_mul'' pa pb
      rwa [← Nat.pow_add] at this
    have p0 : val a.dig * val b.dig ≠ 0 := Nat.mul_ne_zero (by omega) (by omega)
    obtain ⟨s, k, f1, f2, f3, f4⟩ := form_fit (a.neg != b.neg) (e := a.exp + b.exp) p0 pp (by omega) (by omega)
    have hmo := form_ok (a.neg != b.neg) (val a.dig * val b.dig) (a.exp + b.exp)
    rw [hM]
    rw [f4] at hmo ⊢
    refine ⟨rfl, ?_⟩
    rw [hD _ hmo]
    unfold divV
    dsimp only
    rw [val_natOf]
    have key : s * 10 ^ 40 = val b.dig * (val a.dig * 10 ^ (40 - k)) := by
      have : (10 : Nat) ^ 40 = 10 ^ k * 10 ^ (40 - k) := by rw [← Nat.pow_add]; congr 1; omega
      rw [this, ← Nat.mul_assoc, ← f1, Nat.mul_comm (val a.dig), Nat.mul_assoc]
    rw [key, if_pos (Nat.mul_mod_right _ _), if_pos (Nat.mul_mod_right _ _), Nat.mul_div_cancel_left _ (by omega)]
    have hs : ((a.neg != b.neg) != b.neg) = a.neg := by cases a.neg <;> cases b.neg <;> rfl
    have he : a.exp + b.exp + (k : Int) - b.exp - 40 = a.exp - ((40 - k : Nat) : Int) := by omega
    rw [hs, he, form_scale, hself]

end Go.Proofs.YthijeckcjfnbcaaGreatDoor
