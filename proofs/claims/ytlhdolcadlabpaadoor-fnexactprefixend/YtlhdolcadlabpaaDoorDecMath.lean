/- Plain mathematics of chapter 3: a decimal as sign, digits, power of ten; normalizing. No program in it. Prepared ahead of the code. -/
import Derived.Test.YtlhdolcadlabpaaDoorSpecNat8
namespace Go.Proofs.YtlhdolcadlabpaaDoor
set_option linter.unusedVariables false

/-- The last digit of a number's digits, and the digits ahead of it. -/
theorem natOf_last (v : Nat) : (natOf v).getLast? = some (dig (v % 10)) := by
  by_cases h : v < 10
  · rw [natOf_small h, Nat.mod_eq_of_lt h]; rfl
  · rw [natOf_big h]; simp
theorem natOf_init {v : Nat} (h : ¬ v < 10) : (natOf v).dropLast = natOf (v / 10) := by rw [natOf_big h]; simp
theorem dig_zero_iff {d : Nat} (h : d < 10) : dig d = 48 ↔ d = 0 := by
  constructor
  · intro e
    have := dig_toNat h
    rw [e] at this
    have h2 : (48 : UInt8).toNat = 48 := rfl
    omega
  · intro e; subst e; rfl

/-- A number without the noughts at its end, and how many there were. -/
def strip (v : Nat) : Nat × Nat := if h : v ≠ 0 ∧ v % 10 = 0 then ((strip (v / 10)).1, (strip (v / 10)).2 + 1) else (v, 0)
termination_by v
decreasing_by all_goals omega

theorem strip_stop {v : Nat} (h : v % 10 ≠ 0) : strip v = (v, 0) := by rw [strip, dif_neg (fun g => h g.2)]
theorem strip_step {v : Nat} (h0 : v ≠ 0) (h : v % 10 = 0) : strip v = ((strip (v / 10)).1, (strip (v / 10)).2 + 1) := by rw [strip, dif_pos ⟨h0, h⟩]
theorem strip_ok : ∀ v : Nat, v ≠ 0 → (strip v).1 % 10 ≠ 0 ∧ (strip v).1 ≠ 0 ∧ v = (strip v).1 * 10 ^ (strip v).2 := by
  intro v
  induction v using Nat.strongRecOn with
  | _ v ih =>
    intro h0
    by_cases h : v % 10 = 0
    · have hq : v / 10 ≠ 0 := by omega
      obtain ⟨a, b, c⟩ := ih (v / 10) (by omega) hq
      rw [strip_step h0 h]
      refine ⟨a, b, ?_⟩
      show v = (strip (v / 10)).1 * 10 ^ ((strip (v / 10)).2 + 1)
      rw [Nat.pow_succ, ← Nat.mul_assoc, ← c]
      omega
    · rw [strip_stop h]
      exact ⟨h, h0, by simp⟩

/-- A decimal: sign, digits, power of ten. -/
structure DecV where
  neg : Bool
  dig : List UInt8
  exp : Int
def DecV.zero : DecV := ⟨false, [], 0⟩
/-- Valid: 0, or 1 to 20 digits, neither the first nor the last a nought, the magnitude in -99..99. -/
def DecV.Ok (d : DecV) : Prop :=
  d = DecV.zero ∨ (Digs d.dig ∧ 1 ≤ d.dig.length ∧ d.dig.length ≤ 20 ∧ d.dig.head? ≠ some 48 ∧ d.dig.getLast? ≠ some 48 ∧ -99 ≤ d.exp + d.dig.length - 1 ∧ d.exp + d.dig.length - 1 ≤ 99)

/-- How many digits are too many. -/
def over (v : Nat) : Nat := (natOf v).length - 20
/-- v times a power of ten, normalized: the decimal and the code (0: as it is; 1: too great). -/
def formOf (neg : Bool) (v : Nat) (e : Int) : DecV × Int :=
  if v = 0 then (DecV.zero, 0)
  else
    let s := strip (rnd v (over v))
    let x := e + over v + s.2
    let height := x + (natOf s.1).length - 1
    if 99 < height then (DecV.zero, 1) else if height < -99 then (DecV.zero, 0) else (⟨neg, natOf s.1, x⟩, 0)

theorem rnd_zero (v : Nat) : rnd v 0 = v := by
  unfold rnd
  rw [if_neg (by simp; omega)]; simp
theorem form_zero (neg : Bool) (e : Int) : formOf neg 0 e = (DecV.zero, 0) := by unfold formOf; rw [if_pos rfl]

theorem rnd_le (v n : Nat) : v / 10 ^ n ≤ rnd v n ∧ rnd v n ≤ v / 10 ^ n + 1 := by
  unfold rnd
  split <;> omega
theorem natOf_len_lt {x k : Nat} (h : x < 10 ^ k) (hx : x ≠ 0) : (natOf x).length ≤ k := by
  have h1 := pos_of_head (natOf_digs x) (natOf_ne x) (natOf_head x (by omega))
  rw [val_natOf] at h1
  have h2 := (Nat.pow_lt_pow_iff_right (a := 10) (by omega)).1 (Nat.lt_of_le_of_lt h1 h)
  omega
/-- Rounded to 20 digits: not 0, at most 10^20. -/
theorem rnd_over {v : Nat} (h : v ≠ 0) : rnd v (over v) ≠ 0 ∧ rnd v (over v) ≤ 10 ^ 20 := by
  have hlt : v < 10 ^ (natOf v).length := by have := val_lt (natOf_digs v); rwa [val_natOf] at this
  have hge := pos_of_head (natOf_digs v) (natOf_ne v) (natOf_head v (by omega))
  rw [val_natOf] at hge
  by_cases hl : (natOf v).length ≤ 20
  · have e : over v = 0 := by unfold over; omega
    rw [e, rnd_zero]
    have : 10 ^ (natOf v).length ≤ 10 ^ 20 := Nat.pow_le_pow_right (by omega) hl
    exact ⟨h, by omega⟩
  · obtain ⟨n, hn⟩ : ∃ n, over v = n := ⟨_, rfl⟩
    have hL : (natOf v).length = 20 + n := by unfold over at hn; omega
    have hp : 0 < 10 ^ n := Nat.pow_pos (by omega)
    rw [hn]
    obtain ⟨a, b⟩ := rnd_le v n
    rw [hL, Nat.pow_add] at hlt
    rw [hL, show 20 + n - 1 = 19 + n by omega, Nat.pow_add] at hge
    have h1 : v / 10 ^ n < 10 ^ 20 := by rw [Nat.div_lt_iff_lt_mul hp]; exact hlt
    have h2 : 10 ^ 19 ≤ v / 10 ^ n := by rw [Nat.le_div_iff_mul_le hp]; exact hge
    have h3 : 0 < 10 ^ 19 := Nat.pow_pos (by omega)
    exact ⟨by omega, by omega⟩
/-- What normalizing answers is valid. -/
theorem form_ok (neg : Bool) (v : Nat) (e : Int) : (formOf neg v e).1.Ok := by
  unfold formOf
  split
  · exact .inl rfl
  · next hv =>
    obtain ⟨r0, r1⟩ := rnd_over hv
    obtain ⟨s0, s1, s2⟩ := strip_ok _ r0
    generalize strip (rnd v (over v)) = s at *
    have hlt : s.1 < 10 ^ 20 := by
      rcases Nat.eq_zero_or_pos s.2 with hk | hk
      · rw [hk, Nat.pow_zero, Nat.mul_one] at s2
        rcases Nat.lt_or_ge s.1 (10 ^ 20) with h | h
        · exact h
        · have : s.1 = 10 ^ 20 := by omega
          exact absurd (by rw [this]) s0
      · obtain ⟨k, hk2⟩ : ∃ k, s.2 = k + 1 := ⟨s.2 - 1, by omega⟩
        rw [hk2, Nat.pow_succ] at s2
        have hp : 1 ≤ 10 ^ k := Nat.pow_pos (by omega)
        have h1 : s.1 * 1 ≤ s.1 * 10 ^ k := Nat.mul_le_mul_left _ hp
        have h2 : s.1 * (10 ^ k * 10) = s.1 * 10 ^ k * 10 := by rw [Nat.mul_assoc]
        omega
    have hlen := natOf_len_lt hlt s1
    dsimp only
    split
    · exact .inl rfl
    · split
      · exact .inl rfl
      · refine .inr ⟨natOf_digs _, List.length_pos_iff.2 (natOf_ne _), hlen, natOf_head _ (by omega), ?_, by show (-99 : Int) ≤ e + over v + s.2 + (natOf s.1).length - 1; omega, by show e + over v + s.2 + (natOf s.1).length - 1 ≤ (99 : Int); omega⟩
        show (natOf s.1).getLast? ≠ some 48
        rw [natOf_last]
        intro e
        exact s0 ((dig_zero_iff (Nat.mod_lt _ (by omega))).1 (Option.some.inj e))

end Go.Proofs.YtlhdolcadlabpaaDoor
