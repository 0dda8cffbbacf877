/- Plain mathematics of chapter 3: a valid decimal is its own normal form; products, quotients, remainders, powers and whole parts of decimals, plainly. No program in it. -/
import Derived.Test.YthijeckcjfnbcaaGreatDoorDecMathA
namespace Go.Proofs.YthijeckcjfnbcaaGreatDoor
set_option linter.unusedVariables false

theorem val_last_mod {l : List UInt8} {b : UInt8} (h : Digs (l ++ [b])) : val (l ++ [b]) % 10 = dv b := by
  have hb := dv_lt (h b (by simp))
  rw [val_snoc]; omega
/-- A valid decimal is its own normal form. -/
theorem form_self {d : DecV} (h : d.Ok) : formOf d.neg (val d.dig) d.exp = (d, 0) := by
  by_cases hn : d.dig = []
  · have e := h.nil hn
    subst e
    exact form_zero _ _
  · obtain ⟨p1, p2, p3⟩ := h.pos hn
    have hd := h.digs
    have hc : natOf (val d.dig) = d.dig := canon_eq hd ⟨hn, .inr p2⟩
    have hl := h.len
    have ho : over (val d.dig) = 0 := by unfold over; rw [hc]; omega
    have hm : val d.dig % 10 ≠ 0 := by
      obtain ⟨m, b, e⟩ : ∃ m b, d.dig = m ++ [b] := ⟨_, _, (List.dropLast_concat_getLast hn).symm⟩
      rw [e] at hd p3 ⊢
      rw [val_last_mod hd]
      intro h0
      apply p3
      have hb := hd b (by simp)
      have := dig_dv hb
      rw [h0] at this
      simp only [List.getLast?_append, List.getLast?_singleton, Option.some_or]
      rw [← this]; rfl
    unfold formOf
    rw [if_neg (by omega), ho, rnd_zero, strip_stop hm]
    dsimp only
    rw [hc]
    rcases h with e | ⟨_, _, _, _, _, q1, q2⟩
    · rw [e] at hn; exact absurd rfl hn
    · rw [if_neg (by omega), if_neg (by omega)]
      have : d.exp + ((0 : Nat) : Int) + ((0 : Nat) : Int) = d.exp := by omega
      rw [this]
theorem form_code (neg : Bool) (v : Nat) (e : Int) : (formOf neg v e).2 = 0 ∨ formOf neg v e = (DecV.zero, 1) := by
  unfold formOf
  split
  · exact .inl rfl
  · dsimp only
    split
    · exact .inr rfl
    · split <;> exact .inl rfl

/-- The whole part of a valid decimal. -/
def intOfD (d : DecV) : DecV := if 0 ≤ d.exp then d else (formOf d.neg (val (d.dig.take (d.dig.length + d.exp).toNat)) 0).1
/-- A quotient, its divisor not 0: 40 noughts behind the dividend. -/
def divV (a b : DecV) : DecV × Int :=
  formOf (a.neg != b.neg) (if val a.dig * 10 ^ 40 % val b.dig = 0 then val a.dig * 10 ^ 40 / val b.dig else 10 * (val a.dig * 10 ^ 40 / val b.dig) + 1)
    (if val a.dig * 10 ^ 40 % val b.dig = 0 then a.exp - b.exp - 40 else a.exp - b.exp - 40 - 1)
theorem divV_more {a b : DecV} (hb : b.Ok) (hn : b.dig ≠ []) :
    formOf (a.neg != b.neg) (if val a.dig * 10 ^ 42 % val b.dig = 0 then val a.dig * 10 ^ 42 / val b.dig else 10 * (val a.dig * 10 ^ 42 / val b.dig) + 1)
      (if val a.dig * 10 ^ 42 % val b.dig = 0 then a.exp - b.exp - 42 else a.exp - b.exp - 42 - 1) = divV a b := by
  have hp := (hb.pos hn).1
  have hk : 10 ^ 20 * val b.dig ≤ 10 ^ 40 := by
    have h1 := val_lt hb.digs
    have h2 : 10 ^ b.dig.length ≤ 10 ^ 20 := Nat.pow_le_pow_right (by omega) hb.len
    have h3 : 10 ^ 20 * val b.dig ≤ 10 ^ 20 * 10 ^ 20 := Nat.mul_le_mul_left _ (by omega)
    rwa [← Nat.pow_add] at h3
  have := form_div (a.neg != b.neg) (val a.dig) (val b.dig) 40 (a.exp - b.exp) hp hk
  unfold divV
  rw [← show (a.exp - b.exp - ((40 : Nat) : Int)) = a.exp - b.exp - 40 by omega, ← this]
  rw [show a.exp - b.exp - ((40 : Nat) : Int) - 2 = a.exp - b.exp - 42 by omega]
def modV (a b : DecV) : DecV × Int := formOf a.neg (lev a (low2 a b) % lev b (low2 a b)) (low2 a b)

end Go.Proofs.YthijeckcjfnbcaaGreatDoor
