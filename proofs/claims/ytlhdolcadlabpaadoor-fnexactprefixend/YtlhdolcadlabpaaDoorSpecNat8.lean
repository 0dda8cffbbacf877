/- Plain mathematics for spec.l02Round: head and tail of a number's digits, half a step, rounding. No program in it. -/
import Derived.Test.YtlhdolcadlabpaaDoorSpecNat7
namespace Go.Proofs.YtlhdolcadlabpaaDoor
set_option linter.unusedVariables false
open Go.RowKit
open Go.Lib (byteCells)

/-- A number without its last n digits, rounded half to even. -/
def rnd (v n : Nat) : Nat := if 10 ^ n < 2 * (v % 10 ^ n) ∨ 2 * (v % 10 ^ n) = 10 ^ n ∧ v / 10 ^ n % 2 = 1 then v / 10 ^ n + 1 else v / 10 ^ n

theorem same_len_eq : ∀ {a b : List UInt8}, Digs a → Digs b → a.length = b.length → val a = val b → a = b
  | [], [], _, _, _, _ => rfl
  | [], _ :: _, _, _, h, _ => by simp at h
  | _ :: _, [], _, _, h, _ => by simp at h
  | x :: a, y :: b, ha, hb, h, hv => by
    have hl : a.length = b.length := by simpa using h
    have h1 := val_lt ha.cons.2
    have h2 := val_lt hb.cons.2
    rw [val_cons, val_cons, hl] at hv
    rw [hl] at h1
    have hp : dv x = dv y := by
      rcases Nat.lt_trichotomy (dv x) (dv y) with h3 | h3 | h3
      · have : (dv x + 1) * 10 ^ b.length ≤ dv y * 10 ^ b.length := Nat.mul_le_mul_right _ h3
        rw [Nat.add_mul] at this
        omega
      · exact h3
      · have : (dv y + 1) * 10 ^ b.length ≤ dv x * 10 ^ b.length := Nat.mul_le_mul_right _ h3
        rw [Nat.add_mul] at this
        omega
    have hxy : x = y := by rw [← dig_dv ha.cons.1, ← dig_dv hb.cons.1, hp]
    rw [hp] at hv
    rw [hxy, same_len_eq ha.cons.2 hb.cons.2 hl (by omega)]

/-- The parts of a number's digits behind noughts: the head tells the quotient, the tail the rest. -/
theorem parts_of {l : List UInt8} (hd : Digs l) (n : Nat) :
    let L := List.replicate n (48 : UInt8) ++ l
    Digs (L.take l.length) ∧ Digs (L.drop l.length) ∧ (L.drop l.length).length = n ∧ val (L.take l.length) = val l / 10 ^ n ∧ val (L.drop l.length) = val l % 10 ^ n := by
  intro L
  have hL : Digs L := (val_zeros n).2.append hd
  have hv : val L = val l := by show val (List.replicate n 48 ++ l) = _; rw [val_append, (val_zeros n).1]; omega
  have h1 : Digs (L.take l.length) := fun b hb => hL b (List.mem_of_mem_take hb)
  have h2 : Digs (L.drop l.length) := fun b hb => hL b (List.mem_of_mem_drop hb)
  have h3 : (L.drop l.length).length = n := by show ((List.replicate n (48 : UInt8) ++ l).drop l.length).length = n; simp
  have h4 := val_lt h2
  rw [h3] at h4
  have h5 : val l = val (L.take l.length) * 10 ^ n + val (L.drop l.length) := by
    rw [← hv, ← h3, ← val_append, List.take_append_drop]
  have hp : 0 < 10 ^ n := Nat.pow_pos (by omega)
  refine ⟨h1, h2, h3, ?_, ?_⟩
  · rw [h5, Nat.add_comm, Nat.add_mul_div_right _ _ hp, Nat.div_eq_of_lt h4]; omega
  · rw [h5, Nat.add_comm, Nat.add_mul_mod_self_right, Nat.mod_eq_of_lt h4]

theorem half_val (n : Nat) : val (53 :: List.replicate n 48) = 5 * 10 ^ n ∧ Digs (53 :: List.replicate n (48 : UInt8)) ∧ (53 :: List.replicate n (48 : UInt8)).length = n + 1 := by
  refine ⟨by rw [val_cons, (val_zeros n).1, List.length_replicate]; rfl, fun b hb => ?_, by simp⟩
  rcases List.mem_cons.1 hb with rfl | hb
  · exact ⟨by decide, by decide⟩
  · exact (val_zeros n).2 b hb


end Go.Proofs.YtlhdolcadlabpaaDoor
