/- The reading of a number's text, plainly. No program in it. -/
import Derived.Test.YtlhdolcadlabpaaDoorDecPlain
namespace Go.Proofs.YtlhdolcadlabpaaDoor
set_option linter.unusedVariables false

def isDig (b : UInt8) : Bool := decide (48 ≤ b.toNat ∧ b.toNat ≤ 57)
theorem isDig_iff {b : UInt8} : isDig b = true ↔ IsD b := by unfold isDig IsD; simp
/-- The digits ahead, and what is behind them. -/
def tW (l : List UInt8) : List UInt8 := l.takeWhile isDig
def dW (l : List UInt8) : List UInt8 := l.dropWhile isDig
theorem tdW (l : List UInt8) : tW l ++ dW l = l := List.takeWhile_append_dropWhile
theorem tW_digs : ∀ l : List UInt8, Digs (tW l)
  | [] => digs_nil
  | b :: l => by
    unfold tW
    by_cases h : isDig b = true
    · rw [List.takeWhile_cons_of_pos h]
      intro c hc
      rcases List.mem_cons.1 hc with rfl | hc
      · exact isDig_iff.1 h
      · exact tW_digs l c hc
    · rw [List.takeWhile_cons_of_neg h]; exact digs_nil
theorem digSet (b : UInt8) : [48, 49, 50, 51, 52, 53, 54, 55, 56, 57].contains b = isDig b := by
  rw [Bool.eq_iff_iff, isDig_iff]
  unfold IsD
  simp only [List.contains_eq_mem, decide_eq_true_eq, List.mem_cons, List.not_mem_nil, or_false]
  have e : ∀ k : Nat, k < 256 → (b = UInt8.ofNat k ↔ b.toNat = k) := fun k hk => ⟨fun h => by rw [h]; simp; omega, fun h => by rw [← h]; simp⟩
  have e0 := e 48 (by omega)
  have e1 := e 49 (by omega)
  have e2 := e 50 (by omega)
  have e3 := e 51 (by omega)
  have e4 := e 52 (by omega)
  have e5 := e 53 (by omega)
  have e6 := e 54 (by omega)
  have e7 := e 55 (by omega)
  have e8 := e 56 (by omega)
  have e9 := e 57 (by omega)
  change (b = 48 ↔ _) at e0
  change (b = 49 ↔ _) at e1
  change (b = 50 ↔ _) at e2
  change (b = 51 ↔ _) at e3
  change (b = 52 ↔ _) at e4
  change (b = 53 ↔ _) at e5
  change (b = 54 ↔ _) at e6
  change (b = 55 ↔ _) at e7
  change (b = 56 ↔ _) at e8
  change (b = 57 ↔ _) at e9
  rw [e0, e1, e2, e3, e4, e5, e6, e7, e8, e9]
  omega
theorem len_tW (l : List UInt8) : (tW l).length + (dW l).length = l.length := by rw [← List.length_append, tdW]

/-- A sign ahead of a text, and the rest. -/
def cutR : List UInt8 → Bool × List UInt8
  | [] => (false, [])
  | b :: r => if b = 43 ∨ b = 45 then (decide (b = 45), r) else (false, b :: r)
theorem cutR_cons (b : UInt8) (r : List UInt8) : cutR (b :: r) = if b = 43 ∨ b = 45 then (decide (b = 45), r) else (false, b :: r) := rfl
theorem cutR_len (l : List UInt8) : (cutR l).2.length ≤ l.length := by
  cases l with
  | nil => simp [cutR]
  | cons b r =>
    rw [cutR_cons]
    split <;> simp
/-- The exponent: nothing behind the digits, or e, a sign, digits. -/
def expOf : List UInt8 → Option Int
  | [] => some 0
  | c :: t => if c = 101 ∨ c = 69 then (if tW (cutR t).2 = [] ∨ dW (cutR t).2 ≠ [] then none else some (if (cutR t).1 then -((min (val (tW (cutR t).2)) 9999 : Nat) : Int) else ((min (val (tW (cutR t).2)) 9999 : Nat) : Int))) else none
theorem expOf_cons (c : UInt8) (t : List UInt8) : expOf (c :: t) = if c = 101 ∨ c = 69 then (if tW (cutR t).2 = [] ∨ dW (cutR t).2 ≠ [] then none else some (if (cutR t).1 then -((min (val (tW (cutR t).2)) 9999 : Nat) : Int) else ((min (val (tW (cutR t).2)) 9999 : Nat) : Int))) else none := rfl
/-- The fraction's digits, and what is behind them. -/
def frac : List UInt8 → List UInt8 × List UInt8
  | [] => ([], [])
  | c :: t => if c = 46 then (tW t, dW t) else ([], c :: t)
theorem frac_cons (c : UInt8) (t : List UInt8) : frac (c :: t) = if c = 46 then (tW t, dW t) else ([], c :: t) := rfl
/-- The number of a sign, digits ahead of the period and behind it, and an exponent that may be none. -/
def readX (o : Option Int) (neg : Bool) (W F : List UInt8) : DecV × Int := match o with
  | none => (DecV.zero, 3)
  | some x => if W = [] ∧ F = [] then (DecV.zero, 3) else formOf neg (val (W ++ F)) (x - F.length)
def readR (l : List UInt8) : DecV × Int :=
  if 1000 < l.length then (DecV.zero, 3) else readX (expOf (frac (dW (cutR l).2)).2) (cutR l).1 (tW (cutR l).2) (frac (dW (cutR l).2)).1
theorem readX_none (neg : Bool) (W F : List UInt8) : readX none neg W F = (DecV.zero, 3) := rfl
theorem readX_some (x : Int) (neg : Bool) (W F : List UInt8) : readX (some x) neg W F = if W = [] ∧ F = [] then (DecV.zero, 3) else formOf neg (val (W ++ F)) (x - F.length) := rfl
theorem frac_len (l : List UInt8) : (frac l).1.length + (frac l).2.length ≤ l.length := by
  cases l with
  | nil => simp [frac]
  | cons c t =>
    rw [frac_cons]
    split
    · have := len_tW t; simp; omega
    · simp
theorem frac_digs (l : List UInt8) : Digs (frac l).1 := by
  cases l with
  | nil => exact digs_nil
  | cons c t =>
    rw [frac_cons]
    split
    · exact tW_digs t
    · exact digs_nil
theorem exp_bound {l : List UInt8} {x : Int} (h : expOf l = some x) : -9999 ≤ x ∧ x ≤ 9999 := by
  cases l with
  | nil =>
    have : (0 : Int) = x := Option.some.inj h
    omega
  | cons c t =>
    rw [expOf_cons] at h
    split at h
    · split at h
      · cases h
      · have := Option.some.inj h
        rw [← this]
        split <;> omega
    · cases h

end Go.Proofs.YtlhdolcadlabpaaDoor
