/- The scan of a whole text, and the reading: when the scan takes all, the exponent is there and there are digits. No program in it. -/
import Derived.Test.YtlhdolcadlabpaaDoorSpecDec18
namespace Go.Proofs.YtlhdolcadlabpaaDoor
set_option linter.unusedVariables false

theorem scanE_all {l : List UInt8} {L : Nat} (hl : l.length ≤ L) (hL : 1 ≤ L) : scanE L (L - l.length) l = L ↔ expOf l ≠ none := by
  cases l with
  | nil => simp [scanE, expOf]
  | cons c t =>
    have e1 : scanE L (L - (c :: t).length) (c :: t) = if c = 101 ∨ c = 69 then (if tW (cutR t).2 = [] then L - (c :: t).length else L - (dW (cutR t).2).length) else L - (c :: t).length := rfl
    rw [e1, expOf_cons]
    have h1 : (c :: t).length = t.length + 1 := rfl
    rw [h1] at hl ⊢
    have h2 := cutR_len t
    have h3 := len_tW (cutR t).2
    by_cases g : c = 101 ∨ c = 69
    · rw [if_pos g, if_pos g]
      by_cases g2 : tW (cutR t).2 = []
      · rw [if_pos g2, if_pos (.inl g2)]
        exact ⟨fun h => by omega, fun h => absurd rfl h⟩
      · rw [if_neg g2]
        by_cases g3 : dW (cutR t).2 = []
        · rw [if_neg (by rintro (h | h); exact g2 h; exact h g3), g3]
          exact ⟨fun _ => by simp, fun _ => by simp⟩
        · rw [if_pos (.inr g3)]
          have := List.length_pos_iff.2 g3
          exact ⟨fun h => by omega, fun h => absurd rfl h⟩
    · rw [if_neg g, if_neg g]
      exact ⟨fun h => by omega, fun h => absurd rfl h⟩
/-- The scan takes all of a text that is not empty: just where it is read. -/
theorem scan_all {l : List UInt8} (h : 1 ≤ l.length) : scanN l = l.length ↔ (expOf (frac (dW (cutR l).2)).2 ≠ none ∧ ¬ (tW (cutR l).2 = [] ∧ (frac (dW (cutR l).2)).1 = [])) := by
  have h1 := cutR_len l
  have h2 := len_tW (cutR l).2
  have h3 := frac_len (dW (cutR l).2)
  unfold scanN
  by_cases g : tW (cutR l).2 = [] ∧ (frac (dW (cutR l).2)).1 = []
  · rw [if_pos g]
    exact ⟨fun e => by omega, fun e => absurd g e.2⟩
  · rw [if_neg g, scanE_all (by omega) h]
    exact ⟨fun e => ⟨e, g⟩, fun e => e.1⟩
theorem read_not {l : List UInt8} (h0 : l.length ≤ 1000) (h : ¬ (expOf (frac (dW (cutR l).2)).2 ≠ none ∧ ¬ (tW (cutR l).2 = [] ∧ (frac (dW (cutR l).2)).1 = []))) : readR l = (DecV.zero, 3) := by
  unfold readR
  rw [if_neg (by omega)]
  cases hx : expOf (frac (dW (cutR l).2)).2 with
  | none => rfl
  | some x =>
    rw [readX_some]
    rw [hx] at h
    by_cases g : tW (cutR l).2 = [] ∧ (frac (dW (cutR l).2)).1 = []
    · rw [if_pos g]
    · exact absurd ⟨by simp, g⟩ h
theorem read_yes {l : List UInt8} {x : Int} (h0 : l.length ≤ 1000) (hx : expOf (frac (dW (cutR l).2)).2 = some x) (h : ¬ (tW (cutR l).2 = [] ∧ (frac (dW (cutR l).2)).1 = [])) :
    readR l = formOf (cutR l).1 (val (tW (cutR l).2 ++ (frac (dW (cutR l).2)).1)) (x - (frac (dW (cutR l).2)).1.length) := by
  unfold readR
  rw [if_neg (by omega), hx, readX_some, if_neg h]

end Go.Proofs.YtlhdolcadlabpaaDoor
