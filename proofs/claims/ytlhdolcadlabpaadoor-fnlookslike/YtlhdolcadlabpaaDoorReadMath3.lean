/- On the way of reading digits, a period and an exponent. No program in it. -/
import Derived.Test.YtlhdolcadlabpaaDoorReadA
namespace Go.Proofs.YtlhdolcadlabpaaDoor
set_option linter.unusedVariables false

/-- What is read so far, and what is left. -/
def WayR (l W F r1 r2 D : List UInt8) (i : Nat) (E : Int) : Bool → Prop
  | false => W = D ++ tW (l.drop i) ∧ dW (l.drop i) = r1 ∧ E = 0
  | true => W ++ F = D ++ tW (l.drop i) ∧ dW (l.drop i) = r2 ∧ E + D.length = W.length ∧ W.length ≤ D.length

theorem wayR_digit {s : ByteArray} {W F r1 r2 D : List UInt8} {i : Nat} {E : Int} {q : Bool} (h : WayR s.data.toList W F r1 r2 D i E q) (hk : i < s.size) (hx : isDig s[i] = true) :
    WayR s.data.toList W F r1 r2 (D ++ [s[i]]) (i + 1) (if q then E - 1 else E) q := by
  have e := drop_at hk
  obtain ⟨t1, t2⟩ := tW_cons (l := s.data.toList.drop (i + 1)) hx
  cases q
  · obtain ⟨h1, h2, h3⟩ := h
    rw [e, t1] at h1
    rw [e, t2] at h2
    exact ⟨by rw [h1]; simp, h2, h3⟩
  · obtain ⟨h1, h2, h3, h4⟩ := h
    rw [e, t1] at h1
    rw [e, t2] at h2
    refine ⟨by rw [h1]; simp, h2, ?_, ?_⟩
    · rw [if_pos rfl, List.length_append]; simp; omega
    · rw [List.length_append]; omega
theorem wayR_dot {s : ByteArray} {W F r1 r2 D : List UInt8} {i : Nat} {E : Int} (h : WayR s.data.toList W F r1 r2 D i E false) (hk : i < s.size) (hx : s[i] = 46) (hf : frac r1 = (F, r2)) : WayR s.data.toList W F r1 r2 D (i + 1) E true := by
  have e := drop_at hk
  rw [hx] at e
  obtain ⟨t1, t2⟩ := tW_stop (b := 46) (l := s.data.toList.drop (i + 1)) (by decide)
  obtain ⟨h1, h2, h3⟩ := h
  rw [e, t1, List.append_nil] at h1
  rw [e, t2] at h2
  rw [← h2, frac_cons, if_pos rfl] at hf
  have f1 : tW (s.data.toList.drop (i + 1)) = F := congrArg Prod.fst hf
  have f2 : dW (s.data.toList.drop (i + 1)) = r2 := congrArg Prod.snd hf
  exact ⟨by rw [f1, h1], f2, by rw [h1, h3]; omega, by rw [h1]; omega⟩
/-- Where no digit follows: all are read, and what is left is behind them; another byte than e, E or the one period cannot be. -/
theorem wayR_end {s : ByteArray} {W F r1 r2 D : List UInt8} {i : Nat} {E : Int} {q : Bool} (h : WayR s.data.toList W F r1 r2 D i E q) (hf : frac r1 = (F, r2)) (hx : ∀ hk : i < s.size, isDig s[i] = false ∧ (q = false → s[i] ≠ 46)) :
    D = W ++ F ∧ s.data.toList.drop i = r2 ∧ E = -(F.length : Int) := by
  have key : tW (s.data.toList.drop i) = [] ∧ dW (s.data.toList.drop i) = s.data.toList.drop i ∧ (q = false → frac (s.data.toList.drop i) = ([], s.data.toList.drop i)) := by
    by_cases hk : i < s.size
    · obtain ⟨g1, g2⟩ := hx hk
      rw [drop_at hk]
      obtain ⟨t1, t2⟩ := tW_stop (l := s.data.toList.drop (i + 1)) g1
      exact ⟨t1, t2, fun hq => by rw [frac_cons, if_neg (g2 hq)]⟩
    · rw [drop_end hk]
      exact ⟨rfl, rfl, fun _ => rfl⟩
  obtain ⟨t1, t2, t3⟩ := key
  cases q
  · obtain ⟨h1, h2, h3⟩ := h
    rw [t1, List.append_nil] at h1
    rw [t2] at h2
    rw [← h2, t3 rfl] at hf
    have f1 : ([] : List UInt8) = F := congrArg Prod.fst hf
    have f2 : s.data.toList.drop i = r2 := congrArg Prod.snd hf
    exact ⟨by rw [← f1, h1]; simp, f2, by rw [← f1, h3]; rfl⟩
  · obtain ⟨h1, h2, h3, h4⟩ := h
    rw [t1, List.append_nil] at h1
    rw [t2] at h2
    refine ⟨h1.symm, h2, ?_⟩
    have := congrArg List.length h1
    rw [List.length_append] at this
    omega
/-- An exponent that is counted no further where it is great enough. -/
def Cap (n v : Nat) : Prop := (n = v ∧ n < 100000) ∨ (10000 ≤ n ∧ n < 100000 ∧ 10000 ≤ v)
theorem cap_step {n v d : Nat} (h : Cap n v) (hd : d < 10) : Cap (if n < 10000 then 10 * n + d else n) (10 * v + d) := by
  unfold Cap at h ⊢
  split <;> omega
theorem cap_min {n v : Nat} (h : Cap n v) : min n 9999 = min v 9999 := by
  unfold Cap at h
  omega

end Go.Proofs.YtlhdolcadlabpaaDoor
