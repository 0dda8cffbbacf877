/- Plain mathematics of chapter 7: when an automaton is sound. No program in it. -/
import Derived.Test.YtikbinmddgmllaaNfMem
import Derived.Test.YtikbinmddgmllaaUtf
namespace Go.Proofs.Ytikbinmddgmllaa
set_option linter.unusedVariables false

/-- An index. -/
def inn (n : Nat) (x : Int) : Bool := decide (0 ≤ x ∧ x < (n : Int))
/-- An operation by itself. -/
def opOk (n : Nat) (o : No) : Bool :=
  if o.op = 1 then pt o.a else if o.op = 3 then (o.set.all pt && decide (o.set.length % 2 = 0)) else if o.op = 6 then (inn n o.a && inn n o.b) else if o.op = 7 then inn n o.a else decide (1 ≤ o.op ∧ o.op ≤ 8)
/-- As the program asks: NoFits just at the last place. -/
def okI (n : Nat) : Nat → List No → Bool
  | _, [] => true
  | j, o :: r => (opOk n o && decide (o.op = 8 ↔ j + 1 = n)) && okI n (j + 1) r
/-- As the specification asks, behind the last one. -/
def okS (n : Nat) : Nat → List No → Bool
  | _, [] => true
  | j, o :: r => (opOk n o && decide (o.op = 8 → j + 1 = n)) && okS n (j + 1) r
def soundR (os : List No) : Bool := decide (1 ≤ os.length ∧ os.length ≤ 4000) && okI os.length 0 os

theorem okI_eq {os : List No} : ∀ (j : Nat), j ≤ os.length → (∀ h : 0 < os.length, (os[os.length - 1]'(by omega)).op = 8) → okI os.length j (os.drop j) = okS os.length j (os.drop j) := by
  intro j hj hl
  induction hm : os.length - j generalizing j with
  | zero => rw [List.drop_eq_nil_of_le (by omega)]; rfl
  | succ m ih =>
    rw [List.drop_eq_getElem_cons (by omega), okI, okS, ih (j + 1) (by omega) (by omega)]
    congr 2
    by_cases h1 : j + 1 = os.length
    · have : j = os.length - 1 := by omega
      subst this
      simp [hl (by omega), h1]
    · simp [h1]
theorem okI_last {os : List No} : ∀ (j : Nat) (hj : j < os.length), (os[os.length - 1]'(by omega)).op ≠ 8 → okI os.length j (os.drop j) = false := by
  intro j hj hl
  induction hm : os.length - j generalizing j with
  | zero => omega
  | succ m ih =>
    rw [List.drop_eq_getElem_cons (by omega), okI]
    by_cases h1 : j + 1 = os.length
    · have : j = os.length - 1 := by omega
      subst this
      simp [hl, h1]
    · rw [ih (j + 1) (by omega) hl (by omega)]; simp
theorem soundR_last {os : List No} (h : 0 < os.length) (hl : (os[os.length - 1]'(by omega)).op ≠ 8) : soundR os = false := by
  unfold soundR
  have := okI_last 0 h hl
  rw [List.drop_zero] at this
  simp [this]
theorem soundR_spec {os : List No} (h : 0 < os.length) (h4 : os.length ≤ 4000) (hl : (os[os.length - 1]'(by omega)).op = 8) : soundR os = okS os.length 0 os := by
  unfold soundR
  have := okI_eq 0 (Nat.zero_le _) (fun _ => hl)
  rw [List.drop_zero] at this
  rw [this, decide_eq_true (show 1 ≤ os.length ∧ os.length ≤ 4000 by omega), Bool.true_and]
theorem soundR_size {os : List No} (h : ¬ (1 ≤ os.length ∧ os.length ≤ 4000)) : soundR os = false := by
  unfold soundR; rw [decide_eq_false h]; rfl
theorem soundR_prog {os : List No} (h : 1 ≤ os.length) (h4 : os.length ≤ 4000) : soundR os = okI os.length 0 os := by
  unfold soundR; rw [decide_eq_true ⟨h, h4⟩, Bool.true_and]
theorem okS_step {os : List No} {n j : Nat} (h : j < os.length) : okS n j (os.drop j) = ((opOk n os[j] && decide (os[j].op = 8 → j + 1 = n)) && okS n (j + 1) (os.drop (j + 1))) := by
  rw [List.drop_eq_getElem_cons h, okS]
theorem okI_step {os : List No} {n j : Nat} (h : j < os.length) : okI n j (os.drop j) = ((opOk n os[j] && decide (os[j].op = 8 ↔ j + 1 = n)) && okI n (j + 1) (os.drop (j + 1))) := by
  rw [List.drop_eq_getElem_cons h, okI]
theorem all_step {P : Int → Bool} {l : List Int} {k : Nat} (h : k < l.length) : (l.drop k).all P = (P l[k] && (l.drop (k + 1)).all P) := by
  rw [List.drop_eq_getElem_cons h, List.all_cons]

end Go.Proofs.Ytikbinmddgmllaa
