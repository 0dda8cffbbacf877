/- Plain mathematics of chapter 5: reading the text of a pattern. No program in it. -/
import Derived.Test.YtimmbllhjmponaaDoorRxParse
import Derived.Test.YtimmbllhjmponaaDoorTextMath
namespace Go.Proofs.YtimmbllhjmponaaDoor
set_option linter.unusedVariables false

/-- Reading a text of at most so many code points. -/
def rxR (t : ByteArray) (most : Nat) : Rd :=
  match runesOf t with
  | none => .err 1 0
  | some l => if most < l.length then .err 1 0 else wholeR l
theorem runes_small {t : ByteArray} {l : List Int} (h : runesOf t = some l) : Pos l ∧ l.length ≤ 1000 := by
  obtain ⟨h1, h2, h3⟩ := text_cat h
  refine ⟨fun x hx => ?_, ?_⟩
  · have := pt_iff.1 (h2 x hx); omega
  · unfold runesOf at h
    split at h
    · cases h
    · have : ∀ f i l, runesFrom t f i = some l → l.length ≤ f := by
        intro f
        induction f with
        | zero => intro i l h; rw [runesFrom] at h; cases h; simp
        | succ f ih =>
          intro i l h
          rw [runesFrom] at h
          split at h
          · split at h
            · cases h
            · obtain ⟨l', h4, rfl⟩ := Option.map_eq_some_iff.1 h
              have := ih _ _ h4
              simp; omega
          · cases h; simp
      have := this _ _ _ h
      omega

end Go.Proofs.YtimmbllhjmponaaDoor
