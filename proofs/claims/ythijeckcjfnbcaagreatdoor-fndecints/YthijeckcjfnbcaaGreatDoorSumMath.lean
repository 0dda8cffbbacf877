/- Sums and products are commutative; differences; comparing. No program in it. -/
import Derived.Test.YthijeckcjfnbcaaGreatDoorDecPlain2
namespace Go.Proofs.YthijeckcjfnbcaaGreatDoor
set_option linter.unusedVariables false

theorem low2_comm (a b : DecV) : low2 a b = low2 b a := by unfold low2; split <;> split <;> omega
theorem addR_comm (a b : DecV) : addR a b = addR b a := by
  unfold addR
  by_cases h : a.Ok ∧ b.Ok
  · rw [if_pos h, if_pos ⟨h.2, h.1⟩, low2_comm b a]
    unfold sumOf
    rw [low2_comm b a]
    generalize low2 a b = E
    generalize lev a E = x
    generalize lev b E = y
    by_cases hs : a.neg = b.neg
    · rw [if_pos hs, if_pos hs.symm, hs, Nat.add_comm]
    · rw [if_neg hs, if_neg (show ¬ b.neg = a.neg from fun e => hs e.symm)]
      rcases Nat.lt_trichotomy x y with g | g | g
      · rw [if_neg (show ¬ y ≤ x by omega), if_pos (show x ≤ y by omega)]
      · rw [if_pos (show y ≤ x by omega), if_pos (show x ≤ y by omega), show x - y = 0 by omega, show y - x = 0 by omega, form_zero, form_zero]
      · rw [if_pos (show y ≤ x by omega), if_neg (show ¬ x ≤ y by omega)]
  · rw [if_neg h, if_neg (fun g => h ⟨g.2, g.1⟩)]
theorem mulR_comm (a b : DecV) : mulR a b = mulR b a := by
  unfold mulR
  by_cases h : a.Ok ∧ b.Ok
  · rw [if_pos h, if_pos ⟨h.2, h.1⟩, Nat.mul_comm, Int.add_comm]
    congr 1
    cases a.neg <;> cases b.neg <;> rfl
  · rw [if_neg h, if_neg (fun g => h ⟨g.2, g.1⟩)]
theorem subR_add (a : DecV) {b : DecV} (hb : b.Ok) : subR a b = addR a (negR b) := by
  unfold subR addR negR
  rw [if_pos hb]
  by_cases ha : a.Ok
  · rw [if_pos ⟨ha, hb⟩, if_pos ⟨ha, neg_ok hb⟩]
  · rw [if_neg (fun g => ha g.1), if_neg (fun g => ha g.1)]
theorem negOf_zero : negOf DecV.zero = DecV.zero := by unfold negOf; rw [if_pos (show DecV.zero.dig = [] from rfl)]
theorem subR_self {a : DecV} (ha : a.Ok) : subR a a = (DecV.zero, 0) := by
  unfold subR
  rw [if_pos ⟨ha, ha⟩]
  have : (sumOf a (negOf a)).2 = 0 := by
    by_cases hn : a.dig = []
    · have e := ha.nil hn
      subst e
      rw [negOf_zero]
      unfold sumOf
      rw [if_pos rfl, lev_zero]
    · unfold sumOf
      rw [lev_neg _ _ hn]
      have : a.neg ≠ (negOf a).neg := by unfold negOf; rw [if_neg hn]; dsimp only; cases a.neg <;> decide
      rw [if_neg this, if_pos (Nat.le_refl _)]
      exact Nat.sub_self _
  rw [this, form_zero]
theorem negR_negR {a : DecV} (ha : a.Ok) : negR (negR a) = a := by
  unfold negR
  rw [if_pos ha, if_pos (neg_ok ha)]
  by_cases hn : a.dig = []
  · have e := ha.nil hn
    subst e
    rw [negOf_zero, negOf_zero]
  · unfold negOf
    rw [if_neg hn]
    rw [if_neg hn]
    dsimp only
    rw [Bool.not_not]
theorem negR_ok {a : DecV} (ha : a.Ok) : (negR a).Ok := by unfold negR; rw [if_pos ha]; exact neg_ok ha

/-- A number in units of 10^E, with its sign. -/
def sv (d : DecV) (E : Int) : Int := if d.neg then -(lev d E : Int) else (lev d E : Int)
theorem sum_sv (a c : DecV) : (if (sumOf a c).1 then -((sumOf a c).2 : Int) else ((sumOf a c).2 : Int)) = sv a (low2 a c) + sv c (low2 a c) := by
  unfold sumOf sv
  generalize low2 a c = E
  generalize lev a E = x
  generalize lev c E = y
  cases a.neg <;> cases c.neg <;> simp
  · split <;> simp <;> omega
  · split <;> simp <;> omega
  · omega
theorem neg_sv {b : DecV} (hb : b.Ok) (E : Int) : sv (negOf b) E = -sv b E := by
  by_cases hn : b.dig = []
  · have e := hb.nil hn
    subst e
    rw [negOf_zero]
    unfold sv
    rw [lev_zero]
    simp
  · unfold sv
    rw [lev_neg _ _ hn]
    have : (negOf b).neg = !b.neg := by unfold negOf; rw [if_neg hn]
    rw [this]
    cases b.neg <;> simp
theorem low2_negOf (a : DecV) {b : DecV} (hb : b.Ok) : low2 a (negOf b) = low2 a b := by
  by_cases hn : b.dig = []
  · have e := hb.nil hn
    subst e
    rw [negOf_zero]
  · exact low2_neg a b hn
/-- Comparing is by the difference's sign. -/
theorem cmpS_sv (a : DecV) {b : DecV} (hb : b.Ok) : cmpS a b = if sv a (low2 a b) - sv b (low2 a b) = 0 then 0 else if sv a (low2 a b) - sv b (low2 a b) < 0 then -1 else 1 := by
  have h := sum_sv a (negOf b)
  rw [low2_negOf a hb, neg_sv hb] at h
  unfold cmpS
  obtain ⟨⟨s, v⟩, hp⟩ : ∃ p, sumOf a (negOf b) = p := ⟨_, rfl⟩
  rw [hp] at h ⊢
  dsimp only at h ⊢
  rw [show sv a (low2 a b) - sv b (low2 a b) = (if s then -(v : Int) else (v : Int)) by rw [h]; omega]
  cases s
  · simp only [Bool.false_eq_true, if_false]
    by_cases h0 : v = 0
    · rw [if_pos h0, if_pos (by omega)]
    · rw [if_neg h0, if_neg (by omega), if_neg (by omega)]
  · simp only [if_true]
    by_cases h0 : v = 0
    · rw [if_pos h0, if_pos (by omega)]
    · rw [if_neg h0, if_neg (by omega), if_pos (by omega)]
theorem cmpS_anti {a b : DecV} (ha : a.Ok) (hb : b.Ok) : cmpS a b = -cmpS b a := by
  rw [cmpS_sv a hb, cmpS_sv b ha, low2_comm b a]
  generalize sv a (low2 a b) = x
  generalize sv b (low2 a b) = y
  by_cases h0 : x - y = 0
  · rw [if_pos h0, if_pos (show y - x = 0 by omega)]; rfl
  · rw [if_neg h0, if_neg (show ¬ y - x = 0 by omega)]
    by_cases h1 : x - y < 0
    · rw [if_pos h1, if_neg (show ¬ y - x < 0 by omega)]
    · rw [if_neg h1, if_pos (show y - x < 0 by omega)]; rfl
theorem lev_form {a : DecV} (ha : a.Ok) {E : Int} (hE : E ≤ a.exp) : formOf a.neg (lev a E) E = (a, 0) := by
  unfold lev
  have : E = a.exp - ((a.exp - E).toNat : Int) := by omega
  rw [← form_self ha, ← form_scale a.neg (val a.dig) (a.exp - E).toNat a.exp]
  congr 1
theorem cmpS_eq {a b : DecV} (ha : a.Ok) (hb : b.Ok) : cmpS a b = 0 ↔ a = b := by
  rw [cmpS_sv a hb]
  obtain ⟨l1, l2⟩ := low2_le a b
  constructor
  · intro h
    have h0 : sv a (low2 a b) = sv b (low2 a b) := by
      by_cases g : sv a (low2 a b) - sv b (low2 a b) = 0
      · omega
      · rw [if_neg g] at h
        split at h <;> omega
    by_cases na : a.dig = []
    · have ea := ha.nil na
      subst ea
      by_cases nb : b.dig = []
      · exact (hb.nil nb).symm
      · have := lev_pos hb nb (low2 DecV.zero b)
        unfold sv at h0
        rw [lev_zero] at h0
        revert h0
        cases b.neg <;> cases DecV.zero.neg <;> simp <;> omega
    · by_cases nb : b.dig = []
      · have eb := hb.nil nb
        subst eb
        have := lev_pos ha na (low2 a DecV.zero)
        unfold sv at h0
        rw [lev_zero] at h0
        revert h0
        cases a.neg <;> cases DecV.zero.neg <;> simp <;> omega
      · have pa := lev_pos ha na (low2 a b)
        have pb := lev_pos hb nb (low2 a b)
        have fa := lev_form ha l1
        have fb := lev_form hb l2
        have key : a.neg = b.neg ∧ lev a (low2 a b) = lev b (low2 a b) := by
          unfold sv at h0
          revert h0
          cases a.neg <;> cases b.neg <;> simp <;> omega
        rw [key.1, key.2, fb] at fa
        exact (congrArg Prod.fst fa).symm
  · intro h
    subst h
    rw [if_pos (by omega)]

end Go.Proofs.YthijeckcjfnbcaaGreatDoor
