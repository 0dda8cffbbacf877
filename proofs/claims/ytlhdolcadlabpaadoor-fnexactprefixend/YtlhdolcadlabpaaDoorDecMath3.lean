/- Plain mathematics of chapter 3: sums of decimals at one power of ten, and comparing. No program in it. -/
import Derived.Test.YtlhdolcadlabpaaDoorDecMath2
namespace Go.Proofs.YtlhdolcadlabpaaDoor
set_option linter.unusedVariables false

theorem cmp_lt {a b : Nat} (h : a < b) : cmpN a b = -1 := by unfold cmpN; rw [if_pos h]
theorem cmp_eq (a : Nat) : cmpN a a = 0 := by unfold cmpN; rw [if_neg (by omega), if_pos rfl]
theorem cmp_gt {a b : Nat} (h : b < a) : cmpN a b = 1 := by unfold cmpN; rw [if_neg (by omega), if_neg (by omega)]

/-- Digits that end with no nought, as fractions of one size: in the order of strings. -/
theorem cmp_frac : ∀ (la lb : List UInt8), Digs la → Digs lb → (la = [] ∨ la.getLast? ≠ some 48) → (lb = [] ∨ lb.getLast? ≠ some 48) →
    ∀ i j : Nat, la.length + i = lb.length + j → Lib.compareBytes la lb = cmpN (val la * 10 ^ i) (val lb * 10 ^ j)
  | [], [], _, _, _, _, i, j, _ => by simp [val, Lib.compareBytes, cmp_eq]
  | [], b :: bs, _, hb, _, gb, i, j, _ => by
    have h1 := val_pos_last hb (by simp) (gb.resolve_left (by simp))
    have h2 : 0 < 10 ^ j := Nat.pow_pos (by omega)
    have h3 : 0 < val (b :: bs) * 10 ^ j := Nat.mul_pos h1 h2
    rw [val_nil, Nat.zero_mul, cmp_lt h3]; rfl
  | a :: xa, [], ha, _, ga, _, i, j, _ => by
    have h1 := val_pos_last ha (by simp) (ga.resolve_left (by simp))
    have h2 : 0 < 10 ^ i := Nat.pow_pos (by omega)
    have h3 : 0 < val (a :: xa) * 10 ^ i := Nat.mul_pos h1 h2
    rw [val_nil, Nat.zero_mul, cmp_gt h3]; rfl
  | a :: xa, b :: bs, ha, hb, ga, gb, i, j, hl => by
    obtain ⟨da, has⟩ := ha.cons
    obtain ⟨db, hbs⟩ := hb.cons
    have hL : xa.length + i = bs.length + j := by simp at hl; omega
    have ga' : xa = [] ∨ xa.getLast? ≠ some 48 := by
      rcases xa with _ | ⟨x, xs⟩
      · exact .inl rfl
      · right; have := ga.resolve_left (by simp); simpa using this
    have gb' : bs = [] ∨ bs.getLast? ≠ some 48 := by
      rcases bs with _ | ⟨x, xs⟩
      · exact .inl rfl
      · right; have := gb.resolve_left (by simp); simpa using this
    have ih := cmp_frac xa bs has hbs ga' gb' i j hL
    have ea : val (a :: xa) * 10 ^ i = dv a * 10 ^ (xa.length + i) + val xa * 10 ^ i := by rw [val_cons, Nat.add_mul, Nat.mul_assoc, ← Nat.pow_add]
    have eb : val (b :: bs) * 10 ^ j = dv b * 10 ^ (xa.length + i) + val bs * 10 ^ j := by rw [val_cons, Nat.add_mul, Nat.mul_assoc, ← Nat.pow_add, ← hL]
    have la' : val xa * 10 ^ i < 10 ^ (xa.length + i) := by rw [Nat.pow_add]; exact Nat.mul_lt_mul_of_pos_right (val_lt has) (Nat.pow_pos (by omega))
    have lb' : val bs * 10 ^ j < 10 ^ (xa.length + i) := by rw [hL, Nat.pow_add]; exact Nat.mul_lt_mul_of_pos_right (val_lt hbs) (Nat.pow_pos (by omega))
    rw [ea, eb]
    generalize 10 ^ (xa.length + i) = M at *
    generalize val xa * 10 ^ i = x at *
    generalize val bs * 10 ^ j = y at *
    have hdv : dv a = a.toNat - 48 := rfl
    have hdv' : dv b = b.toNat - 48 := rfl
    have hlt : ∀ {a b : UInt8}, a < b ↔ a.toNat < b.toNat := fun {a b} => UInt8.lt_iff_toNat_lt
    simp only [Lib.compareBytes, hlt]
    unfold IsD at da db
    by_cases c1 : a.toNat < b.toNat
    · have hm : (dv a + 1) * M ≤ dv b * M := Nat.mul_le_mul_right _ (by omega)
      rw [Nat.add_mul] at hm
      rw [if_pos c1, cmp_lt (by omega)]
    · rw [if_neg c1]
      by_cases c2 : b.toNat < a.toNat
      · have hm : (dv b + 1) * M ≤ dv a * M := Nat.mul_le_mul_right _ (by omega)
        rw [Nat.add_mul] at hm
        rw [if_pos c2, cmp_gt (by omega)]
      · rw [if_neg c2, ih]
        have : dv a = dv b := by omega
        rw [this]
        unfold cmpN
        simp

/-- A decimal's digits in units of 10^E. -/
def lev (d : DecV) (E : Int) : Nat := val d.dig * 10 ^ (d.exp - E).toNat
def low2 (a b : DecV) : Int := if b.exp < a.exp then b.exp else a.exp
theorem low2_le (a b : DecV) : low2 a b ≤ a.exp ∧ low2 a b ≤ b.exp := by unfold low2; split <;> omega
/-- The sum: its sign, and its digits in units of 10^E. -/
def sumOf (a b : DecV) : Bool × Nat :=
  if a.neg = b.neg then (a.neg, lev a (low2 a b) + lev b (low2 a b))
  else if lev b (low2 a b) ≤ lev a (low2 a b) then (a.neg, lev a (low2 a b) - lev b (low2 a b)) else (b.neg, lev b (low2 a b) - lev a (low2 a b))
def negOf (d : DecV) : DecV := if d.dig = [] then DecV.zero else ⟨!d.neg, d.dig, d.exp⟩
def cmpS (a b : DecV) : Int := if (sumOf a (negOf b)).2 = 0 then 0 else if (sumOf a (negOf b)).1 then -1 else 1

theorem DecV.Ok.digs {d : DecV} (h : d.Ok) : Digs d.dig := by
  rcases h with rfl | h
  · exact digs_nil
  · exact h.1
theorem DecV.Ok.len {d : DecV} (h : d.Ok) : d.dig.length ≤ 20 := by
  rcases h with rfl | h
  · exact Nat.zero_le _
  · exact h.2.2.1
theorem DecV.Ok.exps {d : DecV} (h : d.Ok) : -118 ≤ d.exp ∧ d.exp ≤ 99 := by
  rcases h with rfl | ⟨_, h1, h2, _, _, h3, h4⟩
  · exact ⟨by decide, by decide⟩
  · omega
theorem DecV.Ok.nil {d : DecV} (h : d.Ok) (e : d.dig = []) : d = DecV.zero := by
  rcases h with rfl | ⟨_, h1, _⟩
  · rfl
  · rw [e] at h1; simp at h1
theorem DecV.Ok.pos {d : DecV} (h : d.Ok) (e : d.dig ≠ []) : 1 ≤ val d.dig ∧ d.dig.head? ≠ some 48 ∧ d.dig.getLast? ≠ some 48 := by
  rcases h with rfl | ⟨h0, h1, _, h3, h4, _⟩
  · exact absurd rfl e
  · exact ⟨val_pos_last h0 e h4, h3, h4⟩
theorem neg_ok {d : DecV} (h : d.Ok) : (negOf d).Ok := by
  unfold negOf
  split
  · exact .inl rfl
  · next e =>
    rcases h with rfl | h
    · exact absurd rfl e
    · exact .inr h

def sgn (d : DecV) : Int := if d.dig = [] then 0 else if d.neg then -1 else 1
def cmpI (x y : Int) : Int := if x < y then -1 else if y < x then 1 else 0
/-- The sizes of two decimals: by magnitude, then by digits. -/
def cmpSz (a b : DecV) : Int := if a.exp + a.dig.length - 1 = b.exp + b.dig.length - 1 then Lib.compareBytes a.dig b.dig else cmpI (a.exp + a.dig.length - 1) (b.exp + b.dig.length - 1)

theorem lev_neg (d : DecV) (E : Int) (h : d.dig ≠ []) : lev (negOf d) E = lev d E := by unfold negOf; rw [if_neg h]; rfl
theorem low2_neg (a b : DecV) (h : b.dig ≠ []) : low2 a (negOf b) = low2 a b := by unfold negOf; rw [if_neg h]; rfl
theorem lev_pos {d : DecV} (h : d.Ok) (e : d.dig ≠ []) (E : Int) : 0 < lev d E := Nat.mul_pos (h.pos e).1 (Nat.pow_pos (by omega))
theorem lev_zero (E : Int) : lev DecV.zero E = 0 := by unfold lev; simp [DecV.zero, val]

theorem size_cmp {a b : DecV} (ha : a.Ok) (hb : b.Ok) (na : a.dig ≠ []) (nb : b.dig ≠ []) {E : Int} (h1 : E ≤ a.exp) (h2 : E ≤ b.exp) : cmpSz a b = cmpN (lev a E) (lev b E) := by
  obtain ⟨pa, qa, ra⟩ := ha.pos na
  obtain ⟨pb, qb, rb⟩ := hb.pos nb
  obtain ⟨i, hi⟩ : ∃ i, (a.exp - E).toNat = i := ⟨_, rfl⟩
  obtain ⟨j, hj⟩ : ∃ j, (b.exp - E).toNat = j := ⟨_, rfl⟩
  have la := List.length_pos_iff.2 na
  have lb := List.length_pos_iff.2 nb
  unfold cmpSz lev
  rw [hi, hj]
  by_cases c : a.exp + a.dig.length - 1 = b.exp + b.dig.length - 1
  · rw [if_pos c]
    exact cmp_frac _ _ ha.digs hb.digs (.inr ra) (.inr rb) i j (by omega)
  · rw [if_neg c]
    have ua := Nat.mul_lt_mul_of_pos_right (val_lt ha.digs) (Nat.pow_pos (n := i) (show 0 < 10 by omega))
    have ub := Nat.mul_lt_mul_of_pos_right (val_lt hb.digs) (Nat.pow_pos (n := j) (show 0 < 10 by omega))
    have va := Nat.mul_le_mul_right (10 ^ i) (pos_of_head ha.digs na qa)
    have vb := Nat.mul_le_mul_right (10 ^ j) (pos_of_head hb.digs nb qb)
    rw [← Nat.pow_add] at ua ub va vb
    unfold cmpI
    by_cases c1 : a.exp + a.dig.length - 1 < b.exp + b.dig.length - 1
    · rw [if_pos c1]
      have : 10 ^ (a.dig.length + i) ≤ 10 ^ (b.dig.length - 1 + j) := Nat.pow_le_pow_right (by omega) (by omega)
      rw [cmp_lt (by omega)]
    · rw [if_neg c1, if_pos (by omega)]
      have : 10 ^ (b.dig.length + j) ≤ 10 ^ (a.dig.length - 1 + i) := Nat.pow_le_pow_right (by omega) (by omega)
      rw [cmp_gt (by omega)]

/-- Comparing as impl does it. -/
theorem cmp_dec {a b : DecV} (ha : a.Ok) (hb : b.Ok) : (if sgn a = sgn b then (if a.neg then cmpSz b a else cmpSz a b) else cmpI (sgn a) (sgn b)) = cmpS a b := by
  by_cases na : a.dig = []
  · have ea := ha.nil na
    subst ea
    by_cases nb : b.dig = []
    · have eb := hb.nil nb
      subst eb
      rfl
    · have hp := lev_pos hb nb (low2 DecV.zero b)
      have e0 : lev DecV.zero (low2 DecV.zero b) = 0 := lev_zero _
      have e1 : sgn DecV.zero = 0 := rfl
      have e2 : DecV.zero.neg = false := rfl
      have e3 : (negOf b).neg = !b.neg := by unfold negOf; rw [if_neg nb]
      unfold cmpS sumOf
      rw [low2_neg _ _ nb, lev_neg _ _ nb, e0, e1, e2, e3]
      unfold sgn
      rw [if_neg nb]
      generalize lev b (low2 DecV.zero b) = Y at *
      have h1 : ¬ Y ≤ 0 := by omega
      have h2 : Y ≠ 0 := by omega
      cases b.neg <;> simp [cmpI, h2]
  · by_cases nb : b.dig = []
    · have eb := hb.nil nb
      subst eb
      have hp := lev_pos ha na (low2 a DecV.zero)
      have e0 : lev DecV.zero (low2 a DecV.zero) = 0 := lev_zero _
      have e1 : sgn DecV.zero = 0 := rfl
      have e2 : DecV.zero.neg = false := rfl
      have e3 : negOf DecV.zero = DecV.zero := rfl
      unfold cmpS sumOf
      rw [e3, e0, e1, e2]
      unfold sgn
      rw [if_neg na]
      generalize lev a (low2 a DecV.zero) = Y at *
      have h2 : Y ≠ 0 := by omega
      cases a.neg <;> simp [cmpI, h2]
    · have pa := lev_pos ha na (low2 a b)
      have pb := lev_pos hb nb (low2 a b)
      have hl := low2_le a b
      have s1 := size_cmp ha hb na nb hl.1 hl.2
      have s2 := size_cmp hb ha nb na hl.2 hl.1
      have e3 : (negOf b).neg = !b.neg := by unfold negOf; rw [if_neg nb]
      unfold cmpS sumOf
      rw [low2_neg _ _ nb, lev_neg _ _ nb, e3, s1, s2]
      unfold sgn
      rw [if_neg na, if_neg nb]
      generalize lev a (low2 a b) = X at *
      generalize lev b (low2 a b) = Y at *
      rcases Nat.lt_trichotomy X Y with h | h | h
      · have h1 : ¬ Y ≤ X := by omega
        have h2 : Y - X ≠ 0 := by omega
        have h3 : ¬ Y < X := by omega
        have h4 : Y ≠ X := by omega
        cases a.neg <;> cases b.neg <;> simp [cmpI, cmpN, h, h1, h2, h3, h4] <;> omega
      · subst h
        cases a.neg <;> cases b.neg <;> simp [cmpI, cmpN] <;> omega
      · have h1 : Y ≤ X := by omega
        have h2 : X - Y ≠ 0 := by omega
        have h3 : ¬ X < Y := by omega
        have h4 : X ≠ Y := by omega
        cases a.neg <;> cases b.neg <;> simp [cmpI, cmpN, h, h1, h2, h3, h4] <;> omega

end Go.Proofs.YtlhdolcadlabpaaDoor
