/- Ints as decimals: sums, products and remainders are the ints'. No program in it. -/
import Derived.Test.YthijeckcjfnbcaaGreatDoorSumMath
import Derived.Test.YthijeckcjfnbcaaGreatDoorDivMath
import Derived.Test.YthijeckcjfnbcaaGreatDoorSpecDec12
namespace Go.Proofs.YthijeckcjfnbcaaGreatDoor
set_option linter.unusedVariables false

/-- What an int's decimal is. -/
theorem int_dec {n : Int} (h : n.natAbs < 10 ^ 20) : (decOfV n).Ok ∧ 0 ≤ (decOfV n).exp ∧ val (decOfV n).dig * 10 ^ (decOfV n).exp.toNat = n.natAbs ∧ (n ≠ 0 → (decOfV n).neg = decide (n < 0) ∧ (decOfV n).dig ≠ []) ∧ formOf (decide (n < 0)) n.natAbs 0 = (decOfV n, 0) := by
  refine ⟨form_ok _ _ _, ?_⟩
  unfold decOfV
  by_cases h0 : n.natAbs = 0
  · rw [h0, form_zero]
    exact ⟨Int.le_refl _, rfl, fun g => absurd (by omega) g, rfl⟩
  · obtain ⟨s, k, f1, f2, f3, f4⟩ := form_fit (decide (n < 0)) (e := 0) h0 h (by omega) (by omega)
    rw [f4]
    refine ⟨by dsimp only; omega, ?_, fun _ => ⟨rfl, (natOf_canon s).1⟩, rfl⟩
    dsimp only
    rw [val_natOf, f1]
    congr 2
    omega
theorem int_lev {n : Int} (h : n.natAbs < 10 ^ 20) {E : Int} (e0 : 0 ≤ E) (e1 : E ≤ (decOfV n).exp) : lev (decOfV n) E * 10 ^ E.toNat = n.natAbs := by
  obtain ⟨_, _, hv, _, _⟩ := int_dec h
  unfold lev
  rw [Nat.mul_assoc, ← Nat.pow_add, ← hv]
  congr 2
  omega
theorem int_sv {n : Int} (h : n.natAbs < 10 ^ 20) {E : Int} (e0 : 0 ≤ E) (e1 : E ≤ (decOfV n).exp) : sv (decOfV n) E * ((10 ^ E.toNat : Nat) : Int) = n := by
  have hl := int_lev h e0 e1
  have hc : (lev (decOfV n) E : Int) * ((10 ^ E.toNat : Nat) : Int) = (n.natAbs : Int) := by rw [← hl]; push_cast; rfl
  by_cases h0 : n = 0
  · have hz : lev (decOfV n) E = 0 := by
      have hp : 0 < 10 ^ E.toNat := Nat.pow_pos (by omega)
      rcases Nat.mul_eq_zero.1 (by rw [hl, h0]; rfl) with g | g
      · exact g
      · omega
    unfold sv
    rw [hz, h0]
    split <;> simp
  · have hn := ((int_dec h).2.2.2.1 h0).1
    unfold sv
    rw [hn]
    by_cases g : n < 0
    · rw [if_pos (decide_eq_true g), Int.neg_mul, hc]; omega
    · rw [if_neg (by simpa using g), hc]; omega
/-- A number in units of 10^E that is an int: its decimal. -/
theorem form_int {s : Bool} {v : Nat} {E n : Int} (e0 : 0 ≤ E) (h : n.natAbs < 10 ^ 20) (hv : v * 10 ^ E.toNat = n.natAbs) (hs : n ≠ 0 → s = decide (n < 0)) : formOf s v E = (decOfV n, 0) := by
  have hf := form_scale s v E.toNat E
  rw [show E - (E.toNat : Int) = 0 by omega, hv] at hf
  rw [← hf]
  by_cases h0 : n = 0
  · subst h0
    rw [show (0 : Int).natAbs = 0 from rfl, form_zero]
    unfold decOfV
    rw [show (0 : Int).natAbs = 0 from rfl, form_zero]
  · rw [hs h0]
    exact (int_dec h).2.2.2.2
theorem low2_int {a b : Int} (ha : a.natAbs < 10 ^ 20) (hb : b.natAbs < 10 ^ 20) : 0 ≤ low2 (decOfV a) (decOfV b) := by
  have h1 := (int_dec ha).2.1
  have h2 := (int_dec hb).2.1
  unfold low2
  split <;> assumption
theorem int_add {a b : Int} (ha : a.natAbs < 10 ^ 15) (hb : b.natAbs < 10 ^ 15) : addR (decOfV a) (decOfV b) = (decOfV (a + b), 0) := by
  have ha' : a.natAbs < 10 ^ 20 := by omega
  have hb' : b.natAbs < 10 ^ 20 := by omega
  unfold addR
  rw [if_pos ⟨(int_dec ha').1, (int_dec hb').1⟩]
  have e0 := low2_int ha' hb'
  obtain ⟨l1, l2⟩ := low2_le (decOfV a) (decOfV b)
  have hs := sum_sv (decOfV a) (decOfV b)
  have va := int_sv ha' e0 l1
  have vb := int_sv hb' e0 l2
  obtain ⟨⟨s, v⟩, hp⟩ : ∃ p, sumOf (decOfV a) (decOfV b) = p := ⟨_, rfl⟩
  rw [hp] at hs ⊢
  dsimp only at hs ⊢
  obtain ⟨M, hM⟩ : ∃ M, 10 ^ (low2 (decOfV a) (decOfV b)).toNat = M := ⟨_, rfl⟩
  rw [hM] at va vb
  have hMp : 0 < M := by rw [← hM]; exact Nat.pow_pos (by omega)
  have hsum : (if s then -(v : Int) else (v : Int)) * (M : Int) = a + b := by rw [hs, Int.add_mul, va, vb]
  have hvM : ((v * M : Nat) : Int) = (v : Int) * (M : Int) := by push_cast; rfl
  refine form_int e0 (by omega) ?_ ?_
  · rw [hM]
    cases s
    · simp only [Bool.false_eq_true, if_false] at hsum
      omega
    · simp only [if_true] at hsum
      rw [Int.neg_mul] at hsum
      omega
  · intro hn
    cases s
    · simp only [Bool.false_eq_true, if_false] at hsum
      exact (decide_eq_false (by omega)).symm
    · simp only [if_true] at hsum
      rw [Int.neg_mul] at hsum
      exact (decide_eq_true (by omega)).symm
theorem int_mul {a b : Int} (ha : a.natAbs < 10 ^ 10) (hb : b.natAbs < 10 ^ 10) : mulR (decOfV a) (decOfV b) = (decOfV (a * b), 0) := by
  have ha' : a.natAbs < 10 ^ 20 := by omega
  have hb' : b.natAbs < 10 ^ 20 := by omega
  obtain ⟨oa, ea, va, na, _⟩ := int_dec ha'
  obtain ⟨ob, eb, vb, nb, _⟩ := int_dec hb'
  unfold mulR
  rw [if_pos ⟨oa, ob⟩]
  have hab : (a * b).natAbs = a.natAbs * b.natAbs := Int.natAbs_mul a b
  refine form_int (by omega) ?_ ?_ ?_
  · rw [hab]
    have := Nat.mul_lt_mul'' ha hb
    rwa [← Nat.pow_add] at this
  · rw [hab, ← va, ← vb, Int.toNat_add ea eb, Nat.pow_add]
    ac_rfl
  · intro hn
    have h1 : a ≠ 0 := fun g => hn (by rw [g, Int.zero_mul])
    have h2 : b ≠ 0 := fun g => hn (by rw [g, Int.mul_zero])
    rw [(na h1).1, (nb h2).1]
    by_cases g1 : a < 0
    · by_cases g2 : b < 0
      · have := Int.mul_pos_of_neg_of_neg g1 g2
        rw [decide_eq_true g1, decide_eq_true g2, decide_eq_false (by omega)]; rfl
      · have := Int.mul_neg_of_neg_of_pos g1 (by omega : 0 < b)
        rw [decide_eq_true g1, decide_eq_false g2, decide_eq_true this]; rfl
    · by_cases g2 : b < 0
      · have := Int.mul_neg_of_pos_of_neg (by omega : 0 < a) g2
        rw [decide_eq_false g1, decide_eq_true g2, decide_eq_true this]; rfl
      · have := Int.mul_pos (by omega : 0 < a) (by omega : 0 < b)
        rw [decide_eq_false g1, decide_eq_false g2, decide_eq_false (by omega)]; rfl
theorem int_mod {a b : Int} (ha : a.natAbs < 10 ^ 15) (hb : b.natAbs < 10 ^ 15) (h0 : b ≠ 0) : modR (decOfV a) (decOfV b) = (decOfV (a.tmod b), 0) := by
  have ha' : a.natAbs < 10 ^ 20 := by omega
  have hb' : b.natAbs < 10 ^ 20 := by omega
  obtain ⟨oa, ea, va, na, _⟩ := int_dec ha'
  obtain ⟨ob, eb, vb, nb, _⟩ := int_dec hb'
  unfold modR
  rw [if_pos ⟨oa, ob⟩, if_neg (nb h0).2]
  unfold modV
  have e0 := low2_int ha' hb'
  obtain ⟨l1, l2⟩ := low2_le (decOfV a) (decOfV b)
  have la := int_lev ha' e0 l1
  have lb := int_lev hb' e0 l2
  have ht : (a.tmod b).natAbs = a.natAbs % b.natAbs := Int.natAbs_tmod a b
  refine form_int e0 ?_ ?_ ?_
  · rw [ht]
    exact Nat.lt_of_le_of_lt (Nat.mod_le _ _) ha'
  · rw [ht, ← la, ← lb, Nat.mul_mod_mul_right]
  · intro hn
    have h1 : a ≠ 0 := fun g => hn (by rw [g, Int.zero_tmod])
    rw [(na h1).1]
    by_cases g : a < 0
    · have := Int.tmod_nonneg b (by omega : 0 ≤ -a)
      rw [Int.neg_tmod] at this
      rw [decide_eq_true g, decide_eq_true (by omega)]
    · have := Int.tmod_nonneg b (by omega : 0 ≤ a)
      rw [decide_eq_false g, decide_eq_false (by omega)]
theorem int_whole {n : Int} (h : n.natAbs < 10 ^ 15) : val (decOfV n).dig * 10 ^ (decOfV n).exp.toNat ≤ 1000000000000000000 ∧ (if (decOfV n).neg then -((val (decOfV n).dig * 10 ^ (decOfV n).exp.toNat : Nat) : Int) else ((val (decOfV n).dig * 10 ^ (decOfV n).exp.toNat : Nat) : Int)) = n := by
  obtain ⟨o, e, v, m, _⟩ := int_dec (n := n) (by omega)
  rw [v]
  refine ⟨by omega, ?_⟩
  by_cases h0 : n = 0
  · subst h0; simp
  · rw [(m h0).1]
    by_cases g : n < 0
    · rw [decide_eq_true g, if_pos rfl]; omega
    · rw [decide_eq_false g, if_neg (by simp)]; omega

end Go.Proofs.YthijeckcjfnbcaaGreatDoor

/- The whole part of a quotient of two ints' decimals is the ints' quotient. No program in it. -/
namespace Go.Proofs.YthijeckcjfnbcaaGreatDoor
set_option linter.unusedVariables false

/-- A quotient that is rounded keeps its whole part, where the divisor is small. -/
theorem round_trunc {Q G M A B R : Nat} (hB : 0 < B) (hG : 0 < G) (h3 : Q * B ≤ A * (G * M) + B) (hI : Q / (G * M) = A / B) (hM : 2 * B < M) (hR : R = Q / G ∨ R = Q / G + 1) : R / M = A / B := by
  have hMp : 0 < M := by omega
  have hu : Q / G / M = A / B := by rw [Nat.div_div_eq_div_mul]; exact hI
  rcases hR with rfl | rfl
  · exact hu
  · obtain ⟨I, hI2⟩ : ∃ I, A / B = I := ⟨_, rfl⟩
    obtain ⟨u, hu2⟩ : ∃ u, Q / G = u := ⟨_, rfl⟩
    rw [hI2] at hu ⊢
    rw [hu2] at hu ⊢
    have l1 : I * M ≤ u := by rw [← hu]; exact Nat.div_mul_le_self u M
    have key : u + 1 < (I + 1) * M := by
      apply Nat.lt_of_not_le
      intro g
      have k0 : G * u ≤ Q := by rw [← hu2]; exact Nat.mul_div_le Q G
      have k1 : G * ((I + 1) * M) ≤ G * (u + 1) := Nat.mul_le_mul_left G g
      rw [Nat.mul_add G u 1, Nat.mul_one] at k1
      have k2 : G * ((I + 1) * M) * B ≤ (Q + G) * B := Nat.mul_le_mul_right B (by omega)
      rw [Nat.add_mul Q G B] at k2
      have h4 : A + 1 ≤ (I + 1) * B := by
        have := Nat.lt_mul_div_succ A hB
        rw [hI2] at this
        rw [Nat.mul_comm]
        exact this
      have k3 : (A + 1) * (G * M) ≤ (I + 1) * B * (G * M) := Nat.mul_le_mul_right _ h4
      have k4 : G * ((I + 1) * M) * B = (I + 1) * B * (G * M) := by ac_rfl
      rw [Nat.add_mul, Nat.one_mul] at k3
      have k5 : B ≤ G * B := Nat.le_mul_of_pos_left B hG
      have k6 : G * M ≤ G * (2 * B) := by
        have e2 : G * (2 * B) = G * B + G * B := by rw [Nat.two_mul, Nat.mul_add]
        rw [e2]
        rw [k4] at k2
        clear k1 k0 e2 k4 g l1 h4
        generalize (I + 1) * B * (G * M) = P at k2 k3
        generalize A * (G * M) = S at h3 k3
        generalize Q * B = U at h3 k2
        generalize G * B = V at k2 k5 ⊢
        generalize G * M = W at k3 ⊢
        omega
      have := Nat.le_of_mul_le_mul_left k6 hG
      omega
    exact Nat.div_eq_of_lt_le (by omega) (by omega)
theorem val_take {l : List UInt8} (h : Digs l) (k : Nat) : val (l.take k) = val l / 10 ^ (l.length - k) := by
  have e := val_append (l.take k) (l.drop k)
  rw [List.take_append_drop, List.length_drop] at e
  have hlt : val (l.drop k) < 10 ^ (l.length - k) := by
    have := val_lt (l := l.drop k) (fun b hb => h b (List.mem_of_mem_drop hb))
    rwa [List.length_drop] at this
  rw [e, Nat.add_comm, Nat.add_mul_div_right _ _ (Nat.pow_pos (by omega)), Nat.div_eq_of_lt hlt, Nat.zero_add]
/-- The whole part, by the value. -/
theorem int_of {d : DecV} (h : d.Ok) : intOfD d = (formOf d.neg (val d.dig * 10 ^ d.exp.toNat / 10 ^ (-d.exp).toNat) 0).1 := by
  unfold intOfD
  by_cases he : 0 ≤ d.exp
  · rw [if_pos he, show (-d.exp).toNat = 0 by omega, Nat.pow_zero, Nat.div_one]
    have := form_scale d.neg (val d.dig) d.exp.toNat d.exp
    rw [show d.exp - (d.exp.toNat : Int) = 0 by omega, form_self h] at this
    rw [this]
  · rw [if_neg he, show d.exp.toNat = 0 by omega, Nat.pow_zero, Nat.mul_one, val_take h.digs]
    congr 2
    by_cases hl : (-d.exp).toNat ≤ d.dig.length
    · congr 2; omega
    · have hlt := val_lt h.digs
      have e1 : d.dig.length - (d.dig.length + d.exp).toNat = d.dig.length := by omega
      rw [e1, Nat.div_eq_of_lt hlt]
      have : 10 ^ d.dig.length ≤ 10 ^ (-d.exp).toNat := Nat.pow_le_pow_right (by omega) (by omega)
      rw [Nat.div_eq_of_lt (by omega)]
/-- Rounding and cutting: what formOf makes of a great number with a small exponent. -/
theorem form_trunc (sg : Bool) {Q p f : Nat} {e : Int} (hQ : Q ≠ 0) (hp : over Q = p) (hp2 : p ≤ 60) (he : e + p = -(f : Int)) (hf : f ≤ 80) (he2 : -60 ≤ e) :
    ∃ d, formOf sg Q e = (d, 0) ∧ intOfD d = (formOf sg (rnd Q p / 10 ^ f) 0).1 := by
  obtain ⟨r0, r1⟩ := rnd_over hQ
  rw [hp] at r0 r1
  obtain ⟨q1, q2, q3⟩ := strip_ok (rnd Q p) r0
  obtain ⟨⟨r, j⟩, hs⟩ : ∃ x, strip (rnd Q p) = x := ⟨_, rfl⟩
  rw [hs] at q1 q2 q3
  dsimp only at q1 q2 q3
  have hj : j ≤ 20 := by
    have h1 : 10 ^ j ≤ r * 10 ^ j := Nat.le_mul_of_pos_left _ (by omega)
    exact (Nat.pow_le_pow_iff_right (by omega : 1 < 10)).1 (by omega)
  have hrl : (natOf r).length ≤ 21 := by
    refine natOf_len_lt (k := 21) ?_ q2
    have h1 : r ≤ r * 10 ^ j := Nat.le_mul_of_pos_right _ (Nat.pow_pos (by omega))
    have h2 : (10 : Nat) ^ 20 < 10 ^ 21 := by decide
    omega
  have hr1 : 1 ≤ (natOf r).length := List.length_pos_iff.2 (natOf_canon r).1
  have hform : formOf sg Q e = (⟨sg, natOf r, e + p + j⟩, 0) := by
    unfold formOf
    rw [if_neg hQ, hp, hs]
    dsimp only
    rw [if_neg (by omega), if_neg (by omega)]
  refine ⟨_, hform, ?_⟩
  have hok := form_ok sg Q e
  rw [hform] at hok
  rw [int_of hok]
  dsimp only
  rw [val_natOf, q3]
  congr 2
  by_cases hjf : f ≤ j
  · rw [show (e + p + j).toNat = j - f by omega, show (-(e + p + j)).toNat = 0 by omega, Nat.pow_zero, Nat.div_one]
    have : (10 : Nat) ^ j = 10 ^ (j - f) * 10 ^ f := by rw [← Nat.pow_add]; congr 1; omega
    rw [this, ← Nat.mul_assoc, Nat.mul_div_cancel _ (Nat.pow_pos (by omega))]
  · rw [show (e + p + j).toNat = 0 by omega, show (-(e + p + j)).toNat = f - j by omega, Nat.pow_zero, Nat.mul_one]
    have : (10 : Nat) ^ f = 10 ^ (f - j) * 10 ^ j := by rw [← Nat.pow_add]; congr 1; omega
    rw [this, Nat.mul_div_mul_right _ _ (Nat.pow_pos (by omega))]

/-- The quotient of two ints' decimals, in the integers' terms. -/
theorem div_nat (sg : Bool) {va vb ka kb A B : Nat} (hA : va * 10 ^ ka = A) (hB : vb * 10 ^ kb = B) (ha : A < 10 ^ 7) (hb : B < 10 ^ 7) (pa : 0 < va) (pb : 0 < vb) (Q t : Nat) (ht : t = 40 ∨ t = 41)
    (hQ : t = 40 ∧ va * 10 ^ 40 % vb = 0 ∧ Q = va * 10 ^ 40 / vb ∨ t = 41 ∧ Q = 10 * (va * 10 ^ 40 / vb) + 1) :
    ∃ d, formOf sg Q ((ka : Int) - kb - t) = (d, 0) ∧ intOfD d = (formOf sg (A / B) 0).1 := by
  have hka : ka < 7 := by
    have h1 : 10 ^ ka ≤ va * 10 ^ ka := Nat.le_mul_of_pos_left _ pa
    exact (Nat.pow_lt_pow_iff_right (by omega : 1 < 10)).1 (by omega)
  have hkb : kb < 7 := by
    have h1 : 10 ^ kb ≤ vb * 10 ^ kb := Nat.le_mul_of_pos_left _ pb
    exact (Nat.pow_lt_pow_iff_right (by omega : 1 < 10)).1 (by omega)
  have hBp : 0 < B := by rw [← hB]; exact Nat.mul_pos pb (Nat.pow_pos (by omega))
  have hvb : vb < 10 ^ 7 := by
    have h1 : vb ≤ vb * 10 ^ kb := Nat.le_mul_of_pos_right _ (Nat.pow_pos (by omega))
    omega
  obtain ⟨c, hc⟩ : ∃ c, va * 10 ^ 40 / vb = c := ⟨_, rfl⟩
  have hcp : 0 < c := by
    rw [← hc]
    refine Nat.div_pos ?_ pb
    have h1 : 1 * 10 ^ 40 ≤ va * 10 ^ 40 := Nat.mul_le_mul_right _ pa
    have h2 : (10 : Nat) ^ 7 ≤ 1 * 10 ^ 40 := by decide
    omega
  have hcu : c * 10 ^ ka ≤ A * 10 ^ 40 := by
    have h1 : c ≤ va * 10 ^ 40 := by rw [← hc]; exact Nat.div_le_self _ _
    calc c * 10 ^ ka ≤ va * 10 ^ 40 * 10 ^ ka := Nat.mul_le_mul_right _ h1
      _ = va * 10 ^ ka * 10 ^ 40 := by ac_rfl
      _ = A * 10 ^ 40 := by rw [hA]
  have hcv : c * vb ≤ va * 10 ^ 40 := by rw [← hc]; exact Nat.div_mul_le_self _ _
  have hQ0 : Q ≠ 0 := by rcases hQ with ⟨_, _, h⟩ | ⟨_, h⟩ <;> omega
  have hQl : (natOf Q).length + ka ≤ 49 := by
    have h1 : Q * 10 ^ ka < 10 ^ 49 := by
      have h2 : 10 ^ ka ≤ 10 ^ 7 := Nat.pow_le_pow_right (by omega) (by omega)
      have h3 : A * 10 ^ 40 ≤ 10 ^ 7 * 10 ^ 40 := Nat.mul_le_mul_right _ (by omega)
      have h4 : (10 : Nat) ^ 7 * 10 ^ 40 = 10 ^ 47 := by decide
      have h5 : (10 : Nat) * 10 ^ 47 + 10 ^ 7 < 10 ^ 49 := by decide
      rcases hQ with ⟨_, _, h⟩ | ⟨_, h⟩
      · rw [h, hc]; omega
      · rw [h, hc, Nat.add_mul, Nat.one_mul, Nat.mul_assoc]; omega
    have h6 : Q < 10 ^ (49 - ka) := by
      refine Nat.lt_of_mul_lt_mul_right (a := 10 ^ ka) ?_
      rw [← Nat.pow_add, Nat.sub_add_cancel (by omega)]
      exact h1
    have := natOf_len_lt h6 hQ0
    omega
  obtain ⟨p, hp⟩ : ∃ p, over Q = p := ⟨_, rfl⟩
  have hpo : p = (natOf Q).length - 20 := by rw [← hp]; rfl
  obtain ⟨f, hf⟩ : ∃ f : Nat, (ka : Int) - kb - t + p = -(f : Int) := ⟨(-((ka : Int) - kb - t + p)).toNat, by omega⟩
  have hf12 : 11 ≤ f := by omega
  obtain ⟨d, hd1, hd2⟩ := form_trunc sg hQ0 hp (by omega) hf (by omega) (by omega)
  refine ⟨d, hd1, ?_⟩
  rw [hd2]
  congr 2
  obtain ⟨m, hm⟩ : ∃ m, p + f = m := ⟨_, rfl⟩
  have hmt : m + ka = t + kb := by omega
  have hGM : 10 ^ p * 10 ^ f = 10 ^ m := by rw [← Nat.pow_add, hm]
  -- the number in the integers' terms
  have hX : A * 10 ^ m = va * 10 ^ t * 10 ^ kb := by
    rw [← hA, Nat.mul_assoc, ← Nat.pow_add, Nat.mul_assoc, ← Nat.pow_add]
    congr 2
    omega
  have h3 : Q * B ≤ A * 10 ^ m + B ∧ Q / 10 ^ m = A / B := by
    have hpk : 0 < 10 ^ kb := Nat.pow_pos (by omega)
    rcases hQ with ⟨rfl, h0, h⟩ | ⟨rfl, h⟩
    · have hex : Q * vb = va * 10 ^ 40 := by rw [h]; exact Nat.div_mul_cancel (Nat.dvd_of_mod_eq_zero h0)
      have hQB : Q * B = A * 10 ^ m := by rw [hX, ← hex, ← hB]; ac_rfl
      refine ⟨by omega, ?_⟩
      rw [← Nat.mul_div_mul_right Q (10 ^ m) hBp, hQB, Nat.mul_comm (10 ^ m) B, Nat.mul_div_mul_right _ _ (Nat.pow_pos (by omega))]
    · obtain ⟨m', rfl⟩ : ∃ m', m = m' + 1 := ⟨m - 1, by omega⟩
      have hX2 : A * 10 ^ m' = va * 10 ^ 40 * 10 ^ kb := by
        have e1 : (10 : Nat) ^ (m' + 1) = 10 * 10 ^ m' := by rw [Nat.pow_succ, Nat.mul_comm]
        have e2 : (10 : Nat) ^ 41 = 10 * 10 ^ 40 := by decide
        rw [e1, e2] at hX
        have : 10 * (A * 10 ^ m') = 10 * (va * 10 ^ 40 * 10 ^ kb) := by
          calc 10 * (A * 10 ^ m') = A * (10 * 10 ^ m') := by ac_rfl
            _ = va * (10 * 10 ^ 40) * 10 ^ kb := hX
            _ = 10 * (va * 10 ^ 40 * 10 ^ kb) := by ac_rfl
        omega
      rw [h, hc]
      constructor
      · have k1 : c * B ≤ A * 10 ^ m' := by
          rw [hX2, ← hB, ← Nat.mul_assoc]
          exact Nat.mul_le_mul_right _ hcv
        rw [Nat.pow_succ, ← Nat.mul_assoc, Nat.add_mul, Nat.one_mul, Nat.mul_assoc]
        omega
      · rw [Nat.pow_succ, Nat.mul_comm (10 ^ m') 10, ← Nat.div_div_eq_div_mul, show (10 * c + 1) / 10 = c by omega, ← hc, Nat.div_div_eq_div_mul]
        rw [← Nat.mul_div_mul_right (va * 10 ^ 40) (vb * 10 ^ m') hpk, ← hX2]
        have : vb * 10 ^ m' * 10 ^ kb = B * 10 ^ m' := by rw [← hB]; ac_rfl
        rw [this, Nat.mul_div_mul_right _ _ (Nat.pow_pos (by omega))]
  have hR := rnd_le Q p
  refine round_trunc (G := 10 ^ p) hBp (Nat.pow_pos (by omega)) (by rw [hGM]; exact h3.1) (by rw [hGM]; exact h3.2) ?_ (by omega)
  have h12 : (10 : Nat) ^ 11 ≤ 10 ^ f := Nat.pow_le_pow_right (by omega) hf12
  have h13 : 2 * 10 ^ 7 < (10 : Nat) ^ 11 := by decide
  omega
theorem int_quot {a b : Int} (ha : a.natAbs < 10 ^ 7) (hb : b.natAbs < 10 ^ 7) (h0 : b ≠ 0) : ∃ d, divR (decOfV a) (decOfV b) = (d, 0) ∧ intR d = decOfV (a.tdiv b) := by
  obtain ⟨oa, ea, va, na, fa⟩ := int_dec (n := a) (by omega)
  obtain ⟨ob, eb, vb, nb, _⟩ := int_dec (n := b) (by omega)
  have hD : divR (decOfV a) (decOfV b) = divV (decOfV a) (decOfV b) := by unfold divR; rw [if_pos ⟨oa, ob⟩, if_neg (nb h0).2]
  have hq : (a.tdiv b).natAbs = a.natAbs / b.natAbs := Int.natAbs_tdiv a b
  rw [hD]
  by_cases a0 : a = 0
  · subst a0
    have e1 : decOfV 0 = DecV.zero := by unfold decOfV; rw [show (0 : Int).natAbs = 0 from rfl, form_zero]
    refine ⟨DecV.zero, ?_, ?_⟩
    · unfold divV
      rw [e1, show val DecV.zero.dig = 0 from rfl, Nat.zero_mul, Nat.zero_mod, if_pos rfl, Nat.zero_div, form_zero]
    · rw [Int.zero_tdiv, e1]
      unfold intR
      rw [if_pos (.inl rfl)]
      unfold intOfD
      rw [if_pos (show (0 : Int) ≤ DecV.zero.exp from Int.le_refl _)]
  · have pa := (oa.pos (na a0).2).1
    have pb := (ob.pos (nb h0).2).1
    have hex : ((decOfV a).exp.toNat : Int) = (decOfV a).exp := by omega
    have hey : ((decOfV b).exp.toNat : Int) = (decOfV b).exp := by omega
    have hsg : ∀ d, intOfD d = (formOf ((decOfV a).neg != (decOfV b).neg) (a.natAbs / b.natAbs) 0).1 → intOfD d = decOfV (a.tdiv b) := fun d hd => by
      rw [hd]
      suffices hfi : formOf ((decOfV a).neg != (decOfV b).neg) (a.natAbs / b.natAbs) 0 = (decOfV (a.tdiv b), 0) by rw [hfi]
      refine form_int (n := a.tdiv b) (Int.le_refl 0) ?_ ?_ ?_
      · rw [hq]; exact Nat.lt_of_le_of_lt (Nat.div_le_self _ _) (by omega)
      · rw [hq]; simp
      · intro hn
        rw [(na a0).1, (nb h0).1]
        by_cases g1 : a < 0
        · by_cases g2 : b < 0
          · have := Int.tdiv_nonneg_of_nonpos_of_nonpos (by omega : a ≤ 0) (by omega : b ≤ 0)
            rw [decide_eq_true g1, decide_eq_true g2, decide_eq_false (by omega)]; rfl
          · have := Int.tdiv_nonneg (by omega : 0 ≤ -a) (by omega : 0 ≤ b)
            rw [Int.neg_tdiv] at this
            rw [decide_eq_true g1, decide_eq_false g2, decide_eq_true (by omega)]; rfl
        · by_cases g2 : b < 0
          · have := Int.tdiv_nonneg (by omega : 0 ≤ a) (by omega : 0 ≤ -b)
            rw [Int.tdiv_neg] at this
            rw [decide_eq_false g1, decide_eq_true g2, decide_eq_true (by omega)]; rfl
          · have := Int.tdiv_nonneg (by omega : 0 ≤ a) (by omega : 0 ≤ b)
            rw [decide_eq_false g1, decide_eq_false g2, decide_eq_false (by omega)]; rfl
    have fin : ∀ d, divV (decOfV a) (decOfV b) = (d, 0) → intOfD d = (formOf ((decOfV a).neg != (decOfV b).neg) (a.natAbs / b.natAbs) 0).1 → ∃ d, divV (decOfV a) (decOfV b) = (d, 0) ∧ intR d = decOfV (a.tdiv b) := fun d h1 h2 => by
      refine ⟨d, h1, ?_⟩
      have hok : d.Ok := by
        have := form_ok ((decOfV a).neg != (decOfV b).neg) (if val (decOfV a).dig * 10 ^ 40 % val (decOfV b).dig = 0 then val (decOfV a).dig * 10 ^ 40 / val (decOfV b).dig else 10 * (val (decOfV a).dig * 10 ^ 40 / val (decOfV b).dig) + 1) (if val (decOfV a).dig * 10 ^ 40 % val (decOfV b).dig = 0 then (decOfV a).exp - (decOfV b).exp - 40 else (decOfV a).exp - (decOfV b).exp - 40 - 1)
        have e : (divV (decOfV a) (decOfV b)).1 = d := by rw [h1]
        rw [← e]
        exact this
      unfold intR
      rw [if_pos hok]
      exact hsg d h2
    by_cases hm : val (decOfV a).dig * 10 ^ 40 % val (decOfV b).dig = 0
    · obtain ⟨d, h1, h2⟩ := div_nat ((decOfV a).neg != (decOfV b).neg) va vb ha hb pa pb _ 40 (.inl rfl) (.inl ⟨rfl, hm, rfl⟩)
      refine fin d ?_ h2
      rw [← h1]
      unfold divV
      rw [if_pos hm, if_pos hm, hex, hey]
      rfl
    · obtain ⟨d, h1, h2⟩ := div_nat ((decOfV a).neg != (decOfV b).neg) va vb ha hb pa pb _ 41 (.inr rfl) (.inr ⟨rfl, rfl⟩)
      refine fin d ?_ h2
      rw [← h1]
      unfold divV
      rw [if_neg hm, if_neg hm, hex, hey]
      congr 1
      omega

end Go.Proofs.YthijeckcjfnbcaaGreatDoor
