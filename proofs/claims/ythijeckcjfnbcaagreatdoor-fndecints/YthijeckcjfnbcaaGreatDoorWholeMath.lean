/- A decimal as an int, plainly: by its value, and by strconv's reading of its text. No program in it. -/
import Derived.Test.YthijeckcjfnbcaaGreatDoorDecTextMath
import Derived.Test.YthijeckcjfnbcaaGreatDoorSpecDec12
import Derived.Lib.AtoiAllCases
namespace Go.Proofs.YthijeckcjfnbcaaGreatDoor
set_option linter.unusedVariables false

/-- What is read is all digits, and their number. -/
theorem parse_ok : ∀ (l : List UInt8) (acc u : Nat), Lib.parseUint10 acc l = .ok u → Digs l ∧ u = acc * 10 ^ l.length + val l
  | [], acc, u, h => by
    simp only [Lib.parseUint10] at h
    injection h with h
    exact ⟨digs_nil, by rw [← h]; simp [val]⟩
  | c :: r, acc, u, h => by
    simp only [Lib.parseUint10] at h
    split at h
    · next hc =>
      split at h
      · cases h
      · split at h
        · cases h
        · obtain ⟨h1, h2⟩ := parse_ok r _ u h
          refine ⟨fun b hb => ?_, ?_⟩
          · rcases List.mem_cons.1 hb with rfl | hb
            · exact hc
            · exact h1 b hb
          · rw [h2, val_cons, List.length_cons, Nat.pow_succ, Nat.add_mul]
            have e1 : acc * 10 * 10 ^ r.length = acc * (10 ^ r.length * 10) := by rw [Nat.mul_assoc, Nat.mul_comm 10]
            have e2 : dv c = c.toNat - 48 := rfl
            rw [e1, e2, Nat.add_assoc]
    · cases h
theorem parse_of : ∀ (l : List UInt8) (acc : Nat), Digs l → acc * 10 ^ l.length + val l < 10000000000000000000 → Lib.parseUint10 acc l = .ok (acc * 10 ^ l.length + val l)
  | [], acc, _, _ => by simp [Lib.parseUint10, val]
  | c :: r, acc, hd, hb => by
    have hc := hd.cons.1
    have e2 : dv c = c.toNat - 48 := rfl
    have key : acc * 10 ^ (c :: r).length + val (c :: r) = (acc * 10 + (c.toNat - 48)) * 10 ^ r.length + val r := by
      rw [val_cons, List.length_cons, Nat.pow_succ, Nat.add_mul]
      have e1 : acc * 10 * 10 ^ r.length = acc * (10 ^ r.length * 10) := by rw [Nat.mul_assoc, Nat.mul_comm 10]
      rw [e1, e2, Nat.add_assoc]
    rw [key] at hb ⊢
    have hp : 1 ≤ 10 ^ r.length := Nat.pow_pos (by omega)
    have h1 : (acc * 10 + (c.toNat - 48)) * 1 ≤ (acc * 10 + (c.toNat - 48)) * 10 ^ r.length := Nat.mul_le_mul_left _ hp
    simp only [Lib.parseUint10]
    rw [if_pos (show 48 ≤ c.toNat ∧ c.toNat ≤ 57 from hc), if_neg (by omega), if_neg (by omega)]
    exact parse_of r _ hd.cons.2 hb

/-- The answer of impl, by strconv's reading. -/
def wholeI (l : List UInt8) : Int × Bool := match Lib.atoiAll l with
  | .ok v => if v < -1000000000000000000 ∨ 1000000000000000000 < v then (0, false) else (v, true)
  | _ => (0, false)
/-- The answer, by the value. -/
noncomputable def wholeR (d : DecV) : Int × Bool :=
  if d.Ok ∧ 0 ≤ d.exp ∧ val d.dig * 10 ^ d.exp.toNat ≤ 1000000000000000000 then (if d.neg then -((val d.dig * 10 ^ d.exp.toNat : Nat) : Int) else ((val d.dig * 10 ^ d.exp.toNat : Nat) : Int), true) else (0, false)

theorem mag_not {l : List UInt8} (h : ¬ Digs l) : ∀ u, Lib.parseMag l ≠ .ok u := by
  intro u hu
  unfold Lib.parseMag at hu
  split at hu
  · cases hu
  · exact h (parse_ok l 0 u hu).1
theorem whole_not {l : List UInt8} (neg : Bool) (h : ¬ Digs l) (h1 : l.head? ≠ some 43) (h2 : l.head? ≠ some 45) : wholeI ((if neg then [45] else []) ++ l) = (0, false) := by
  have hm := mag_not h
  unfold wholeI
  cases neg
  · rw [if_neg (by simp), List.nil_append]
    cases l with
    | nil => rfl
    | cons c r =>
      have c1 : c.toNat ≠ 43 := fun e => h1 (by rw [List.head?_cons]; congr 1; exact UInt8.toNat_inj.1 e)
      have c2 : c.toNat ≠ 45 := fun e => h2 (by rw [List.head?_cons]; congr 1; exact UInt8.toNat_inj.1 e)
      rw [Lib.atoiAll_plain c r c1 c2]
      cases hp : Lib.parseMag (c :: r) with
      | ok u => exact absurd hp (hm u)
      | «syntax» => rfl
      | range => rfl
  · rw [if_pos rfl]
    show (match Lib.atoiAll (45 :: l) with
      | .ok v => if v < -1000000000000000000 ∨ 1000000000000000000 < v then ((0, false) : Int × Bool) else (v, true)
      | _ => (0, false)) = _
    rw [Lib.atoiAll_minus]
    cases hp : Lib.parseMag l with
    | ok u => exact absurd hp (hm u)
    | «syntax» => rfl
    | range => rfl
theorem whole_digs {l : List UInt8} (neg : Bool) (h : Digs l) (h0 : l ≠ []) :
    wholeI ((if neg then [45] else []) ++ l) = if val l ≤ 1000000000000000000 then (if neg then -((val l : Nat) : Int) else ((val l : Nat) : Int), true) else (0, false) := by
  have hm : ∀ u, Lib.parseMag l = .ok u → u = val l := by
    intro u hu
    unfold Lib.parseMag at hu
    rw [if_neg h0] at hu
    have := (parse_ok l 0 u hu).2
    rw [this]; simp
  have hg : val l ≤ 1000000000000000000 → Lib.parseMag l = .ok (val l) := by
    intro hv
    unfold Lib.parseMag
    rw [if_neg h0]
    have := parse_of l 0 h (by rw [Nat.zero_mul, Nat.zero_add]; omega)
    rwa [Nat.zero_mul, Nat.zero_add] at this
  unfold wholeI
  cases neg
  · rw [if_neg (by simp), List.nil_append]
    obtain ⟨c, r, rfl⟩ : ∃ c r, l = c :: r := by cases l with | nil => exact absurd rfl h0 | cons c r => exact ⟨c, r, rfl⟩
    have hc := h.cons.1
    unfold IsD at hc
    rw [Lib.atoiAll_plain c r (by omega) (by omega)]
    by_cases hv : val (c :: r) ≤ 1000000000000000000
    · rw [hg hv, if_pos hv]
      have e : Lib.signless (.ok (val (c :: r))) = .ok ((val (c :: r) : Nat) : Int) := by show (if _ then _ else _) = _; rw [if_neg (by omega)]
      rw [e]
      show (if _ then _ else _) = _
      rw [if_neg (by omega)]; rfl
    · rw [if_neg hv]
      cases hp : Lib.parseMag (c :: r) with
      | ok u =>
        have hu := hm u hp
        subst hu
        by_cases h63 : 9223372036854775808 ≤ val (c :: r)
        · have e : Lib.signless (.ok (val (c :: r))) = .range := by show (if _ then _ else _) = _; rw [if_pos h63]
          rw [e]
        · have e : Lib.signless (.ok (val (c :: r))) = .ok ((val (c :: r) : Nat) : Int) := by show (if _ then _ else _) = _; rw [if_neg h63]
          rw [e]
          show (if _ then _ else _) = _
          rw [if_pos (by omega)]
      | «syntax» => rfl
      | range => rfl
  · rw [if_pos rfl]
    show (match Lib.atoiAll (45 :: l) with
      | .ok v => if v < -1000000000000000000 ∨ 1000000000000000000 < v then ((0, false) : Int × Bool) else (v, true)
      | _ => (0, false)) = _
    rw [Lib.atoiAll_minus]
    by_cases hv : val l ≤ 1000000000000000000
    · rw [hg hv, if_pos hv]
      have e : Lib.signed (.ok (val l)) = .ok (-((val l : Nat) : Int)) := by show (if _ then _ else _) = _; rw [if_neg (by omega)]
      rw [e]
      show (if _ then _ else _) = _
      rw [if_neg (by omega)]; rfl
    · rw [if_neg hv]
      cases hp : Lib.parseMag l with
      | ok u =>
        have hu := hm u hp
        subst hu
        by_cases h63 : 9223372036854775808 < val l
        · have e : Lib.signed (.ok (val l)) = .range := by show (if _ then _ else _) = _; rw [if_pos h63]
          rw [e]
        · have e : Lib.signed (.ok (val l)) = .ok (-((val l : Nat) : Int)) := by show (if _ then _ else _) = _; rw [if_neg h63]
          rw [e]
          show (if _ then _ else _) = _
          rw [if_pos (by omega)]
      | «syntax» => rfl
      | range => rfl

theorem not_digs {l : List UInt8} {b : UInt8} (hb : b ∈ l) (h : ¬ IsD b) : ¬ Digs l := fun g => h (g b hb)
theorem head_digs {l r : List UInt8} (h : Digs l) (h0 : l ≠ []) : (l ++ r).head? ≠ some 43 ∧ (l ++ r).head? ≠ some 45 := by
  cases l with
  | nil => exact absurd rfl h0
  | cons c t =>
    have hc := h.cons.1
    unfold IsD at hc
    constructor <;> (rw [List.cons_append, List.head?_cons]; intro e; rw [Option.some.inj e] at hc; revert hc; decide)
/-- strconv's reading of a decimal's text is the decimal's value. -/
theorem whole_text (d : DecV) : wholeI (textR d) = wholeR d := by
  unfold textR wholeR
  by_cases ok : d.Ok
  · rw [if_pos ok]
    by_cases hn : d.dig = []
    · have e := ok.nil hn
      subst e
      rw [if_pos hn]
      have e1 : val DecV.zero.dig * 10 ^ DecV.zero.exp.toNat = 0 := rfl
      rw [if_pos ⟨ok, by decide, by rw [e1]; omega⟩, e1]
      rfl
    · rw [if_neg hn]
      obtain ⟨p1, p2, p3⟩ := ok.pos hn
      have hd := ok.digs
      have hl := List.length_pos_iff.2 hn
      have hsg : signOf d = if d.neg then [45] else [] := rfl
      have hmag : d.mag = d.exp + d.dig.length - 1 := rfl
      have hpow := pos_of_head hd hn p2
      by_cases hc : d.mag < -7 ∨ 20 < d.mag
      · rw [if_pos hc, hsg]
        have h1 : ¬ Digs (sciOf d) := by
          unfold sciOf
          apply not_digs (b := 101)
          · rw [List.mem_append]; right; split <;> simp
          · unfold IsD; decide
        have ht : d.dig.take 1 ≠ [] := by
          intro e
          rw [List.take_eq_nil_iff] at e
          rcases e with e | e
          · omega
          · exact hn e
        have h2 : (sciOf d).head? ≠ some 43 ∧ (sciOf d).head? ≠ some 45 := by
          unfold sciOf
          rw [List.append_assoc]
          exact head_digs (fun b hb => hd b (List.mem_of_mem_take hb)) ht
        rw [whole_not d.neg h1 h2.1 h2.2]
        rw [if_neg]
        rintro ⟨_, g1, g2⟩
        have h3 : 10 ^ 20 ≤ val d.dig * 10 ^ d.exp.toNat := by
          have h4 : 10 ^ 20 ≤ 10 ^ (d.dig.length - 1 + d.exp.toNat) := Nat.pow_le_pow_right (by omega) (by omega)
          rw [Nat.pow_add] at h4
          exact Nat.le_trans h4 (Nat.mul_le_mul_right _ hpow)
        omega
      · rw [if_neg hc, hsg]
        by_cases he : 0 ≤ d.exp
        · have e1 : plainOf d = d.dig ++ List.replicate d.exp.toNat 48 := by unfold plainOf; rw [if_pos he]
          rw [e1, whole_digs d.neg (hd.append (val_zeros _).2) (by simp [hn]), val_pad]
          by_cases hv : val d.dig * 10 ^ d.exp.toNat ≤ 1000000000000000000
          · rw [if_pos hv]; exact (if_pos ⟨ok, he, hv⟩).symm
          · rw [if_neg hv]; exact (if_neg (fun g => hv g.2.2)).symm
        · have h1 : ¬ Digs (plainOf d) := by
            unfold plainOf
            rw [if_neg he]
            apply not_digs (b := 46)
            · split <;> simp
            · unfold IsD; decide
          have h2 : (plainOf d).head? ≠ some 43 ∧ (plainOf d).head? ≠ some 45 := by
            unfold plainOf
            rw [if_neg he]
            split
            · next hm =>
              have ht : d.dig.take (d.mag + 1).toNat ≠ [] := by
                intro e
                rw [List.take_eq_nil_iff] at e
                rcases e with e | e
                · omega
                · exact hn e
              rw [List.append_assoc]
              exact head_digs (fun b hb => hd b (List.mem_of_mem_take hb)) ht
            · exact ⟨by simp, by simp⟩
          rw [whole_not d.neg h1 h2.1 h2.2]
          exact (if_neg (fun g => he g.2.1)).symm
  · rw [if_neg ok, if_neg (fun g => ok g.1)]
    rfl

end Go.Proofs.YthijeckcjfnbcaaGreatDoor
