/- Plain mathematics of chapter 3: a decimal as sign, digits, power of ten; normalizing. No program in it. Prepared ahead of the code. -/
import Derived.Test.YthijeckcjfnbcaaGreatDoorSpecNatA
import Derived.Lib.TrimByte
import Derived.Lib.Bytealg
namespace Go.Proofs.YthijeckcjfnbcaaGreatDoor
set_option linter.unusedVariables false

/-- The last digit of a number's digits, and the digits ahead of it. -/
theorem natOf_last (v : Nat) : (natOf v).getLast? = some (dig (v % 10)) := by
  by_cases h : v < 10
  · rw [natOf_small h, Nat.mod_eq_of_lt h]; rfl
  · rw [natOf_big h]; simp
theorem natOf_init {v : Nat} (h : ¬ v < 10) : (natOf v).dropLast = natOf (v / 10) := by rw [natOf_big h]; simp
theorem dig_zero_iff {d : Nat} (h : d < 10) : dig d = 48 ↔ d = 0 := by
  constructor
  · intro e
    have := dig_toNat h
    rw [e] at this
    have h2 : (48 : UInt8).toNat = 48 := rfl
    omega
  · intro e; subst e; rfl

/-- A number without the noughts at its end, and how many there were. -/
def strip (v : Nat) : Nat × Nat := if h : v ≠ 0 ∧ v % 10 = 0 then ((strip (v / 10)).1, (strip (v / 10)).2 + 1) else (v, 0)
termination_by v
decreasing_by all_goals omega

theorem strip_stop {v : Nat} (h : v % 10 ≠ 0) : strip v = (v, 0) := by rw [strip, dif_neg (fun g => h g.2)]
theorem strip_step {v : Nat} (h0 : v ≠ 0) (h : v % 10 = 0) : strip v = ((strip (v / 10)).1, (strip (v / 10)).2 + 1) := by rw [strip, dif_pos ⟨h0, h⟩]
theorem strip_ok : ∀ v : Nat, v ≠ 0 → (strip v).1 % 10 ≠ 0 ∧ (strip v).1 ≠ 0 ∧ v = (strip v).1 * 10 ^ (strip v).2 := by
  intro v
  induction v using Nat.strongRecOn with
  | _ v ih =>
    intro h0
    by_cases h : v % 10 = 0
    · have hq : v / 10 ≠ 0 := by omega
      obtain ⟨a, b, c⟩ := ih (v / 10) (by omega) hq
      rw [strip_step h0 h]
      refine ⟨a, b, ?_⟩
      show v = (strip (v / 10)).1 * 10 ^ ((strip (v / 10)).2 + 1)
      rw [Nat.pow_succ, ← Nat.mul_assoc, ← c]
      omega
    · rw [strip_stop h]
      exact ⟨h, h0, by simp⟩

/-- A decimal: sign, digits, power of ten. -/
structure DecV where
  neg : Bool
  dig : List UInt8
  exp : Int
def DecV.zero : DecV := ⟨false, [], 0⟩
/-- Valid: 0, or 1 to 20 digits, neither the first nor the last a nought, the magnitude in -99..99. -/
def DecV.Ok (d : DecV) : Prop :=
  d = DecV.zero ∨ (Digs d.dig ∧ 1 ≤ d.dig.length ∧ d.dig.length ≤ 20 ∧ d.dig.head? ≠ some 48 ∧ d.dig.getLast? ≠ some 48 ∧ -99 ≤ d.exp + d.dig.length - 1 ∧ d.exp + d.dig.length - 1 ≤ 99)

/-- How many digits are too many. -/
def over (v : Nat) : Nat := (natOf v).length - 20
/-- v times a power of ten, normalized: the decimal and the code (0: as it is; 1: too great). -/
def formOf (neg : Bool) (v : Nat) (e : Int) : DecV × Int :=
  if v = 0 then (DecV.zero, 0)
  else
    let s := strip (rnd v (over v))
    let x := e + over v + s.2
    let height := x + (natOf s.1).length - 1
    if 99 < height then (DecV.zero, 1) else if height < -99 then (DecV.zero, 0) else (⟨neg, natOf s.1, x⟩, 0)

theorem rnd_zero (v : Nat) : rnd v 0 = v := by
  unfold rnd
  rw [if_neg (by simp; omega)]; simp
theorem form_zero (neg : Bool) (e : Int) : formOf neg 0 e = (DecV.zero, 0) := by unfold formOf; rw [if_pos rfl]

theorem rnd_le (v n : Nat) : v / 10 ^ n ≤ rnd v n ∧ rnd v n ≤ v / 10 ^ n + 1 := by
  unfold rnd
  split <;> omega
theorem natOf_len_lt {x k : Nat} (h : x < 10 ^ k) (hx : x ≠ 0) : (natOf x).length ≤ k := by
  have h1 := pos_of_head (natOf_digs x) (natOf_ne x) (natOf_head x (by omega))
  rw [val_natOf] at h1
  have h2 := (Nat.pow_lt_pow_iff_right (a := 10) (by omega)).1 (Nat.lt_of_le_of_lt h1 h)
  omega
/-- Rounded to 20 digits: not 0, at most 10^20. -/
theorem rnd_over {v : Nat} (h : v ≠ 0) : rnd v (over v) ≠ 0 ∧ rnd v (over v) ≤ 10 ^ 20 := by
  have hlt : v < 10 ^ (natOf v).length := by have := val_lt (natOf_digs v); rwa [val_natOf] at this
  have hge := pos_of_head (natOf_digs v) (natOf_ne v) (natOf_head v (by omega))
  rw [val_natOf] at hge
  by_cases hl : (natOf v).length ≤ 20
  · have e : over v = 0 := by unfold over; omega
    rw [e, rnd_zero]
    have : 10 ^ (natOf v).length ≤ 10 ^ 20 := Nat.pow_le_pow_right (by omega) hl
    exact ⟨h, by omega⟩
  · obtain ⟨n, hn⟩ : ∃ n, over v = n := ⟨_, rfl⟩
    have hL : (natOf v).length = 20 + n := by unfold over at hn; omega
    have hp : 0 < 10 ^ n := Nat.pow_pos (by omega)
    rw [hn]
    obtain ⟨a, b⟩ := rnd_le v n
    rw [hL, Nat.pow_add] at hlt
    rw [hL, show 20 + n - 1 = 19 + n by omega, Nat.pow_add] at hge
    have h1 : v / 10 ^ n < 10 ^ 20 := by rw [Nat.div_lt_iff_lt_mul hp]; exact hlt
    have h2 : 10 ^ 19 ≤ v / 10 ^ n := by rw [Nat.le_div_iff_mul_le hp]; exact hge
    have h3 : 0 < 10 ^ 19 := Nat.pow_pos (by omega)
    exact ⟨by omega, by omega⟩
/-- What normalizing answers is valid. -/
theorem form_ok (neg : Bool) (v : Nat) (e : Int) : (formOf neg v e).1.Ok := by
  unfold formOf
  split
  · exact .inl rfl
  · next hv =>
    obtain ⟨r0, r1⟩ := rnd_over hv
    obtain ⟨s0, s1, s2⟩ := strip_ok _ r0
    generalize strip (rnd v (over v)) = s at *
    have hlt : s.1 < 10 ^ 20 := by
      rcases Nat.eq_zero_or_pos s.2 with hk | hk
      · rw [hk, Nat.pow_zero, Nat.mul_one] at s2
        rcases Nat.lt_or_ge s.1 (10 ^ 20) with h | h
        · exact h
        · have : s.1 = 10 ^ 20 := by omega
          exact absurd (by rw [this]) s0
      · obtain ⟨k, hk2⟩ : ∃ k, s.2 = k + 1 := ⟨s.2 - 1, by omega⟩
        rw [hk2, Nat.pow_succ] at s2
        have hp : 1 ≤ 10 ^ k := Nat.pow_pos (by omega)
        have h1 : s.1 * 1 ≤ s.1 * 10 ^ k := Nat.mul_le_mul_left _ hp
        have h2 : s.1 * (10 ^ k * 10) = s.1 * 10 ^ k * 10 := by rw [Nat.mul_assoc]
        omega
    have hlen := natOf_len_lt hlt s1
    dsimp only
    split
    · exact .inl rfl
    · split
      · exact .inl rfl
      · refine .inr ⟨natOf_digs _, List.length_pos_iff.2 (natOf_ne _), hlen, natOf_head _ (by omega), ?_, by show (-99 : Int) ≤ e + over v + s.2 + (natOf s.1).length - 1; omega, by show e + over v + s.2 + (natOf s.1).length - 1 ≤ (99 : Int); omega⟩
        show (natOf s.1).getLast? ≠ some 48
        rw [natOf_last]
        intro e
        exact s0 ((dig_zero_iff (Nat.mod_lt _ (by omega))).1 (Option.some.inj e))

end Go.Proofs.YthijeckcjfnbcaaGreatDoor

/- Plain mathematics of chapter 3: trimming noughts off digits, rounding by comparing strings, scaling, and the digits behind a quotient. No program in it. -/
namespace Go.Proofs.YthijeckcjfnbcaaGreatDoor
set_option linter.unusedVariables false

/-- A decimal of the program as a plain one. -/
def dOf (n : Bool) (s : ByteArray) (e : Int) : DecV := ⟨n, s.data.toList, e⟩

theorem trimLeft_nat : ∀ {l : List UInt8}, Digs l → Lib.trimLeftB l 48 = if val l = 0 then [] else natOf (val l)
  | [], _ => by simp [Lib.trimLeftB, val]
  | b :: t, h => by
    obtain ⟨hb, ht⟩ := h.cons
    by_cases e : b = 48
    · subst e
      have h1 : Lib.trimLeftB (48 :: t) 48 = Lib.trimLeftB t 48 := by simp [Lib.trimLeftB]
      have h2 : val (48 :: t) = val t := by rw [val_cons]; simp [dv]
      rw [h1, h2]; exact trimLeft_nat ht
    · have h1 : Lib.trimLeftB (b :: t) 48 = b :: t := by simp [Lib.trimLeftB, e]
      have hc : (b :: t).head? ≠ some 48 := by simp [e]
      have h2 := pos_of_head h (by simp) hc
      have h3 : 0 < 10 ^ ((b :: t).length - 1) := Nat.pow_pos (by omega)
      rw [h1, if_neg (by omega), canon_eq h ⟨by simp, .inr hc⟩]

theorem trimRight_snoc (l : List UInt8) : Lib.trimRightB (l ++ [48]) 48 = Lib.trimRightB l 48 := by simp [Lib.trimRightB]
theorem trimRight_stop {l : List UInt8} {b : UInt8} (h : b ≠ 48) : Lib.trimRightB (l ++ [b]) 48 = l ++ [b] := by simp [Lib.trimRightB, h]
theorem trimRight_nil : Lib.trimRightB [] 48 = [] := rfl
theorem trimRight_nat : ∀ u : Nat, u ≠ 0 → Lib.trimRightB (natOf u) 48 = natOf (strip u).1 ∧ (natOf u).length = (natOf (strip u).1).length + (strip u).2 := by
  intro u
  induction u using Nat.strongRecOn with
  | _ u ih =>
    intro h0
    by_cases h : u % 10 = 0
    · have hbig : ¬ u < 10 := by omega
      obtain ⟨a, b⟩ := ih (u / 10) (by omega) (by omega)
      rw [strip_step h0 h, natOf_big hbig, h]
      refine ⟨?_, ?_⟩
      · exact (trimRight_snoc _).trans a
      · simp; omega
    · rw [strip_stop h]
      refine ⟨?_, rfl⟩
      have hd : dig (u % 10) ≠ 48 := fun e => h ((dig_zero_iff (Nat.mod_lt _ (by omega))).1 e)
      by_cases hs : u < 10
      · rw [natOf_small hs]
        rw [Nat.mod_eq_of_lt hs] at hd
        exact trimRight_stop (l := []) hd
      · rw [natOf_big hs]; exact trimRight_stop hd

/-- A row of digits and the noughts at its end. -/
theorem trimRight_parts : ∀ l : List UInt8, ∃ k, l = Lib.trimRightB l 48 ++ List.replicate k 48 ∧ (Lib.trimRightB l 48 = [] ∨ (Lib.trimRightB l 48).getLast? ≠ some 48) := by
  intro l
  obtain ⟨n, hn⟩ : ∃ n, l.length = n := ⟨_, rfl⟩
  induction n generalizing l with
  | zero =>
    have : l = [] := List.eq_nil_of_length_eq_zero hn
    subst this
    exact ⟨0, rfl, .inl rfl⟩
  | succ n ih =>
    have hne : l ≠ [] := by intro e; subst e; simp at hn
    obtain ⟨m, b, rfl⟩ : ∃ m b, l = m ++ [b] := ⟨l.dropLast, l.getLast hne, (List.dropLast_concat_getLast hne).symm⟩
    by_cases e : b = 48
    · subst e
      obtain ⟨k, hk, hl⟩ := ih m (by simp at hn; omega)
      rw [trimRight_snoc]
      refine ⟨k + 1, ?_, hl⟩
      rw [List.replicate_succ', ← List.append_assoc, ← hk]
    · rw [trimRight_stop e]
      exact ⟨0, by simp, .inr (by simp [e])⟩

theorem val_pad (l : List UInt8) (k : Nat) : val (l ++ List.replicate k 48) = val l * 10 ^ k := by rw [val_append, (val_zeros k).1]; simp
theorem val_pos_last {l : List UInt8} (hd : Digs l) (h0 : l ≠ []) (h : l.getLast? ≠ some 48) : 1 ≤ val l := by
  obtain ⟨m, b, rfl⟩ : ∃ m b, l = m ++ [b] := ⟨l.dropLast, l.getLast h0, (List.dropLast_concat_getLast h0).symm⟩
  have hb : b ≠ 48 := fun e => h (by simp [e])
  have hbd : IsD b := hd b (by simp)
  rw [val_snoc]
  have : dv b ≠ 0 := fun e => hb (by have := dig_dv hbd; rw [e] at this; rw [← this]; rfl)
  omega

/-- The digits behind the first 20, without the noughts at their end, against 5: against a half. -/
theorem cmp_half {t : List UInt8} (hd : Digs t) : Lib.compareBytes (Lib.trimRightB t 48) [53] = cmpN (2 * val t) (10 ^ t.length) := by
  obtain ⟨k, hk, hl⟩ := trimRight_parts t
  obtain ⟨u, hu⟩ : ∃ u, Lib.trimRightB t 48 = u := ⟨_, rfl⟩
  rw [hu] at hk hl ⊢
  have hud : Digs u := fun b hb => hd b (by rw [hk]; exact List.mem_append_left _ hb)
  have hp : 0 < 10 ^ k := Nat.pow_pos (by omega)
  have e1 : cmpN (2 * val t) (10 ^ t.length) = cmpN (2 * val u) (10 ^ u.length) := by
    rw [hk, val_pad, List.length_append, List.length_replicate, Nat.pow_add, ← Nat.mul_assoc]
    unfold cmpN
    simp only [Nat.mul_lt_mul_right hp, Nat.mul_left_inj (Nat.pos_iff_ne_zero.1 hp)]
  rw [e1]
  rcases u with _ | ⟨x, r⟩
  · rfl
  · obtain ⟨hx, hr⟩ := hud.cons
    have hrl := val_lt hr
    have hxl := dv_lt hx
    rw [val_cons, List.length_cons, Nat.pow_succ]
    have hlt : ∀ {a b : UInt8}, a < b ↔ a.toNat < b.toNat := fun {a b} => UInt8.lt_iff_toNat_lt
    have h53 : (53 : UInt8).toNat = 53 := rfl
    have hdx : dv x = x.toNat - 48 := rfl
    unfold IsD at hx
    obtain ⟨M, hM⟩ : ∃ M, 10 ^ r.length = M := ⟨_, rfl⟩
    rw [hM] at hrl ⊢
    simp only [Lib.compareBytes, hlt, h53]
    by_cases h1 : x.toNat < 53
    · rw [if_pos h1]
      have hm : dv x * M ≤ 4 * M := Nat.mul_le_mul_right _ (by omega)
      unfold cmpN
      rw [if_pos (by omega)]
    · rw [if_neg h1]
      by_cases h2 : 53 < x.toNat
      · rw [if_pos h2]
        have hm : 6 * M ≤ dv x * M := Nat.mul_le_mul_right _ (by omega)
        unfold cmpN
        rw [if_neg (by omega), if_neg (by omega)]
      · rw [if_neg h2]
        have h5 : dv x = 5 := by omega
        rw [h5]
        rcases r with _ | ⟨y, r'⟩
        · have : M = 1 := by rw [← hM]; rfl
          subst this
          rfl
        · have h3 : 1 ≤ val (y :: r') := val_pos_last hr (by simp) (by
            rcases hl with h | h
            · cases h
            · simpa using h)
          show (1 : Int) = _
          unfold cmpN
          rw [if_neg (by omega), if_neg (by omega)]

/-- 20 digits and what is behind them: rounded as impl does it. -/
theorem rounded_eq {d : List UInt8} (hd : Digs d) (hh : d.head? ≠ some 48) (n : Nat) (hl : d.length = 20 + n) :
    rnd (val d) n = (if Lib.compareBytes (Lib.trimRightB (d.drop 20) 48) [53] < 0 ∨ Lib.compareBytes (Lib.trimRightB (d.drop 20) 48) [53] = 0 ∧ val (d.take 20) % 2 ≠ 1 then val (d.take 20) else val (d.take 20) + 1) := by
  have ht : (d.drop 20).length = n := by rw [List.length_drop]; omega
  have hdt : Digs (d.drop 20) := fun b hb => hd b (List.mem_of_mem_drop hb)
  have hv : val d = val (d.take 20) * 10 ^ n + val (d.drop 20) := by
    have := val_append (d.take 20) (d.drop 20)
    rwa [List.take_append_drop, ht] at this
  rw [cmp_half hdt, ht]
  have hlt := val_lt hdt
  rw [ht] at hlt
  generalize val (d.drop 20) = r at *
  generalize val (d.take 20) = q at *
  have hp : 0 < 10 ^ n := Nat.pow_pos (by omega)
  have h1 : val d / 10 ^ n = q := by rw [hv, Nat.mul_comm, Nat.mul_add_div hp, Nat.div_eq_of_lt hlt]; omega
  have h2 : val d % 10 ^ n = r := by rw [hv, Nat.mul_comm, Nat.mul_add_mod, Nat.mod_eq_of_lt hlt]
  unfold rnd
  rw [h1, h2]
  unfold cmpN
  by_cases c1 : 2 * r < 10 ^ n
  · rw [if_neg (by omega), if_pos c1, if_pos (.inl (by omega))]
  · by_cases c2 : 2 * r = 10 ^ n
    · rw [if_neg c1, if_pos c2]
      by_cases c3 : q % 2 = 1
      · rw [if_pos (.inr ⟨c2, c3⟩), if_neg (by rintro (h | ⟨_, h⟩) <;> omega)]
      · rw [if_neg (by rintro (h | ⟨_, h⟩) <;> omega), if_pos (.inr ⟨rfl, c3⟩)]
    · rw [if_neg c1, if_neg c2, if_pos (.inl (by omega)), if_neg (by rintro (h | ⟨h, _⟩) <;> omega)]

/-- Normalizing as impl does it: trimmed digits, rounded, trimmed again. -/
def formI (neg : Bool) (l : List UInt8) (e : Int) : DecV × Int :=
  let t := Lib.trimLeftB l 48
  let r := if 20 < t.length then natOf (rnd (val t) (t.length - 20)) else t
  let x := e + ((t.length - 20 : Nat) : Int)
  let s := Lib.trimRightB r 48
  let y := x + r.length - s.length
  if s = [] ∨ y + s.length - 1 < -99 then (DecV.zero, 0) else if 99 < y + s.length - 1 then (DecV.zero, 1) else (⟨neg, s, y⟩, 0)
theorem formI_eq {l : List UInt8} (h : Digs l) (neg : Bool) (e : Int) : formI neg l e = formOf neg (val l) e := by
  unfold formI
  rw [trimLeft_nat h]
  by_cases h0 : val l = 0
  · rw [if_pos h0, h0, form_zero]
    simp [Lib.trimRightB]
  · rw [if_neg h0]
    generalize val l = v at *
    have hr : (if 20 < (natOf v).length then natOf (rnd (val (natOf v)) ((natOf v).length - 20)) else natOf v) = natOf (rnd v (over v)) := by
      rw [val_natOf]
      split
      · rfl
      · next hx => rw [show over v = 0 by unfold over; omega, rnd_zero]
    dsimp only
    rw [hr]
    obtain ⟨a, b⟩ := trimRight_nat _ (rnd_over h0).1
    rw [a]
    unfold formOf
    rw [if_neg h0]
    dsimp only
    have ho : (((natOf v).length - 20 : Nat) : Int) = (over v : Int) := rfl
    rw [ho]
    generalize strip (rnd v (over v)) = s at *
    have e1 : e + (over v : Int) + ((natOf (rnd v (over v))).length : Int) - ((natOf s.1).length : Int) = e + over v + s.2 := by omega
    rw [e1]
    have hs : natOf s.1 ≠ [] := natOf_ne _
    generalize e + (over v : Int) + (s.2 : Int) + ((natOf s.1).length : Int) - 1 = H
    by_cases c1 : 99 < H
    · rw [if_neg (by rintro (h | h); exact hs h; omega), if_pos c1, if_pos c1]
    · rw [if_neg c1, if_neg c1]
      by_cases c2 : H < -99
      · rw [if_pos (.inr c2), if_pos c2]
      · rw [if_neg (by rintro (h | h); exact hs h; exact c2 h), if_neg c2]

/-- A valid decimal stays as it is. -/
theorem form_id {d : DecV} (h : d.Ok) : formOf d.neg (val d.dig) d.exp = (d, 0) := by
  rcases h with rfl | ⟨hd, h1, h2, h3, h4, h5, h6⟩
  · exact form_zero _ _
  · have hne : d.dig ≠ [] := fun e => by rw [e] at h1; simp at h1
    have hc : natOf (val d.dig) = d.dig := canon_eq hd ⟨hne, .inr h3⟩
    have hp := val_pos_last hd hne h4
    have ho : over (val d.dig) = 0 := by unfold over; rw [hc]; omega
    have hm : val d.dig % 10 ≠ 0 := fun e => by
      have := natOf_last (val d.dig)
      rw [hc, e] at this
      exact h4 this
    unfold formOf
    rw [if_neg (by omega), ho, rnd_zero, strip_stop hm]
    dsimp only
    rw [hc, if_neg (by simp; omega), if_neg (by simp; omega)]
    simp

theorem strip_mul {u : Nat} (h0 : u ≠ 0) (j : Nat) : strip (u * 10 ^ j) = ((strip u).1, (strip u).2 + j) := by
  induction j with
  | zero => simp
  | succ j ih =>
    have hp : 0 < 10 ^ j := Nat.pow_pos (by omega)
    have hne : u * 10 ^ (j + 1) ≠ 0 := Nat.mul_ne_zero h0 (Nat.pos_iff_ne_zero.1 (Nat.pow_pos (by omega)))
    have e : u * 10 ^ (j + 1) = u * 10 ^ j * 10 := by rw [Nat.pow_succ, Nat.mul_assoc]
    rw [strip_step hne (by rw [e]; exact Nat.mul_mod_left _ _), show u * 10 ^ (j + 1) / 10 = u * 10 ^ j by rw [e]; exact Nat.mul_div_cancel _ (by omega), ih]
    rfl
theorem natOf_len_mul {v : Nat} (h0 : v ≠ 0) (m : Nat) : (natOf (v * 10 ^ m)).length = (natOf v).length + m := by
  induction m with
  | zero => simp
  | succ m ih =>
    have hp : 0 < 10 ^ m := Nat.pow_pos (by omega)
    have e : v * 10 ^ (m + 1) = v * 10 ^ m * 10 := by rw [Nat.pow_succ, Nat.mul_assoc]
    have h1 : v * 1 ≤ v * 10 ^ m := Nat.mul_le_mul_left _ hp
    rw [e, natOf_big (by omega), show v * 10 ^ m * 10 / 10 = v * 10 ^ m from Nat.mul_div_cancel _ (by omega)]
    simp; omega
theorem form_scale (neg : Bool) (v m : Nat) (e : Int) : formOf neg (v * 10 ^ m) (e - m) = formOf neg v e := by
  by_cases h0 : v = 0
  · subst h0; rw [Nat.zero_mul, form_zero, form_zero]
  · have hp : 0 < 10 ^ m := Nat.pow_pos (by omega)
    have hne : v * 10 ^ m ≠ 0 := Nat.mul_ne_zero h0 (Nat.pos_iff_ne_zero.1 hp)
    have hlen := natOf_len_mul h0 m
    have key : ∃ j : Nat, m + over v = over (v * 10 ^ m) + j ∧ rnd (v * 10 ^ m) (over (v * 10 ^ m)) = rnd v (over v) * 10 ^ j := by
      by_cases hl : 20 ≤ (natOf v).length
      · refine ⟨0, by unfold over; omega, ?_⟩
        have e1 : over (v * 10 ^ m) = over v + m := by unfold over; omega
        rw [e1]
        generalize over v = n
        unfold rnd
        have e2 : v * 10 ^ m / 10 ^ (n + m) = v / 10 ^ n := by rw [Nat.pow_add, Nat.mul_div_mul_right _ _ hp]
        have e3 : v * 10 ^ m % 10 ^ (n + m) = v % 10 ^ n * 10 ^ m := by rw [Nat.pow_add, Nat.mul_mod_mul_right]
        rw [e2, e3, Nat.pow_add, ← Nat.mul_assoc]
        simp only [Nat.mul_lt_mul_right hp, Nat.mul_left_inj (Nat.pos_iff_ne_zero.1 hp)]
        simp
      · have e0 : over v = 0 := by unfold over; omega
        obtain ⟨n, hn⟩ : ∃ n, over (v * 10 ^ m) = n := ⟨_, rfl⟩
        have hnm : n ≤ m := by unfold over at hn; omega
        refine ⟨m - n, by omega, ?_⟩
        rw [hn, e0, rnd_zero]
        have hpn : 0 < 10 ^ n := Nat.pow_pos (by omega)
        have e1 : v * 10 ^ m = v * 10 ^ (m - n) * 10 ^ n := by rw [Nat.mul_assoc, ← Nat.pow_add]; congr 2; omega
        rw [e1]
        unfold rnd
        rw [Nat.mul_mod_left, Nat.mul_div_cancel _ hpn, if_neg (by omega)]
    obtain ⟨j, hj1, hj2⟩ := key
    unfold formOf
    rw [if_neg hne, if_neg h0, hj2, strip_mul (rnd_over h0).1]
    dsimp only
    have e1 : e - (m : Int) + (over (v * 10 ^ m) : Int) + (((strip (rnd v (over v))).2 + j : Nat) : Int) = e + (over v : Int) + ((strip (rnd v (over v))).2 : Int) := by omega
    rw [e1]

/-- Something more behind 21 digits or more: how much it is does not matter. -/
theorem form_more (neg : Bool) (q m t : Nat) (e : Int) (hq : 10 ^ 20 ≤ q) (h0 : 0 < t) (ht : t < 10 ^ m) : formOf neg (q * 10 ^ m + t) (e - m) = formOf neg (10 * q + 1) (e - 1) := by
  have main : ∀ m t : Nat, 0 < t → t < 10 ^ m → formOf neg (q * 10 ^ m + t) (e - m) =
      (let k := over q
       let R := if 10 ^ k ≤ 2 * (q % 10 ^ k) then q / 10 ^ k + 1 else q / 10 ^ k
       let s := strip R
       let x := e + k + s.2
       let height := x + (natOf s.1).length - 1
       if 99 < height then (DecV.zero, 1) else if height < -99 then (DecV.zero, 0) else (⟨neg, natOf s.1, x⟩, 0)) := by
    intro m t h0 ht
    have hp : 0 < 10 ^ m := Nat.pow_pos (by omega)
    have hq0 : q ≠ 0 := by have : 0 < 10 ^ 20 := Nat.pow_pos (by omega); omega
    have hql : 21 ≤ (natOf q).length := by
      have hlt : q < 10 ^ (natOf q).length := by have := val_lt (natOf_digs q); rwa [val_natOf] at this
      have := (Nat.pow_lt_pow_iff_right (a := 10) (by omega)).1 (Nat.lt_of_le_of_lt hq hlt)
      omega
    have hlen : (natOf (q * 10 ^ m + t)).length = (natOf q).length + m := by
      have h1 := natOf_len_mul hq0 m
      have h2 := natOf_len_mono (show q * 10 ^ m ≤ q * 10 ^ m + t by omega)
      have hlt : q < 10 ^ (natOf q).length := by have := val_lt (natOf_digs q); rwa [val_natOf] at this
      have h3 : q * 10 ^ m + t < 10 ^ ((natOf q).length + m) := by
        rw [Nat.pow_add]
        have : (q + 1) * 10 ^ m ≤ 10 ^ (natOf q).length * 10 ^ m := Nat.mul_le_mul_right _ hlt
        rw [Nat.add_mul] at this
        omega
      have h4 := natOf_len_lt h3 (by omega)
      omega
    obtain ⟨k, hk⟩ : ∃ k, over q = k := ⟨_, rfl⟩
    have hk1 : 1 ≤ k := by unfold over at hk; omega
    have ho : over (q * 10 ^ m + t) = k + m := by unfold over at hk ⊢; omega
    have hpk : 0 < 10 ^ k := Nat.pow_pos (by omega)
    have hR : rnd (q * 10 ^ m + t) (k + m) = if 10 ^ k ≤ 2 * (q % 10 ^ k) then q / 10 ^ k + 1 else q / 10 ^ k := by
      have hdm := Nat.div_add_mod q (10 ^ k)
      have hml := Nat.mod_lt q hpk
      have e1 : (q * 10 ^ m + t) / 10 ^ (k + m) = q / 10 ^ k := by
        rw [Nat.pow_add, Nat.mul_comm (10 ^ k), ← Nat.div_div_eq_div_mul, Nat.mul_comm q, Nat.mul_add_div hp, Nat.div_eq_of_lt ht, Nat.add_zero]
      have e2 : (q * 10 ^ m + t) % 10 ^ (k + m) = q % 10 ^ k * 10 ^ m + t := by
        have h1 := Nat.div_add_mod (q * 10 ^ m + t) (10 ^ (k + m))
        rw [e1] at h1
        have h2 : 10 ^ (k + m) * (q / 10 ^ k) = 10 ^ k * (q / 10 ^ k) * 10 ^ m := by rw [Nat.pow_add, Nat.mul_right_comm]
        have h3 : q * 10 ^ m = 10 ^ k * (q / 10 ^ k) * 10 ^ m + q % 10 ^ k * 10 ^ m := by rw [← Nat.add_mul, hdm]
        omega
      obtain ⟨E, hE⟩ : ∃ E, 10 ^ k = 2 * E := ⟨5 * 10 ^ (k - 1), by rw [show k = k - 1 + 1 by omega, Nat.pow_succ]; simp; omega⟩
      unfold rnd
      rw [e1, e2, Nat.pow_add]
      generalize q % 10 ^ k = R at *
      generalize q / 10 ^ k = Q at *
      rw [hE]
      by_cases c : 2 * E ≤ 2 * R
      · have h1 : E * 10 ^ m ≤ R * 10 ^ m := Nat.mul_le_mul_right _ (by omega)
        have h2 : 2 * E * 10 ^ m = 2 * (E * 10 ^ m) := Nat.mul_assoc ..
        rw [if_pos c, if_pos (.inl (by omega))]
      · have h1 : (R + 1) * 10 ^ m ≤ E * 10 ^ m := Nat.mul_le_mul_right _ (by omega)
        have h2 : 2 * E * 10 ^ m = 2 * (E * 10 ^ m) := Nat.mul_assoc ..
        rw [Nat.add_mul] at h1
        rw [if_neg c, if_neg (by rintro (h | ⟨h, _⟩) <;> omega)]
    unfold formOf
    rw [if_neg (by omega), ho, hR, hk]
    dsimp only
    have e1 : ∀ z : Int, e - (m : Int) + ((k + m : Nat) : Int) + z = e + (k : Int) + z := fun z => by omega
    rw [e1]
  rw [main m t h0 ht]
  have h1 := main 1 1 (by omega) (by omega)
  rw [show q * 10 ^ 1 + 1 = 10 * q + 1 by omega] at h1
  exact h1.symm

/-- A quotient with something behind it: k + 2 noughts behind the dividend, or k. -/
theorem form_div (neg : Bool) (a b k : Nat) (e : Int) (hb0 : 0 < b) (hk : 10 ^ 20 * b ≤ 10 ^ k) :
    formOf neg (if a * 10 ^ (k + 2) % b = 0 then a * 10 ^ (k + 2) / b else 10 * (a * 10 ^ (k + 2) / b) + 1) (if a * 10 ^ (k + 2) % b = 0 then e - (k : Int) - 2 else e - (k : Int) - 2 - 1)
      = formOf neg (if a * 10 ^ k % b = 0 then a * 10 ^ k / b else 10 * (a * 10 ^ k / b) + 1) (if a * 10 ^ k % b = 0 then e - (k : Int) else e - (k : Int) - 1) := by
  have hA : a * 10 ^ (k + 2) = a * 10 ^ k * 100 := by rw [Nat.pow_add, Nat.mul_assoc]
  have hbig : a = 0 ∨ 10 ^ 20 ≤ a * 10 ^ k / b := by
    rcases Nat.eq_zero_or_pos a with h | h
    · exact .inl h
    · right
      rw [Nat.le_div_iff_mul_le hb0]
      have h2 : 1 * 10 ^ k ≤ a * 10 ^ k := Nat.mul_le_mul_right _ h
      rw [Nat.one_mul] at h2
      exact Nat.le_trans hk h2
  rw [hA]
  generalize hX : a * 10 ^ k = X at *
  clear hA hk
  generalize hE : e - (k : Int) = E at *
  have h1 := Nat.div_add_mod X b
  have hr := Nat.mod_lt X hb0
  obtain ⟨q, hq⟩ : ∃ q, X / b = q := ⟨_, rfl⟩
  obtain ⟨r, hr'⟩ : ∃ r, X % b = r := ⟨_, rfl⟩
  rw [hq, hr'] at h1
  rw [hr'] at hr
  have h2 : X * 100 = 100 * r + b * (q * 100) := by rw [← h1, Nat.add_mul, Nat.mul_assoc]; omega
  have e1 : X * 100 / b = q * 100 + 100 * r / b := by rw [h2, Nat.add_mul_div_left _ _ hb0, Nat.add_comm]
  have e2 : X * 100 % b = 100 * r % b := by rw [h2, Nat.add_mul_mod_self_left]
  rw [e1, e2, hq, hr']
  have h3 := Nat.div_add_mod (100 * r) b
  have hd : 100 * r / b < 100 := by rw [Nat.div_lt_iff_lt_mul hb0]; omega
  obtain ⟨d, hdd⟩ : ∃ d, 100 * r / b = d := ⟨_, rfl⟩
  rw [hdd] at h3 hd ⊢
  by_cases c : r = 0
  · subst c
    have : d = 0 := by rw [← hdd]; simp
    subst this
    rw [if_pos rfl, if_pos rfl, show 100 * 0 % b = 0 by simp, if_pos rfl, if_pos rfl]
    exact form_scale neg q 2 E
  · rcases hbig with h | hbig
    · exfalso
      subst h
      simp at hX
      rw [← hX] at hr'
      simp at hr'
      omega
    · rw [hq] at hbig
      rw [if_neg c, if_neg c]
      have hd0 : 100 * r % b = 0 → 0 < d := fun h => by
        rcases Nat.eq_zero_or_pos d with g | g
        · subst g; omega
        · exact g
      by_cases c2 : 100 * r % b = 0
      · rw [if_pos c2, if_pos c2]
        exact form_more neg q 2 d E hbig (hd0 c2) (by omega)
      · rw [if_neg c2, if_neg c2]
        have := form_more neg q 3 (10 * d + 1) E hbig (by omega) (by omega)
        rw [show E - ((3 : Nat) : Int) = E - 2 - 1 by omega, show q * 10 ^ 3 + (10 * d + 1) = 10 * (q * 100 + d) + 1 by omega] at this
        exact this

end Go.Proofs.YthijeckcjfnbcaaGreatDoor

/- Plain mathematics of chapter 3: sums of decimals at one power of ten, and comparing. No program in it. -/
namespace Go.Proofs.YthijeckcjfnbcaaGreatDoor
set_option linter.unusedVariables false

theorem cmp_lt {a b : Nat} (h : a < b) : cmpN a b = -1 := by unfold cmpN; rw [if_pos h]
theorem cmp_eq (a : Nat) : cmpN a a = 0 := by unfold cmpN; rw [if_neg (by omega), if_pos rfl]
theorem cmp_gt {a b : Nat} (h : b < a) : cmpN a b = 1 := by unfold cmpN; rw [if_neg (by omega), if_neg (by omega)]

/-- Digits that end with no nought, as fractions of one size: in the order of strings. -/
theorem cmp_frac : ∀ (la lb : List UInt8), Digs la → Digs lb → (la = [] ∨ la.getLast? ≠ some 48) → (lb = [] ∨ lb.getLast? ≠ some 48) →
    ∀ i j : Nat, la.length + i = lb.length + j → Lib.compareBytes la lb = cmpN (val la * 10 ^ i) (val lb * 10 ^ j)
  | [], [], _, _, _, _, i, j, _ => by simp [val, Lib.compareBytes, cmp_eq]
  | [], b :: bs, _, hb, _, gb, i, j, _ => by
    have h1 := val_pos_last hb (by simp) (gb.resolve_left (by simp))
    have h2 : 0 < 10 ^ j := Nat.pow_pos (by omega)
    have h3 : 0 < val (b :: bs) * 10 ^ j := Nat.mul_pos h1 h2
    rw [val_nil, Nat.zero_mul, cmp_lt h3]; rfl
  | a :: xa, [], ha, _, ga, _, i, j, _ => by
    have h1 := val_pos_last ha (by simp) (ga.resolve_left (by simp))
    have h2 : 0 < 10 ^ i := Nat.pow_pos (by omega)
    have h3 : 0 < val (a :: xa) * 10 ^ i := Nat.mul_pos h1 h2
    rw [val_nil, Nat.zero_mul, cmp_gt h3]; rfl
  | a :: xa, b :: bs, ha, hb, ga, gb, i, j, hl => by
    obtain ⟨da, has⟩ := ha.cons
    obtain ⟨db, hbs⟩ := hb.cons
    have hL : xa.length + i = bs.length + j := by simp at hl; omega
    have ga' : xa = [] ∨ xa.getLast? ≠ some 48 := by
      rcases xa with _ | ⟨x, xs⟩
      · exact .inl rfl
      · right; have := ga.resolve_left (by simp); simpa using this
    have gb' : bs = [] ∨ bs.getLast? ≠ some 48 := by
      rcases bs with _ | ⟨x, xs⟩
      · exact .inl rfl
      · right; have := gb.resolve_left (by simp); simpa using this
    have ih := cmp_frac xa bs has hbs ga' gb' i j hL
    have ea : val (a :: xa) * 10 ^ i = dv a * 10 ^ (xa.length + i) + val xa * 10 ^ i := by rw [val_cons, Nat.add_mul, Nat.mul_assoc, ← Nat.pow_add]
    have eb : val (b :: bs) * 10 ^ j = dv b * 10 ^ (xa.length + i) + val bs * 10 ^ j := by rw [val_cons, Nat.add_mul, Nat.mul_assoc, ← Nat.pow_add, ← hL]
    have la' : val xa * 10 ^ i < 10 ^ (xa.length + i) := by rw [Nat.pow_add]; exact Nat.mul_lt_mul_of_pos_right (val_lt has) (Nat.pow_pos (by omega))
    have lb' : val bs * 10 ^ j < 10 ^ (xa.length + i) := by rw [hL, Nat.pow_add]; exact Nat.mul_lt_mul_of_pos_right (val_lt hbs) (Nat.pow_pos (by omega))
    rw [ea, eb]
    generalize 10 ^ (xa.length + i) = M at *
    generalize val xa * 10 ^ i = x at *
    generalize val bs * 10 ^ j = y at *
    have hdv : dv a = a.toNat - 48 := rfl
    have hdv' : dv b = b.toNat - 48 := rfl
    have hlt : ∀ {a b : UInt8}, a < b ↔ a.toNat < b.toNat := fun {a b} => UInt8.lt_iff_toNat_lt
    simp only [Lib.compareBytes, hlt]
    unfold IsD at da db
    by_cases c1 : a.toNat < b.toNat
    · have hm : (dv a + 1) * M ≤ dv b * M := Nat.mul_le_mul_right _ (by omega)
      rw [Nat.add_mul] at hm
      rw [if_pos c1, cmp_lt (by omega)]
    · rw [if_neg c1]
      by_cases c2 : b.toNat < a.toNat
      · have hm : (dv b + 1) * M ≤ dv a * M := Nat.mul_le_mul_right _ (by omega)
        rw [Nat.add_mul] at hm
        rw [if_pos c2, cmp_gt (by omega)]
      · rw [if_neg c2, ih]
        have : dv a = dv b := by omega
        rw [this]
        unfold cmpN
        simp

/-- A decimal's digits in units of 10^E. -/
def lev (d : DecV) (E : Int) : Nat := val d.dig * 10 ^ (d.exp - E).toNat
def low2 (a b : DecV) : Int := if b.exp < a.exp then b.exp else a.exp
theorem low2_le (a b : DecV) : low2 a b ≤ a.exp ∧ low2 a b ≤ b.exp := by unfold low2; split <;> omega
/-- The sum: its sign, and its digits in units of 10^E. -/
def sumOf (a b : DecV) : Bool × Nat :=
  if a.neg = b.neg then (a.neg, lev a (low2 a b) + lev b (low2 a b))
  else if lev b (low2 a b) ≤ lev a (low2 a b) then (a.neg, lev a (low2 a b) - lev b (low2 a b)) else (b.neg, lev b (low2 a b) - lev a (low2 a b))
def negOf (d : DecV) : DecV := if d.dig = [] then DecV.zero else ⟨!d.neg, d.dig, d.exp⟩
def cmpS (a b : DecV) : Int := if (sumOf a (negOf b)).2 = 0 then 0 else if (sumOf a (negOf b)).1 then -1 else 1

theorem DecV.Ok.digs {d : DecV} (h : d.Ok) : Digs d.dig := by
  rcases h with rfl | h
  · exact digs_nil
  · exact h.1
theorem DecV.Ok.len {d : DecV} (h : d.Ok) : d.dig.length ≤ 20 := by
  rcases h with rfl | h
  · exact Nat.zero_le _
  · exact h.2.2.1
theorem DecV.Ok.exps {d : DecV} (h : d.Ok) : -118 ≤ d.exp ∧ d.exp ≤ 99 := by
  rcases h with rfl | ⟨_, h1, h2, _, _, h3, h4⟩
  · exact ⟨by decide, by decide⟩
  · omega
theorem DecV.Ok.nil {d : DecV} (h : d.Ok) (e : d.dig = []) : d = DecV.zero := by
  rcases h with rfl | ⟨_, h1, _⟩
  · rfl
  · rw [e] at h1; simp at h1
theorem DecV.Ok.pos {d : DecV} (h : d.Ok) (e : d.dig ≠ []) : 1 ≤ val d.dig ∧ d.dig.head? ≠ some 48 ∧ d.dig.getLast? ≠ some 48 := by
  rcases h with rfl | ⟨h0, h1, _, h3, h4, _⟩
  · exact absurd rfl e
  · exact ⟨val_pos_last h0 e h4, h3, h4⟩
theorem neg_ok {d : DecV} (h : d.Ok) : (negOf d).Ok := by
  unfold negOf
  split
  · exact .inl rfl
  · next e =>
    rcases h with rfl | h
    · exact absurd rfl e
    · exact .inr h

def sgn (d : DecV) : Int := if d.dig = [] then 0 else if d.neg then -1 else 1
def cmpI (x y : Int) : Int := if x < y then -1 else if y < x then 1 else 0
/-- The sizes of two decimals: by magnitude, then by digits. -/
def cmpSz (a b : DecV) : Int := if a.exp + a.dig.length - 1 = b.exp + b.dig.length - 1 then Lib.compareBytes a.dig b.dig else cmpI (a.exp + a.dig.length - 1) (b.exp + b.dig.length - 1)

theorem lev_neg (d : DecV) (E : Int) (h : d.dig ≠ []) : lev (negOf d) E = lev d E := by unfold negOf; rw [if_neg h]; rfl
theorem low2_neg (a b : DecV) (h : b.dig ≠ []) : low2 a (negOf b) = low2 a b := by unfold negOf; rw [if_neg h]; rfl
theorem lev_pos {d : DecV} (h : d.Ok) (e : d.dig ≠ []) (E : Int) : 0 < lev d E := Nat.mul_pos (h.pos e).1 (Nat.pow_pos (by omega))
theorem lev_zero (E : Int) : lev DecV.zero E = 0 := by unfold lev; simp [DecV.zero, val]

theorem size_cmp {a b : DecV} (ha : a.Ok) (hb : b.Ok) (na : a.dig ≠ []) (nb : b.dig ≠ []) {E : Int} (h1 : E ≤ a.exp) (h2 : E ≤ b.exp) : cmpSz a b = cmpN (lev a E) (lev b E) := by
  obtain ⟨pa, qa, ra⟩ := ha.pos na
  obtain ⟨pb, qb, rb⟩ := hb.pos nb
  obtain ⟨i, hi⟩ : ∃ i, (a.exp - E).toNat = i := ⟨_, rfl⟩
  obtain ⟨j, hj⟩ : ∃ j, (b.exp - E).toNat = j := ⟨_, rfl⟩
  have la := List.length_pos_iff.2 na
  have lb := List.length_pos_iff.2 nb
  unfold cmpSz lev
  rw [hi, hj]
  by_cases c : a.exp + a.dig.length - 1 = b.exp + b.dig.length - 1
  · rw [if_pos c]
    exact cmp_frac _ _ ha.digs hb.digs (.inr ra) (.inr rb) i j (by omega)
  · rw [if_neg c]
    have ua := Nat.mul_lt_mul_of_pos_right (val_lt ha.digs) (Nat.pow_pos (n := i) (show 0 < 10 by omega))
    have ub := Nat.mul_lt_mul_of_pos_right (val_lt hb.digs) (Nat.pow_pos (n := j) (show 0 < 10 by omega))
    have va := Nat.mul_le_mul_right (10 ^ i) (pos_of_head ha.digs na qa)
    have vb := Nat.mul_le_mul_right (10 ^ j) (pos_of_head hb.digs nb qb)
    rw [← Nat.pow_add] at ua ub va vb
    unfold cmpI
    by_cases c1 : a.exp + a.dig.length - 1 < b.exp + b.dig.length - 1
    · rw [if_pos c1]
      have : 10 ^ (a.dig.length + i) ≤ 10 ^ (b.dig.length - 1 + j) := Nat.pow_le_pow_right (by omega) (by omega)
      rw [cmp_lt (by omega)]
    · rw [if_neg c1, if_pos (by omega)]
      have : 10 ^ (b.dig.length + j) ≤ 10 ^ (a.dig.length - 1 + i) := Nat.pow_le_pow_right (by omega) (by omega)
      rw [cmp_gt (by omega)]

/-- Comparing as impl does it. -/
theorem cmp_dec {a b : DecV} (ha : a.Ok) (hb : b.Ok) : (if sgn a = sgn b then (if a.neg then cmpSz b a else cmpSz a b) else cmpI (sgn a) (sgn b)) = cmpS a b := by
  by_cases na : a.dig = []
  · have ea := ha.nil na
    subst ea
    by_cases nb : b.dig = []
    · have eb := hb.nil nb
      subst eb
      rfl
    · have hp := lev_pos hb nb (low2 DecV.zero b)
      have e0 : lev DecV.zero (low2 DecV.zero b) = 0 := lev_zero _
      have e1 : sgn DecV.zero = 0 := rfl
      have e2 : DecV.zero.neg = false := rfl
      have e3 : (negOf b).neg = !b.neg := by unfold negOf; rw [if_neg nb]
      unfold cmpS sumOf
      rw [low2_neg _ _ nb, lev_neg _ _ nb, e0, e1, e2, e3]
      unfold sgn
      rw [if_neg nb]
      generalize lev b (low2 DecV.zero b) = Y at *
      have h1 : ¬ Y ≤ 0 := by omega
      have h2 : Y ≠ 0 := by omega
      cases b.neg <;> simp [cmpI, h2]
  · by_cases nb : b.dig = []
    · have eb := hb.nil nb
      subst eb
      have hp := lev_pos ha na (low2 a DecV.zero)
      have e0 : lev DecV.zero (low2 a DecV.zero) = 0 := lev_zero _
      have e1 : sgn DecV.zero = 0 := rfl
      have e2 : DecV.zero.neg = false := rfl
      have e3 : negOf DecV.zero = DecV.zero := rfl
      unfold cmpS sumOf
      rw [e3, e0, e1, e2]
      unfold sgn
      rw [if_neg na]
      generalize lev a (low2 a DecV.zero) = Y at *
      have h2 : Y ≠ 0 := by omega
      cases a.neg <;> simp [cmpI, h2]
    · have pa := lev_pos ha na (low2 a b)
      have pb := lev_pos hb nb (low2 a b)
      have hl := low2_le a b
      have s1 := size_cmp ha hb na nb hl.1 hl.2
      have s2 := size_cmp hb ha nb na hl.2 hl.1
      have e3 : (negOf b).neg = !b.neg := by unfold negOf; rw [if_neg nb]
      unfold cmpS sumOf
      rw [low2_neg _ _ nb, lev_neg _ _ nb, e3, s1, s2]
      unfold sgn
      rw [if_neg na, if_neg nb]
      generalize lev a (low2 a b) = X at *
      generalize lev b (low2 a b) = Y at *
      rcases Nat.lt_trichotomy X Y with h | h | h
      · have h1 : ¬ Y ≤ X := by omega
        have h2 : Y - X ≠ 0 := by omega
        have h3 : ¬ Y < X := by omega
        have h4 : Y ≠ X := by omega
        cases a.neg <;> cases b.neg <;> simp [cmpI, cmpN, h, h1, h2, h3, h4] <;> omega
      · subst h
        cases a.neg <;> cases b.neg <;> simp [cmpI, cmpN] <;> omega
      · have h1 : Y ≤ X := by omega
        have h2 : X - Y ≠ 0 := by omega
        have h3 : ¬ X < Y := by omega
        have h4 : X ≠ Y := by omega
        cases a.neg <;> cases b.neg <;> simp [cmpI, cmpN, h, h1, h2, h3, h4] <;> omega

end Go.Proofs.YthijeckcjfnbcaaGreatDoor
