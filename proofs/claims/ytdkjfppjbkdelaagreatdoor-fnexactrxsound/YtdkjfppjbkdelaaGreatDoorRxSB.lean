/- The specification's reader of patterns: one, number. Conditions: at most 1000 code points. -/
import Derived.Test.YtdkjfppjbkdelaaGreatDoorRxSA
import Derived.Test.YtdkjfppjbkdelaaGreatDoorRxIA
namespace Go.Proofs.YtdkjfppjbkdelaaGreatDoor
set_option linter.unusedVariables false
set_option linter.unusedSimpArgs false
open Go.RowKit

/-- What reading a code point or an escape leaves. -/
def PtIs (w : World) (p : Nat) (s : List Int) (PA : Option Addr) (pc i d : Nat) (nv : Value) (e : Ending) (w' : World) : Prop :=
  match pointR s i with
  | some (c, j) => e = .returned (.int .i64 c) ∧ Keep [p] w w' ∧ Ss w' p s PA pc j 0 0 d nv
  | none => e = .returned (.int .i64 0) ∧ Keep [p] w w' ∧ Ss w' p s PA pc (i + 2) 6 i d nv

theorem escape_any (w : World) (p : Nat) (s : List Int) (PA : Option Addr) (pc i d : Nat) (nv : Value) (h : Ss w p s PA pc i 0 0 d nv) (hs : s.length ≤ 1000) (hi : i < s.length) (hP : Pos s) (hx : pk s i = 92) : Calls Tryz.prog 204 #[.pointer (some ⟨p, 0, none⟩)] w (PtIs w p s PA pc i d nv) := by
  unfold PtIs pointR
  rw [if_pos hx]
  have hz := hP.zero (i := i + 1)
  by_cases n1 : pk s (i + 1) = 110
  · rw [if_pos n1]; exact esc_n _ w p s PA pc i d nv h hs hi rfl n1
  rw [if_neg n1]
  by_cases n2 : pk s (i + 1) = 116
  · rw [if_pos n2]; exact esc_t _ w p s PA pc i d nv h hs hi rfl n2
  rw [if_neg n2]
  by_cases n3 : pk s (i + 1) = 114
  · rw [if_pos n3]; exact esc_r _ w p s PA pc i d nv h hs hi rfl n3
  rw [if_neg n3]
  by_cases h0 : pk s (i + 1) = 0
  · rw [if_pos (.inl h0)]; exact esc_end _ w p s PA pc i d nv h hs hi rfl n1 n2 n3 (by have := hz.1 h0; omega)
  · have hq : ¬ s.length < i + 2 := by have := lt_of_pk h0; omega
    cases hl : letDig (pk s (i + 1)) with
    | true =>
      rw [if_pos (.inr (by unfold letDig at hl; simpa using hl))]
      exact esc_let _ w p s PA pc i d nv h hs hi rfl n1 n2 n3 hq hl
    | false =>
      rw [if_neg (by unfold letDig at hl; simp at hl; simp [h0, hl])]
      exact esc_self _ w p s PA pc i d nv h hs hi rfl n1 n2 n3 hq hl

set_option maxHeartbeats 1000000 in
theorem one_any (w : World) (p : Nat) (s : List Int) (PA : Option Addr) (pc i d : Nat) (nv : Value) (h : Ss w p s PA pc i 0 0 d nv) (hs : s.length ≤ 1000) (hi : i < s.length) (hP : Pos s) : Calls Tryz.prog 215 #[.pointer (some ⟨p, 0, none⟩)] w (PtIs w p s PA pc i d nv) := by
  have K0 := Lib.hid (Keep.refl [p] w)
  have R0 := Lib.hid h
  clear h
  by_cases hx : pk s i = 92
  · have HX := Lib.hid hx
    clear hx
    go_enter Tryz.func215, Tryz.ntmps215
    go_wp2_with fail
    refine (peek_any _ p s PA pc i 0 0 d nv R0.out hs (by omega)).mono ?_
    rintro e w1 ⟨rfl, k, rr⟩
    rw [HX.out]
    have K1 := Lib.hid (K0.out.tr k.nil)
    have R1 := Lib.hid rr
    clear k rr
    go_wp2_with fail
    refine (escape_any _ p s PA pc i d nv R1.out hs hi hP HX.out).mono ?_
    intro e w2 hp
    unfold PtIs at hp
    cases hr : pointR s i with
    | none =>
      rw [hr] at hp
      obtain ⟨rfl, k, r⟩ := hp
      have H := Lib.hid (And.intro (K1.out.tr k) r)
      have HR := Lib.hid hr
      clear k r hr
      go_wp2
      go_ret
      unfold PtIs
      rw [HR.out]
      exact ⟨rfl, H.out⟩
    | some cj =>
      obtain ⟨c, j⟩ := cj
      rw [hr] at hp
      obtain ⟨rfl, k, r⟩ := hp
      have H := Lib.hid (And.intro (K1.out.tr k) r)
      have HR := Lib.hid hr
      clear k r hr
      go_wp2
      go_ret
      unfold PtIs
      rw [HR.out]
      exact ⟨rfl, H.out⟩
  · have HR : Hid (pointR s i = some (pk s i, i + 1)) := by show pointR s i = _; unfold pointR; rw [if_neg hx]
    obtain ⟨x, hxx⟩ : ∃ x, pk s i = x := ⟨_, rfl⟩
    rw [hxx] at hx HR
    have HX := Lib.hid hxx
    clear hxx
    go_enter Tryz.func215, Tryz.ntmps215
    go_wp2_with fail
    refine (peek_any _ p s PA pc i 0 0 d nv R0.out hs (by omega)).mono ?_
    rintro e w1 ⟨rfl, k, rr⟩
    rw [HX.out]
    have K1 := Lib.hid (K0.out.tr k.nil)
    have R1 := Lib.hid rr
    clear k rr
    go_wp2_with fail
    refine (peek_any _ p s PA pc i 0 0 d nv R1.out hs (by omega)).mono ?_
    rintro e w2 ⟨rfl, k, rr⟩
    rw [HX.out]
    have K2 := Lib.hid (K1.out.tr k.nil)
    have R2 := Lib.hid rr
    clear k rr
    obtain ⟨c0, c1, c2, c3, c4, c5⟩ := R2.out.cell
    have f1 := R2.out.frozen 1
    have R3 := Lib.hid (R2.out.set1 (i + 1))
    have K3 := Lib.hid (K2.out.tr (R2.out.keepSet 1 (.int .i64 ((i + 1 : Nat) : Int))))
    have hz0 : (i : Int) + 1 = ((i + 1 : Nat) : Int) := by omega
    obtain ⟨m, hm⟩ : ∃ m, i + 1 = m := ⟨_, rfl⟩
    rw [hm] at hz0 R3 K3 HR
    clear hm
    go_wp2
    go_ret
    unfold PtIs
    rw [HR.out]
    exact ⟨rfl, K3.out, R3.out⟩

/-- Where the reader at block p stands. -/
def atOfS (p : Nat) (w : World) : Nat := match w.cell? ⟨p, 1, none⟩ with | some (.int _ x) => x.toNat | _ => 0
theorem Ss.atOf {w : World} {p : Nat} {s : List Int} {PA : Option Addr} {pc i : Nat} {code : Int} {bad d : Nat} {nv : Value} (h : Ss w p s PA pc i code bad d nv) : atOfS p w = i := by
  unfold atOfS
  rw [h.cell.2.1]
  simp

def SNumRel (s : List Int) (i : Nat) (w : World) (p : Nat) (PA : Option Addr) (pc d : Nat) (nv : Value) (v : Value) (wr : World) : Prop :=
  ∃ (n : Int) (a f : Nat), v = .int .i64 n ∧ i ≤ a ∧ a ≤ s.length ∧ s.length < a + f ∧ digs s f a n = digs s (s.length + 1) i 0 ∧ 0 ≤ n ∧ n ≤ 609 ∧ Keep [p] w wr ∧ Ss wr p s PA pc a 0 0 d nv
def NumIs (w : World) (p : Nat) (s : List Int) (PA : Option Addr) (pc i d : Nat) (nv : Value) (e : Ending) (w' : World) : Prop :=
  ∃ (n' : Int) (j' : Nat), e = .returned (.tuple #[.int .i64 n', .bool (numR s i).isSome]) ∧ Keep [p] w w' ∧ Ss w' p s PA pc j' 0 0 d nv ∧ j' ≤ s.length ∧ ∀ n j, numR s i = some (n, j) → n' = n ∧ j' = j
theorem numR_digsS {s : List Int} {i : Nat} {n : Int} {a : Nat} (h : digs s (s.length + 1) i 0 = (n, a)) : numR s i = if i < a ∧ n ≤ 60 ∧ ¬ (pk s i = 48 ∧ i + 1 < a) then some (n, a) else none := by
  unfold numR
  rw [h]
theorem tup_isS {n : Int} {b c : Bool} (h : b = c) : Ending.returned (.tuple #[.int .i64 n, .bool b]) = Ending.returned (.tuple #[.int .i64 n, .bool c]) := by rw [h]

set_option maxHeartbeats 8000000 in
set_option maxRecDepth 100000 in
theorem number_any (w : World) (p : Nat) (s : List Int) (PA : Option Addr) (pc i d : Nat) (nv : Value) (h : Ss w p s PA pc i 0 0 d nv) (hs : s.length ≤ 1000) (hi : i ≤ s.length) (hP : Pos s) : Calls Tryz.prog 205 #[.pointer (some ⟨p, 0, none⟩)] w (NumIs w p s PA pc i d nv) := by
  obtain ⟨c0, c1, c2, c3, c4, c5⟩ := h.cell
  have HR := Lib.hid h
  clear h
  go_enter Tryz.func205, Tryz.ntmps205
  go_wp2
  go_loopw [5] (SNumRel s i w p PA pc d nv) (fun _ wr => s.length - atOfS p wr)
  case atStart => exact ⟨0, i, s.length + 1, rfl, Nat.le_refl _, hi, by omega, rfl, by omega, by omega, Keep.refl _ _, HR.out⟩
  case round =>
    obtain ⟨n, a, f, rfl, hia, hal, hf, hd, n0, n1, hk, hr⟩ := hrel
    have HM := Lib.hid hr.atOf
    clear c0 c1 c2 c3 c4 c5
    obtain ⟨f, rfl⟩ : ∃ g, f = g + 1 := ⟨f - 1, by omega⟩
    rw [digs] at hd
    obtain ⟨x, hx⟩ : ∃ x, pk s a = x := ⟨_, rfl⟩
    have HX := Lib.hid hx
    have hxb := hP.bound a
    rw [hx] at hd hxb
    have x0 := hxb.1
    have x1 := hxb.2
    have K0 := Lib.hid hk
    have R0 := Lib.hid hr
    have HDD := Lib.hid hd
    clear hx hxb hk hr hd
    go_wp2_with fail
    refine (peek_any _ p s PA pc a 0 0 d nv R0.out hs (by omega)).mono ?_
    rintro e w1 ⟨rfl, k, rr⟩
    rw [HX.out]
    have K1 := Lib.hid (K0.out.tr k.nil)
    have R1 := Lib.hid rr
    clear k rr
    by_cases h48 : 48 ≤ x
    · skip
      go_wp2_with fail
      refine (peek_any _ p s PA pc a 0 0 d nv R1.out hs (by omega)).mono ?_
      rintro e w2 ⟨rfl, k, rr⟩
      rw [HX.out]
      have K2 := Lib.hid (K1.out.tr k.nil)
      have R2 := Lib.hid rr
      clear k rr
      by_cases h57 : x ≤ 57
      · have hdg : isDig x = true := by simp [isDig, h48, h57]
        have hdd := HDD.out
        rw [if_pos (by rw [hdg])] at hdd
        have hal' : a < s.length := lt_of_pk (by rw [HX.out]; omega)
        have HA := Lib.hid hal'
        have hz0 : (a : Int) + 1 = ((a + 1 : Nat) : Int) := by omega
        obtain ⟨m, hm⟩ : ∃ m, a + 1 = m := ⟨_, rfl⟩
        rw [hm] at hz0 hdd
        have HM2 := Lib.hid hm
        clear hal' hdg hm
        by_cases h60 : n ≤ 60
        · rw [if_pos h60] at hdd
          obtain ⟨y, hy⟩ : ∃ y, 10 * n + x - 48 = y := ⟨_, rfl⟩
          have hy0 : 0 ≤ y := by omega
          have hy1 : y ≤ 609 := by omega
          rw [hy] at hdd
          have HD := Lib.hid hdd
          clear hdd
          go_wp2_with fail
          refine (peek_any _ p s PA pc a 0 0 d nv R2.out hs (by omega)).mono ?_
          rintro e w3 ⟨rfl, k, rr⟩
          rw [HX.out]
          have K3 := Lib.hid (K2.out.tr k.nil)
          have R3 := Lib.hid rr
          clear k rr
          obtain ⟨d0, d1, d2, d3, d4, d5⟩ := R3.out.cell
          have g1 := R3.out.frozen 1
          have R4 := Lib.hid (R3.out.set1 m)
          have K4 := Lib.hid (K3.out.tr (R3.out.keepSet 1 (.int .i64 (m : Int))))
          go_wp2
          go_roundw
          case rel => exact ⟨y, m, f, by first | rfl | (congr 1), by have := HM2.out; omega, by have := HM2.out; have := HA.out; omega, by have := HM2.out; omega, HD.out, hy0, hy1, K4.out, R4.out⟩
          case measure => rw [R4.out.atOf, HM.out]; have := HM2.out; have := HA.out; omega
        · rw [if_neg h60] at hdd
          have HD := Lib.hid hdd
          clear hdd
          obtain ⟨d0, d1, d2, d3, d4, d5⟩ := R2.out.cell
          have g1 := R2.out.frozen 1
          have R4 := Lib.hid (R2.out.set1 m)
          have K4 := Lib.hid (K2.out.tr (R2.out.keepSet 1 (.int .i64 (m : Int))))
          go_wp2
          go_roundw
          case rel => exact ⟨n, m, f, rfl, by have := HM2.out; omega, by have := HM2.out; have := HA.out; omega, by have := HM2.out; omega, HD.out, n0, n1, K4.out, R4.out⟩
          case measure => rw [R4.out.atOf, HM.out]; have := HM2.out; have := HA.out; omega
      · have hdg : isDig x = false := by simp [isDig]; omega
        have hdd := HDD.out
        rw [if_neg (by rw [hdg]; simp)] at hdd
        have HN := Lib.hid (numR_digsS hdd.symm)
        obtain ⟨d0, d1, d2, d3, d4, d5⟩ := R2.out.cell
        clear hdd hdg HDD
        by_cases hai : i < a
        · by_cases h60 : n ≤ 60
          · have hil : i < s.length := by omega
            obtain ⟨b, o, rfl, hb, hc⟩ := R2.out.nums i hil
            obtain ⟨y, hy⟩ : ∃ y, s[i] = y := ⟨_, rfl⟩
            have HY : Hid (pk s i = y) := (pk_lt hil).trans hy
            rw [hy] at hc
            clear hy
            by_cases hy48 : y = 48
            · by_cases h1 : i + 1 < a
              · have h1z : (i : Int) + 1 < a := by omega
                have hN : numR s i = none := by rw [HN.out, if_neg (by have := HY.out; omega)]
                have HN2 := Lib.hid hN
                clear hN HN
                go_wp2
                go_quiet (fail)
                go_wp2
                go_ret2
                exact ⟨n, a, by rw [HN2.out]; exact tup_isS (by first | rfl | (simp; done) | (simp; omega)), K2.out.drewN _, R2.out.keep0 ((Keep.refl [] _).drewN _), hal, fun _ _ e => by rw [HN2.out] at e; cases e⟩
              · have h1z : ¬ (i : Int) + 1 < a := by omega
                have hN : numR s i = some (n, a) := by rw [HN.out, if_pos (by have := HY.out; omega)]
                have HN2 := Lib.hid hN
                clear hN HN
                go_wp2
                go_quiet (fail)
                go_wp2
                go_ret2
                exact ⟨n, a, by rw [HN2.out]; exact tup_isS (by first | rfl | (simp; done) | (simp; omega)), K2.out.drewN _, R2.out.keep0 ((Keep.refl [] _).drewN _), hal, fun _ _ e => by rw [HN2.out] at e; cases e; exact ⟨rfl, rfl⟩⟩
            · have hyb : (y == 48) = false := beq_eq_false_iff_ne.2 hy48
              have hN : numR s i = some (n, a) := by rw [HN.out, if_pos (by have := HY.out; omega)]
              have HN2 := Lib.hid hN
              clear hN HN
              go_wp2
              go_quiet (fail)
              go_wp2
              go_ret2
              exact ⟨n, a, by rw [HN2.out]; exact tup_isS (by first | rfl | (simp; done) | (simp; omega)), K2.out.drewN _, R2.out.keep0 ((Keep.refl [] _).drewN _), hal, fun _ _ e => by rw [HN2.out] at e; cases e; exact ⟨rfl, rfl⟩⟩
          · have h60b : decide (n ≤ 60) = false := decide_eq_false h60
            have hN : numR s i = none := by rw [HN.out, if_neg (by omega)]
            have HN2 := Lib.hid hN
            clear hN HN
            go_wp2
            go_quiet (fail)
            go_wp2
            go_ret2
            exact ⟨n, a, by rw [HN2.out]; exact tup_isS (by first | rfl | (simp; done) | (simp; omega)), K2.out.drewN _, R2.out.keep0 ((Keep.refl [] _).drewN _), hal, fun _ _ e => by rw [HN2.out] at e; cases e⟩
        · have haz : ¬ (i : Int) < a := by omega
          have hN : numR s i = none := by rw [HN.out, if_neg (by omega)]
          have HN2 := Lib.hid hN
          clear hN HN
          go_wp2
          go_quiet (fail)
          go_wp2
          go_ret2
          exact ⟨n, a, by rw [HN2.out]; exact tup_isS (by first | rfl | (simp; done) | (simp; omega)), K2.out.drewN _, R2.out.keep0 ((Keep.refl [] _).drewN _), hal, fun _ _ e => by rw [HN2.out] at e; cases e⟩
    · have hdg : isDig x = false := by simp [isDig]; omega
      have hdd := HDD.out
      rw [if_neg (by rw [hdg]; simp)] at hdd
      have HN := Lib.hid (numR_digsS hdd.symm)
      obtain ⟨d0, d1, d2, d3, d4, d5⟩ := R1.out.cell
      clear hdd hdg HDD
      by_cases hai : i < a
      · by_cases h60 : n ≤ 60
        · have hil : i < s.length := by omega
          obtain ⟨b, o, rfl, hb, hc⟩ := R1.out.nums i hil
          obtain ⟨y, hy⟩ : ∃ y, s[i] = y := ⟨_, rfl⟩
          have HY : Hid (pk s i = y) := (pk_lt hil).trans hy
          rw [hy] at hc
          clear hy
          by_cases hy48 : y = 48
          · by_cases h1 : i + 1 < a
            · have h1z : (i : Int) + 1 < a := by omega
              have hN : numR s i = none := by rw [HN.out, if_neg (by have := HY.out; omega)]
              have HN2 := Lib.hid hN
              clear hN HN
              go_wp2
              go_quiet (fail)
              go_wp2
              go_ret2
              exact ⟨n, a, by rw [HN2.out]; exact tup_isS (by first | rfl | (simp; done) | (simp; omega)), K1.out.drewN _, R1.out.keep0 ((Keep.refl [] _).drewN _), hal, fun _ _ e => by rw [HN2.out] at e; cases e⟩
            · have h1z : ¬ (i : Int) + 1 < a := by omega
              have hN : numR s i = some (n, a) := by rw [HN.out, if_pos (by have := HY.out; omega)]
              have HN2 := Lib.hid hN
              clear hN HN
              go_wp2
              go_quiet (fail)
              go_wp2
              go_ret2
              exact ⟨n, a, by rw [HN2.out]; exact tup_isS (by first | rfl | (simp; done) | (simp; omega)), K1.out.drewN _, R1.out.keep0 ((Keep.refl [] _).drewN _), hal, fun _ _ e => by rw [HN2.out] at e; cases e; exact ⟨rfl, rfl⟩⟩
          · have hyb : (y == 48) = false := beq_eq_false_iff_ne.2 hy48
            have hN : numR s i = some (n, a) := by rw [HN.out, if_pos (by have := HY.out; omega)]
            have HN2 := Lib.hid hN
            clear hN HN
            go_wp2
            go_quiet (fail)
            go_wp2
            go_ret2
            exact ⟨n, a, by rw [HN2.out]; exact tup_isS (by first | rfl | (simp; done) | (simp; omega)), K1.out.drewN _, R1.out.keep0 ((Keep.refl [] _).drewN _), hal, fun _ _ e => by rw [HN2.out] at e; cases e; exact ⟨rfl, rfl⟩⟩
        · have h60b : decide (n ≤ 60) = false := decide_eq_false h60
          have hN : numR s i = none := by rw [HN.out, if_neg (by omega)]
          have HN2 := Lib.hid hN
          clear hN HN
          go_wp2
          go_quiet (fail)
          go_wp2
          go_ret2
          exact ⟨n, a, by rw [HN2.out]; exact tup_isS (by first | rfl | (simp; done) | (simp; omega)), K1.out.drewN _, R1.out.keep0 ((Keep.refl [] _).drewN _), hal, fun _ _ e => by rw [HN2.out] at e; cases e⟩
      · have haz : ¬ (i : Int) < a := by omega
        have hN : numR s i = none := by rw [HN.out, if_neg (by omega)]
        have HN2 := Lib.hid hN
        clear hN HN
        go_wp2
        go_quiet (fail)
        go_wp2
        go_ret2
        exact ⟨n, a, by rw [HN2.out]; exact tup_isS (by first | rfl | (simp; done) | (simp; omega)), K1.out.drewN _, R1.out.keep0 ((Keep.refl [] _).drewN _), hal, fun _ _ e => by rw [HN2.out] at e; cases e⟩

end Go.Proofs.YtdkjfppjbkdelaaGreatDoor

/- The specification's reader of patterns: times. Conditions: at most 1000 code points. -/
namespace Go.Proofs.YtdkjfppjbkdelaaGreatDoor
set_option linter.unusedVariables false
set_option linter.unusedSimpArgs false
open Go.RowKit

def STimesIs (w : World) (p : Nat) (s : List Int) (PA : Option Addr) (pc i d : Nat) (nv : Value) (e : Ending) (w' : World) : Prop :=
  match timesR s i with
  | some (lo, hi, j) => e = .returned (.tuple #[.int .i64 lo, .int .i64 hi, .bool true]) ∧ Keep [p] w w' ∧ Ss w' p s PA pc j 0 0 d nv
  | none => e = .returned (.tuple #[.int .i64 0, .int .i64 0, .bool false]) ∧ Keep [p] w w' ∧ ∃ j', j' ≤ 1003 ∧ Ss w' p s PA pc j' 0 0 d nv
section
variable {w w' : World} {p : Nat} {s : List Int} {PA : Option Addr} {pc i d j : Nat} {nv : Value} {lo hi : Int} {e : Ending}
theorem STimesIs.no (h : timesR s i = none) (he : e = .returned (.tuple #[.int .i64 0, .int .i64 0, .bool false])) (hk : Keep [p] w w') (hj : j ≤ 1003) (hr : Ss w' p s PA pc j 0 0 d nv) : STimesIs w p s PA pc i d nv e w' := by
  unfold STimesIs; rw [h]; exact ⟨he, hk, j, hj, hr⟩
theorem STimesIs.yes (h : timesR s i = some (lo, hi, j)) (he : e = .returned (.tuple #[.int .i64 lo, .int .i64 hi, .bool true])) (hk : Keep [p] w w') (hr : Ss w' p s PA pc j 0 0 d nv) : STimesIs w p s PA pc i d nv e w' := by
  unfold STimesIs; rw [h]; exact ⟨he, hk, hr⟩
end

set_option maxHeartbeats 8000000 in
set_option maxRecDepth 100000 in
theorem stimes_any (w : World) (p : Nat) (s : List Int) (PA : Option Addr) (pc i d : Nat) (nv : Value) (h : Ss w p s PA pc i 0 0 d nv) (hs : s.length ≤ 1000) (hi : i < s.length) (hP : Pos s) : Calls Tryz.prog 192 #[.pointer (some ⟨p, 0, none⟩)] w (STimesIs w p s PA pc i d nv) := by
  have K0 := Lib.hid (Keep.refl [p] w)
  have R0 := Lib.hid h
  clear h
  obtain ⟨d0, d1, d2, d3, d4, d5⟩ := R0.out.cell
  have g1 := R0.out.frozen 1
  have hzm : (i : Int) + 1 = ((i + 1 : Nat) : Int) := by omega
  obtain ⟨m, hmm⟩ : ∃ m, i + 1 = m := ⟨_, rfl⟩
  rw [hmm] at hzm
  have HMm := Lib.hid hmm
  have R1 := Lib.hid (R0.out.set1 m)
  have K1 := Lib.hid (K0.out.tr (R0.out.keepSet 1 (.int .i64 (m : Int))))
  have hlm : m = i + 1 := hmm.symm
  have HLm := Lib.hid hlm
  have hbm : m ≤ 1003 := by omega
  clear hmm hlm
  have hml : m ≤ s.length := by have := HLm.out; omega
  go_enter Tryz.func192, Tryz.ntmps192
  go_wp2_with fail
  refine (number_any _ p s PA pc m d nv R1.out hs hml hP).mono ?_
  rintro e w1 ⟨lo, j, rfl, k1, r1, hj, hn⟩
  have K2 := Lib.hid (K1.out.tr k1)
  have R2 := Lib.hid r1
  clear k1 r1 d0 d1 d2 d3 d4 d5 g1
  cases hN : numR s m with
  | none =>
    have HT : Hid (timesR s i = none) := tm_none (by rw [← HLm.out]; exact hN)
    simp only [Option.isSome]
    clear hN hn
    go_wp2
    refine bodyPost_ret (results_tmp3 Tryz.results192 _ _ _) rfl ?_
    exact STimesIs.no HT.out rfl K2.out (by omega) R2.out
  | some nj =>
    obtain ⟨lo', j'⟩ := nj
    obtain ⟨rfl, rfl⟩ := hn lo' j' hN
    have HN : Hid (numR s (i + 1) = some (lo, j)) := by rw [HLm.out] at hN; exact hN
    have hlo := numR_place hN
    have l0 := hlo.2.2.1
    have l1 := hlo.2.2.2
    simp only [Option.isSome]
    clear hN hn hlo
    obtain ⟨x, hx⟩ : ∃ x, pk s j = x := ⟨_, rfl⟩
    have HX := Lib.hid hx
    clear hx
    go_wp2_with fail
    refine (peek_any _ p s PA pc j 0 0 d nv R2.out hs (by omega)).mono ?_
    rintro e w2 ⟨rfl, k, rr⟩
    rw [HX.out]
    have K3 := Lib.hid (K2.out.tr k.nil)
    have R3 := Lib.hid rr
    clear k rr
    by_cases h44 : x = 44
    · subst h44
      have hjl : j + 1 ≤ s.length := lt_of_pk (s := s) (i := j) (by rw [HX.out]; omega)
      obtain ⟨y, hy⟩ : ∃ y, pk s (j + 1) = y := ⟨_, rfl⟩
      have HY := Lib.hid hy
      clear hy
      obtain ⟨d0, d1, d2, d3, d4, d5⟩ := R3.out.cell
      have g1 := R3.out.frozen 1
      have hzq : (j : Int) + 1 = ((j + 1 : Nat) : Int) := by omega
      obtain ⟨q, hmq⟩ : ∃ m, j + 1 = m := ⟨_, rfl⟩
      rw [hmq] at hzq
      have HMq := Lib.hid hmq
      have R4 := Lib.hid (R3.out.set1 q)
      have K4 := Lib.hid (K3.out.tr (R3.out.keepSet 1 (.int .i64 (q : Int))))
      have hlq : q = j + 1 := hmq.symm
      have HLq := Lib.hid hlq
      have hbq : q ≤ 1003 := by omega
      clear hmq hlq
      have HYq : Hid (pk s q = y) := by show pk s q = y; rw [HLq.out]; exact HY.out
      go_wp2_with fail
      refine (peek_any _ p s PA pc q 0 0 d nv R4.out hs (by omega)).mono ?_
      rintro e w3 ⟨rfl, k, rr⟩
      rw [HYq.out]
      have K5 := Lib.hid (K4.out.tr k.nil)
      have R5 := Lib.hid rr
      clear k rr
      clear d0 d1 d2 d3 d4 d5 g1
      by_cases h125 : y = 125
      · subst h125
        have HT : Hid (timesR s i = some (lo, -1, j + 2)) := tm_open HN.out HX.out HY.out
        go_wp2_with fail
        refine (peek_any _ p s PA pc q 0 0 d nv R5.out hs (by omega)).mono ?_
        rintro e w4 ⟨rfl, k, rr⟩
        rw [HYq.out]
        have K6 := Lib.hid (K5.out.tr k.nil)
        have R6 := Lib.hid rr
        clear k rr
        obtain ⟨d0, d1, d2, d3, d4, d5⟩ := R6.out.cell
        have g1 := R6.out.frozen 1
        have hzv : (q : Int) + 1 = ((q + 1 : Nat) : Int) := by omega
        obtain ⟨v, hmv⟩ : ∃ m, q + 1 = m := ⟨_, rfl⟩
        rw [hmv] at hzv
        have HMv := Lib.hid hmv
        have R7 := Lib.hid (R6.out.set1 v)
        have K7 := Lib.hid (K6.out.tr (R6.out.keepSet 1 (.int .i64 (v : Int))))
        have hlv : v = q + 1 := hmv.symm
        have HLv := Lib.hid hlv
        have hbv : v ≤ 1003 := by omega
        clear hmv hlv
        go_wp2
        refine bodyPost_ret (results_tmp3 Tryz.results192 _ _ _) rfl ?_
        refine STimesIs.yes HT.out rfl K7.out ?_
        rw [show j + 2 = v by have := HLq.out; have := HLv.out; omega]; exact R7.out
      · have hql : q ≤ s.length := by have := HLq.out; omega
        go_wp2_with fail
        refine (number_any _ p s PA pc q d nv R5.out hs hql hP).mono ?_
        rintro e w4 ⟨hi2, k, rfl, k4, r4, hk, hn2⟩
        have K6 := Lib.hid (K5.out.tr k4)
        have R6 := Lib.hid r4
        clear k4 r4
        cases hN2 : numR s q with
        | none =>
          have HT : Hid (timesR s i = none) := tm_none2 HN.out HX.out (by rw [HY.out]; exact h125) (by rw [← HLq.out]; exact hN2)
          simp only [Option.isSome]
          clear hN2 hn2
          go_wp2
          refine bodyPost_ret (results_tmp3 Tryz.results192 _ _ _) rfl ?_
          exact STimesIs.no HT.out rfl K6.out (by omega) R6.out
        | some nk =>
          obtain ⟨hi', k'⟩ := nk
          obtain ⟨rfl, rfl⟩ := hn2 hi' k' hN2
          have HT := Lib.hid (tm_two HN.out HX.out (by rw [HY.out]; exact h125) (by rw [← HLq.out]; exact hN2))
          simp only [Option.isSome]
          clear hN2 hn2
          obtain ⟨z, hz⟩ : ∃ z, pk s k = z := ⟨_, rfl⟩
          have HZ := Lib.hid hz
          clear hz
          by_cases hle : lo ≤ hi2
          · skip
            go_wp2_with fail
            refine (peek_any _ p s PA pc k 0 0 d nv R6.out hs (by omega)).mono ?_
            rintro e w5 ⟨rfl, k, rr⟩
            rw [HZ.out]
            have K8 := Lib.hid (K6.out.tr k.nil)
            have R8 := Lib.hid rr
            clear k rr
            by_cases hc : z = 125
            · subst hc
              have HT2 : Hid (timesR s i = some (lo, hi2, k + 1)) := by show timesR s i = _; rw [HT.out, if_pos ⟨hle, HZ.out⟩]
              obtain ⟨d0, d1, d2, d3, d4, d5⟩ := R8.out.cell
              have g1 := R8.out.frozen 1
              have hzv : (k : Int) + 1 = ((k + 1 : Nat) : Int) := by omega
              obtain ⟨v, hmv⟩ : ∃ m, k + 1 = m := ⟨_, rfl⟩
              rw [hmv] at hzv
              have HMv := Lib.hid hmv
              have R9 := Lib.hid (R8.out.set1 v)
              have K9 := Lib.hid (K8.out.tr (R8.out.keepSet 1 (.int .i64 (v : Int))))
              have hlv : v = k + 1 := hmv.symm
              have HLv := Lib.hid hlv
              have hbv : v ≤ 1003 := by omega
              clear hmv hlv
              go_wp2
              refine bodyPost_ret (results_tmp3 Tryz.results192 _ _ _) rfl ?_
              refine STimesIs.yes HT2.out rfl K9.out ?_
              rw [← HLv.out]; exact R9.out
            · have HT2 : Hid (timesR s i = none) := by show timesR s i = _; rw [HT.out, if_neg (fun h => hc (HZ.out.symm.trans h.2))]
              have hcb : (z == 125) = false := beq_eq_false_iff_ne.2 hc
              go_wp2
              refine bodyPost_ret (results_tmp3 Tryz.results192 _ _ _) rfl ?_
              exact STimesIs.no HT2.out rfl K8.out (by omega) R8.out
          · have HT2 : Hid (timesR s i = none) := by show timesR s i = _; rw [HT.out, if_neg (fun h => hle h.1)]
            clear HT
            go_wp2
            refine bodyPost_ret (results_tmp3 Tryz.results192 _ _ _) rfl ?_
            exact STimesIs.no HT2.out rfl K6.out (by omega) R6.out
    · have HT := Lib.hid (tm_one HN.out (by rw [HX.out]; exact h44))
      go_wp2_with fail
      refine (peek_any _ p s PA pc j 0 0 d nv R3.out hs (by omega)).mono ?_
      rintro e w3 ⟨rfl, k, rr⟩
      rw [HX.out]
      have K4 := Lib.hid (K3.out.tr k.nil)
      have R4 := Lib.hid rr
      clear k rr
      by_cases hc : x = 125
      · subst hc
        have HT2 : Hid (timesR s i = some (lo, lo, j + 1)) := by show timesR s i = _; rw [HT.out, if_pos HX.out]
        obtain ⟨d0, d1, d2, d3, d4, d5⟩ := R4.out.cell
        have g1 := R4.out.frozen 1
        have hzv : (j : Int) + 1 = ((j + 1 : Nat) : Int) := by omega
        obtain ⟨v, hmv⟩ : ∃ m, j + 1 = m := ⟨_, rfl⟩
        rw [hmv] at hzv
        have HMv := Lib.hid hmv
        have R5 := Lib.hid (R4.out.set1 v)
        have K5 := Lib.hid (K4.out.tr (R4.out.keepSet 1 (.int .i64 (v : Int))))
        have hlv : v = j + 1 := hmv.symm
        have HLv := Lib.hid hlv
        have hbv : v ≤ 1003 := by omega
        clear hmv hlv
        go_wp2
        refine bodyPost_ret (results_tmp3 Tryz.results192 _ _ _) rfl ?_
        refine STimesIs.yes HT2.out rfl K5.out ?_
        rw [← HLv.out]; exact R5.out
      · have HT2 : Hid (timesR s i = none) := by show timesR s i = _; rw [HT.out, if_neg (fun h => hc (HX.out.symm.trans h))]
        have hcb : (x == 125) = false := beq_eq_false_iff_ne.2 hc
        go_wp2
        refine bodyPost_ret (results_tmp3 Tryz.results192 _ _ _) rfl ?_
        exact STimesIs.no HT2.out rfl K4.out (by omega) R4.out

end Go.Proofs.YtdkjfppjbkdelaaGreatDoor
