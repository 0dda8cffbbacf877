/- The program's reader of patterns: item. Conditions: at most 1000 code points. -/
import Derived.Test.YtdkjfppjbkdelaaGreatDoorRxI7
import Derived.Test.YtdkjfppjbkdelaaGreatDoorRxI2
namespace Go.Proofs.YtdkjfppjbkdelaaGreatDoor
set_option linter.unusedVariables false
open Go.RowKit

def ItemIs (w : World) (p : Nat) (s : List Int) (PA : Option Addr) (pc i d : Nat) (nv : Value) (e : Ending) (w' : World) : Prop :=
  match itemR s i with
  | .ok l j => ∃ v, e = .returned (.tuple #[v, .bool true]) ∧ RowI w' w.heap.size v l ∧ Keep [p] w w' ∧ Rs w' p s PA pc j d nv
  | .esc q => e = .panicked [{ v := .iface 141 (.agg #[.int .i64 q, .int .i64 6]), recovered := false }] ∧ Keep [p] w w'
  | .bad => ∃ v, e = .returned (.tuple #[v, .bool false]) ∧ Keep [p] w w'
section
variable {w w' : World} {p : Nat} {s : List Int} {PA : Option Addr} {pc i d j q : Nat} {nv v : Value} {l : List Int} {e : Ending}
theorem ItemIs.yes (h : itemR s i = .ok l j) (he : e = .returned (.tuple #[v, .bool true])) (hr : RowI w' w.heap.size v l) (hk : Keep [p] w w') (hs : Rs w' p s PA pc j d nv) : ItemIs w p s PA pc i d nv e w' := by
  unfold ItemIs; rw [h]; exact ⟨v, he, hr, hk, hs⟩
theorem ItemIs.no (h : itemR s i = .bad) (he : e = .returned (.tuple #[v, .bool false])) (hk : Keep [p] w w') : ItemIs w p s PA pc i d nv e w' := by
  unfold ItemIs; rw [h]; exact ⟨v, he, hk⟩
theorem ItemIs.esc (h : itemR s i = .esc q) (hk : Keep [p] w w') : ItemIs w p s PA pc i d nv (.panicked [{ v := .iface 141 (.agg #[.int .i64 q, .int .i64 6]), recovered := false }]) w' := by
  unfold ItemIs; rw [h]; exact ⟨rfl, hk⟩
end

section
variable {s : List Int} {i j k : Nat} {lo hi : Int} {l : List Int}
theorem it_zero (h : pk s i = 0) : itemR s i = .bad := by unfold itemR; rw [if_pos h]
theorem it_class (h0 : pk s i = 91) (h1 : pk s (i + 1) = 58) : itemR s i = match classR s i with | some (e, j) => .ok e j | none => .bad := by
  unfold itemR; rw [if_neg (by omega), if_pos ⟨h0, h1⟩]; cases classR s i <;> rfl
theorem it_esc (h : pk s i ≠ 0) (h0 : ¬ (pk s i = 91 ∧ pk s (i + 1) = 58)) (h1 : pointR s i = none) : itemR s i = .esc i := by unfold itemR; rw [if_neg h, if_neg h0, h1]
theorem it_one (h : pk s i ≠ 0) (h0 : ¬ (pk s i = 91 ∧ pk s (i + 1) = 58)) (h1 : pointR s i = some (lo, j)) (h2 : ¬ (pk s j = 45 ∧ pk s (j + 1) ≠ 93 ∧ pk s (j + 1) ≠ 0)) : itemR s i = .ok [lo, lo] j := by
  unfold itemR; rw [if_neg h, if_neg h0, h1]; simp only; rw [if_neg h2]
theorem it_esc2 (h : pk s i ≠ 0) (h0 : ¬ (pk s i = 91 ∧ pk s (i + 1) = 58)) (h1 : pointR s i = some (lo, j)) (h2 : pk s j = 45 ∧ pk s (j + 1) ≠ 93 ∧ pk s (j + 1) ≠ 0) (h3 : pointR s (j + 1) = none) : itemR s i = .esc (j + 1) := by
  unfold itemR; rw [if_neg h, if_neg h0, h1]; simp only; rw [if_pos h2, h3]
theorem it_two (h : pk s i ≠ 0) (h0 : ¬ (pk s i = 91 ∧ pk s (i + 1) = 58)) (h1 : pointR s i = some (lo, j)) (h2 : pk s j = 45 ∧ pk s (j + 1) ≠ 93 ∧ pk s (j + 1) ≠ 0) (h3 : pointR s (j + 1) = some (hi, k)) : itemR s i = if lo ≤ hi then .ok [lo, hi] k else .bad := by
  unfold itemR; rw [if_neg h, if_neg h0, h1]; simp only; rw [if_pos h2, h3]
end

theorem Rs.alloc {w : World} {p : Nat} {s : List Int} {PA : Option Addr} {pc i d : Nat} {nv : Value} (h : Rs w p s PA pc i d nv) (o : Obj) : Rs (w.alloc o) p s PA pc i d nv := h.keep0 ((Keep.refl [] w).alloc o)

theorem tup_v {v : Value} {b c : Bool} (h : b = c) : Ending.returned (.tuple #[v, .bool b]) = Ending.returned (.tuple #[v, .bool c]) := by rw [h]

set_option maxHeartbeats 4000000 in
set_option maxRecDepth 100000 in
theorem item_any (w : World) (p : Nat) (s : List Int) (PA : Option Addr) (pc i d : Nat) (nv : Value) (h : Rs w p s PA pc i d nv) (hs : s.length ≤ 1000) (hi : i ≤ s.length) (hP : Pos s) : Calls Tryz.prog 221 #[.pointer (some ⟨p, 0, none⟩)] w (ItemIs w p s PA pc i d nv) := by
  have K0 := Lib.hid (Keep.refl [p] w)
  have R0 := Lib.hid h
  obtain ⟨x, hx⟩ : ∃ x, pk s i = x := ⟨_, rfl⟩
  obtain ⟨y1, hy1⟩ : ∃ y1, pk s (i + 1) = y1 := ⟨_, rfl⟩
  have HX := Lib.hid hx
  have HX1 := Lib.hid hy1
  clear h hx hy1
  go_enter Tryz.func221, Tryz.ntmps221
  go_wp2_with fail
  refine (ahead0 _ p s PA pc i d nv R0.out hs (by omega)).mono ?_
  rintro e w1 ⟨rfl, k, r⟩
  rw [HX.out]
  have K1 := Lib.hid (K0.out.tr k.nil)
  have R1 := Lib.hid r
  clear k r
  by_cases hx0 : x = 0
  · have HT := Lib.hid (it_zero (s := s) (i := i) (by rw [HX.out]; exact hx0))
    subst hx0
    go_wp2
    go_ret2
    exact ItemIs.no HT.out rfl K1.out
  have H0 : Hid (pk s i ≠ 0) := by show pk s i ≠ 0; rw [HX.out]; exact hx0
  have hil : i < s.length := lt_of_pk H0.out
  go_wp2_with fail
  refine (ahead0 _ p s PA pc i d nv R1.out hs (by omega)).mono ?_
  rintro e w2 ⟨rfl, k, r⟩
  rw [HX.out]
  have K2 := Lib.hid (K1.out.tr k.nil)
  have R2 := Lib.hid r
  clear k r
  by_cases h91 : x = 91
  · subst h91
    go_wp2_with fail
    refine (ahead1 _ p s PA pc i d nv R2.out hs (by omega)).mono ?_
    rintro e w2a ⟨rfl, k, r⟩
    rw [HX1.out]
    have K2a := Lib.hid (K2.out.tr k.nil)
    have R2a := Lib.hid r
    clear k r
    by_cases h58 : y1 = 58
    · subst h58
      have hil2 : i + 2 ≤ s.length := lt_of_pk (s := s) (i := i + 1) (by rw [HX1.out]; omega)
      have HT := Lib.hid (it_class (s := s) (i := i) HX.out HX1.out)
      go_wp2_with fail
      refine (class_any _ p s PA pc i d nv R2a.out hs hil2 hP 0).mono ?_
      intro e w3 hc
      unfold ClassIs at hc
      cases hC : classR s i with
      | none =>
        rw [hC] at hc
        obtain ⟨v, rfl, k⟩ := hc
        have HT2 : Hid (itemR s i = .bad) := by show itemR s i = _; rw [HT.out, hC]
        have K3 := Lib.hid (K2a.out.tr k)
        clear k hC
        go_wp2
        go_ret2
        exact ItemIs.no HT2.out rfl K3.out
      | some lj =>
        obtain ⟨l, j⟩ := lj
        rw [hC] at hc
        obtain ⟨v, rfl, hrow, k, r⟩ := hc
        have HT2 : Hid (itemR s i = .ok l j) := by show itemR s i = _; rw [HT.out, hC]
        have W3 := Lib.hid (row_low hrow K2a.out.size)
        have K3 := Lib.hid (K2a.out.tr k)
        have R3 := Lib.hid r
        obtain ⟨A3, c3, rfl⟩ := own_form hrow
        clear k r hC hrow
        go_wp2
        go_ret2
        exact ItemIs.yes HT2.out rfl W3.out K3.out R3.out
    · have HN : Hid (¬ (pk s i = 91 ∧ pk s (i + 1) = 58)) := by show ¬ (_ ∧ _); rw [HX1.out]; exact fun h => h58 h.2
      cases hp1 : pointR s i with
      | none =>
        have HT := Lib.hid (it_esc H0.out HN.out hp1)
        go_wp2_with fail
        refine (point_err _ p s PA pc i d nv R2a.out hs (by omega) hp1).mono ?_
        rintro e w3 ⟨rfl, k⟩
        have K3 := Lib.hid (K2a.out.tr k)
        clear k hp1
        go_wp2
        exact ⟨rfl, ItemIs.esc HT.out K3.out⟩
      | some lj =>
        obtain ⟨lo, j⟩ := lj
        have hjl := (pointR_place hil hp1).2
        have HP1 := Lib.hid hp1
        have hlo := pointR_range hP hil hp1
        have lo0 := hlo.1
        have lo1 := hlo.2
        clear hlo hp1
        go_wp2_with fail
        refine (point_ok lo j _ p s PA pc i d nv R2a.out hs (by omega) HP1.out).mono ?_
        rintro e w3 ⟨rfl, k, r⟩
        have K3 := Lib.hid (K2a.out.tr k)
        have R3 := Lib.hid r
        clear k r
        obtain ⟨y, hy⟩ : ∃ y, pk s j = y := ⟨_, rfl⟩
        obtain ⟨z, hz⟩ : ∃ z, pk s (j + 1) = z := ⟨_, rfl⟩
        have HY := Lib.hid hy
        have HZ := Lib.hid hz
        clear hy hz
        go_wp2_with fail
        refine (ahead0 _ p s PA pc j d nv R3.out hs (by omega)).mono ?_
        rintro e w4 ⟨rfl, k, r⟩
        rw [HY.out]
        have K4 := Lib.hid (K3.out.tr k.nil)
        have R4 := Lib.hid r
        clear k r
        by_cases h45 : y = 45
        · subst h45
          go_wp2_with fail
          refine (ahead1 _ p s PA pc j d nv R4.out hs (by omega)).mono ?_
          rintro e w5 ⟨rfl, k, r⟩
          rw [HZ.out]
          have K5 := Lib.hid (K4.out.tr k.nil)
          have R5 := Lib.hid r
          clear k r
          by_cases h93 : z = 93
          · subst h93
            have HT := Lib.hid (it_one H0.out HN.out HP1.out (by rw [HY.out, HZ.out]; omega))
            go_wp2
            go_ret2
            exact ItemIs.yes HT.out rfl (row_low (new_ints w5 [lo, lo] (by simp [maxLen])) K5.out.size) (K5.out.alloc _) (R5.out.alloc _)
          by_cases hz0 : z = 0
          · subst hz0
            go_wp2_with fail
            refine (ahead1 _ p s PA pc j d nv R5.out hs (by omega)).mono ?_
            rintro e w6 ⟨rfl, k, r⟩
            rw [HZ.out]
            have K6 := Lib.hid (K5.out.tr k.nil)
            have R6 := Lib.hid r
            clear k r
            have HT := Lib.hid (it_one H0.out HN.out HP1.out (by rw [HY.out, HZ.out]; omega))
            go_wp2
            go_ret2
            exact ItemIs.yes HT.out rfl (row_low (new_ints w6 [lo, lo] (by simp [maxLen])) K6.out.size) (K6.out.alloc _) (R6.out.alloc _)
          have hzb : (z == 0) = false := beq_eq_false_iff_ne.2 hz0
          have hzc : (z != 0) = true := by simp [bne, hzb]
          go_wp2_with fail
          refine (ahead1 _ p s PA pc j d nv R5.out hs (by omega)).mono ?_
          rintro e w6 ⟨rfl, k, r⟩
          rw [HZ.out]
          have K6 := Lib.hid (K5.out.tr k.nil)
          have R6 := Lib.hid r
          clear k r
          have hb : Hid (pk s j = 45 ∧ pk s (j + 1) ≠ 93 ∧ pk s (j + 1) ≠ 0) := by show _ ∧ _; rw [HY.out, HZ.out]; exact ⟨rfl, h93, hz0⟩
          have hjl2 : j + 1 < s.length := lt_of_pk hb.out.2.2
          obtain ⟨d0, d1, d2, d3⟩ := R6.out.cell
          have f1 := R6.out.frozen 1
          have R7 := Lib.hid (R6.out.set1 (j + 1))
          have K7 := Lib.hid (K6.out.tr (R6.out.keepSet 1 (.int .i64 ((j + 1 : Nat) : Int))))
          have hz1 : (j : Int) + 1 = ((j + 1 : Nat) : Int) := by omega
          obtain ⟨m, hm⟩ : ∃ m, j + 1 = m := ⟨_, rfl⟩
          rw [hm] at hz1 R7 K7
          have HM := Lib.hid hm
          have hml : m < s.length := by omega
          clear hm
          cases hp2 : pointR s m with
          | none =>
            have HT := Lib.hid (it_esc2 H0.out HN.out HP1.out hb.out (by rw [HM.out]; exact hp2))
            have HT2 : Hid (itemR s i = .esc m) := by rw [← HM.out]; exact HT.out
            go_wp2_with fail
            refine (point_err _ p s PA pc m d nv R7.out hs (by omega) hp2).mono ?_
            rintro e w8 ⟨rfl, k⟩
            have K8 := Lib.hid (K7.out.tr k)
            clear k hp2
            go_wp2
            exact ⟨rfl, ItemIs.esc HT2.out K8.out⟩
          | some hj =>
            obtain ⟨hi2, k⟩ := hj
            have HT := Lib.hid (it_two H0.out HN.out HP1.out hb.out (by rw [HM.out]; exact hp2))
            have HP2 := Lib.hid hp2
            have hhi := pointR_range hP hml hp2
            have hi0 := hhi.1
            have hi1 := hhi.2
            clear hhi hp2
            go_wp2_with fail
            refine (point_ok hi2 k _ p s PA pc m d nv R7.out hs (by omega) HP2.out).mono ?_
            rintro e w8 ⟨rfl, k', r'⟩
            have K8 := Lib.hid (K7.out.tr k')
            have R8 := Lib.hid r'
            clear k' r' d0 d1 d2 d3 f1
            by_cases hle : lo ≤ hi2
            · have HT2 : Hid (itemR s i = .ok [lo, hi2] k) := by show itemR s i = _; rw [HT.out, if_pos hle]
              go_wp2
              go_ret2
              exact ItemIs.yes HT2.out rfl (row_low (new_ints w8 [lo, hi2] (by simp [maxLen])) K8.out.size) (K8.out.alloc _) (R8.out.alloc _)
            · have HT2 : Hid (itemR s i = .bad) := by show itemR s i = _; rw [HT.out, if_neg hle]
              go_wp2
              go_ret2
              exact ItemIs.no HT2.out (tup_v (by first | exact decide_eq_false (by omega) | (simp; omega))) (K8.out.alloc _)
        · skip
          have HT := Lib.hid (it_one H0.out HN.out HP1.out (by rw [HY.out, HZ.out]; omega))
          go_wp2
          go_ret2
          exact ItemIs.yes HT.out rfl (row_low (new_ints w4 [lo, lo] (by simp [maxLen])) K4.out.size) (K4.out.alloc _) (R4.out.alloc _)
  · have HN : Hid (¬ (pk s i = 91 ∧ pk s (i + 1) = 58)) := by show ¬ (_ ∧ _); rw [HX.out]; exact fun h => h91 h.1
    cases hp1 : pointR s i with
    | none =>
      have HT := Lib.hid (it_esc H0.out HN.out hp1)
      go_wp2_with fail
      refine (point_err _ p s PA pc i d nv R2.out hs (by omega) hp1).mono ?_
      rintro e w3 ⟨rfl, k⟩
      have K3 := Lib.hid (K2.out.tr k)
      clear k hp1
      go_wp2
      exact ⟨rfl, ItemIs.esc HT.out K3.out⟩
    | some lj =>
      obtain ⟨lo, j⟩ := lj
      have hjl := (pointR_place hil hp1).2
      have HP1 := Lib.hid hp1
      have hlo := pointR_range hP hil hp1
      have lo0 := hlo.1
      have lo1 := hlo.2
      clear hlo hp1
      go_wp2_with fail
      refine (point_ok lo j _ p s PA pc i d nv R2.out hs (by omega) HP1.out).mono ?_
      rintro e w3 ⟨rfl, k, r⟩
      have K3 := Lib.hid (K2.out.tr k)
      have R3 := Lib.hid r
      clear k r
      obtain ⟨y, hy⟩ : ∃ y, pk s j = y := ⟨_, rfl⟩
      obtain ⟨z, hz⟩ : ∃ z, pk s (j + 1) = z := ⟨_, rfl⟩
      have HY := Lib.hid hy
      have HZ := Lib.hid hz
      clear hy hz
      go_wp2_with fail
      refine (ahead0 _ p s PA pc j d nv R3.out hs (by omega)).mono ?_
      rintro e w4 ⟨rfl, k, r⟩
      rw [HY.out]
      have K4 := Lib.hid (K3.out.tr k.nil)
      have R4 := Lib.hid r
      clear k r
      by_cases h45 : y = 45
      · subst h45
        go_wp2_with fail
        refine (ahead1 _ p s PA pc j d nv R4.out hs (by omega)).mono ?_
        rintro e w5 ⟨rfl, k, r⟩
        rw [HZ.out]
        have K5 := Lib.hid (K4.out.tr k.nil)
        have R5 := Lib.hid r
        clear k r
        by_cases h93 : z = 93
        · subst h93
          have HT := Lib.hid (it_one H0.out HN.out HP1.out (by rw [HY.out, HZ.out]; omega))
          go_wp2
          go_ret2
          exact ItemIs.yes HT.out rfl (row_low (new_ints w5 [lo, lo] (by simp [maxLen])) K5.out.size) (K5.out.alloc _) (R5.out.alloc _)
        by_cases hz0 : z = 0
        · subst hz0
          go_wp2_with fail
          refine (ahead1 _ p s PA pc j d nv R5.out hs (by omega)).mono ?_
          rintro e w6 ⟨rfl, k, r⟩
          rw [HZ.out]
          have K6 := Lib.hid (K5.out.tr k.nil)
          have R6 := Lib.hid r
          clear k r
          have HT := Lib.hid (it_one H0.out HN.out HP1.out (by rw [HY.out, HZ.out]; omega))
          go_wp2
          go_ret2
          exact ItemIs.yes HT.out rfl (row_low (new_ints w6 [lo, lo] (by simp [maxLen])) K6.out.size) (K6.out.alloc _) (R6.out.alloc _)
        have hzb : (z == 0) = false := beq_eq_false_iff_ne.2 hz0
        have hzc : (z != 0) = true := by simp [bne, hzb]
        go_wp2_with fail
        refine (ahead1 _ p s PA pc j d nv R5.out hs (by omega)).mono ?_
        rintro e w6 ⟨rfl, k, r⟩
        rw [HZ.out]
        have K6 := Lib.hid (K5.out.tr k.nil)
        have R6 := Lib.hid r
        clear k r
        have hb : Hid (pk s j = 45 ∧ pk s (j + 1) ≠ 93 ∧ pk s (j + 1) ≠ 0) := by show _ ∧ _; rw [HY.out, HZ.out]; exact ⟨rfl, h93, hz0⟩
        have hjl2 : j + 1 < s.length := lt_of_pk hb.out.2.2
        obtain ⟨d0, d1, d2, d3⟩ := R6.out.cell
        have f1 := R6.out.frozen 1
        have R7 := Lib.hid (R6.out.set1 (j + 1))
        have K7 := Lib.hid (K6.out.tr (R6.out.keepSet 1 (.int .i64 ((j + 1 : Nat) : Int))))
        have hz1 : (j : Int) + 1 = ((j + 1 : Nat) : Int) := by omega
        obtain ⟨m, hm⟩ : ∃ m, j + 1 = m := ⟨_, rfl⟩
        rw [hm] at hz1 R7 K7
        have HM := Lib.hid hm
        have hml : m < s.length := by omega
        clear hm
        cases hp2 : pointR s m with
        | none =>
          have HT := Lib.hid (it_esc2 H0.out HN.out HP1.out hb.out (by rw [HM.out]; exact hp2))
          have HT2 : Hid (itemR s i = .esc m) := by rw [← HM.out]; exact HT.out
          go_wp2_with fail
          refine (point_err _ p s PA pc m d nv R7.out hs (by omega) hp2).mono ?_
          rintro e w8 ⟨rfl, k⟩
          have K8 := Lib.hid (K7.out.tr k)
          clear k hp2
          go_wp2
          exact ⟨rfl, ItemIs.esc HT2.out K8.out⟩
        | some hj =>
          obtain ⟨hi2, k⟩ := hj
          have HT := Lib.hid (it_two H0.out HN.out HP1.out hb.out (by rw [HM.out]; exact hp2))
          have HP2 := Lib.hid hp2
          have hhi := pointR_range hP hml hp2
          have hi0 := hhi.1
          have hi1 := hhi.2
          clear hhi hp2
          go_wp2_with fail
          refine (point_ok hi2 k _ p s PA pc m d nv R7.out hs (by omega) HP2.out).mono ?_
          rintro e w8 ⟨rfl, k', r'⟩
          have K8 := Lib.hid (K7.out.tr k')
          have R8 := Lib.hid r'
          clear k' r' d0 d1 d2 d3 f1
          by_cases hle : lo ≤ hi2
          · have HT2 : Hid (itemR s i = .ok [lo, hi2] k) := by show itemR s i = _; rw [HT.out, if_pos hle]
            go_wp2
            go_ret2
            exact ItemIs.yes HT2.out rfl (row_low (new_ints w8 [lo, hi2] (by simp [maxLen])) K8.out.size) (K8.out.alloc _) (R8.out.alloc _)
          · have HT2 : Hid (itemR s i = .bad) := by show itemR s i = _; rw [HT.out, if_neg hle]
            go_wp2
            go_ret2
            exact ItemIs.no HT2.out (tup_v (by first | exact decide_eq_false (by omega) | (simp; omega))) (K8.out.alloc _)
      · skip
        have HT := Lib.hid (it_one H0.out HN.out HP1.out (by rw [HY.out, HZ.out]; omega))
        go_wp2
        go_ret2
        exact ItemIs.yes HT.out rfl (row_low (new_ints w4 [lo, lo] (by simp [maxLen])) K4.out.size) (K4.out.alloc _) (R4.out.alloc _)

end Go.Proofs.YtdkjfppjbkdelaaGreatDoor

/- The program's reader of patterns: bracket. Conditions: at most 1000 code points. -/
namespace Go.Proofs.YtdkjfppjbkdelaaGreatDoor
set_option linter.unusedVariables false
open Go.RowKit

theorem classOf_len (n : List Int) : (classOf n).length ≤ 8 := by
  unfold classOf
  repeat' (split; · decide)
  decide
theorem itemR_len {s : List Int} {i : Nat} {l : List Int} {j : Nat} (h : itemR s i = .ok l j) : l ≠ [] ∧ l.length ≤ 8 := by
  unfold itemR at h
  split at h
  · cases h
  split at h
  · split at h
    · next e j' hc =>
      cases h
      unfold classR at hc
      split at hc
      · next h1 => cases hc; exact ⟨h1.1, classOf_len _⟩
      · cases hc
    · cases h
  split at h
  · cases h
  split at h
  · split at h
    · cases h
    · split at h
      · cases h; exact ⟨by simp, by simp⟩
      · cases h
  · cases h; exact ⟨by simp, by simp⟩

def BrRel (s : List Int) (T : It) (neg : Bool) (q : Nat) (w : World) (p : Nat) (PA : Option Addr) (pc d : Nat) (nv : Value) (v5 : Value) (wr : World) : Prop :=
  ∃ (first : Bool) (a f : Nat) (set : List Int) (v : Value), v5 = .bool first ∧ Six wr q 47 (.int .i64 4) (.int .i64 0) (.int .i64 0) (.bool neg) v (.slice none 0 0) ∧ RowI wr (p + 1) v set ∧ (∀ b, v.ownBlock = some b → w.heap.size ≤ b ∧ b ≠ q) ∧
    itemsR s f a first set = T ∧ s.length < a + f ∧ a ≤ s.length ∧ set.length ≤ 8 * a ∧ Keep [p] w wr ∧ Rs wr p s PA pc a d nv

theorem row_some {w : World} {B : Nat} {v : Value} {l : List Int} (h : RowI w B v l) (hl : l ≠ []) : ∃ g c, v = .slice (some ⟨g, 0, none⟩) l.length c ∧ ∀ j u, (l.map (Value.int .i64))[j]? = some u → w.cell? ((⟨g, 0, none⟩ : Addr).add j) = some u := by
  rcases h.2 with ⟨_, h0⟩ | ⟨g, cap, cur, rfl, _⟩
  · exact absurd (List.eq_nil_of_length_eq_zero h0) hl
  · exact ⟨g, cap, rfl, h.cells (g := g) rfl⟩
theorem one_ints {l : List Int} : ∀ u ∈ l.map (Value.int .i64), u.oneCell' = true := by
  intro u hu
  obtain ⟨x, _, rfl⟩ := List.mem_map.1 hu
  rfl

theorem items_end {s : List Int} {f a : Nat} {set : List Int} (h : pk s a = 93) : itemsR s (f + 1) a false set = .ok set (a + 1) := by rw [itemsR, if_pos ⟨rfl, h⟩]
theorem items_on {s : List Int} {f a : Nat} {b : Bool} {set : List Int} (h : ¬ (b = false ∧ pk s a = 93)) : itemsR s (f + 1) a b set = match itemR s a with | .ok e j => itemsR s f j false (set ++ e) | r => r := by
  rw [itemsR, if_neg h]
  cases itemR s a <;> rfl

def brPost (out : List Nd) (i : Nat) (neg : Bool) : It → Rd
  | .ok set k => .ok out.length k (out ++ [setNode neg set])
  | .esc p => .err 6 p
  | .bad => .err 4 i

theorem Six.keep {w w' : World} {q : Nat} {t : TypeId} {v0 v1 v2 v3 v4 v5 : Value} (h : Six w q t v0 v1 v2 v3 v4 v5) {G : List Nat} (hk : Keep G w w') (hG : q ∉ G) : Six w' q t v0 v1 v2 v3 v4 v5 := (hk.block q h.lt hG).trans h

set_option maxHeartbeats 8000000 in
set_option maxRecDepth 100000 in
theorem bracket_any (w : World) (p : Nat) (s : List Int) (PA : Option Addr) (pc i d : Nat) (out : List Nd) (F : List Nat) (h : Rdr w p s PA pc i d out F) (hs : s.length ≤ 1000) (ho : out.length ≤ 100000) (hi : i < s.length) (hP : Pos s) :
    Calls Tryz.prog 210 #[.pointer (some ⟨p, 0, none⟩)] w (Post w p s PA pc d F [] (bracketR s i out)) := by
  obtain ⟨i0, hi0, hz0, hz1, hz2⟩ := info_parts Tryz.infoInt
  obtain ⟨nv, hR, hback⟩ := h.rs
  have HF := Lib.hid h.range
  have HB := Lib.hid hback
  obtain ⟨c0, c1, c2, c3⟩ := hR.cell
  have f1 := hR.frozen 1
  have hp := hR.lt
  have K1 := Lib.hid (hR.keepSet 1 (.int .i64 ((i + 1 : Nat) : Int)))
  have R1 := Lib.hid (hR.set1 (i + 1))
  have hzi : (i : Int) + 1 = ((i + 1 : Nat) : Int) := by omega
  obtain ⟨m, hm⟩ : ∃ m, i + 1 = m := ⟨_, rfl⟩
  rw [hm] at hzi K1 R1
  have HM := Lib.hid hm
  have hml : m ≤ s.length := by omega
  clear hR hback h
  have hbr : bracketR s i out = brPost out i (decide (pk s m = 94)) (itemsR s (s.length + 1) (if pk s m = 94 then i + 2 else m) true []) := by
    unfold bracketR
    rw [hm]
    cases itemsR s (s.length + 1) (if pk s m = 94 then i + 2 else m) true [] <;> rfl
  rw [hbr]
  clear hbr hm
  go_enter Tryz.func210, Tryz.ntmps210
  by_cases h94 : pk s m = 94
  · rw [if_pos h94, decide_eq_true h94]
    obtain ⟨T, hT⟩ : ∃ T, itemsR s (s.length + 1) (i + 2) true [] = T := ⟨_, rfl⟩
    rw [hT]
    have HT0 := Lib.hid hT
    have hil2 : i + 2 ≤ s.length := by have := lt_of_pk (s := s) (i := m) (by omega); have := HM.out; omega
    have H94 := Lib.hid h94
    clear hT h94
    go_wp2_with fail
    refine (take_yes 94 _ p s PA pc m d nv R1.out hs (by omega) H94.out).mono ?_
    rintro e w2 ⟨rfl, k2, r2⟩
    have K2 := Lib.hid (K1.out.tr k2)
    have R2 : Hid (Rs w2 p s PA pc (i + 2) d nv) := by have := HM.out; rw [show i + 2 = m + 1 by omega]; exact r2
    have hqw : w.heap.size ≤ w2.heap.size := K2.out.size
    clear k2 r2 c0 c1 c2 c3 f1 K1 R1
    go_wp2
    obtain ⟨q, hq⟩ : ∃ q, w2.heap.size = q := ⟨_, rfl⟩
    have hA : Keep [] w2 (w2.alloc (.cells #[.int .i64 4, .int .i64 0, .int .i64 0, .bool true, .slice none 0 0, .slice none 0 0] 47)) := (Keep.refl [] w2).alloc _
    have S0 : Hid (Six (w2.alloc (.cells #[.int .i64 4, .int .i64 0, .int .i64 0, .bool true, .slice none 0 0, .slice none 0 0] 47)) q 47 (.int .i64 4) (.int .i64 0) (.int .i64 0) (.bool true) (.slice none 0 0) (.slice none 0 0)) := by rw [← hq]; exact heap_alloc_new w2 _
    have K0 := Lib.hid (K2.out.tr hA.nil)
    have R0 := Lib.hid (R2.out.keep0 hA)
    rw [hq] at hqw ⊢
    clear hA hq
    go_loopw [5] (BrRel s T true q w p PA pc d nv) (fun _ wr => s.length + 1 - atOf p wr)
    case atStart => exact ⟨true, _, s.length + 1, [], _, rfl, S0.out, row_nil _ _, (fun b hb => by cases hb), HT0.out, by omega, by omega, by simp, K0.out, R0.out⟩
    case round =>
      obtain ⟨first, a, f, set, v, rfl, hsix, hrow, hvq, hit, hf, hal, hsl, hk, hr⟩ := hrel
      obtain ⟨f, rfl⟩ : ∃ g, f = g + 1 := ⟨f - 1, by omega⟩
      obtain ⟨A, c, rfl⟩ := own_form hrow
      have HA := Lib.hid hr.atOf
      have SR := Lib.hid hsix
      have WR := Lib.hid hrow
      have HT := Lib.hid hit
      have KR := Lib.hid hk
      have RR := Lib.hid hr
      obtain ⟨u0, u1, u2, u3, u4, u5⟩ := hsix.cells
      clear S0 K0 R0 hsix hrow hit hk hr
      cases first with
      | true =>
        obtain ⟨first, hfirst⟩ : ∃ b : Bool, b = true := ⟨_, rfl⟩
        have HNE : Hid (¬ (true = false ∧ pk s a = 93)) := by show ¬ (_ ∧ _); simp
        clear hfirst
        clear u0 u1 u2 u3 u4 u5
        have hi8 := items_on (s := s) (f := f) (a := a) (b := true) (set := set) (by first | exact HNE.out | (have := HNE.out; simpa using this))
        rw [HT.out] at hi8
        have HI := Lib.hid hi8
        clear hi8
        go_wp2_with fail
        refine (item_any _ p s PA pc a d nv RR.out hs hal hP).mono ?_
        intro e w3 hc
        unfold ItemIs at hc
        cases hC : itemR s a with
        | bad =>
          rw [hC] at hc
          obtain ⟨v', rfl, k⟩ := hc
          have HT2 : Hid (T = .bad) := by show T = _; rw [HI.out, hC]
          have K3 := Lib.hid (KR.out.tr k)
          clear k hC
          go_wp2
          exact ⟨rfl, by rw [HT2.out]; exact ⟨rfl, K3.out.mono fun b hb => by simp at hb; simp [hb]⟩⟩
        | esc q2 =>
          rw [hC] at hc
          obtain ⟨rfl, k⟩ := hc
          have HT2 : Hid (T = .esc q2) := by show T = _; rw [HI.out, hC]
          have K3 := Lib.hid (KR.out.tr k)
          clear k hC
          go_wp2
          exact ⟨rfl, by rw [HT2.out]; exact ⟨rfl, K3.out.mono fun b hb => by simp at hb; simp [hb]⟩⟩
        | ok l j =>
          rw [hC] at hc
          obtain ⟨v', rfl, hrow, k, r⟩ := hc
          obtain ⟨hl0, hl8⟩ := itemR_len hC
          have hjp := itemR_place hC
          have hja := hjp.1
          have hjl := hjp.2
          have HT2 : Hid (T = itemsR s f j false (set ++ l)) := by show T = _; rw [HI.out, hC]
          obtain ⟨g3, c3, rfl, hcells⟩ := row_some hrow hl0
          have hg3 : g3 < w3.heap.size := (hrow.lt g3 rfl).2
          have K3 := Lib.hid (KR.out.tr k)
          have S3 := (SR.out.keep k (by simp; omega))
          have W3 := Lib.hid (k.row WR.out fun b hb => by have := (World.ownsRow.lt WR.out b hb).1; simp; omega)
          have R3 := Lib.hid r
          obtain ⟨e0, e1, e2, e3, e4, e5⟩ := S3.cells
          have ef := S3.frozen 4
          have HS3 := Lib.hid S3
          have HCs := Lib.hid hcells
          have z3 : p + 1 ≤ w3.heap.size := by have := r.lt; omega
          clear k r hC hrow hjp S3 hcells
          go_wp2_with (at_builtin; refine list_append_own rfl _ _ 45 rfl (p + 1) 3 i0 (.int .i64 0) 1 8 Tryz.underlying45 hi0 hz0 hz1 hz2 rfl (by decide) (.slice A set.length c) set.length (set.map (Value.int .i64)) rfl W3.out ⟨g3, 0, none⟩ l.length c3 (l.map (Value.int .i64)) rfl (by simp) HCs.out one_ints (by unfold maxLen; omega) (by omega) z3 ?_; intro v4 w4 hown4 hgrow4 hblk4; obtain ⟨A4, c4, rfl⟩ := own_form hown4; have K4 := Lib.hid (Keep.ofGrown hgrow4); have S4 := HS3.out.keep K4.out (fun h => by exact (hvq q (by simpa using h)).2 rfl); obtain ⟨d0, d1, d2, d3, d4, d5⟩ := S4.cells; have df := S4.frozen 4)
          have hq4 : ∀ b, b ∈ (Value.ownBlock (.slice A set.length c)).toList → w.heap.size ≤ b := fun b hb => (hvq b (by simpa using hb)).1
          have R4 := R3.out.keep K4.out (fun b hb => by have := hq4 b hb; omega)
          have hset : Keep [q] w4 (w4.setCell ⟨q, 4, none⟩ (.slice A4 (set.length + l.length) c4)) := (Keep.refl [q] w4).setCell (.inl (by simp)) _
          have R5 := Lib.hid (R4.keep hset (fun b hb => by simp at hb; omega))
          have hnew : ∀ b, Value.ownBlock (.slice A4 (set.length + l.length) c4) = some b → w.heap.size ≤ b ∧ b ≠ q := fun b hb => by
            rcases hblk4 b hb with h | h
            · exact hvq b h
            · have h1 := K3.out.size; have h2 := HS3.out.lt; omega
          have W5 := Lib.hid (hset.row hown4 (fun b hb => by have := (hnew b hb).2; simp; exact this))
          have K5 := Lib.hid ((K3.out.trans K4.out (fun b hb => .inr (hq4 b hb))).setCell (p := q) (j := 4) (.inr hqw) (.slice A4 (set.length + l.length) c4))
          have S5 := Lib.hid (S4.set4 (.slice A4 (set.length + l.length) c4))
          have HN := Lib.hid hnew
          clear R4 S4 hset hnew hown4 hgrow4 hblk4 hq4
          go_wp2
          go_roundw
          case rel => exact ⟨false, j, f, set ++ l, _, rfl, S5.out, by unfold RowI; rw [List.length_append, List.map_append]; exact W5.out, HN.out, HT2.out.symm, by omega, hjl, by rw [List.length_append]; omega, K5.out, R5.out⟩
          case measure => rw [R5.out.atOf, HA.out]; omega
      | false =>
        by_cases h93 : pk s a = 93
        · have HTE : Hid (T = .ok set (a + 1)) := by show T = _; rw [← HT.out]; exact items_end h93
          go_wp2_with fail
          refine (take_yes 93 _ p s PA pc a d nv RR.out hs (by omega) h93).mono ?_
          rintro e w3 ⟨rfl, k3, r3⟩
          have K3 := Lib.hid (KR.out.tr k3)
          have W3 := Lib.hid (k3.row WR.out fun b hb => by have := (hvq b hb).1; simp; omega)
          have S3 := SR.out.keep k3 (by simp; omega)
          obtain ⟨e0, e1, e2, e3, e4, e5⟩ := S3.cells
          have RD := HB.out _ _ _ r3 K3.out
          have cA := add_any (setNode true set) (.slice A set.length c) (.slice none 0 0) w3 p s PA pc (a + 1) d out F RD ho W3.out (row_nil _ _) (fun b hb hm => by have := (hvq b hb).1; have := (HF.out b hm).2; omega) (fun b hb => by cases hb) (fun b hb => by simp [Value.ownBlock])
          simp only [setNode] at cA
          clear k3 r3 RD S3 u0 u1 u2 u3 u4 u5
          go_wp2_with fail
          refine cA.mono ?_
          rintro e w4 ⟨rfl, F', g2, g3, g4⟩
          have H := Lib.hid (And.intro g2 (And.intro g3 g4))
          clear g2 g3 g4 cA
          go_wp2
          go_ret
          obtain ⟨g2, g3, g4⟩ := H.out
          rw [HTE.out]
          refine ⟨rfl, F', g2, (K3.out.mono fun b hb => by simp at hb; simp [hb]).tr g3, fun b hb => ?_⟩
          rcases g4 b hb with g | g | g | g
          · exact .inl g
          · exact .inr (.inr (hvq b g).1)
          · cases g
          · exact .inr (.inr (Nat.le_trans K3.out.size g))
        · obtain ⟨first, hfirst⟩ : ∃ b : Bool, b = false := ⟨_, rfl⟩
          have HNE : Hid (¬ (false = false ∧ pk s a = 93)) := by show ¬ (_ ∧ _); exact fun h => h93 h.2
          clear hfirst
          go_wp2_with fail
          refine (take_no 93 _ p s PA pc a d nv RR.out hs (by omega) h93).mono ?_
          rintro e w2b ⟨rfl, k2, r2⟩
          have KB := Lib.hid (KR.out.tr k2.nil)
          have WB := Lib.hid (k2.row WR.out fun b hb => by simp)
          have SB := Lib.hid (SR.out.keep k2 (by simp))
          have RB := Lib.hid r2
          clear k2 r2 u0 u1 u2 u3 u4 u5
          have hi8 := items_on (s := s) (f := f) (a := a) (b := false) (set := set) (by first | exact HNE.out | (have := HNE.out; simpa using this))
          rw [HT.out] at hi8
          have HI := Lib.hid hi8
          clear hi8
          go_wp2_with fail
          refine (item_any _ p s PA pc a d nv RB.out hs hal hP).mono ?_
          intro e w3 hc
          unfold ItemIs at hc
          cases hC : itemR s a with
          | bad =>
            rw [hC] at hc
            obtain ⟨v', rfl, k⟩ := hc
            have HT2 : Hid (T = .bad) := by show T = _; rw [HI.out, hC]
            have K3 := Lib.hid (KB.out.tr k)
            clear k hC
            go_wp2
            exact ⟨rfl, by rw [HT2.out]; exact ⟨rfl, K3.out.mono fun b hb => by simp at hb; simp [hb]⟩⟩
          | esc q2 =>
            rw [hC] at hc
            obtain ⟨rfl, k⟩ := hc
            have HT2 : Hid (T = .esc q2) := by show T = _; rw [HI.out, hC]
            have K3 := Lib.hid (KB.out.tr k)
            clear k hC
            go_wp2
            exact ⟨rfl, by rw [HT2.out]; exact ⟨rfl, K3.out.mono fun b hb => by simp at hb; simp [hb]⟩⟩
          | ok l j =>
            rw [hC] at hc
            obtain ⟨v', rfl, hrow, k, r⟩ := hc
            obtain ⟨hl0, hl8⟩ := itemR_len hC
            have hjp := itemR_place hC
            have hja := hjp.1
            have hjl := hjp.2
            have HT2 : Hid (T = itemsR s f j false (set ++ l)) := by show T = _; rw [HI.out, hC]
            obtain ⟨g3, c3, rfl, hcells⟩ := row_some hrow hl0
            have hg3 : g3 < w3.heap.size := (hrow.lt g3 rfl).2
            have K3 := Lib.hid (KB.out.tr k)
            have S3 := (SB.out.keep k (by simp; omega))
            have W3 := Lib.hid (k.row WB.out fun b hb => by have := (World.ownsRow.lt WB.out b hb).1; simp; omega)
            have R3 := Lib.hid r
            obtain ⟨e0, e1, e2, e3, e4, e5⟩ := S3.cells
            have ef := S3.frozen 4
            have HS3 := Lib.hid S3
            have HCs := Lib.hid hcells
            have z3 : p + 1 ≤ w3.heap.size := by have := r.lt; omega
            clear k r hC hrow hjp S3 hcells
            go_wp2_with (at_builtin; refine list_append_own rfl _ _ 45 rfl (p + 1) 3 i0 (.int .i64 0) 1 8 Tryz.underlying45 hi0 hz0 hz1 hz2 rfl (by decide) (.slice A set.length c) set.length (set.map (Value.int .i64)) rfl W3.out ⟨g3, 0, none⟩ l.length c3 (l.map (Value.int .i64)) rfl (by simp) HCs.out one_ints (by unfold maxLen; omega) (by omega) z3 ?_; intro v4 w4 hown4 hgrow4 hblk4; obtain ⟨A4, c4, rfl⟩ := own_form hown4; have K4 := Lib.hid (Keep.ofGrown hgrow4); have S4 := HS3.out.keep K4.out (fun h => by exact (hvq q (by simpa using h)).2 rfl); obtain ⟨d0, d1, d2, d3, d4, d5⟩ := S4.cells; have df := S4.frozen 4)
            have hq4 : ∀ b, b ∈ (Value.ownBlock (.slice A set.length c)).toList → w.heap.size ≤ b := fun b hb => (hvq b (by simpa using hb)).1
            have R4 := R3.out.keep K4.out (fun b hb => by have := hq4 b hb; omega)
            have hset : Keep [q] w4 (w4.setCell ⟨q, 4, none⟩ (.slice A4 (set.length + l.length) c4)) := (Keep.refl [q] w4).setCell (.inl (by simp)) _
            have R5 := Lib.hid (R4.keep hset (fun b hb => by simp at hb; omega))
            have hnew : ∀ b, Value.ownBlock (.slice A4 (set.length + l.length) c4) = some b → w.heap.size ≤ b ∧ b ≠ q := fun b hb => by
              rcases hblk4 b hb with h | h
              · exact hvq b h
              · have h1 := K3.out.size; have h2 := HS3.out.lt; omega
            have W5 := Lib.hid (hset.row hown4 (fun b hb => by have := (hnew b hb).2; simp; exact this))
            have K5 := Lib.hid ((K3.out.trans K4.out (fun b hb => .inr (hq4 b hb))).setCell (p := q) (j := 4) (.inr hqw) (.slice A4 (set.length + l.length) c4))
            have S5 := Lib.hid (S4.set4 (.slice A4 (set.length + l.length) c4))
            have HN := Lib.hid hnew
            clear R4 S4 hset hnew hown4 hgrow4 hblk4 hq4
            go_wp2
            go_roundw
            case rel => exact ⟨false, j, f, set ++ l, _, rfl, S5.out, by unfold RowI; rw [List.length_append, List.map_append]; exact W5.out, HN.out, HT2.out.symm, by omega, hjl, by rw [List.length_append]; omega, K5.out, R5.out⟩
            case measure => rw [R5.out.atOf, HA.out]; omega
  · rw [if_neg h94, decide_eq_false h94]
    obtain ⟨T, hT⟩ : ∃ T, itemsR s (s.length + 1) m true [] = T := ⟨_, rfl⟩
    rw [hT]
    have HT0 := Lib.hid hT
    have H94 := Lib.hid h94
    clear hT h94
    go_wp2_with fail
    refine (take_no 94 _ p s PA pc m d nv R1.out hs (by omega) H94.out).mono ?_
    rintro e w2 ⟨rfl, k2, r2⟩
    have K2 := Lib.hid (K1.out.tr k2.nil)
    have R2 := Lib.hid r2
    have hqw : w.heap.size ≤ w2.heap.size := K2.out.size
    clear k2 r2 c0 c1 c2 c3 f1 K1 R1
    go_wp2
    obtain ⟨q, hq⟩ : ∃ q, w2.heap.size = q := ⟨_, rfl⟩
    have hA : Keep [] w2 (w2.alloc (.cells #[.int .i64 4, .int .i64 0, .int .i64 0, .bool false, .slice none 0 0, .slice none 0 0] 47)) := (Keep.refl [] w2).alloc _
    have S0 : Hid (Six (w2.alloc (.cells #[.int .i64 4, .int .i64 0, .int .i64 0, .bool false, .slice none 0 0, .slice none 0 0] 47)) q 47 (.int .i64 4) (.int .i64 0) (.int .i64 0) (.bool false) (.slice none 0 0) (.slice none 0 0)) := by rw [← hq]; exact heap_alloc_new w2 _
    have K0 := Lib.hid (K2.out.tr hA.nil)
    have R0 := Lib.hid (R2.out.keep0 hA)
    rw [hq] at hqw ⊢
    clear hA hq
    go_loopw [5] (BrRel s T false q w p PA pc d nv) (fun _ wr => s.length + 1 - atOf p wr)
    case atStart => exact ⟨true, _, s.length + 1, [], _, rfl, S0.out, row_nil _ _, (fun b hb => by cases hb), HT0.out, by omega, by omega, by simp, K0.out, R0.out⟩
    case round =>
      obtain ⟨first, a, f, set, v, rfl, hsix, hrow, hvq, hit, hf, hal, hsl, hk, hr⟩ := hrel
      obtain ⟨f, rfl⟩ : ∃ g, f = g + 1 := ⟨f - 1, by omega⟩
      obtain ⟨A, c, rfl⟩ := own_form hrow
      have HA := Lib.hid hr.atOf
      have SR := Lib.hid hsix
      have WR := Lib.hid hrow
      have HT := Lib.hid hit
      have KR := Lib.hid hk
      have RR := Lib.hid hr
      obtain ⟨u0, u1, u2, u3, u4, u5⟩ := hsix.cells
      clear S0 K0 R0 hsix hrow hit hk hr
      cases first with
      | true =>
        obtain ⟨first, hfirst⟩ : ∃ b : Bool, b = true := ⟨_, rfl⟩
        have HNE : Hid (¬ (true = false ∧ pk s a = 93)) := by show ¬ (_ ∧ _); simp
        clear hfirst
        clear u0 u1 u2 u3 u4 u5
        have hi8 := items_on (s := s) (f := f) (a := a) (b := true) (set := set) (by first | exact HNE.out | (have := HNE.out; simpa using this))
        rw [HT.out] at hi8
        have HI := Lib.hid hi8
        clear hi8
        go_wp2_with fail
        refine (item_any _ p s PA pc a d nv RR.out hs hal hP).mono ?_
        intro e w3 hc
        unfold ItemIs at hc
        cases hC : itemR s a with
        | bad =>
          rw [hC] at hc
          obtain ⟨v', rfl, k⟩ := hc
          have HT2 : Hid (T = .bad) := by show T = _; rw [HI.out, hC]
          have K3 := Lib.hid (KR.out.tr k)
          clear k hC
          go_wp2
          exact ⟨rfl, by rw [HT2.out]; exact ⟨rfl, K3.out.mono fun b hb => by simp at hb; simp [hb]⟩⟩
        | esc q2 =>
          rw [hC] at hc
          obtain ⟨rfl, k⟩ := hc
          have HT2 : Hid (T = .esc q2) := by show T = _; rw [HI.out, hC]
          have K3 := Lib.hid (KR.out.tr k)
          clear k hC
          go_wp2
          exact ⟨rfl, by rw [HT2.out]; exact ⟨rfl, K3.out.mono fun b hb => by simp at hb; simp [hb]⟩⟩
        | ok l j =>
          rw [hC] at hc
          obtain ⟨v', rfl, hrow, k, r⟩ := hc
          obtain ⟨hl0, hl8⟩ := itemR_len hC
          have hjp := itemR_place hC
          have hja := hjp.1
          have hjl := hjp.2
          have HT2 : Hid (T = itemsR s f j false (set ++ l)) := by show T = _; rw [HI.out, hC]
          obtain ⟨g3, c3, rfl, hcells⟩ := row_some hrow hl0
          have hg3 : g3 < w3.heap.size := (hrow.lt g3 rfl).2
          have K3 := Lib.hid (KR.out.tr k)
          have S3 := (SR.out.keep k (by simp; omega))
          have W3 := Lib.hid (k.row WR.out fun b hb => by have := (World.ownsRow.lt WR.out b hb).1; simp; omega)
          have R3 := Lib.hid r
          obtain ⟨e0, e1, e2, e3, e4, e5⟩ := S3.cells
          have ef := S3.frozen 4
          have HS3 := Lib.hid S3
          have HCs := Lib.hid hcells
          have z3 : p + 1 ≤ w3.heap.size := by have := r.lt; omega
          clear k r hC hrow hjp S3 hcells
          go_wp2_with (at_builtin; refine list_append_own rfl _ _ 45 rfl (p + 1) 3 i0 (.int .i64 0) 1 8 Tryz.underlying45 hi0 hz0 hz1 hz2 rfl (by decide) (.slice A set.length c) set.length (set.map (Value.int .i64)) rfl W3.out ⟨g3, 0, none⟩ l.length c3 (l.map (Value.int .i64)) rfl (by simp) HCs.out one_ints (by unfold maxLen; omega) (by omega) z3 ?_; intro v4 w4 hown4 hgrow4 hblk4; obtain ⟨A4, c4, rfl⟩ := own_form hown4; have K4 := Lib.hid (Keep.ofGrown hgrow4); have S4 := HS3.out.keep K4.out (fun h => by exact (hvq q (by simpa using h)).2 rfl); obtain ⟨d0, d1, d2, d3, d4, d5⟩ := S4.cells; have df := S4.frozen 4)
          have hq4 : ∀ b, b ∈ (Value.ownBlock (.slice A set.length c)).toList → w.heap.size ≤ b := fun b hb => (hvq b (by simpa using hb)).1
          have R4 := R3.out.keep K4.out (fun b hb => by have := hq4 b hb; omega)
          have hset : Keep [q] w4 (w4.setCell ⟨q, 4, none⟩ (.slice A4 (set.length + l.length) c4)) := (Keep.refl [q] w4).setCell (.inl (by simp)) _
          have R5 := Lib.hid (R4.keep hset (fun b hb => by simp at hb; omega))
          have hnew : ∀ b, Value.ownBlock (.slice A4 (set.length + l.length) c4) = some b → w.heap.size ≤ b ∧ b ≠ q := fun b hb => by
            rcases hblk4 b hb with h | h
            · exact hvq b h
            · have h1 := K3.out.size; have h2 := HS3.out.lt; omega
          have W5 := Lib.hid (hset.row hown4 (fun b hb => by have := (hnew b hb).2; simp; exact this))
          have K5 := Lib.hid ((K3.out.trans K4.out (fun b hb => .inr (hq4 b hb))).setCell (p := q) (j := 4) (.inr hqw) (.slice A4 (set.length + l.length) c4))
          have S5 := Lib.hid (S4.set4 (.slice A4 (set.length + l.length) c4))
          have HN := Lib.hid hnew
          clear R4 S4 hset hnew hown4 hgrow4 hblk4 hq4
          go_wp2
          go_roundw
          case rel => exact ⟨false, j, f, set ++ l, _, rfl, S5.out, by unfold RowI; rw [List.length_append, List.map_append]; exact W5.out, HN.out, HT2.out.symm, by omega, hjl, by rw [List.length_append]; omega, K5.out, R5.out⟩
          case measure => rw [R5.out.atOf, HA.out]; omega
      | false =>
        by_cases h93 : pk s a = 93
        · have HTE : Hid (T = .ok set (a + 1)) := by show T = _; rw [← HT.out]; exact items_end h93
          go_wp2_with fail
          refine (take_yes 93 _ p s PA pc a d nv RR.out hs (by omega) h93).mono ?_
          rintro e w3 ⟨rfl, k3, r3⟩
          have K3 := Lib.hid (KR.out.tr k3)
          have W3 := Lib.hid (k3.row WR.out fun b hb => by have := (hvq b hb).1; simp; omega)
          have S3 := SR.out.keep k3 (by simp; omega)
          obtain ⟨e0, e1, e2, e3, e4, e5⟩ := S3.cells
          have RD := HB.out _ _ _ r3 K3.out
          have cA := add_any (setNode false set) (.slice A set.length c) (.slice none 0 0) w3 p s PA pc (a + 1) d out F RD ho W3.out (row_nil _ _) (fun b hb hm => by have := (hvq b hb).1; have := (HF.out b hm).2; omega) (fun b hb => by cases hb) (fun b hb => by simp [Value.ownBlock])
          simp only [setNode] at cA
          clear k3 r3 RD S3 u0 u1 u2 u3 u4 u5
          go_wp2_with fail
          refine cA.mono ?_
          rintro e w4 ⟨rfl, F', g2, g3, g4⟩
          have H := Lib.hid (And.intro g2 (And.intro g3 g4))
          clear g2 g3 g4 cA
          go_wp2
          go_ret
          obtain ⟨g2, g3, g4⟩ := H.out
          rw [HTE.out]
          refine ⟨rfl, F', g2, (K3.out.mono fun b hb => by simp at hb; simp [hb]).tr g3, fun b hb => ?_⟩
          rcases g4 b hb with g | g | g | g
          · exact .inl g
          · exact .inr (.inr (hvq b g).1)
          · cases g
          · exact .inr (.inr (Nat.le_trans K3.out.size g))
        · obtain ⟨first, hfirst⟩ : ∃ b : Bool, b = false := ⟨_, rfl⟩
          have HNE : Hid (¬ (false = false ∧ pk s a = 93)) := by show ¬ (_ ∧ _); exact fun h => h93 h.2
          clear hfirst
          go_wp2_with fail
          refine (take_no 93 _ p s PA pc a d nv RR.out hs (by omega) h93).mono ?_
          rintro e w2b ⟨rfl, k2, r2⟩
          have KB := Lib.hid (KR.out.tr k2.nil)
          have WB := Lib.hid (k2.row WR.out fun b hb => by simp)
          have SB := Lib.hid (SR.out.keep k2 (by simp))
          have RB := Lib.hid r2
          clear k2 r2 u0 u1 u2 u3 u4 u5
          have hi8 := items_on (s := s) (f := f) (a := a) (b := false) (set := set) (by first | exact HNE.out | (have := HNE.out; simpa using this))
          rw [HT.out] at hi8
          have HI := Lib.hid hi8
          clear hi8
          go_wp2_with fail
          refine (item_any _ p s PA pc a d nv RB.out hs hal hP).mono ?_
          intro e w3 hc
          unfold ItemIs at hc
          cases hC : itemR s a with
          | bad =>
            rw [hC] at hc
            obtain ⟨v', rfl, k⟩ := hc
            have HT2 : Hid (T = .bad) := by show T = _; rw [HI.out, hC]
            have K3 := Lib.hid (KB.out.tr k)
            clear k hC
            go_wp2
            exact ⟨rfl, by rw [HT2.out]; exact ⟨rfl, K3.out.mono fun b hb => by simp at hb; simp [hb]⟩⟩
          | esc q2 =>
            rw [hC] at hc
            obtain ⟨rfl, k⟩ := hc
            have HT2 : Hid (T = .esc q2) := by show T = _; rw [HI.out, hC]
            have K3 := Lib.hid (KB.out.tr k)
            clear k hC
            go_wp2
            exact ⟨rfl, by rw [HT2.out]; exact ⟨rfl, K3.out.mono fun b hb => by simp at hb; simp [hb]⟩⟩
          | ok l j =>
            rw [hC] at hc
            obtain ⟨v', rfl, hrow, k, r⟩ := hc
            obtain ⟨hl0, hl8⟩ := itemR_len hC
            have hjp := itemR_place hC
            have hja := hjp.1
            have hjl := hjp.2
            have HT2 : Hid (T = itemsR s f j false (set ++ l)) := by show T = _; rw [HI.out, hC]
            obtain ⟨g3, c3, rfl, hcells⟩ := row_some hrow hl0
            have hg3 : g3 < w3.heap.size := (hrow.lt g3 rfl).2
            have K3 := Lib.hid (KB.out.tr k)
            have S3 := (SB.out.keep k (by simp; omega))
            have W3 := Lib.hid (k.row WB.out fun b hb => by have := (World.ownsRow.lt WB.out b hb).1; simp; omega)
            have R3 := Lib.hid r
            obtain ⟨e0, e1, e2, e3, e4, e5⟩ := S3.cells
            have ef := S3.frozen 4
            have HS3 := Lib.hid S3
            have HCs := Lib.hid hcells
            have z3 : p + 1 ≤ w3.heap.size := by have := r.lt; omega
            clear k r hC hrow hjp S3 hcells
            go_wp2_with (at_builtin; refine list_append_own rfl _ _ 45 rfl (p + 1) 3 i0 (.int .i64 0) 1 8 Tryz.underlying45 hi0 hz0 hz1 hz2 rfl (by decide) (.slice A set.length c) set.length (set.map (Value.int .i64)) rfl W3.out ⟨g3, 0, none⟩ l.length c3 (l.map (Value.int .i64)) rfl (by simp) HCs.out one_ints (by unfold maxLen; omega) (by omega) z3 ?_; intro v4 w4 hown4 hgrow4 hblk4; obtain ⟨A4, c4, rfl⟩ := own_form hown4; have K4 := Lib.hid (Keep.ofGrown hgrow4); have S4 := HS3.out.keep K4.out (fun h => by exact (hvq q (by simpa using h)).2 rfl); obtain ⟨d0, d1, d2, d3, d4, d5⟩ := S4.cells; have df := S4.frozen 4)
            have hq4 : ∀ b, b ∈ (Value.ownBlock (.slice A set.length c)).toList → w.heap.size ≤ b := fun b hb => (hvq b (by simpa using hb)).1
            have R4 := R3.out.keep K4.out (fun b hb => by have := hq4 b hb; omega)
            have hset : Keep [q] w4 (w4.setCell ⟨q, 4, none⟩ (.slice A4 (set.length + l.length) c4)) := (Keep.refl [q] w4).setCell (.inl (by simp)) _
            have R5 := Lib.hid (R4.keep hset (fun b hb => by simp at hb; omega))
            have hnew : ∀ b, Value.ownBlock (.slice A4 (set.length + l.length) c4) = some b → w.heap.size ≤ b ∧ b ≠ q := fun b hb => by
              rcases hblk4 b hb with h | h
              · exact hvq b h
              · have h1 := K3.out.size; have h2 := HS3.out.lt; omega
            have W5 := Lib.hid (hset.row hown4 (fun b hb => by have := (hnew b hb).2; simp; exact this))
            have K5 := Lib.hid ((K3.out.trans K4.out (fun b hb => .inr (hq4 b hb))).setCell (p := q) (j := 4) (.inr hqw) (.slice A4 (set.length + l.length) c4))
            have S5 := Lib.hid (S4.set4 (.slice A4 (set.length + l.length) c4))
            have HN := Lib.hid hnew
            clear R4 S4 hset hnew hown4 hgrow4 hblk4 hq4
            go_wp2
            go_roundw
            case rel => exact ⟨false, j, f, set ++ l, _, rfl, S5.out, by unfold RowI; rw [List.length_append, List.map_append]; exact W5.out, HN.out, HT2.out.symm, by omega, hjl, by rw [List.length_append]; omega, K5.out, R5.out⟩
            case measure => rw [R5.out.atOf, HA.out]; omega

end Go.Proofs.YtdkjfppjbkdelaaGreatDoor
