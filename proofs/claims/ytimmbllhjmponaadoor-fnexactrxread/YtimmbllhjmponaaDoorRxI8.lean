/- The program's reader of patterns: item. Conditions: at most 1000 code points. -/
import Derived.Test.YtimmbllhjmponaaDoorRxI7
import Derived.Test.YtimmbllhjmponaaDoorRxI2
namespace Go.Proofs.YtimmbllhjmponaaDoor
set_option linter.unusedVariables false
open Go.RowKit

def ItemIs (w : World) (p : Nat) (s : List Int) (PA : Option Addr) (pc i d : Nat) (nv : Value) (e : Ending) (w' : World) : Prop :=
  match itemR s i with
  | .ok l j => ∃ v, e = .returned (.tuple #[v, .bool true]) ∧ RowI w' w.heap.size v l ∧ Keep [p] w w' ∧ Rs w' p s PA pc j d nv
  | .esc q => e = .panicked [{ v := .iface 44 (.agg #[.int .i64 q, .int .i64 6]), recovered := false }] ∧ Keep [p] w w'
  | .bad => ∃ v, e = .returned (.tuple #[v, .bool false]) ∧ Keep [p] w w'
section
variable {w w' : World} {p : Nat} {s : List Int} {PA : Option Addr} {pc i d j q : Nat} {nv v : Value} {l : List Int} {e : Ending}
theorem ItemIs.yes (h : itemR s i = .ok l j) (he : e = .returned (.tuple #[v, .bool true])) (hr : RowI w' w.heap.size v l) (hk : Keep [p] w w') (hs : Rs w' p s PA pc j d nv) : ItemIs w p s PA pc i d nv e w' := by
  unfold ItemIs; rw [h]; exact ⟨v, he, hr, hk, hs⟩
theorem ItemIs.no (h : itemR s i = .bad) (he : e = .returned (.tuple #[v, .bool false])) (hk : Keep [p] w w') : ItemIs w p s PA pc i d nv e w' := by
  unfold ItemIs; rw [h]; exact ⟨v, he, hk⟩
theorem ItemIs.esc (h : itemR s i = .esc q) (hk : Keep [p] w w') : ItemIs w p s PA pc i d nv (.panicked [{ v := .iface 44 (.agg #[.int .i64 q, .int .i64 6]), recovered := false }]) w' := by
  unfold ItemIs; rw [h]; exact ⟨rfl, hk⟩
end

section
variable {s : List Int} {i j k : Nat} {lo hi : Int} {l : List Int}
theorem it_zero (h : pk s i = 0) : itemR s i = .bad := by unfold itemR; rw [if_pos h]
theorem it_class (h0 : pk s i = 91) (h1 : pk s (i + 1) = 58) : itemR s i = match classR s i with | some (e, j) => .ok e j | none => .bad := by
  unfold itemR; rw [if_neg (by omega), if_pos ⟨h0, h1⟩]; cases classR s i <;> rfl
theorem it_esc (h : pk s i ≠ 0) (h0 : ¬ (pk s i = 91 ∧ pk s (i + 1) = 58)) (h1 : pointR s i = none) : itemR s i = .esc i := by unfold itemR; rw [if_neg h, if_neg h0, h1]
theorem it_one (h : pk s i ≠ 0) (h0 : ¬ (pk s i = 91 ∧ pk s (i + 1) = 58)) (h1 : pointR s i = some (lo, j)) (h2 : ¬ (pk s j = 45 ∧ pk s (j + 1) ≠ 93 ∧ pk s (j + 1) ≠ 0)) : itemR s i = .ok [lo, lo] j := by
  unfold itemR; rw [if_neg h, if_neg h0, h1]; simp only; rw [if_neg h2]
theorem it_esc2 (h : pk s i ≠ 0) (h0 : ¬ (pk s i = 91 ∧ pk s (i + 1) = 58)) (h1 : pointR s i = some (lo, j)) (h2 : pk s j = 45 ∧ pk s (j + 1) ≠ 93 ∧ pk s (j + 1) ≠ 0) (h3 : pointR s (j + 1) = none) : itemR s i = .esc (j + 1) := by
  unfold itemR; rw [if_neg h, if_neg h0, h1]; simp only; rw [if_pos h2, h3]
theorem it_two (h : pk s i ≠ 0) (h0 : ¬ (pk s i = 91 ∧ pk s (i + 1) = 58)) (h1 : pointR s i = some (lo, j)) (h2 : pk s j = 45 ∧ pk s (j + 1) ≠ 93 ∧ pk s (j + 1) ≠ 0) (h3 : pointR s (j + 1) = some (hi, k)) : itemR s i = if lo ≤ hi then .ok [lo, hi] k else .bad := by
  unfold itemR; rw [if_neg h, if_neg h0, h1]; simp only; rw [if_pos h2, h3]
end

theorem Rs.alloc {w : World} {p : Nat} {s : List Int} {PA : Option Addr} {pc i d : Nat} {nv : Value} (h : Rs w p s PA pc i d nv) (o : Obj) : Rs (w.alloc o) p s PA pc i d nv := h.keep0 ((Keep.refl [] w).alloc o)

theorem tup_v {v : Value} {b c : Bool} (h : b = c) : Ending.returned (.tuple #[v, .bool b]) = Ending.returned (.tuple #[v, .bool c]) := by rw [h]

set_option maxHeartbeats 4000000 in
set_option maxRecDepth 100000 in
theorem item_any (w : World) (p : Nat) (s : List Int) (PA : Option Addr) (pc i d : Nat) (nv : Value) (h : Rs w p s PA pc i d nv) (hs : s.length ≤ 1000) (hi : i ≤ s.length) (hP : Pos s) : Calls Tryd.prog 66 #[.pointer (some ⟨p, 0, none⟩)] w (ItemIs w p s PA pc i d nv) := by
  have K0 := Lib.hid (Keep.refl [p] w)
  have R0 := Lib.hid h
  obtain ⟨x, hx⟩ : ∃ x, pk s i = x := ⟨_, rfl⟩
  obtain ⟨y1, hy1⟩ : ∃ y1, pk s (i + 1) = y1 := ⟨_, rfl⟩
  have HX := Lib.hid hx
  have HX1 := Lib.hid hy1
  clear h hx hy1
  go_enter Tryd.func66, Tryd.ntmps66
  go_wp2_with fail
  refine (ahead0 _ p s PA pc i d nv R0.out hs (by omega)).mono ?_
  rintro e w1 ⟨rfl, k, r⟩
  rw [HX.out]
  have K1 := Lib.hid (K0.out.tr k.nil)
  have R1 := Lib.hid r
  clear k r
  by_cases hx0 : x = 0
  · have HT := Lib.hid (it_zero (s := s) (i := i) (by rw [HX.out]; exact hx0))
    subst hx0
    go_wp2
    go_ret2
    exact ItemIs.no HT.out rfl K1.out
  have H0 : Hid (pk s i ≠ 0) := by show pk s i ≠ 0; rw [HX.out]; exact hx0
  have hil : i < s.length := lt_of_pk H0.out
  go_wp2_with fail
  refine (ahead0 _ p s PA pc i d nv R1.out hs (by omega)).mono ?_
  rintro e w2 ⟨rfl, k, r⟩
  rw [HX.out]
  have K2 := Lib.hid (K1.out.tr k.nil)
  have R2 := Lib.hid r
  clear k r
  by_cases h91 : x = 91
  · subst h91
    go_wp2_with fail
    refine (ahead1 _ p s PA pc i d nv R2.out hs (by omega)).mono ?_
    rintro e w2a ⟨rfl, k, r⟩
    rw [HX1.out]
    have K2a := Lib.hid (K2.out.tr k.nil)
    have R2a := Lib.hid r
    clear k r
    by_cases h58 : y1 = 58
    · subst h58
      have hil2 : i + 2 ≤ s.length := lt_of_pk (s := s) (i := i + 1) (by rw [HX1.out]; omega)
      have HT := Lib.hid (it_class (s := s) (i := i) HX.out HX1.out)
      go_wp2_with fail
      refine (class_any _ p s PA pc i d nv R2a.out hs hil2 hP 0).mono ?_
      intro e w3 hc
      unfold ClassIs at hc
      cases hC : classR s i with
      | none =>
        rw [hC] at hc
        obtain ⟨v, rfl, k⟩ := hc
        have HT2 : Hid (itemR s i = .bad) := by show itemR s i = _; rw [HT.out, hC]
        have K3 := Lib.hid (K2a.out.tr k)
        clear k hC
        go_wp2
        go_ret2
        exact ItemIs.no HT2.out rfl K3.out
      | some lj =>
        obtain ⟨l, j⟩ := lj
        rw [hC] at hc
        obtain ⟨v, rfl, hrow, k, r⟩ := hc
        have HT2 : Hid (itemR s i = .ok l j) := by show itemR s i = _; rw [HT.out, hC]
        have W3 := Lib.hid (row_low hrow K2a.out.size)
        have K3 := Lib.hid (K2a.out.tr k)
        have R3 := Lib.hid r
        obtain ⟨A3, c3, rfl⟩ := own_form hrow
        clear k r hC hrow
        go_wp2
        go_ret2
        exact ItemIs.yes HT2.out rfl W3.out K3.out R3.out
    · have HN : Hid (¬ (pk s i = 91 ∧ pk s (i + 1) = 58)) := by show ¬ (_ ∧ _); rw [HX1.out]; exact fun h => h58 h.2
      cases hp1 : pointR s i with
      | none =>
        have HT := Lib.hid (it_esc H0.out HN.out hp1)
        go_wp2_with fail
        refine (point_err _ p s PA pc i d nv R2a.out hs (by omega) hp1).mono ?_
        rintro e w3 ⟨rfl, k⟩
        have K3 := Lib.hid (K2a.out.tr k)
        clear k hp1
        go_wp2
        exact ⟨rfl, ItemIs.esc HT.out K3.out⟩
      | some lj =>
        obtain ⟨lo, j⟩ := lj
        have hjl := (pointR_place hil hp1).2
        have HP1 := Lib.hid hp1
        have hlo := pointR_range hP hil hp1
        have lo0 := hlo.1
        have lo1 := hlo.2
        clear hlo hp1
        go_wp2_with fail
        refine (point_ok lo j _ p s PA pc i d nv R2a.out hs (by omega) HP1.out).mono ?_
        rintro e w3 ⟨rfl, k, r⟩
        have K3 := Lib.hid (K2a.out.tr k)
        have R3 := Lib.hid r
        clear k r
        obtain ⟨y, hy⟩ : ∃ y, pk s j = y := ⟨_, rfl⟩
        obtain ⟨z, hz⟩ : ∃ z, pk s (j + 1) = z := ⟨_, rfl⟩
        have HY := Lib.hid hy
        have HZ := Lib.hid hz
        clear hy hz
        go_wp2_with fail
        refine (ahead0 _ p s PA pc j d nv R3.out hs (by omega)).mono ?_
        rintro e w4 ⟨rfl, k, r⟩
        rw [HY.out]
        have K4 := Lib.hid (K3.out.tr k.nil)
        have R4 := Lib.hid r
        clear k r
        by_cases h45 : y = 45
        · subst h45
          go_wp2_with fail
          refine (ahead1 _ p s PA pc j d nv R4.out hs (by omega)).mono ?_
          rintro e w5 ⟨rfl, k, r⟩
          rw [HZ.out]
          have K5 := Lib.hid (K4.out.tr k.nil)
          have R5 := Lib.hid r
          clear k r
          by_cases h93 : z = 93
          · subst h93
            have HT := Lib.hid (it_one H0.out HN.out HP1.out (by rw [HY.out, HZ.out]; omega))
            go_wp2
            go_ret2
            exact ItemIs.yes HT.out rfl (row_low (new_ints w5 [lo, lo] (by simp [maxLen])) K5.out.size) (K5.out.alloc _) (R5.out.alloc _)
          by_cases hz0 : z = 0
          · subst hz0
            go_wp2_with fail
            refine (ahead1 _ p s PA pc j d nv R5.out hs (by omega)).mono ?_
            rintro e w6 ⟨rfl, k, r⟩
            rw [HZ.out]
            have K6 := Lib.hid (K5.out.tr k.nil)
            have R6 := Lib.hid r
            clear k r
            have HT := Lib.hid (it_one H0.out HN.out HP1.out (by rw [HY.out, HZ.out]; omega))
            go_wp2
            go_ret2
            exact ItemIs.yes HT.out rfl (row_low (new_ints w6 [lo, lo] (by simp [maxLen])) K6.out.size) (K6.out.alloc _) (R6.out.alloc _)
          have hzb : (z == 0) = false := beq_eq_false_iff_ne.2 hz0
          have hzc : (z != 0) = true := by simp [bne, hzb]
          go_wp2_with fail
          refine (ahead1 _ p s PA pc j d nv R5.out hs (by omega)).mono ?_
          rintro e w6 ⟨rfl, k, r⟩
          rw [HZ.out]
          have K6 := Lib.hid (K5.out.tr k.nil)
          have R6 := Lib.hid r
          clear k r
          have hb : Hid (pk s j = 45 ∧ pk s (j + 1) ≠ 93 ∧ pk s (j + 1) ≠ 0) := by show _ ∧ _; rw [HY.out, HZ.out]; exact ⟨rfl, h93, hz0⟩
          have hjl2 : j + 1 < s.length := lt_of_pk hb.out.2.2
          obtain ⟨d0, d1, d2, d3⟩ := R6.out.cell
          have f1 := R6.out.frozen 1
          have R7 := Lib.hid (R6.out.set1 (j + 1))
          have K7 := Lib.hid (K6.out.tr (R6.out.keepSet 1 (.int .i64 ((j + 1 : Nat) : Int))))
          have hz1 : (j : Int) + 1 = ((j + 1 : Nat) : Int) := by omega
          obtain ⟨m, hm⟩ : ∃ m, j + 1 = m := ⟨_, rfl⟩
          rw [hm] at hz1 R7 K7
          have HM := Lib.hid hm
          have hml : m < s.length := by omega
          clear hm
          cases hp2 : pointR s m with
          | none =>
            have HT := Lib.hid (it_esc2 H0.out HN.out HP1.out hb.out (by rw [HM.out]; exact hp2))
            have HT2 : Hid (itemR s i = .esc m) := by rw [← HM.out]; exact HT.out
            go_wp2_with fail
            refine (point_err _ p s PA pc m d nv R7.out hs (by omega) hp2).mono ?_
            rintro e w8 ⟨rfl, k⟩
            have K8 := Lib.hid (K7.out.tr k)
            clear k hp2
            go_wp2
            exact ⟨rfl, ItemIs.esc HT2.out K8.out⟩
          | some hj =>
            obtain ⟨hi2, k⟩ := hj
            have HT := Lib.hid (it_two H0.out HN.out HP1.out hb.out (by rw [HM.out]; exact hp2))
            have HP2 := Lib.hid hp2
            have hhi := pointR_range hP hml hp2
            have hi0 := hhi.1
            have hi1 := hhi.2
            clear hhi hp2
            go_wp2_with fail
            refine (point_ok hi2 k _ p s PA pc m d nv R7.out hs (by omega) HP2.out).mono ?_
            rintro e w8 ⟨rfl, k', r'⟩
            have K8 := Lib.hid (K7.out.tr k')
            have R8 := Lib.hid r'
            clear k' r' d0 d1 d2 d3 f1
            by_cases hle : lo ≤ hi2
            · have HT2 : Hid (itemR s i = .ok [lo, hi2] k) := by show itemR s i = _; rw [HT.out, if_pos hle]
              go_wp2
              go_ret2
              exact ItemIs.yes HT2.out rfl (row_low (new_ints w8 [lo, hi2] (by simp [maxLen])) K8.out.size) (K8.out.alloc _) (R8.out.alloc _)
            · have HT2 : Hid (itemR s i = .bad) := by show itemR s i = _; rw [HT.out, if_neg hle]
              go_wp2
              go_ret2
              exact ItemIs.no HT2.out (tup_v (by first | exact decide_eq_false (by omega) | (simp; omega))) (K8.out.alloc _)
        · skip
          have HT := Lib.hid (it_one H0.out HN.out HP1.out (by rw [HY.out, HZ.out]; omega))
          go_wp2
          go_ret2
          exact ItemIs.yes HT.out rfl (row_low (new_ints w4 [lo, lo] (by simp [maxLen])) K4.out.size) (K4.out.alloc _) (R4.out.alloc _)
  · have HN : Hid (¬ (pk s i = 91 ∧ pk s (i + 1) = 58)) := by show ¬ (_ ∧ _); rw [HX.out]; exact fun h => h91 h.1
    cases hp1 : pointR s i with
    | none =>
      have HT := Lib.hid (it_esc H0.out HN.out hp1)
      go_wp2_with fail
      refine (point_err _ p s PA pc i d nv R2.out hs (by omega) hp1).mono ?_
      rintro e w3 ⟨rfl, k⟩
      have K3 := Lib.hid (K2.out.tr k)
      clear k hp1
      go_wp2
      exact ⟨rfl, ItemIs.esc HT.out K3.out⟩
    | some lj =>
      obtain ⟨lo, j⟩ := lj
      have hjl := (pointR_place hil hp1).2
      have HP1 := Lib.hid hp1
      have hlo := pointR_range hP hil hp1
      have lo0 := hlo.1
      have lo1 := hlo.2
      clear hlo hp1
      go_wp2_with fail
      refine (point_ok lo j _ p s PA pc i d nv R2.out hs (by omega) HP1.out).mono ?_
      rintro e w3 ⟨rfl, k, r⟩
      have K3 := Lib.hid (K2.out.tr k)
      have R3 := Lib.hid r
      clear k r
      obtain ⟨y, hy⟩ : ∃ y, pk s j = y := ⟨_, rfl⟩
      obtain ⟨z, hz⟩ : ∃ z, pk s (j + 1) = z := ⟨_, rfl⟩
      have HY := Lib.hid hy
      have HZ := Lib.hid hz
      clear hy hz
      go_wp2_with fail
      refine (ahead0 _ p s PA pc j d nv R3.out hs (by omega)).mono ?_
      rintro e w4 ⟨rfl, k, r⟩
      rw [HY.out]
      have K4 := Lib.hid (K3.out.tr k.nil)
      have R4 := Lib.hid r
      clear k r
      by_cases h45 : y = 45
      · subst h45
        go_wp2_with fail
        refine (ahead1 _ p s PA pc j d nv R4.out hs (by omega)).mono ?_
        rintro e w5 ⟨rfl, k, r⟩
        rw [HZ.out]
        have K5 := Lib.hid (K4.out.tr k.nil)
        have R5 := Lib.hid r
        clear k r
        by_cases h93 : z = 93
        · subst h93
          have HT := Lib.hid (it_one H0.out HN.out HP1.out (by rw [HY.out, HZ.out]; omega))
          go_wp2
          go_ret2
          exact ItemIs.yes HT.out rfl (row_low (new_ints w5 [lo, lo] (by simp [maxLen])) K5.out.size) (K5.out.alloc _) (R5.out.alloc _)
        by_cases hz0 : z = 0
        · subst hz0
          go_wp2_with fail
          refine (ahead1 _ p s PA pc j d nv R5.out hs (by omega)).mono ?_
          rintro e w6 ⟨rfl, k, r⟩
          rw [HZ.out]
          have K6 := Lib.hid (K5.out.tr k.nil)
          have R6 := Lib.hid r
          clear k r
          have HT := Lib.hid (it_one H0.out HN.out HP1.out (by rw [HY.out, HZ.out]; omega))
          go_wp2
          go_ret2
          exact ItemIs.yes HT.out rfl (row_low (new_ints w6 [lo, lo] (by simp [maxLen])) K6.out.size) (K6.out.alloc _) (R6.out.alloc _)
        have hzb : (z == 0) = false := beq_eq_false_iff_ne.2 hz0
        have hzc : (z != 0) = true := by simp [bne, hzb]
        go_wp2_with fail
        refine (ahead1 _ p s PA pc j d nv R5.out hs (by omega)).mono ?_
        rintro e w6 ⟨rfl, k, r⟩
        rw [HZ.out]
        have K6 := Lib.hid (K5.out.tr k.nil)
        have R6 := Lib.hid r
        clear k r
        have hb : Hid (pk s j = 45 ∧ pk s (j + 1) ≠ 93 ∧ pk s (j + 1) ≠ 0) := by show _ ∧ _; rw [HY.out, HZ.out]; exact ⟨rfl, h93, hz0⟩
        have hjl2 : j + 1 < s.length := lt_of_pk hb.out.2.2
        obtain ⟨d0, d1, d2, d3⟩ := R6.out.cell
        have f1 := R6.out.frozen 1
        have R7 := Lib.hid (R6.out.set1 (j + 1))
        have K7 := Lib.hid (K6.out.tr (R6.out.keepSet 1 (.int .i64 ((j + 1 : Nat) : Int))))
        have hz1 : (j : Int) + 1 = ((j + 1 : Nat) : Int) := by omega
        obtain ⟨m, hm⟩ : ∃ m, j + 1 = m := ⟨_, rfl⟩
        rw [hm] at hz1 R7 K7
        have HM := Lib.hid hm
        have hml : m < s.length := by omega
        clear hm
        cases hp2 : pointR s m with
        | none =>
          have HT := Lib.hid (it_esc2 H0.out HN.out HP1.out hb.out (by rw [HM.out]; exact hp2))
          have HT2 : Hid (itemR s i = .esc m) := by rw [← HM.out]; exact HT.out
          go_wp2_with fail
          refine (point_err _ p s PA pc m d nv R7.out hs (by omega) hp2).mono ?_
          rintro e w8 ⟨rfl, k⟩
          have K8 := Lib.hid (K7.out.tr k)
          clear k hp2
          go_wp2
          exact ⟨rfl, ItemIs.esc HT2.out K8.out⟩
        | some hj =>
          obtain ⟨hi2, k⟩ := hj
          have HT := Lib.hid (it_two H0.out HN.out HP1.out hb.out (by rw [HM.out]; exact hp2))
          have HP2 := Lib.hid hp2
          have hhi := pointR_range hP hml hp2
          have hi0 := hhi.1
          have hi1 := hhi.2
          clear hhi hp2
          go_wp2_with fail
          refine (point_ok hi2 k _ p s PA pc m d nv R7.out hs (by omega) HP2.out).mono ?_
          rintro e w8 ⟨rfl, k', r'⟩
          have K8 := Lib.hid (K7.out.tr k')
          have R8 := Lib.hid r'
          clear k' r' d0 d1 d2 d3 f1
          by_cases hle : lo ≤ hi2
          · have HT2 : Hid (itemR s i = .ok [lo, hi2] k) := by show itemR s i = _; rw [HT.out, if_pos hle]
            go_wp2
            go_ret2
            exact ItemIs.yes HT2.out rfl (row_low (new_ints w8 [lo, hi2] (by simp [maxLen])) K8.out.size) (K8.out.alloc _) (R8.out.alloc _)
          · have HT2 : Hid (itemR s i = .bad) := by show itemR s i = _; rw [HT.out, if_neg hle]
            go_wp2
            go_ret2
            exact ItemIs.no HT2.out (tup_v (by first | exact decide_eq_false (by omega) | (simp; omega))) (K8.out.alloc _)
      · skip
        have HT := Lib.hid (it_one H0.out HN.out HP1.out (by rw [HY.out, HZ.out]; omega))
        go_wp2
        go_ret2
        exact ItemIs.yes HT.out rfl (row_low (new_ints w4 [lo, lo] (by simp [maxLen])) K4.out.size) (K4.out.alloc _) (R4.out.alloc _)

end Go.Proofs.YtimmbllhjmponaaDoor
