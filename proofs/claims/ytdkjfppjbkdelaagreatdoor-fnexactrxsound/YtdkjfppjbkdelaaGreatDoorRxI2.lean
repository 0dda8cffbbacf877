/- The program's reader of patterns: point. Conditions: at most 1000 code points. -/
import Derived.Test.YtdkjfppjbkdelaaGreatDoorRxIA
import Derived.Deep.DeepMust
namespace Go.Proofs.YtdkjfppjbkdelaaGreatDoor
set_option linter.unusedVariables false
open Go.RowKit

theorem Rs.drew {w : World} {p : Nat} {s : List Int} {PA : Option Addr} {pc i d : Nat} {nv : Value} (h : Rs w p s PA pc i d nv) : Rs w.drew p s PA pc i d nv := h.keep0 (Keep.refl [] w).drew

set_option maxHeartbeats 2000000 in
set_option maxRecDepth 100000 in
theorem point_plain (w : World) (p : Nat) (s : List Int) (PA : Option Addr) (pc i d : Nat) (nv : Value) (h : Rs w p s PA pc i d nv) (hs : s.length ≤ 1000) (hi : i ≤ 1000) (hx : pk s i ≠ 92) :
    Calls Tryz.prog 212 #[.pointer (some ⟨p, 0, none⟩)] w fun e w' => e = .returned (.int .i64 (pk s i)) ∧ Keep [p] w w' ∧ Rs w' p s PA pc (i + 1) d nv := by
  have cA := ahead0 w.drew p s PA pc i d nv h.drew hs (by omega)
  obtain ⟨c0, c1, c2, c3⟩ := h.cell
  obtain ⟨x, hxx⟩ : ∃ x, pk s i = x := ⟨_, rfl⟩
  rw [hxx] at cA hx
  have HX := Lib.hid hxx
  clear h hxx
  go_enter Tryz.func212, Tryz.ntmps212
  go_wp2
  go_region_with (go_at_call 140; go_must (refine cA.mono ?_; rintro e w1 ⟨rfl, k1, r1⟩; obtain ⟨d0, d1, d2, d3⟩ := r1.cell))
  all_goals
    have f1 := r1.frozen 1
    have R1 := Lib.hid (r1.set1 (i + 1))
    have K1 := Lib.hid (((Keep.refl [p] w).drew.tr (k1.nil (G := [p]))).setCell (p := p) (j := 1) (.inl (by simp)) (.int .i64 ((i + 1 : Nat) : Int)))
    have hz0 : (i : Int) + 1 = ((i + 1 : Nat) : Int) := by omega
    obtain ⟨m, hm⟩ : ∃ m, i + 1 = m := ⟨_, rfl⟩
    rw [hm] at hz0 R1 K1
    have HM := Lib.hid hm
    clear r1 k1 hm
    go_wp2
    go_ret
    exact ⟨by rw [HX.out]; rfl, K1.out, by rw [HM.out]; exact R1.out⟩

set_option maxHeartbeats 2000000 in
set_option maxRecDepth 100000 in
theorem point_n (y : Int) (w : World) (p : Nat) (s : List Int) (PA : Option Addr) (pc i d : Nat) (nv : Value) (h : Rs w p s PA pc i d nv) (hs : s.length ≤ 1000) (hi : i ≤ 1000) (hx : pk s i = 92) (hy : pk s (i + 1) = y) (h1 : y = 110) :
    Calls Tryz.prog 212 #[.pointer (some ⟨p, 0, none⟩)] w fun e w' => e = .returned (.int .i64 10) ∧ Keep [p] w w' ∧ Rs w' p s PA pc (i + 2) d nv := by
  have cA := ahead0 w.drew p s PA pc i d nv h.drew hs (by omega)
  rw [hx] at cA
  obtain ⟨c0, c1, c2, c3⟩ := h.cell
  have HY0 := Lib.hid hy
  clear h hx hy
  go_enter Tryz.func212, Tryz.ntmps212
  go_wp2
  go_region_with (go_at_call 140; go_must (refine cA.mono ?_; rintro e w1 ⟨rfl, k1, r1⟩; obtain ⟨d0, d1, d2, d3⟩ := r1.cell))
  all_goals
    have f1 := r1.frozen 1
    have R1 := Lib.hid (r1.set1 (i + 1))
    have K1 := Lib.hid (((Keep.refl [p] w).drew.tr (k1.nil (G := [p]))).setCell (p := p) (j := 1) (.inl (by simp)) (.int .i64 ((i + 1 : Nat) : Int)))
    have hz0 : (i : Int) + 1 = ((i + 1 : Nat) : Int) := by omega
    obtain ⟨m, hm⟩ : ∃ m, i + 1 = m := ⟨_, rfl⟩
    rw [hm] at hz0 R1 K1
    have HM := Lib.hid hm
    clear r1 k1 hm
    have HY : Hid (pk s m = y) := by rw [← HM.out]; exact HY0.out
    go_wp2_with fail
    refine (ahead0 _ p s PA pc m d nv R1.out hs (by omega)).mono ?_
    rintro e w2 ⟨rfl, k2, r2⟩
    rw [HY.out]
    obtain ⟨e0, e1, e2, e3⟩ := r2.cell
    have f2 := r2.frozen 1
    have R2 := Lib.hid (r2.set1 (m + 1))
    have K2 := Lib.hid ((K1.out.tr (k2.nil (G := [p]))).setCell (p := p) (j := 1) (.inl (by simp)) (.int .i64 ((m + 1 : Nat) : Int)))
    have hz1 : (m : Int) + 1 = ((m + 1 : Nat) : Int) := by omega
    obtain ⟨m2, hm2⟩ : ∃ m2, m + 1 = m2 := ⟨_, rfl⟩
    rw [hm2] at hz1 R2 K2
    have HM2 := Lib.hid hm2
    clear r2 k2 hm2 R1 K1
    subst h1
    go_wp2
    go_ret
    exact ⟨rfl, K2.out, by rw [show i + 2 = m2 by have := HM.out; have := HM2.out; omega]; exact R2.out⟩

set_option maxHeartbeats 2000000 in
set_option maxRecDepth 100000 in
theorem point_t (y : Int) (w : World) (p : Nat) (s : List Int) (PA : Option Addr) (pc i d : Nat) (nv : Value) (h : Rs w p s PA pc i d nv) (hs : s.length ≤ 1000) (hi : i ≤ 1000) (hx : pk s i = 92) (hy : pk s (i + 1) = y) (h1 : y = 116) :
    Calls Tryz.prog 212 #[.pointer (some ⟨p, 0, none⟩)] w fun e w' => e = .returned (.int .i64 9) ∧ Keep [p] w w' ∧ Rs w' p s PA pc (i + 2) d nv := by
  have cA := ahead0 w.drew p s PA pc i d nv h.drew hs (by omega)
  rw [hx] at cA
  obtain ⟨c0, c1, c2, c3⟩ := h.cell
  have HY0 := Lib.hid hy
  clear h hx hy
  go_enter Tryz.func212, Tryz.ntmps212
  go_wp2
  go_region_with (go_at_call 140; go_must (refine cA.mono ?_; rintro e w1 ⟨rfl, k1, r1⟩; obtain ⟨d0, d1, d2, d3⟩ := r1.cell))
  all_goals
    have f1 := r1.frozen 1
    have R1 := Lib.hid (r1.set1 (i + 1))
    have K1 := Lib.hid (((Keep.refl [p] w).drew.tr (k1.nil (G := [p]))).setCell (p := p) (j := 1) (.inl (by simp)) (.int .i64 ((i + 1 : Nat) : Int)))
    have hz0 : (i : Int) + 1 = ((i + 1 : Nat) : Int) := by omega
    obtain ⟨m, hm⟩ : ∃ m, i + 1 = m := ⟨_, rfl⟩
    rw [hm] at hz0 R1 K1
    have HM := Lib.hid hm
    clear r1 k1 hm
    have HY : Hid (pk s m = y) := by rw [← HM.out]; exact HY0.out
    go_wp2_with fail
    refine (ahead0 _ p s PA pc m d nv R1.out hs (by omega)).mono ?_
    rintro e w2 ⟨rfl, k2, r2⟩
    rw [HY.out]
    obtain ⟨e0, e1, e2, e3⟩ := r2.cell
    have f2 := r2.frozen 1
    have R2 := Lib.hid (r2.set1 (m + 1))
    have K2 := Lib.hid ((K1.out.tr (k2.nil (G := [p]))).setCell (p := p) (j := 1) (.inl (by simp)) (.int .i64 ((m + 1 : Nat) : Int)))
    have hz1 : (m : Int) + 1 = ((m + 1 : Nat) : Int) := by omega
    obtain ⟨m2, hm2⟩ : ∃ m2, m + 1 = m2 := ⟨_, rfl⟩
    rw [hm2] at hz1 R2 K2
    have HM2 := Lib.hid hm2
    clear r2 k2 hm2 R1 K1
    subst h1
    go_wp2
    go_ret
    exact ⟨rfl, K2.out, by rw [show i + 2 = m2 by have := HM.out; have := HM2.out; omega]; exact R2.out⟩

set_option maxHeartbeats 2000000 in
set_option maxRecDepth 100000 in
theorem point_r (y : Int) (w : World) (p : Nat) (s : List Int) (PA : Option Addr) (pc i d : Nat) (nv : Value) (h : Rs w p s PA pc i d nv) (hs : s.length ≤ 1000) (hi : i ≤ 1000) (hx : pk s i = 92) (hy : pk s (i + 1) = y) (h1 : y = 114) :
    Calls Tryz.prog 212 #[.pointer (some ⟨p, 0, none⟩)] w fun e w' => e = .returned (.int .i64 13) ∧ Keep [p] w w' ∧ Rs w' p s PA pc (i + 2) d nv := by
  have cA := ahead0 w.drew p s PA pc i d nv h.drew hs (by omega)
  rw [hx] at cA
  obtain ⟨c0, c1, c2, c3⟩ := h.cell
  have HY0 := Lib.hid hy
  clear h hx hy
  go_enter Tryz.func212, Tryz.ntmps212
  go_wp2
  go_region_with (go_at_call 140; go_must (refine cA.mono ?_; rintro e w1 ⟨rfl, k1, r1⟩; obtain ⟨d0, d1, d2, d3⟩ := r1.cell))
  all_goals
    have f1 := r1.frozen 1
    have R1 := Lib.hid (r1.set1 (i + 1))
    have K1 := Lib.hid (((Keep.refl [p] w).drew.tr (k1.nil (G := [p]))).setCell (p := p) (j := 1) (.inl (by simp)) (.int .i64 ((i + 1 : Nat) : Int)))
    have hz0 : (i : Int) + 1 = ((i + 1 : Nat) : Int) := by omega
    obtain ⟨m, hm⟩ : ∃ m, i + 1 = m := ⟨_, rfl⟩
    rw [hm] at hz0 R1 K1
    have HM := Lib.hid hm
    clear r1 k1 hm
    have HY : Hid (pk s m = y) := by rw [← HM.out]; exact HY0.out
    go_wp2_with fail
    refine (ahead0 _ p s PA pc m d nv R1.out hs (by omega)).mono ?_
    rintro e w2 ⟨rfl, k2, r2⟩
    rw [HY.out]
    obtain ⟨e0, e1, e2, e3⟩ := r2.cell
    have f2 := r2.frozen 1
    have R2 := Lib.hid (r2.set1 (m + 1))
    have K2 := Lib.hid ((K1.out.tr (k2.nil (G := [p]))).setCell (p := p) (j := 1) (.inl (by simp)) (.int .i64 ((m + 1 : Nat) : Int)))
    have hz1 : (m : Int) + 1 = ((m + 1 : Nat) : Int) := by omega
    obtain ⟨m2, hm2⟩ : ∃ m2, m + 1 = m2 := ⟨_, rfl⟩
    rw [hm2] at hz1 R2 K2
    have HM2 := Lib.hid hm2
    clear r2 k2 hm2 R1 K1
    subst h1
    go_wp2
    go_ret
    exact ⟨rfl, K2.out, by rw [show i + 2 = m2 by have := HM.out; have := HM2.out; omega]; exact R2.out⟩

set_option maxHeartbeats 2000000 in
set_option maxRecDepth 100000 in
theorem point_zero (y : Int) (w : World) (p : Nat) (s : List Int) (PA : Option Addr) (pc i d : Nat) (nv : Value) (h : Rs w p s PA pc i d nv) (hs : s.length ≤ 1000) (hi : i ≤ 1000) (hx : pk s i = 92) (hy : pk s (i + 1) = y) (h1 : y = 0) :
    Calls Tryz.prog 212 #[.pointer (some ⟨p, 0, none⟩)] w fun e w' => e = .panicked [{ v := .iface 141 (.agg #[.int .i64 i, .int .i64 6]), recovered := false }] ∧ Keep [p] w w' := by
  have cA := ahead0 w.drew p s PA pc i d nv h.drew hs (by omega)
  rw [hx] at cA
  obtain ⟨c0, c1, c2, c3⟩ := h.cell
  have HY0 := Lib.hid hy
  clear h hx hy
  go_enter Tryz.func212, Tryz.ntmps212
  go_wp2
  go_region_with (go_at_call 140; go_must (refine cA.mono ?_; rintro e w1 ⟨rfl, k1, r1⟩; obtain ⟨d0, d1, d2, d3⟩ := r1.cell))
  all_goals
    have f1 := r1.frozen 1
    have R1 := Lib.hid (r1.set1 (i + 1))
    have K1 := Lib.hid (((Keep.refl [p] w).drew.tr (k1.nil (G := [p]))).setCell (p := p) (j := 1) (.inl (by simp)) (.int .i64 ((i + 1 : Nat) : Int)))
    have hz0 : (i : Int) + 1 = ((i + 1 : Nat) : Int) := by omega
    obtain ⟨m, hm⟩ : ∃ m, i + 1 = m := ⟨_, rfl⟩
    rw [hm] at hz0 R1 K1
    have HM := Lib.hid hm
    clear r1 k1 hm
    have HY : Hid (pk s m = y) := by rw [← HM.out]; exact HY0.out
    go_wp2_with fail
    refine (ahead0 _ p s PA pc m d nv R1.out hs (by omega)).mono ?_
    rintro e w2 ⟨rfl, k2, r2⟩
    rw [HY.out]
    obtain ⟨e0, e1, e2, e3⟩ := r2.cell
    have f2 := r2.frozen 1
    have R2 := Lib.hid (r2.set1 (m + 1))
    have K2 := Lib.hid ((K1.out.tr (k2.nil (G := [p]))).setCell (p := p) (j := 1) (.inl (by simp)) (.int .i64 ((m + 1 : Nat) : Int)))
    have hz1 : (m : Int) + 1 = ((m + 1 : Nat) : Int) := by omega
    obtain ⟨m2, hm2⟩ : ∃ m2, m + 1 = m2 := ⟨_, rfl⟩
    rw [hm2] at hz1 R2 K2
    have HM2 := Lib.hid hm2
    clear r2 k2 hm2 R1 K1
    subst h1
    go_wp2
    exact ⟨rfl, rfl, K2.out⟩

set_option maxHeartbeats 2000000 in
set_option maxRecDepth 100000 in
theorem point_let (y : Int) (w : World) (p : Nat) (s : List Int) (PA : Option Addr) (pc i d : Nat) (nv : Value) (h : Rs w p s PA pc i d nv) (hs : s.length ≤ 1000) (hi : i ≤ 1000) (hx : pk s i = 92) (hy : pk s (i + 1) = y) (n1 : ¬ y = 110) (n2 : ¬ y = 116) (n3 : ¬ y = 114) (n0 : ¬ y = 0) (hl : isLet y = true) :
    Calls Tryz.prog 212 #[.pointer (some ⟨p, 0, none⟩)] w fun e w' => e = .panicked [{ v := .iface 141 (.agg #[.int .i64 i, .int .i64 6]), recovered := false }] ∧ Keep [p] w w' := by
  have cA := ahead0 w.drew p s PA pc i d nv h.drew hs (by omega)
  rw [hx] at cA
  obtain ⟨c0, c1, c2, c3⟩ := h.cell
  have HY0 := Lib.hid hy
  clear h hx hy
  go_enter Tryz.func212, Tryz.ntmps212
  go_wp2
  go_region_with (go_at_call 140; go_must (refine cA.mono ?_; rintro e w1 ⟨rfl, k1, r1⟩; obtain ⟨d0, d1, d2, d3⟩ := r1.cell))
  all_goals
    have f1 := r1.frozen 1
    have R1 := Lib.hid (r1.set1 (i + 1))
    have K1 := Lib.hid (((Keep.refl [p] w).drew.tr (k1.nil (G := [p]))).setCell (p := p) (j := 1) (.inl (by simp)) (.int .i64 ((i + 1 : Nat) : Int)))
    have hz0 : (i : Int) + 1 = ((i + 1 : Nat) : Int) := by omega
    obtain ⟨m, hm⟩ : ∃ m, i + 1 = m := ⟨_, rfl⟩
    rw [hm] at hz0 R1 K1
    have HM := Lib.hid hm
    clear r1 k1 hm
    have HY : Hid (pk s m = y) := by rw [← HM.out]; exact HY0.out
    go_wp2_with fail
    refine (ahead0 _ p s PA pc m d nv R1.out hs (by omega)).mono ?_
    rintro e w2 ⟨rfl, k2, r2⟩
    rw [HY.out]
    obtain ⟨e0, e1, e2, e3⟩ := r2.cell
    have f2 := r2.frozen 1
    have R2 := Lib.hid (r2.set1 (m + 1))
    have K2 := Lib.hid ((K1.out.tr (k2.nil (G := [p]))).setCell (p := p) (j := 1) (.inl (by simp)) (.int .i64 ((m + 1 : Nat) : Int)))
    have hz1 : (m : Int) + 1 = ((m + 1 : Nat) : Int) := by omega
    obtain ⟨m2, hm2⟩ : ∃ m2, m + 1 = m2 := ⟨_, rfl⟩
    rw [hm2] at hz1 R2 K2
    have HM2 := Lib.hid hm2
    clear r2 k2 hm2 R1 K1
    go_wp2_with (first | (go_at_call 222; refine (isLetter_any _ _).mono ?_; rintro e w3 ⟨rfl, rfl⟩) | (go_at_call 223; refine (isDigit_any _ _).mono ?_; rintro e w3 ⟨rfl, rfl⟩))
    exact ⟨rfl, rfl, K2.out⟩

set_option maxHeartbeats 2000000 in
set_option maxRecDepth 100000 in
theorem point_dig (y : Int) (w : World) (p : Nat) (s : List Int) (PA : Option Addr) (pc i d : Nat) (nv : Value) (h : Rs w p s PA pc i d nv) (hs : s.length ≤ 1000) (hi : i ≤ 1000) (hx : pk s i = 92) (hy : pk s (i + 1) = y) (n1 : ¬ y = 110) (n2 : ¬ y = 116) (n3 : ¬ y = 114) (n0 : ¬ y = 0) (hl : isLet y = false) (hd : isDig y = true) :
    Calls Tryz.prog 212 #[.pointer (some ⟨p, 0, none⟩)] w fun e w' => e = .panicked [{ v := .iface 141 (.agg #[.int .i64 i, .int .i64 6]), recovered := false }] ∧ Keep [p] w w' := by
  have cA := ahead0 w.drew p s PA pc i d nv h.drew hs (by omega)
  rw [hx] at cA
  obtain ⟨c0, c1, c2, c3⟩ := h.cell
  have HY0 := Lib.hid hy
  clear h hx hy
  go_enter Tryz.func212, Tryz.ntmps212
  go_wp2
  go_region_with (go_at_call 140; go_must (refine cA.mono ?_; rintro e w1 ⟨rfl, k1, r1⟩; obtain ⟨d0, d1, d2, d3⟩ := r1.cell))
  all_goals
    have f1 := r1.frozen 1
    have R1 := Lib.hid (r1.set1 (i + 1))
    have K1 := Lib.hid (((Keep.refl [p] w).drew.tr (k1.nil (G := [p]))).setCell (p := p) (j := 1) (.inl (by simp)) (.int .i64 ((i + 1 : Nat) : Int)))
    have hz0 : (i : Int) + 1 = ((i + 1 : Nat) : Int) := by omega
    obtain ⟨m, hm⟩ : ∃ m, i + 1 = m := ⟨_, rfl⟩
    rw [hm] at hz0 R1 K1
    have HM := Lib.hid hm
    clear r1 k1 hm
    have HY : Hid (pk s m = y) := by rw [← HM.out]; exact HY0.out
    go_wp2_with fail
    refine (ahead0 _ p s PA pc m d nv R1.out hs (by omega)).mono ?_
    rintro e w2 ⟨rfl, k2, r2⟩
    rw [HY.out]
    obtain ⟨e0, e1, e2, e3⟩ := r2.cell
    have f2 := r2.frozen 1
    have R2 := Lib.hid (r2.set1 (m + 1))
    have K2 := Lib.hid ((K1.out.tr (k2.nil (G := [p]))).setCell (p := p) (j := 1) (.inl (by simp)) (.int .i64 ((m + 1 : Nat) : Int)))
    have hz1 : (m : Int) + 1 = ((m + 1 : Nat) : Int) := by omega
    obtain ⟨m2, hm2⟩ : ∃ m2, m + 1 = m2 := ⟨_, rfl⟩
    rw [hm2] at hz1 R2 K2
    have HM2 := Lib.hid hm2
    clear r2 k2 hm2 R1 K1
    go_wp2_with (first | (go_at_call 222; refine (isLetter_any _ _).mono ?_; rintro e w3 ⟨rfl, rfl⟩) | (go_at_call 223; refine (isDigit_any _ _).mono ?_; rintro e w3 ⟨rfl, rfl⟩))
    exact ⟨rfl, rfl, K2.out⟩

set_option maxHeartbeats 2000000 in
set_option maxRecDepth 100000 in
theorem point_self (y : Int) (w : World) (p : Nat) (s : List Int) (PA : Option Addr) (pc i d : Nat) (nv : Value) (h : Rs w p s PA pc i d nv) (hs : s.length ≤ 1000) (hi : i ≤ 1000) (hx : pk s i = 92) (hy : pk s (i + 1) = y) (n1 : ¬ y = 110) (n2 : ¬ y = 116) (n3 : ¬ y = 114) (n0 : ¬ y = 0) (hl : isLet y = false) (hd : isDig y = false) :
    Calls Tryz.prog 212 #[.pointer (some ⟨p, 0, none⟩)] w fun e w' => e = .returned (.int .i64 y) ∧ Keep [p] w w' ∧ Rs w' p s PA pc (i + 2) d nv := by
  have cA := ahead0 w.drew p s PA pc i d nv h.drew hs (by omega)
  rw [hx] at cA
  obtain ⟨c0, c1, c2, c3⟩ := h.cell
  have HY0 := Lib.hid hy
  clear h hx hy
  go_enter Tryz.func212, Tryz.ntmps212
  go_wp2
  go_region_with (go_at_call 140; go_must (refine cA.mono ?_; rintro e w1 ⟨rfl, k1, r1⟩; obtain ⟨d0, d1, d2, d3⟩ := r1.cell))
  all_goals
    have f1 := r1.frozen 1
    have R1 := Lib.hid (r1.set1 (i + 1))
    have K1 := Lib.hid (((Keep.refl [p] w).drew.tr (k1.nil (G := [p]))).setCell (p := p) (j := 1) (.inl (by simp)) (.int .i64 ((i + 1 : Nat) : Int)))
    have hz0 : (i : Int) + 1 = ((i + 1 : Nat) : Int) := by omega
    obtain ⟨m, hm⟩ : ∃ m, i + 1 = m := ⟨_, rfl⟩
    rw [hm] at hz0 R1 K1
    have HM := Lib.hid hm
    clear r1 k1 hm
    have HY : Hid (pk s m = y) := by rw [← HM.out]; exact HY0.out
    go_wp2_with fail
    refine (ahead0 _ p s PA pc m d nv R1.out hs (by omega)).mono ?_
    rintro e w2 ⟨rfl, k2, r2⟩
    rw [HY.out]
    obtain ⟨e0, e1, e2, e3⟩ := r2.cell
    have f2 := r2.frozen 1
    have R2 := Lib.hid (r2.set1 (m + 1))
    have K2 := Lib.hid ((K1.out.tr (k2.nil (G := [p]))).setCell (p := p) (j := 1) (.inl (by simp)) (.int .i64 ((m + 1 : Nat) : Int)))
    have hz1 : (m : Int) + 1 = ((m + 1 : Nat) : Int) := by omega
    obtain ⟨m2, hm2⟩ : ∃ m2, m + 1 = m2 := ⟨_, rfl⟩
    rw [hm2] at hz1 R2 K2
    have HM2 := Lib.hid hm2
    clear r2 k2 hm2 R1 K1
    go_wp2_with (first | (go_at_call 222; refine (isLetter_any _ _).mono ?_; rintro e w3 ⟨rfl, rfl⟩) | (go_at_call 223; refine (isDigit_any _ _).mono ?_; rintro e w3 ⟨rfl, rfl⟩))
    go_ret
    exact ⟨rfl, K2.out, by rw [show i + 2 = m2 by have := HM.out; have := HM2.out; omega]; exact R2.out⟩

/-- A code point or an escape that is read. -/
theorem point_ok (c : Int) (j : Nat) (w : World) (p : Nat) (s : List Int) (PA : Option Addr) (pc i d : Nat) (nv : Value) (h : Rs w p s PA pc i d nv) (hs : s.length ≤ 1000) (hi : i ≤ 1000) (hr : pointR s i = some (c, j)) :
    Calls Tryz.prog 212 #[.pointer (some ⟨p, 0, none⟩)] w fun e w' => e = .returned (.int .i64 c) ∧ Keep [p] w w' ∧ Rs w' p s PA pc j d nv := by
  unfold pointR at hr
  split at hr
  · next hx =>
    split at hr
    · next hy => cases hr; exact point_n _ w p s PA pc i d nv h hs hi hx rfl hy
    · next n1 =>
      split at hr
      · next hy => cases hr; exact point_t _ w p s PA pc i d nv h hs hi hx rfl hy
      · next n2 =>
        split at hr
        · next hy => cases hr; exact point_r _ w p s PA pc i d nv h hs hi hx rfl hy
        · next n3 =>
          split at hr
          · cases hr
          · next n0 =>
            rw [not_or, not_or, Bool.not_eq_true, Bool.not_eq_true] at n0
            cases hr; exact point_self _ w p s PA pc i d nv h hs hi hx rfl n1 n2 n3 n0.1 n0.2.1 n0.2.2
  · next hx => cases hr; exact point_plain w p s PA pc i d nv h hs hi hx
theorem point_err (w : World) (p : Nat) (s : List Int) (PA : Option Addr) (pc i d : Nat) (nv : Value) (h : Rs w p s PA pc i d nv) (hs : s.length ≤ 1000) (hi : i ≤ 1000) (hr : pointR s i = none) :
    Calls Tryz.prog 212 #[.pointer (some ⟨p, 0, none⟩)] w fun e w' => e = .panicked [{ v := .iface 141 (.agg #[.int .i64 i, .int .i64 6]), recovered := false }] ∧ Keep [p] w w' := by
  unfold pointR at hr
  split at hr
  · next hx =>
    split at hr
    · cases hr
    · next n1 =>
      split at hr
      · cases hr
      · next n2 =>
        split at hr
        · cases hr
        · next n3 =>
          split at hr
          · next n0 =>
            by_cases h0 : pk s (i + 1) = 0
            · exact point_zero _ w p s PA pc i d nv h hs hi hx rfl h0
            · rcases n0 with n0 | n0 | n0
              · exact absurd n0 h0
              · exact point_let _ w p s PA pc i d nv h hs hi hx rfl n1 n2 n3 h0 n0
              · cases hl : isLet (pk s (i + 1))
                · exact point_dig _ w p s PA pc i d nv h hs hi hx rfl n1 n2 n3 h0 hl n0
                · exact point_let _ w p s PA pc i d nv h hs hi hx rfl n1 n2 n3 h0 hl
          · cases hr
  · cases hr

end Go.Proofs.YtdkjfppjbkdelaaGreatDoor
