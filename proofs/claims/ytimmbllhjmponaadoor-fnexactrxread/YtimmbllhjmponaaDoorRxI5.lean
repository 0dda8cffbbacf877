/- The program's reader of patterns: braces, repetition. Conditions: at most 1000 code points. -/
import Derived.Test.YtimmbllhjmponaaDoorRxI4
namespace Go.Proofs.YtimmbllhjmponaaDoor
set_option linter.unusedVariables false
open Go.RowKit

def BracesIs (w : World) (p : Nat) (s : List Int) (PA : Option Addr) (pc i d : Nat) (nv : Value) (e : Ending) (w' : World) : Prop :=
  match timesR s i with
  | some (lo, hi, j) => e = .returned (.tuple #[.int .i64 lo, .int .i64 hi]) ∧ Keep [p] w w' ∧ Rs w' p s PA pc j d nv
  | none => e = .panicked [{ v := .iface 44 (.agg #[.int .i64 i, .int .i64 5]), recovered := false }] ∧ Keep [p] w w'
theorem BracesIs.no {w : World} {p : Nat} {s : List Int} {PA : Option Addr} {pc i d : Nat} {nv : Value} {w' : World} (h : timesR s i = none) (hk : Keep [p] w w') : BracesIs w p s PA pc i d nv (.panicked [{ v := .iface 44 (.agg #[.int .i64 i, .int .i64 5]), recovered := false }]) w' := by
  unfold BracesIs; rw [h]; exact ⟨rfl, hk⟩
theorem BracesIs.yes {w : World} {p : Nat} {s : List Int} {PA : Option Addr} {pc i d : Nat} {nv : Value} {w' : World} {lo hi : Int} {j : Nat} {e : Ending} (h : timesR s i = some (lo, hi, j)) (he : e = .returned (.tuple #[.int .i64 lo, .int .i64 hi])) (hk : Keep [p] w w') (hr : Rs w' p s PA pc j d nv) : BracesIs w p s PA pc i d nv e w' := by
  unfold BracesIs; rw [h]; exact ⟨he, hk, hr⟩

section
variable {s : List Int} {i j k : Nat} {lo hi : Int}
theorem tm_none (h : numR s (i + 1) = none) : timesR s i = none := by unfold timesR; rw [h]
theorem tm_open (h : numR s (i + 1) = some (lo, j)) (h1 : pk s j = 44) (h2 : pk s (j + 1) = 125) : timesR s i = some (lo, -1, j + 2) := by unfold timesR; rw [h]; simp only; rw [if_pos h1, if_pos h2]
theorem tm_none2 (h : numR s (i + 1) = some (lo, j)) (h1 : pk s j = 44) (h2 : pk s (j + 1) ≠ 125) (h3 : numR s (j + 1) = none) : timesR s i = none := by unfold timesR; rw [h]; simp only; rw [if_pos h1, if_neg h2, h3]
theorem tm_two (h : numR s (i + 1) = some (lo, j)) (h1 : pk s j = 44) (h2 : pk s (j + 1) ≠ 125) (h3 : numR s (j + 1) = some (hi, k)) : timesR s i = if lo ≤ hi ∧ pk s k = 125 then some (lo, hi, k + 1) else none := by unfold timesR; rw [h]; simp only; rw [if_pos h1, if_neg h2, h3]
theorem tm_one (h : numR s (i + 1) = some (lo, j)) (h1 : pk s j ≠ 44) : timesR s i = if pk s j = 125 then some (lo, lo, j + 1) else none := by unfold timesR; rw [h]; simp only; rw [if_neg h1]
end

set_option maxHeartbeats 4000000 in
set_option maxRecDepth 100000 in
theorem braces_any (w : World) (p : Nat) (s : List Int) (PA : Option Addr) (pc i d : Nat) (nv : Value) (h : Rs w p s PA pc i d nv) (hs : s.length ≤ 1000) (hi : i < s.length) (hP : Pos s) : Calls Tryd.prog 65 #[.pointer (some ⟨p, 0, none⟩)] w (BracesIs w p s PA pc i d nv) := by
  obtain ⟨c0, c1, c2, c3⟩ := h.cell
  have f1 := h.frozen 1
  have K0 := Lib.hid (h.keepSet 1 (.int .i64 ((i + 1 : Nat) : Int)))
  have R0 := Lib.hid (h.set1 (i + 1))
  have hz0 : (i : Int) + 1 = ((i + 1 : Nat) : Int) := by omega
  obtain ⟨m, hm⟩ : ∃ m, i + 1 = m := ⟨_, rfl⟩
  rw [hm] at hz0 K0 R0
  have HM := Lib.hid hm
  have hml : m ≤ s.length := by omega
  clear h hm
  go_enter Tryd.func65, Tryd.ntmps65
  go_wp2_with fail
  refine (times_any _ p s PA pc m d nv R0.out hs hml hP).mono ?_
  rintro e w1 ⟨lo, j, rfl, k1, r1, hj, hn⟩
  have K1 := Lib.hid (K0.out.tr k1)
  have R1 := Lib.hid r1
  clear k1 r1 c0 c1 c2 c3 f1
  cases hN : numR s m with
  | none =>
    have HT : Hid (timesR s i = none) := tm_none (by rw [HM.out]; exact hN)
    simp only [Option.isSome]
    clear hN hn
    go_wp2
    exact ⟨rfl, BracesIs.no HT.out K1.out⟩
  | some nj =>
    obtain ⟨lo', j'⟩ := nj
    obtain ⟨rfl, rfl⟩ := hn lo' j' hN
    have HN : Hid (numR s (i + 1) = some (lo, j)) := by rw [← HM.out] at hN; exact hN
    have hlo := numR_place hN
    have l0 := hlo.2.2.1
    have l1 := hlo.2.2.2
    simp only [Option.isSome]
    clear hN hn hlo
    by_cases h44 : pk s j = 44
    · go_wp2_with fail
      refine (take_yes 44 _ p s PA pc j d nv R1.out hs (by omega) h44).mono ?_
      rintro e w2 ⟨rfl, k2, r2⟩
      have K2 := Lib.hid (K1.out.tr k2)
      have R2 := Lib.hid r2
      clear k2 r2
      by_cases h125 : pk s (j + 1) = 125
      · have HT : Hid (timesR s i = some (lo, -1, j + 2)) := tm_open HN.out h44 h125
        have HJ := Lib.hid h125
        have H4 := Lib.hid h44
        clear h125 h44
        go_wp2_with fail
        refine (ahead0 _ p s PA pc (j + 1) d nv R2.out hs (by omega)).mono ?_
        rintro e w3 ⟨rfl, k3, r3⟩
        rw [HJ.out]
        have K3 := Lib.hid (K2.out.tr k3.nil)
        have R3 := Lib.hid r3
        clear k3 r3
        go_wp2_with fail
        refine (take_yes 125 _ p s PA pc (j + 1) d nv R3.out hs (by omega) HJ.out).mono ?_
        rintro e w4 ⟨rfl, k4, r4⟩
        have K4 := Lib.hid (K3.out.tr k4)
        have R4 := Lib.hid r4
        clear k4 r4
        go_wp2
        go_ret2
        exact BracesIs.yes HT.out rfl K4.out R4.out
      · have H5 := Lib.hid h125
        have H4 := Lib.hid h44
        have hjl : j + 1 ≤ s.length := lt_of_pk (s := s) (i := j) (by omega)
        obtain ⟨y, hy⟩ : ∃ y, pk s (j + 1) = y := ⟨_, rfl⟩
        have hy5 : ¬ y = 125 := by rw [← hy]; exact h125
        have HY := Lib.hid hy
        clear h125 h44 hy
        go_wp2_with fail
        refine (ahead0 _ p s PA pc (j + 1) d nv R2.out hs (by omega)).mono ?_
        rintro e w3 ⟨rfl, k3, r3⟩
        rw [HY.out]
        have K3 := Lib.hid (K2.out.tr k3.nil)
        have R3 := Lib.hid r3
        clear k3 r3
        go_wp2_with fail
        refine (times_any _ p s PA pc (j + 1) d nv R3.out hs hjl hP).mono ?_
        rintro e w4 ⟨hi2, k, rfl, k4, r4, hk, hn2⟩
        have K4 := Lib.hid (K3.out.tr k4)
        have R4 := Lib.hid r4
        clear k4 r4
        cases hN2 : numR s (j + 1) with
        | none =>
          have HT : Hid (timesR s i = none) := tm_none2 HN.out H4.out H5.out hN2
          simp only [Option.isSome]
          clear hN2 hn2
          go_wp2
          exact ⟨rfl, BracesIs.no HT.out K4.out⟩
        | some nk =>
          obtain ⟨hi', k'⟩ := nk
          obtain ⟨rfl, rfl⟩ := hn2 hi' k' hN2
          have HT := Lib.hid (tm_two HN.out H4.out H5.out hN2)
          simp only [Option.isSome]
          clear hN2 hn2
          by_cases hle : lo ≤ hi2
          · by_cases hc : pk s k = 125
            · have HT2 : Hid (timesR s i = some (lo, hi2, k + 1)) := by show timesR s i = _; rw [HT.out, if_pos ⟨hle, hc⟩]
              have HC := Lib.hid hc
              clear HT hc
              go_wp2_with fail
              refine (take_yes 125 _ p s PA pc k d nv R4.out hs (by omega) HC.out).mono ?_
              rintro e w5 ⟨rfl, k5, r5⟩
              have K5 := Lib.hid (K4.out.tr k5)
              have R5 := Lib.hid r5
              clear k5 r5
              go_wp2
              go_ret2
              exact BracesIs.yes HT2.out rfl K5.out R5.out
            · have HT2 : Hid (timesR s i = none) := by show timesR s i = _; rw [HT.out, if_neg (fun h => hc h.2)]
              have HC := Lib.hid hc
              clear HT hc
              go_wp2_with fail
              refine (take_no 125 _ p s PA pc k d nv R4.out hs (by omega) HC.out).mono ?_
              rintro e w5 ⟨rfl, k5, r5⟩
              have K5 := Lib.hid (K4.out.tr k5.nil)
              clear k5 r5
              go_wp2
              exact ⟨rfl, BracesIs.no HT2.out K5.out⟩
          · have HT2 : Hid (timesR s i = none) := by show timesR s i = _; rw [HT.out, if_neg (fun h => hle h.1)]
            clear HT
            go_wp2
            exact ⟨rfl, BracesIs.no HT2.out K4.out⟩
    · have HT := Lib.hid (tm_one HN.out h44)
      have H4 := Lib.hid h44
      clear h44
      go_wp2_with fail
      refine (take_no 44 _ p s PA pc j d nv R1.out hs (by omega) H4.out).mono ?_
      rintro e w2 ⟨rfl, k2, r2⟩
      have K2 := Lib.hid (K1.out.tr k2.nil)
      have R2 := Lib.hid r2
      clear k2 r2
      by_cases hc : pk s j = 125
      · have HT2 : Hid (timesR s i = some (lo, lo, j + 1)) := by show timesR s i = _; rw [HT.out, if_pos hc]
        have HC := Lib.hid hc
        clear HT hc
        go_wp2_with fail
        refine (take_yes 125 _ p s PA pc j d nv R2.out hs (by omega) HC.out).mono ?_
        rintro e w5 ⟨rfl, k5, r5⟩
        have K5 := Lib.hid (K2.out.tr k5)
        have R5 := Lib.hid r5
        clear k5 r5
        go_wp2
        go_ret2
        exact BracesIs.yes HT2.out rfl K5.out R5.out
      · have HT2 : Hid (timesR s i = none) := by show timesR s i = _; rw [HT.out, if_neg hc]
        have HC := Lib.hid hc
        clear HT hc
        go_wp2_with fail
        refine (take_no 125 _ p s PA pc j d nv R2.out hs (by omega) HC.out).mono ?_
        rintro e w5 ⟨rfl, k5, r5⟩
        have K5 := Lib.hid (K2.out.tr k5.nil)
        clear k5 r5
        go_wp2
        exact ⟨rfl, BracesIs.no HT2.out K5.out⟩

def RepIs (w : World) (p : Nat) (s : List Int) (PA : Option Addr) (pc i d : Nat) (nv : Value) (e : Ending) (w' : World) : Prop :=
  match repR s i with
  | .no => e = .returned (.tuple #[.int .i64 0, .int .i64 0, .bool false]) ∧ Keep [p] w w' ∧ Rs w' p s PA pc i d nv
  | .bad => e = .panicked [{ v := .iface 44 (.agg #[.int .i64 i, .int .i64 5]), recovered := false }] ∧ Keep [p] w w'
  | .yes lo hi j => e = .returned (.tuple #[.int .i64 lo, .int .i64 hi, .bool true]) ∧ Keep [p] w w' ∧ Rs w' p s PA pc j d nv
section
variable {w w' : World} {p : Nat} {s : List Int} {PA : Option Addr} {pc i d j : Nat} {nv : Value} {lo hi : Int} {e : Ending}
theorem RepIs.no (h : repR s i = .no) (he : e = .returned (.tuple #[.int .i64 0, .int .i64 0, .bool false])) (hk : Keep [p] w w') (hr : Rs w' p s PA pc i d nv) : RepIs w p s PA pc i d nv e w' := by unfold RepIs; rw [h]; exact ⟨he, hk, hr⟩
theorem RepIs.bad (h : repR s i = .bad) (hk : Keep [p] w w') : RepIs w p s PA pc i d nv (.panicked [{ v := .iface 44 (.agg #[.int .i64 i, .int .i64 5]), recovered := false }]) w' := by unfold RepIs; rw [h]; exact ⟨rfl, hk⟩
theorem RepIs.yes (h : repR s i = .yes lo hi j) (he : e = .returned (.tuple #[.int .i64 lo, .int .i64 hi, .bool true])) (hk : Keep [p] w w') (hr : Rs w' p s PA pc j d nv) : RepIs w p s PA pc i d nv e w' := by unfold RepIs; rw [h]; exact ⟨he, hk, hr⟩
end

theorem results_tmp3 {fn : Func} {a b c : Tmp} (h : fn.results = #[.tmp a, .tmp b, .tmp c]) (tmps : Array Value) (P : Program) (w : World) :
    (results fn tmps).run P w = .ok (.tuple #[tmps.getD a undef, tmps.getD b undef, tmps.getD c undef]) w := by
  simp [results, h]

set_option maxHeartbeats 4000000 in
set_option maxRecDepth 100000 in
theorem repetition_any (w : World) (p : Nat) (s : List Int) (PA : Option Addr) (pc i d : Nat) (nv : Value) (h : Rs w p s PA pc i d nv) (hs : s.length ≤ 1000) (hi : i ≤ s.length) (hP : Pos s) : Calls Tryd.prog 57 #[.pointer (some ⟨p, 0, none⟩)] w (RepIs w p s PA pc i d nv) := by
  have HR := Lib.hid h
  clear h
  go_enter Tryd.func57, Tryd.ntmps57
  by_cases h1 : pk s i = 42
  · have HT : Hid (repR s i = .yes 0 (-1) (i + 1)) := by show repR s i = _; unfold repR; rw [if_pos h1]
    go_wp2_with fail
    refine (take_yes 42 _ p s PA pc i d nv HR.out hs (by omega) h1).mono ?_
    rintro e w1 ⟨rfl, k1, r1⟩
    have H := Lib.hid (And.intro k1 r1)
    clear k1 r1 h1
    go_wp2
    refine bodyPost_ret (results_tmp3 Tryd.results57 _ _ _) rfl ?_
    exact RepIs.yes HT.out rfl H.out.1 H.out.2
  go_wp2_with fail
  refine (take_no 42 _ p s PA pc i d nv HR.out hs (by omega) h1).mono ?_
  rintro e w1 ⟨rfl, k1, r1⟩
  have K1 := Lib.hid (k1.nil (G := [p]))
  have R1 := Lib.hid r1
  have H1 := Lib.hid h1
  clear k1 r1 h1 HR
  by_cases h1 : pk s i = 43
  · have HT : Hid (repR s i = .yes 1 (-1) (i + 1)) := by show repR s i = _; unfold repR; rw [if_neg H1.out, if_pos h1]
    go_wp2_with fail
    refine (take_yes 43 _ p s PA pc i d nv R1.out hs (by omega) h1).mono ?_
    rintro e w1 ⟨rfl, k1, r1⟩
    have H := Lib.hid (And.intro (K1.out.tr k1) r1)
    clear k1 r1 h1
    go_wp2
    refine bodyPost_ret (results_tmp3 Tryd.results57 _ _ _) rfl ?_
    exact RepIs.yes HT.out rfl H.out.1 H.out.2
  go_wp2_with fail
  refine (take_no 43 _ p s PA pc i d nv R1.out hs (by omega) h1).mono ?_
  rintro e w2 ⟨rfl, k2, r2⟩
  have K2 := Lib.hid (K1.out.tr k2.nil)
  have R2 := Lib.hid r2
  have H2 := Lib.hid h1
  clear k2 r2 h1 R1 K1
  by_cases h1 : pk s i = 63
  · have HT : Hid (repR s i = .yes 0 1 (i + 1)) := by show repR s i = _; unfold repR; rw [if_neg H1.out, if_neg H2.out, if_pos h1]
    go_wp2_with fail
    refine (take_yes 63 _ p s PA pc i d nv R2.out hs (by omega) h1).mono ?_
    rintro e w1 ⟨rfl, k1, r1⟩
    have H := Lib.hid (And.intro (K2.out.tr k1) r1)
    clear k1 r1 h1
    go_wp2
    refine bodyPost_ret (results_tmp3 Tryd.results57 _ _ _) rfl ?_
    exact RepIs.yes HT.out rfl H.out.1 H.out.2
  go_wp2_with fail
  refine (take_no 63 _ p s PA pc i d nv R2.out hs (by omega) h1).mono ?_
  rintro e w3 ⟨rfl, k3, r3⟩
  have K3 := Lib.hid (K2.out.tr k3.nil)
  have R3 := Lib.hid r3
  have H3 := Lib.hid h1
  clear k3 r3 h1 R2 K2
  go_wp2_with fail
  refine (ahead0 _ p s PA pc i d nv R3.out hs (by omega)).mono ?_
  rintro e w4 ⟨rfl, k4, r4⟩
  have K4 := Lib.hid (K3.out.tr k4.nil)
  have R4 := Lib.hid r4
  clear k4 r4 R3 K3
  by_cases h1 : pk s i = 123
  · have hil : i < s.length := lt_of_pk (by omega)
    have HB := Lib.hid (braces_any w4 p s PA pc i d nv R4.out hs hil hP)
    have HE : Hid (repR s i = match timesR s i with | some (lo, hi, j) => .yes lo hi j | none => .bad) := by show repR s i = _; unfold repR; rw [if_neg H1.out, if_neg H2.out, if_neg H3.out, if_pos h1]; cases timesR s i <;> rfl
    rw [h1]
    clear h1
    go_wp2_with fail
    refine HB.out.mono ?_
    intro e w5 hb
    unfold BracesIs at hb
    cases hT : timesR s i with
    | none =>
      rw [hT] at hb
      obtain ⟨rfl, k5⟩ := hb
      have HT : Hid (repR s i = .bad) := by show repR s i = _; rw [HE.out, hT]
      have K5 := Lib.hid (K4.out.tr k5)
      clear k5 hT HB
      go_wp2
      exact ⟨rfl, RepIs.bad HT.out K5.out⟩
    | some x =>
      obtain ⟨lo, hi2, j⟩ := x
      rw [hT] at hb
      obtain ⟨rfl, k5, r5⟩ := hb
      have HT : Hid (repR s i = .yes lo hi2 j) := by show repR s i = _; rw [HE.out, hT]
      have H := Lib.hid (And.intro (K4.out.tr k5) r5)
      clear k5 r5 hT HB
      go_wp2
      refine bodyPost_ret (results_tmp3 Tryd.results57 _ _ _) rfl ?_
      exact RepIs.yes HT.out rfl H.out.1 H.out.2
  · have HT : Hid (repR s i = .no) := by show repR s i = _; unfold repR; rw [if_neg H1.out, if_neg H2.out, if_neg H3.out, if_neg h1]
    obtain ⟨x, hx⟩ : ∃ x, pk s i = x := ⟨_, rfl⟩
    rw [hx] at h1 ⊢
    clear hx
    go_wp2
    refine bodyPost_ret (results_tmp3 Tryd.results57 _ _ _) rfl ?_
    exact RepIs.no HT.out rfl K4.out R4.out

end Go.Proofs.YtimmbllhjmponaaDoor
