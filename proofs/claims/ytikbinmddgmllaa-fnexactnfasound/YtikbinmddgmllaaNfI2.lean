/- impl.NfaSound answers as the plain function. Conditions: at most 1048576 elements in all. -/
import Derived.Test.YtikbinmddgmllaaNfI
namespace Go.Proofs.Ytikbinmddgmllaa
set_option linter.unusedVariables false
open Go.RowKit

theorem below_drewN {B : Nat} {w w1 : World} (h : Below B w w1) (n : Nat) : Below B w (w1.drewN n) := ⟨h.os, h.tape, h.output, h.size, h.block⟩

set_option maxHeartbeats 4000000 in
set_option maxRecDepth 100000 in
theorem opSound_any (o : No) (sa : Option Addr) (sc n : Nat) (w : World) (hn : n ≤ 1048576) (h1 : o.set.length ≤ 1048576) (hS : Nums .i64 w w.heap.size sa o.set) :
    Calls Try.prog 13 #[opv o sa sc, .int .i64 n] w fun e w' => e = .returned (.bool (opOk n o)) ∧ Below w.heap.size w w' := by
  unfold opv
  have b0 : Below w.heap.size w (w.alloc (.cells #[.int .i64 o.op, .int .i64 o.a, .int .i64 o.b, .bool o.neg, .slice sa o.set.length sc] 36)) := (Below.refl _ _).alloc (Nat.le_refl _) _
  have cA := areC_any sa sc o.set _ _ h1 (hS.below b0)
  have cI : ∀ x W, Calls Try.prog 19 #[.int .i64 x, .int .i64 n] W _ := fun x W => isIndex_any x n W hn
  clear hS
  obtain ⟨op, a, b, neg, set⟩ := o
  simp only at *
  by_cases q1 : op = 1
  · subst q1
    have hR : Hid (pt a = opOk n ⟨1, a, b, neg, set⟩) := by unfold opOk; rfl
    clear cA cI
    go_enter Try.func13, Try.ntmps13
    go_wp2_with (go_at_call 17; refine (isPoint_any a _).mono ?_; rintro e w' ⟨rfl, rfl⟩)
    go_ret
    exact ⟨ret_b hR.out, b0⟩
  by_cases q3 : op = 3
  · subst q3
    have hR : Hid ((set.all pt && decide (set.length % 2 = 0)) = opOk n ⟨3, a, b, neg, set⟩) := by unfold opOk; rfl
    clear cI
    go_enter Try.func13, Try.ntmps13
    by_cases hev : set.length % 2 = 0
    · have hm : Int.tmod (set.length : Int) 2 = 0 := by rw [Int.tmod_eq_emod_of_nonneg (by omega)]; omega
      rw [decide_eq_true hev, Bool.and_true] at hR
      cases hq : set.all pt with
      | true =>
        rw [hq] at cA hR
        clear hq
        go_wp2_with (go_at_call 18; refine cA.mono ?_; rintro e w' ⟨rfl, n1, rfl⟩)
        go_ret
        exact ⟨ret_b hR.out, below_drewN b0 _⟩
      | false =>
        rw [hq] at cA hR
        clear hq
        go_wp2_with (go_at_call 18; refine cA.mono ?_; rintro e w' ⟨rfl, n1, rfl⟩)
        go_ret
        exact ⟨ret_b hR.out, below_drewN b0 _⟩
    · have hm : Int.tmod (set.length : Int) 2 = 1 := by rw [Int.tmod_eq_emod_of_nonneg (by omega)]; omega
      rw [decide_eq_false hev, Bool.and_false] at hR
      cases hq : set.all pt with
      | true =>
        rw [hq] at cA
        clear hq
        go_wp2_with (go_at_call 18; refine cA.mono ?_; rintro e w' ⟨rfl, n1, rfl⟩)
        go_ret
        exact ⟨ret_b hR.out, below_drewN b0 _⟩
      | false =>
        rw [hq] at cA
        clear hq
        go_wp2_with (go_at_call 18; refine cA.mono ?_; rintro e w' ⟨rfl, n1, rfl⟩)
        go_ret
        exact ⟨ret_b hR.out, below_drewN b0 _⟩
  by_cases q6 : op = 6
  · subst q6
    have hR : Hid ((inn n a && inn n b) = opOk n ⟨6, a, b, neg, set⟩) := by unfold opOk; rfl
    clear cA
    have cIa := cI a
    have cIb := cI b
    clear cI
    go_enter Try.func13, Try.ntmps13
    cases ha : inn n a with
    | true =>
      rw [ha] at cIa hR
      go_wp2_with (go_at_call 19; (first | with_reducible refine (cIa _).mono ?_ | with_reducible refine (cIb _).mono ?_); rintro e w' ⟨rfl, rfl⟩)
      go_ret
      exact ⟨ret_b hR.out, b0⟩
    | false =>
      rw [ha] at cIa hR
      go_wp2_with (go_at_call 19; (first | with_reducible refine (cIa _).mono ?_ | with_reducible refine (cIb _).mono ?_); rintro e w' ⟨rfl, rfl⟩)
      go_ret
      exact ⟨ret_b hR.out, b0⟩
  by_cases q7 : op = 7
  · subst q7
    have hR : Hid (inn n a = opOk n ⟨7, a, b, neg, set⟩) := by unfold opOk; rfl
    clear cA
    have cIa := cI a
    clear cI
    go_enter Try.func13, Try.ntmps13
    go_wp2_with (go_at_call 19; with_reducible refine (cIa _).mono ?_; rintro e w' ⟨rfl, rfl⟩)
    go_ret
    exact ⟨ret_b hR.out, b0⟩
  have hR := Lib.hid (show decide (1 ≤ op ∧ op ≤ 8) = opOk n ⟨op, a, b, neg, set⟩ by unfold opOk; simp only []; rw [if_neg q1, if_neg q3, if_neg q6, if_neg q7])
  clear cA cI
  by_cases h1 : 1 ≤ op
  · by_cases h2 : op ≤ 8
    · rw [decide_eq_true ⟨h1, h2⟩] at hR
      go_enter Try.func13, Try.ntmps13
      go_wp2
      go_ret
      exact ⟨ret_b hR.out, b0⟩
    · rw [decide_eq_false (fun h => h2 h.2)] at hR
      go_enter Try.func13, Try.ntmps13
      go_wp2
      go_ret
      exact ⟨ret_b hR.out, b0⟩
  · rw [decide_eq_false (fun h => h1 h.1)] at hR
    go_enter Try.func13, Try.ntmps13
    go_wp2
    go_ret
    exact ⟨ret_b hR.out, b0⟩

end Go.Proofs.Ytikbinmddgmllaa
