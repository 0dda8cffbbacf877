/- RxHas of both sides answers as one plain function, and only draws. Condition: at most 1048576 elements. -/
import Derived.Test.YtimmbllhjmponaaMem
import Derived.Deep.DeepMust
import Derived.Deep.QuietTactic
import Derived.Lib.Hide
import Derived.Test.YtimmbllhjmponaaChecked
import Derived.Test.YtimmbllhjmponaaRows
namespace Go.Proofs.Ytimmbllhjmponaa
set_option linter.unusedVariables false
open Go.RowKit

/-- Is a number in one of the items? -/
def inSet : List Int → Int → Bool
  | a :: b :: r, c => decide (a ≤ c ∧ c ≤ b) || inSet r c
  | _, _ => false
def hasR (zs : List Int) (neg : Bool) (c : Int) : Bool := if inSet zs c = true then !neg else neg

theorem inSet_step {zs : List Int} {k : Nat} (c : Int) (h : k + 1 < zs.length) : inSet (zs.drop k) c = (decide (zs[k] ≤ c ∧ c ≤ zs[k + 1]) || inSet (zs.drop (k + 2)) c) := by
  have e : zs.drop k = zs[k] :: zs[k + 1] :: zs.drop (k + 2) := by
    rw [List.drop_eq_getElem_cons (by omega), List.drop_eq_getElem_cons h]
  rw [e, inSet]
theorem inSet_end {zs : List Int} {k : Nat} (c : Int) (h : ¬ k + 1 < zs.length) : inSet (zs.drop k) c = false := by
  have hl : (zs.drop k).length ≤ 1 := by simp; omega
  match zs.drop k, hl with
  | [], _ => rfl
  | [a], _ => rfl

theorem drew_more {w wr : World} {n m : Nat} (h : wr = w.drewN n) : ∃ k, wr.drewN m = w.drewN k := ⟨n + m, by rw [h, World.drewN_drewN]⟩

def HasRel (zs : List Int) (x : Int) (w : World) (i : Value) (wr : World) : Prop :=
  ∃ k : Nat, i = .int .i64 k ∧ k ≤ zs.length + 1 ∧ inSet (zs.drop k) x = inSet zs x ∧ ∃ n, wr = w.drewN n

theorem has_ret {a b : Bool} (h : a = b) : Ending.returned (.bool a) = .returned (.bool b) := by rw [h]

theorem has_between (n lo hi : Int) (w : World) :
    Calls Try.prog 8 #[.int .i64 n, .int .i64 lo, .int .i64 hi] w fun e w' => e = .returned (.bool (decide (lo ≤ n ∧ n ≤ hi))) ∧ w = w' := by
  by_cases h1 : lo ≤ n
  · by_cases h2 : n ≤ hi
    all_goals
      go_enter Try.func8, Try.ntmps8
      go_wp2
      go_ret
      exact ⟨has_ret (by simp [h1, h2]), rfl⟩
  · go_enter Try.func8, Try.ntmps8
    go_wp2
    go_ret
    exact ⟨has_ret (by simp; omega), rfl⟩

set_option maxHeartbeats 2000000 in
set_option maxRecDepth 100000 in
theorem specHas (A : Option Addr) (c : Nat) (zs : List Int) (neg : Bool) (x : Int) (w : World) (B : Nat) (hlen : zs.length ≤ 1048576) (hN : Nums .i64 w B A zs) :
    Calls Try.prog 4 #[.slice A zs.length c, .bool neg, .int .i64 x] w fun e w' => e = .returned (.bool (hasR zs neg x)) ∧ ∃ n, w' = w.drewN n := by
  go_enter Try.func4, Try.ntmps4
  go_wp2
  go_loopw [7] (HasRel zs x w) (fun i _ => zs.length + 2 - (intOf i).toNat)
  case atStart => exact ⟨0, rfl, by omega, rfl, 0, rfl⟩
  case round =>
    obtain ⟨k, rfl, hk, hin, n, hwr⟩ := hrel
    have hN : Nums .i64 wr B A zs := by rw [hwr]; exact hN
    have HW := Lib.hid hwr
    clear hwr
    by_cases hlt : k + 1 < zs.length
    · obtain ⟨b, o, rfl, hb, hc0⟩ := hN k (by omega)
      obtain ⟨b', o', hAA, hb', hc1⟩ := hN (k + 1) hlt
      cases hAA
      have hst := inSet_step x hlt
      obtain ⟨y, hy⟩ : ∃ y, zs[k] = y := ⟨_, rfl⟩
      obtain ⟨z, hz⟩ : ∃ z, zs[k + 1] = z := ⟨_, rfl⟩
      rw [hy] at hc0 hst
      rw [hz] at hc1 hst
      have HI := Lib.hid (And.intro hin hst)
      obtain ⟨m, hm⟩ : ∃ m, k + 1 = m := ⟨_, rfl⟩
      have hz1 : (k : Int) + 1 = (m : Int) := by omega
      have hwm : IntKind.i64.wrap (m : Int) = (m : Int) := IntWalk.i64_in _ ⟨by omega, by omega⟩
      have hml : m < zs.length := by omega
      have hkl : k < zs.length := by omega
      have hmz : (m : Int) < (zs.length : Int) := by omega
      rw [hm] at hc1
      clear hy hz hin hst hN hm
      by_cases hin : y ≤ x ∧ x ≤ z
      · have e : Hid (inSet zs x = true) := by show _ = true; rw [← HI.out.1, HI.out.2]; simp [hin]
        have hd : decide (y ≤ x ∧ x ≤ z) = true := decide_eq_true hin
        have cB := fun W => has_between x y z W
        rw [hd] at cB
        clear HI hd hin
        go_wp2
        go_quiet ((go_at_call 8; refine Calls.quiet_of_same ((cB _).mono fun _ _ h => ⟨h.1, h.2.symm⟩)))
        go_wp2
        go_ret
        exact ⟨has_ret (by unfold hasR; rw [e.out]; simp), drew_more HW.out⟩
      · have e : Hid (inSet (zs.drop (k + 2)) x = inSet zs x) := by show _ = inSet zs x; rw [← HI.out.1, HI.out.2]; simp [hin]
        have hd : decide (y ≤ x ∧ x ≤ z) = false := decide_eq_false hin
        have cB := fun W => has_between x y z W
        rw [hd] at cB
        clear HI hd hin
        go_wp2
        go_quiet ((go_at_call 8; refine Calls.quiet_of_same ((cB _).mono fun _ _ h => ⟨h.1, h.2.symm⟩)))
        go_wp2
        go_roundw
        case rel => exact ⟨k + 2, by go_num, by omega, e.out, drew_more HW.out⟩
        case measure => simp [intOf]; omega
    · have e : Hid (inSet zs x = false) := by show _ = false; rw [← hin, inSet_end x hlt]
      have hz1 : ¬ (k : Int) + 1 < zs.length := by omega
      clear hin
      go_wp2
      go_ret
      exact ⟨has_ret (by unfold hasR; rw [e.out]; simp), n, HW.out⟩

set_option maxHeartbeats 2000000 in
set_option maxRecDepth 100000 in
theorem implHas (A : Option Addr) (c : Nat) (zs : List Int) (neg : Bool) (x : Int) (w : World) (B : Nat) (hlen : zs.length ≤ 1048576) (hN : Nums .i64 w B A zs) :
    Calls Try.prog 6 #[.slice A zs.length c, .bool neg, .int .i64 x] w fun e w' => e = .returned (.bool (hasR zs neg x)) ∧ ∃ n, w' = w.drewN n := by
  go_enter Try.func6, Try.ntmps6
  go_wp2
  go_loopw [7] (HasRel zs x w) (fun i _ => zs.length + 2 - (intOf i).toNat)
  case atStart => exact ⟨0, rfl, by omega, rfl, 0, rfl⟩
  case round =>
    obtain ⟨k, rfl, hk, hin, n, hwr⟩ := hrel
    have hN : Nums .i64 wr B A zs := by rw [hwr]; exact hN
    have HW := Lib.hid hwr
    clear hwr
    by_cases hlt : k + 1 < zs.length
    · obtain ⟨b, o, rfl, hb, hc0⟩ := hN k (by omega)
      obtain ⟨b', o', hAA, hb', hc1⟩ := hN (k + 1) hlt
      cases hAA
      have hst := inSet_step x hlt
      obtain ⟨y, hy⟩ : ∃ y, zs[k] = y := ⟨_, rfl⟩
      obtain ⟨z, hz⟩ : ∃ z, zs[k + 1] = z := ⟨_, rfl⟩
      rw [hy] at hc0 hst
      rw [hz] at hc1 hst
      have HI := Lib.hid (And.intro hin hst)
      obtain ⟨m, hm⟩ : ∃ m, k + 1 = m := ⟨_, rfl⟩
      have hz1 : (k : Int) + 1 = (m : Int) := by omega
      have hwm : IntKind.i64.wrap (m : Int) = (m : Int) := IntWalk.i64_in _ ⟨by omega, by omega⟩
      have hml : m < zs.length := by omega
      have hkl : k < zs.length := by omega
      have hmz : (m : Int) < (zs.length : Int) := by omega
      rw [hm] at hc1
      clear hy hz hin hst hN hm
      by_cases h1 : y ≤ x
      · by_cases h2 : x ≤ z
        · have e : Hid (inSet zs x = true) := by show _ = true; rw [← HI.out.1, HI.out.2]; simp [h1, h2]
          clear HI
          go_wp2
          go_ret
          exact ⟨has_ret (by unfold hasR; rw [e.out]; simp), n, HW.out⟩
        · have e : Hid (inSet (zs.drop (k + 2)) x = inSet zs x) := by show _ = inSet zs x; rw [← HI.out.1, HI.out.2]; simp [h2]
          clear HI
          go_wp2
          go_roundw
          case rel => exact ⟨k + 2, by go_num, by omega, e.out, n, HW.out⟩
          case measure => simp [intOf]; omega
      · have e : Hid (inSet (zs.drop (k + 2)) x = inSet zs x) := by show _ = inSet zs x; rw [← HI.out.1, HI.out.2]; simp [h1]
        clear HI
        go_wp2
        go_roundw
        case rel => exact ⟨k + 2, by go_num, by omega, e.out, n, HW.out⟩
        case measure => simp [intOf]; omega
    · have e : Hid (inSet zs x = false) := by show _ = false; rw [← hin, inSet_end x hlt]
      have hz1 : ¬ (k : Int) + 1 < zs.length := by omega
      clear hin
      go_wp2
      go_ret
      exact ⟨has_ret (by unfold hasR; rw [e.out]; simp), n, HW.out⟩

end Go.Proofs.Ytimmbllhjmponaa
