/- The program tells whether an automaton is sound as the plain function says. Conditions: at most 1048576 elements in all. -/
import Derived.Test.YtikbinmddgmllaaNfMath
import Derived.Test.YtikbinmddgmllaaRunesA
import Derived.Deep.DeepMust
import Derived.Deep.QuietTactic
namespace Go.Proofs.Ytikbinmddgmllaa
set_option linter.unusedVariables false
open Go.RowKit

theorem ret_b {a b : Bool} (h : a = b) : Ending.returned (.bool a) = .returned (.bool b) := by rw [h]
theorem drew_on {w wr : World} {n m : Nat} (h : wr = w.drewN n) : ∃ k, wr.drewN m = w.drewN k := ⟨n + m, by rw [h, World.drewN_drewN]⟩

set_option maxHeartbeats 400000 in
theorem isIndex_any (x : Int) (n : Nat) (w : World) (hn : n ≤ 1048576) :
    Calls Try.prog 19 #[.int .i64 x, .int .i64 n] w fun e w' => e = .returned (.bool (inn n x)) ∧ w = w' := by
  by_cases h1 : 0 ≤ x
  · by_cases h2 : x < (n : Int)
    all_goals
      go_enter Try.func19, Try.ntmps19
      go_wp2
      go_ret
      exact ⟨ret_b (by unfold inn; simp; omega), rfl⟩
  · go_enter Try.func19, Try.ntmps19
    go_wp2
    go_ret
    exact ⟨ret_b (by unfold inn; simp; omega), rfl⟩

def AllRel (zs : List Int) (w : World) (i : Value) (wr : World) : Prop :=
  ∃ k : Nat, i = .int .i64 k ∧ k ≤ zs.length ∧ (zs.drop k).all pt = zs.all pt ∧ ∃ n, wr = w.drewN n

set_option maxHeartbeats 2000000 in
set_option maxRecDepth 100000 in
theorem areC_any (A : Option Addr) (c : Nat) (zs : List Int) (w : World) (B : Nat) (hlen : zs.length ≤ 1048576) (hN : Nums .i64 w B A zs) :
    Calls Try.prog 18 #[.slice A zs.length c] w fun e w' => e = .returned (.bool (zs.all pt)) ∧ ∃ n, w' = w.drewN n := by
  go_enter Try.func18, Try.ntmps18
  go_wp2
  go_loopw [7] (AllRel zs w) (fun i _ => zs.length - (intOf i).toNat)
  case atStart => exact ⟨0, rfl, Nat.zero_le _, rfl, 0, rfl⟩
  case round =>
    obtain ⟨k, rfl, hk, hin, n, hwr⟩ := hrel
    have hN : Nums .i64 wr B A zs := by rw [hwr]; exact hN
    have HW := Lib.hid hwr
    clear hwr
    by_cases hlt : k < zs.length
    · obtain ⟨b, o, rfl, hb, hc0⟩ := hN k hlt
      rw [all_step hlt] at hin
      obtain ⟨y, hy⟩ : ∃ y, zs[k] = y := ⟨_, rfl⟩
      rw [hy] at hc0 hin
      cases hp : pt y with
      | true =>
        rw [hp, Bool.true_and] at hin
        have cP := fun W => isPoint_any y W
        rw [hp] at cP
        have HI := Lib.hid hin
        clear hin hp hy hN
        go_wp2_with (go_at_call 17; refine (cP _).mono ?_; rintro e w' ⟨rfl, rfl⟩)
        go_roundw
        case rel => exact ⟨k + 1, by go_num, hlt, HI.out, n, HW.out⟩
        case measure => simp [intOf]; omega
      | false =>
        rw [hp, Bool.false_and] at hin
        have cP := fun W => isPoint_any y W
        rw [hp] at cP
        have HI := Lib.hid hin
        clear hin hp hy hN
        go_wp2_with (go_at_call 17; refine (cP _).mono ?_; rintro e w' ⟨rfl, rfl⟩)
        go_ret
        exact ⟨ret_b HI.out, n, HW.out⟩
    · rw [List.drop_eq_nil_of_le (by omega)] at hin
      have HI := Lib.hid hin
      clear hin hN
      go_wp2
      go_ret
      exact ⟨ret_b HI.out, n, HW.out⟩

end Go.Proofs.Ytikbinmddgmllaa
