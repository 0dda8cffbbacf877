/- IsBlank of both sides. No condition. -/
import Derived.Test.YtdkjfppjbkdelaaDoorRows
import Derived.Test.YtdkjfppjbkdelaaDoorMem
import Derived.Lib.Hide
import Derived.IntWalk
namespace Go.Proofs.YtdkjfppjbkdelaaDoor
set_option linter.unusedVariables false
open Go.RowKit

def isBlZ (z : Int) : Bool := decide (z = 32 ∨ z = 9 ∨ z = 10 ∨ z = 13)
theorem blank_cases (z : Int) : (z = 32 ∨ z = 9 ∨ z = 10 ∨ z = 13) ∨ ((z == 32) = false ∧ (z == 9) = false ∧ (z == 10) = false ∧ (z == 13) = false) := by
  by_cases h : z = 32 ∨ z = 9 ∨ z = 10 ∨ z = 13
  · exact .inl h
  · refine .inr ⟨?_, ?_, ?_, ?_⟩ <;> rw [beq_eq_false_iff_ne] <;> omega

set_option maxHeartbeats 400000 in
theorem specBlank (z : Int) (w : World) : Calls Tryd.prog 30 #[.int .i64 z] w fun r w' => r = .returned (.bool (isBlZ z)) ∧ w = w' := by
  rcases blank_cases z with (rfl | rfl | rfl | rfl) | ⟨h1, h2, h3, h4⟩
  · go_enter Tryd.func30, Tryd.ntmps30
    go_wp2
    go_ret
    exact ⟨rfl, rfl⟩
  · go_enter Tryd.func30, Tryd.ntmps30
    go_wp2
    go_ret
    exact ⟨rfl, rfl⟩
  · go_enter Tryd.func30, Tryd.ntmps30
    go_wp2
    go_ret
    exact ⟨rfl, rfl⟩
  · go_enter Tryd.func30, Tryd.ntmps30
    go_wp2
    go_ret
    exact ⟨rfl, rfl⟩
  · have HV : Hid (isBlZ z = false) := by
      show _ = _
      unfold isBlZ
      rw [beq_eq_false_iff_ne] at h1 h2 h3 h4
      exact decide_eq_false (by omega)
    go_enter Tryd.func30, Tryd.ntmps30
    go_wp2
    go_ret
    exact ⟨by rw [HV.out]; rfl, rfl⟩
set_option maxHeartbeats 400000 in
theorem implBlank (z : Int) (w : World) : Calls Tryd.prog 59 #[.int .i64 z] w fun r w' => r = .returned (.bool (isBlZ z)) ∧ w = w' := by
  rcases blank_cases z with (rfl | rfl | rfl | rfl) | ⟨h1, h2, h3, h4⟩
  · go_enter Tryd.func59, Tryd.ntmps59
    go_wp2
    go_ret
    exact ⟨rfl, rfl⟩
  · go_enter Tryd.func59, Tryd.ntmps59
    go_wp2
    go_ret
    exact ⟨rfl, rfl⟩
  · go_enter Tryd.func59, Tryd.ntmps59
    go_wp2
    go_ret
    exact ⟨rfl, rfl⟩
  · go_enter Tryd.func59, Tryd.ntmps59
    go_wp2
    go_ret
    exact ⟨rfl, rfl⟩
  · have HV : Hid (isBlZ z = false) := by
      show _ = _
      unfold isBlZ
      rw [beq_eq_false_iff_ne] at h1 h2 h3 h4
      exact decide_eq_false (by omega)
    go_enter Tryd.func59, Tryd.ntmps59
    go_wp2
    go_ret
    exact ⟨by rw [HV.out]; rfl, rfl⟩

end Go.Proofs.YtdkjfppjbkdelaaDoor
