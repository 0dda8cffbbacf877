/- The blanks ahead. Conditions: at most 1048576 bytes. -/
import Derived.Test.YtlhdolcadlabpaaDoorReadA
import Derived.Test.YtlhdolcadlabpaaDoorBlank
namespace Go.Proofs.YtlhdolcadlabpaaDoor
set_option linter.unusedVariables false
open Go.RowKit

theorem isBlZ_byte (x : UInt8) : isBlZ (x.toNat : Int) = isBl x := by
  unfold isBlZ isBl
  rw [decide_eq_decide]
  omega

theorem bl_step {s : ByteArray} {k V : Nat} (h : k + blN (s.data.toList.drop k) = V) (hk : k < s.size) (hx : isBl s[k] = true) : (k + 1) + blN (s.data.toList.drop (k + 1)) = V := by
  rw [drop_at hk, blN_cons hx] at h
  omega
theorem bl_end {s : ByteArray} {k V : Nat} (h : k + blN (s.data.toList.drop k) = V) (hx : ∀ hk : k < s.size, isBl s[k] = false) : k = V := by
  by_cases hk : k < s.size
  · rw [drop_at hk, blN_stop (hx hk)] at h; omega
  · rw [drop_end hk, blN_nil] at h; omega

set_option maxHeartbeats 1000000 in
theorem implBlanks (s : ByteArray) (a V : Nat) (w : World) (hs : s.size ≤ 1048576) (ha : a ≤ s.size) (hV : a + blN (s.data.toList.drop a) = V) :
    Calls Tryd.prog 26 #[.string s, .int .i64 a] w fun r w' => r = .returned (.int .i64 V) ∧ Below w.heap.size w w' := by
  have HV0 := Lib.hid hV
  clear hV
  go_enter Tryd.func26, Tryd.ntmps26
  go_wp2
  go_loopw [1] (fun kv wr => ∃ k : Nat, k ≤ s.size ∧ kv = .int .i64 k ∧ Hid (k + blN (s.data.toList.drop k) = V) ∧ Below w.heap.size w wr) (fun kv _ => s.size - (intOf kv).toNat)
  case atStart => exact ⟨a, ha, rfl, HV0, Below.refl _ _⟩
  case round =>
    clear HV0
    obtain ⟨k, hk, rfl, HK, hbel⟩ := hrel
    by_cases hlt : k < s.size
    · obtain ⟨x, hx⟩ : ∃ x, s[k] = x := ⟨_, rfl⟩
      have hxl := x.toNat_lt
      have cB := fun W => implBlank (x.toNat : Int) W
      rw [isBlZ_byte] at cB
      have hki : (k : Int) < (s.size : Int) := by omega
      by_cases hb : isBl x = true
      · have HN := Lib.hid (bl_step HK.out hlt (by rw [hx]; exact hb))
        rw [hb] at cB
        clear hb HK
        go_wp2_with (go_at_call 44; refine (cB _).mono ?_; rintro r w' ⟨rfl, rfl⟩)
        go_roundw
        case rel => exact ⟨k + 1, hlt, by go_num, HN, hbel⟩
        case measure => simp [intOf]; omega
      · have hb2 : isBl x = false := by simpa using hb
        have HE := Lib.hid (bl_end HK.out (fun _ => by rw [hx]; exact hb2))
        rw [hb2] at cB
        clear hb hb2 HK
        go_wp2_with (go_at_call 44; refine (cB _).mono ?_; rintro r w' ⟨rfl, rfl⟩)
        go_ret
        exact ⟨by rw [← HE.out]; rfl, hbel⟩
    · have hki : ¬ (k : Int) < (s.size : Int) := by omega
      have HE := Lib.hid (bl_end HK.out (fun h => absurd h hlt))
      clear HK
      go_wp2_with fail
      go_ret
      exact ⟨by rw [← HE.out]; rfl, hbel⟩

set_option maxHeartbeats 1000000 in
theorem specStart (s : ByteArray) (V : Nat) (w : World) (hs : s.size ≤ 1048576) (hV : blN s.data.toList = V) :
    Calls Tryd.prog 28 #[.string s] w fun r w' => r = .returned (.int .i64 V) ∧ Below w.heap.size w w' := by
  have HV0 : Hid (0 + blN (s.data.toList.drop 0) = V) := by show _ = _; rw [List.drop_zero]; omega
  clear hV
  go_enter Tryd.func28, Tryd.ntmps28
  go_wp2
  go_loopw [3] (fun kv wr => ∃ k : Nat, k ≤ s.size ∧ kv = .int .i64 k ∧ Hid (k + blN (s.data.toList.drop k) = V) ∧ Below w.heap.size w wr) (fun kv _ => s.size - (intOf kv).toNat)
  case atStart => exact ⟨0, Nat.zero_le _, rfl, HV0, Below.refl _ _⟩
  case round =>
    clear HV0
    obtain ⟨k, hk, rfl, HK, hbel⟩ := hrel
    by_cases hlt : k < s.size
    · obtain ⟨x, hx⟩ : ∃ x, s[k] = x := ⟨_, rfl⟩
      have hxl := x.toNat_lt
      have cB := fun W => specBlank (x.toNat : Int) W
      rw [isBlZ_byte] at cB
      have hki : (k : Int) < (s.size : Int) := by omega
      by_cases hb : isBl x = true
      · have HN := Lib.hid (bl_step HK.out hlt (by rw [hx]; exact hb))
        rw [hb] at cB
        clear hb HK
        go_wp2_with (go_at_call 29; refine (cB _).mono ?_; rintro r w' ⟨rfl, rfl⟩)
        go_roundw
        case rel => exact ⟨k + 1, hlt, by go_num, HN, hbel⟩
        case measure => simp [intOf]; omega
      · have hb2 : isBl x = false := by simpa using hb
        have HE := Lib.hid (bl_end HK.out (fun _ => by rw [hx]; exact hb2))
        rw [hb2] at cB
        clear hb hb2 HK
        go_wp2_with (go_at_call 29; refine (cB _).mono ?_; rintro r w' ⟨rfl, rfl⟩)
        go_ret
        exact ⟨by rw [← HE.out]; rfl, hbel⟩
    · have hki : ¬ (k : Int) < (s.size : Int) := by omega
      have HE := Lib.hid (bl_end HK.out (fun h => absurd h hlt))
      clear HK
      go_wp2_with fail
      go_ret
      exact ⟨by rw [← HE.out]; rfl, hbel⟩

end Go.Proofs.YtlhdolcadlabpaaDoor
