/- impl.NatOk. Conditions: at most 1048576 bytes. -/
import Derived.Test.YthijeckcjfnbcaaGreatDoorSpecNatA
namespace Go.Proofs.YthijeckcjfnbcaaGreatDoor
set_option linter.unusedVariables false
open Go.RowKit
open Go.Lib (byteCells)

theorem one_zero {s : ByteArray} (h : s.size = 1) (h0 : s[0] = 48) : (s.toList == [48]) = true := by
  rw [ByteArray.toList_eq]
  have hl := size_list s
  have h1 : s.data.toList[0]'(by omega) = 48 := h0
  cases hd : s.data.toList with
  | nil => rw [hd] at hl; simp at hl; omega
  | cons b l =>
    cases l with
    | nil => simp [hd] at h1; rw [h1]; rfl
    | cons c l => rw [hd] at hl; simp at hl; omega
theorem more_zero {s : ByteArray} (h : 1 < s.size) : (s.toList == [48]) = false := by
  rw [ByteArray.toList_eq]
  refine beq_eq_false_iff_ne.2 fun e => ?_
  have hl := size_list s
  rw [e] at hl; simp at hl; omega

set_option maxHeartbeats 2000000 in
set_option maxRecDepth 100000 in
theorem implNatOk (s : ByteArray) (w : World) (hs : s.size ≤ 1048576) : Calls Tryz.prog 54 #[.string s] w (AnsB (NatS s) w) := by
  have hsl := Lib.hid (size_list s)
  by_cases h0 : s.size = 0
  · obtain rfl : s = ⟨#[]⟩ := ByteArray.ext (Array.eq_empty_of_size_eq_zero h0)
    go_enter Tryz.func54, Tryz.ntmps54
    go_wp2
    go_ret
    exact ⟨false, rfl, ⟨fun h => (by cases h), fun h => absurd rfl h.1.1⟩, Below.refl _ _⟩
  · have hte : s.toList.isEmpty = false := list_full s h0
    by_cases h1 : s.size ≤ 600
    · obtain ⟨x, hx⟩ : ∃ x, s[0] = x := ⟨_, rfl⟩
      have hhd := Lib.hid (head_at s (by omega))
      rw [hx] at hhd
      by_cases h2 : 1 < s.size ∧ x = 48
      · obtain ⟨h3, rfl⟩ := h2
        have hne := more_zero h3
        go_enter Tryz.func54, Tryz.ntmps54
        go_wp2
        go_ret
        refine ⟨false, rfl, ⟨fun h => (by cases h), fun h => ?_⟩, Below.refl _ _⟩
        rcases h.1.2 with h4 | h4
        · rw [hsl.out] at h4; omega
        · exact absurd hhd.out h4
      · have hcan : Hid (Canon s.data.toList) := by
          refine ⟨fun e => ?_, ?_⟩
          · have := hsl.out; rw [e] at this; simp at this; omega
          · by_cases h3 : 1 < s.size
            · right; rw [hhd.out]; intro e; exact h2 ⟨h3, Option.some.inj e⟩
            · left; rw [hsl.out]; omega
        have hx1 : ((x.toNat : Int) == 48) = false ∨ (((x.toNat : Int) == 48) = true ∧ (s.toList == [48]) = true) := by
          by_cases hx48 : x = 48
          · refine .inr ⟨by rw [hx48]; rfl, one_zero (by have : ¬ 1 < s.size := fun h => h2 ⟨h, hx48⟩; omega) (by rw [hx, hx48])⟩
          · exact .inl (beq_eq_false_iff_ne.2 (fun e => hx48 (UInt8.toNat_inj.1 (by show x.toNat = 48; omega))))
        clear hhd h2
        go_enter Tryz.func54, Tryz.ntmps54
        rcases hx1 with hx2 | ⟨hx2, hx3⟩
        all_goals
          go_wp2
          go_loopw [22] (fun i wr => ∃ k : Nat, k ≤ s.size ∧ i = .int .i64 k ∧ Digs (s.data.toList.take k) ∧ Below w.heap.size w wr) (fun i _ => s.size - (intOf i).toNat)
          case atStart => exact ⟨0, Nat.zero_le _, rfl, digs_nil, Below.refl _ _⟩
          case round =>
            obtain ⟨k, hk, rfl, hd, hbel⟩ := hrel
            have HD := Lib.hid hd
            clear hd
            by_cases hlt : k < s.size
            · obtain ⟨y, hy⟩ : ∃ y, s[k] = y := ⟨_, rfl⟩
              have hy1 := y.toNat_lt
              have HT : Hid (s.data.toList.take (k + 1) = s.data.toList.take k ++ [y]) := by
                show _ = _
                rw [List.take_succ_eq_append_getElem (by rw [hsl.out]; exact hlt), at_list s k hlt, hy]
              by_cases hdy : IsD y
              · have e1 : ¬ (y.toNat : Int) < 48 := by unfold IsD at hdy; omega
                have e2 : ¬ (57 : Int) < (y.toNat : Int) := by unfold IsD at hdy; omega
                have hdy' := Lib.hid hdy
                clear hdy
                go_wp2
                go_roundw
                case rel => exact ⟨k + 1, hlt, by go_num, by rw [HT.out]; exact HD.out.append (digs_one hdy'.out), hbel⟩
                case measure => simp [intOf]; omega
              · have hdy' := Lib.hid hdy
                have e1 : (y.toNat : Int) < 48 ∨ (¬ (y.toNat : Int) < 48 ∧ (57 : Int) < (y.toNat : Int)) := by unfold IsD at hdy; omega
                clear hdy
                rcases e1 with e1 | ⟨e1, e2⟩
                all_goals
                  go_wp2
                  go_ret
                  refine ⟨false, rfl, ⟨fun h => (by cases h), fun h => ?_⟩, hbel⟩
                  exact absurd (h.2.1 y (List.mem_of_mem_take (i := k + 1) (by rw [HT.out]; simp))) hdy'.out
            · have HA : Hid (s.data.toList.take k = s.data.toList) := List.take_of_length_le (by rw [hsl.out]; omega)
              go_wp2
              go_ret
              exact ⟨true, rfl, ⟨fun _ => ⟨hcan.out, by have := HD.out; rw [HA.out] at this; exact this, h1⟩, fun _ => rfl⟩, hbel⟩
    · have h1i : (600 : Int) < (s.size : Int) := by omega
      go_enter Tryz.func54, Tryz.ntmps54
      go_wp2
      go_ret
      exact ⟨false, rfl, ⟨fun h => (by cases h), fun h => absurd h.2.2 h1⟩, Below.refl _ _⟩

end Go.Proofs.YthijeckcjfnbcaaGreatDoor
