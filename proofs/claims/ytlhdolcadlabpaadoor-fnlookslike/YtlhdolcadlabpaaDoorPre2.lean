/- impl.numberEnd. Conditions: at most 1000 bytes. -/
import Derived.Test.YtlhdolcadlabpaaDoorPre1
import Derived.WalkMore
namespace Go.Proofs.YtlhdolcadlabpaaDoor
set_option linter.unusedVariables false
open Go.RowKit

set_option maxHeartbeats 4000000 in
set_option maxRecDepth 100000 in
theorem implNumEnd (s : ByteArray) (a V : Nat) (w : World) (hs : s.size ≤ 1000) (ha : a ≤ s.size) (hV : numE s.data.toList a = V) :
    Calls Tryd.prog 33 #[.string s, .int .i64 a] w fun r w' => r = .returned (.int .i64 V) ∧ Below w.heap.size w w' := by
  have HV0 : Hid (nE a 0 0 (s.data.toList.drop a) = V) := by show _ = _; rw [nE_num, hV]
  clear hV
  go_enter Tryd.func33, Tryd.ntmps33
  go_wp2
  go_step3
  go_wp2
  go_step3
  go_wp2
  go_loopw [5, 6, 7] (fun ev pv av wr => ∃ k en p : Nat, k ≤ s.size ∧ en ≤ s.size ∧ p ≤ 4 ∧ ev = .int .i64 en ∧ pv = .int .i64 p ∧ av = .int .i64 k ∧ Hid (nE k en p (s.data.toList.drop k) = V) ∧ Below w.heap.size w wr) (fun _ _ av _ => s.size - (intOf av).toNat)
  case atStart => exact ⟨a, 0, 0, ha, Nat.zero_le _, Nat.zero_le _, rfl, rfl, rfl, HV0, Below.refl _ _⟩
  case round =>
    clear HV0
    obtain ⟨k, en, p, hk, hen, hp4, rfl, rfl, rfl, HK, hbel⟩ := hrel
    have pcase : (p = 0 ∧ ((p : Int) == 0) = true) ∨ (p = 3 ∧ ((p : Int) == 0) = false ∧ ((p : Int) == 3) = true) ∨ (p ≠ 0 ∧ p ≠ 3 ∧ ((p : Int) == 0) = false ∧ ((p : Int) == 3) = false) := by
      by_cases h0 : p = 0
      · exact .inl ⟨h0, by rw [beq_iff_eq]; omega⟩
      · by_cases h3 : p = 3
        · exact .inr (.inl ⟨h3, by rw [beq_eq_false_iff_ne]; omega, by rw [beq_iff_eq]; omega⟩)
        · exact .inr (.inr ⟨h0, h3, by rw [beq_eq_false_iff_ne]; omega, by rw [beq_eq_false_iff_ne]; omega⟩)
    by_cases hlt : k < s.size
    · obtain ⟨x, hx⟩ : ∃ x, s[k] = x := ⟨_, rfl⟩
      have hxl := x.toNat_lt
      have hki : (k : Int) < (s.size : Int) := by omega
      by_cases h48 : x.toNat = 48
      · have e48 : ((x.toNat : Int) == 48) = true := by rw [beq_iff_eq]; omega
        have hD : isDig x = true := isDig_iff.2 (by unfold IsD; omega)
        have HN := Lib.hid (nE_dig hD k en p (s.data.toList.drop (k + 1)))
        rw [← hx, ← drop_at hlt] at HN
        clear hD
        rcases pcase with ⟨rfl, g1⟩ | ⟨rfl, g1, g2⟩ | ⟨hp0, hp3, g1, g2⟩
        · have HM : Hid (nE (k + 1) (k + 1) 1 (s.data.toList.drop (k + 1)) = V) := by show _ = _; rw [← HK.out, HN.out]; rfl
          clear HN HK
          go_wp2
          go_roundw
          case rel => exact ⟨k + 1, k + 1, 1, by omega, by omega, by omega, by first | rfl | go_num, by first | rfl | go_num, by first | rfl | go_num, HM, hbel⟩
          case measure => simp [intOf]; omega
        · have HM : Hid (nE (k + 1) (k + 1) 4 (s.data.toList.drop (k + 1)) = V) := by show _ = _; rw [← HK.out, HN.out]; rfl
          clear HN HK
          go_wp2
          go_roundw
          case rel => exact ⟨k + 1, k + 1, 4, by omega, by omega, by omega, by first | rfl | go_num, by first | rfl | go_num, by first | rfl | go_num, HM, hbel⟩
          case measure => simp [intOf]; omega
        · have HM : Hid (nE (k + 1) (k + 1) p (s.data.toList.drop (k + 1)) = V) := by show _ = _; rw [← HK.out, HN.out, if_neg (by omega)]
          clear HN HK
          go_wp2
          go_roundw
          case rel => exact ⟨k + 1, k + 1, p, by omega, by omega, by omega, by first | rfl | go_num, by first | rfl | go_num, by first | rfl | go_num, HM, hbel⟩
          case measure => simp [intOf]; omega
      by_cases h49 : x.toNat = 49
      · have e48 : ((x.toNat : Int) == 48) = false := by rw [beq_eq_false_iff_ne]; omega
        have e49 : ((x.toNat : Int) == 49) = true := by rw [beq_iff_eq]; omega
        have hD : isDig x = true := isDig_iff.2 (by unfold IsD; omega)
        have HN := Lib.hid (nE_dig hD k en p (s.data.toList.drop (k + 1)))
        rw [← hx, ← drop_at hlt] at HN
        clear hD
        rcases pcase with ⟨rfl, g1⟩ | ⟨rfl, g1, g2⟩ | ⟨hp0, hp3, g1, g2⟩
        · have HM : Hid (nE (k + 1) (k + 1) 1 (s.data.toList.drop (k + 1)) = V) := by show _ = _; rw [← HK.out, HN.out]; rfl
          clear HN HK
          go_wp2
          go_roundw
          case rel => exact ⟨k + 1, k + 1, 1, by omega, by omega, by omega, by first | rfl | go_num, by first | rfl | go_num, by first | rfl | go_num, HM, hbel⟩
          case measure => simp [intOf]; omega
        · have HM : Hid (nE (k + 1) (k + 1) 4 (s.data.toList.drop (k + 1)) = V) := by show _ = _; rw [← HK.out, HN.out]; rfl
          clear HN HK
          go_wp2
          go_roundw
          case rel => exact ⟨k + 1, k + 1, 4, by omega, by omega, by omega, by first | rfl | go_num, by first | rfl | go_num, by first | rfl | go_num, HM, hbel⟩
          case measure => simp [intOf]; omega
        · have HM : Hid (nE (k + 1) (k + 1) p (s.data.toList.drop (k + 1)) = V) := by show _ = _; rw [← HK.out, HN.out, if_neg (by omega)]
          clear HN HK
          go_wp2
          go_roundw
          case rel => exact ⟨k + 1, k + 1, p, by omega, by omega, by omega, by first | rfl | go_num, by first | rfl | go_num, by first | rfl | go_num, HM, hbel⟩
          case measure => simp [intOf]; omega
      by_cases h50 : x.toNat = 50
      · have e48 : ((x.toNat : Int) == 48) = false := by rw [beq_eq_false_iff_ne]; omega
        have e49 : ((x.toNat : Int) == 49) = false := by rw [beq_eq_false_iff_ne]; omega
        have e50 : ((x.toNat : Int) == 50) = true := by rw [beq_iff_eq]; omega
        have hD : isDig x = true := isDig_iff.2 (by unfold IsD; omega)
        have HN := Lib.hid (nE_dig hD k en p (s.data.toList.drop (k + 1)))
        rw [← hx, ← drop_at hlt] at HN
        clear hD
        rcases pcase with ⟨rfl, g1⟩ | ⟨rfl, g1, g2⟩ | ⟨hp0, hp3, g1, g2⟩
        · have HM : Hid (nE (k + 1) (k + 1) 1 (s.data.toList.drop (k + 1)) = V) := by show _ = _; rw [← HK.out, HN.out]; rfl
          clear HN HK
          go_wp2
          go_roundw
          case rel => exact ⟨k + 1, k + 1, 1, by omega, by omega, by omega, by first | rfl | go_num, by first | rfl | go_num, by first | rfl | go_num, HM, hbel⟩
          case measure => simp [intOf]; omega
        · have HM : Hid (nE (k + 1) (k + 1) 4 (s.data.toList.drop (k + 1)) = V) := by show _ = _; rw [← HK.out, HN.out]; rfl
          clear HN HK
          go_wp2
          go_roundw
          case rel => exact ⟨k + 1, k + 1, 4, by omega, by omega, by omega, by first | rfl | go_num, by first | rfl | go_num, by first | rfl | go_num, HM, hbel⟩
          case measure => simp [intOf]; omega
        · have HM : Hid (nE (k + 1) (k + 1) p (s.data.toList.drop (k + 1)) = V) := by show _ = _; rw [← HK.out, HN.out, if_neg (by omega)]
          clear HN HK
          go_wp2
          go_roundw
          case rel => exact ⟨k + 1, k + 1, p, by omega, by omega, by omega, by first | rfl | go_num, by first | rfl | go_num, by first | rfl | go_num, HM, hbel⟩
          case measure => simp [intOf]; omega
      by_cases h51 : x.toNat = 51
      · have e48 : ((x.toNat : Int) == 48) = false := by rw [beq_eq_false_iff_ne]; omega
        have e49 : ((x.toNat : Int) == 49) = false := by rw [beq_eq_false_iff_ne]; omega
        have e50 : ((x.toNat : Int) == 50) = false := by rw [beq_eq_false_iff_ne]; omega
        have e51 : ((x.toNat : Int) == 51) = true := by rw [beq_iff_eq]; omega
        have hD : isDig x = true := isDig_iff.2 (by unfold IsD; omega)
        have HN := Lib.hid (nE_dig hD k en p (s.data.toList.drop (k + 1)))
        rw [← hx, ← drop_at hlt] at HN
        clear hD
        rcases pcase with ⟨rfl, g1⟩ | ⟨rfl, g1, g2⟩ | ⟨hp0, hp3, g1, g2⟩
        · have HM : Hid (nE (k + 1) (k + 1) 1 (s.data.toList.drop (k + 1)) = V) := by show _ = _; rw [← HK.out, HN.out]; rfl
          clear HN HK
          go_wp2
          go_roundw
          case rel => exact ⟨k + 1, k + 1, 1, by omega, by omega, by omega, by first | rfl | go_num, by first | rfl | go_num, by first | rfl | go_num, HM, hbel⟩
          case measure => simp [intOf]; omega
        · have HM : Hid (nE (k + 1) (k + 1) 4 (s.data.toList.drop (k + 1)) = V) := by show _ = _; rw [← HK.out, HN.out]; rfl
          clear HN HK
          go_wp2
          go_roundw
          case rel => exact ⟨k + 1, k + 1, 4, by omega, by omega, by omega, by first | rfl | go_num, by first | rfl | go_num, by first | rfl | go_num, HM, hbel⟩
          case measure => simp [intOf]; omega
        · have HM : Hid (nE (k + 1) (k + 1) p (s.data.toList.drop (k + 1)) = V) := by show _ = _; rw [← HK.out, HN.out, if_neg (by omega)]
          clear HN HK
          go_wp2
          go_roundw
          case rel => exact ⟨k + 1, k + 1, p, by omega, by omega, by omega, by first | rfl | go_num, by first | rfl | go_num, by first | rfl | go_num, HM, hbel⟩
          case measure => simp [intOf]; omega
      by_cases h52 : x.toNat = 52
      · have e48 : ((x.toNat : Int) == 48) = false := by rw [beq_eq_false_iff_ne]; omega
        have e49 : ((x.toNat : Int) == 49) = false := by rw [beq_eq_false_iff_ne]; omega
        have e50 : ((x.toNat : Int) == 50) = false := by rw [beq_eq_false_iff_ne]; omega
        have e51 : ((x.toNat : Int) == 51) = false := by rw [beq_eq_false_iff_ne]; omega
        have e52 : ((x.toNat : Int) == 52) = true := by rw [beq_iff_eq]; omega
        have hD : isDig x = true := isDig_iff.2 (by unfold IsD; omega)
        have HN := Lib.hid (nE_dig hD k en p (s.data.toList.drop (k + 1)))
        rw [← hx, ← drop_at hlt] at HN
        clear hD
        rcases pcase with ⟨rfl, g1⟩ | ⟨rfl, g1, g2⟩ | ⟨hp0, hp3, g1, g2⟩
        · have HM : Hid (nE (k + 1) (k + 1) 1 (s.data.toList.drop (k + 1)) = V) := by show _ = _; rw [← HK.out, HN.out]; rfl
          clear HN HK
          go_wp2
          go_roundw
          case rel => exact ⟨k + 1, k + 1, 1, by omega, by omega, by omega, by first | rfl | go_num, by first | rfl | go_num, by first | rfl | go_num, HM, hbel⟩
          case measure => simp [intOf]; omega
        · have HM : Hid (nE (k + 1) (k + 1) 4 (s.data.toList.drop (k + 1)) = V) := by show _ = _; rw [← HK.out, HN.out]; rfl
          clear HN HK
          go_wp2
          go_roundw
          case rel => exact ⟨k + 1, k + 1, 4, by omega, by omega, by omega, by first | rfl | go_num, by first | rfl | go_num, by first | rfl | go_num, HM, hbel⟩
          case measure => simp [intOf]; omega
        · have HM : Hid (nE (k + 1) (k + 1) p (s.data.toList.drop (k + 1)) = V) := by show _ = _; rw [← HK.out, HN.out, if_neg (by omega)]
          clear HN HK
          go_wp2
          go_roundw
          case rel => exact ⟨k + 1, k + 1, p, by omega, by omega, by omega, by first | rfl | go_num, by first | rfl | go_num, by first | rfl | go_num, HM, hbel⟩
          case measure => simp [intOf]; omega
      by_cases h53 : x.toNat = 53
      · have e48 : ((x.toNat : Int) == 48) = false := by rw [beq_eq_false_iff_ne]; omega
        have e49 : ((x.toNat : Int) == 49) = false := by rw [beq_eq_false_iff_ne]; omega
        have e50 : ((x.toNat : Int) == 50) = false := by rw [beq_eq_false_iff_ne]; omega
        have e51 : ((x.toNat : Int) == 51) = false := by rw [beq_eq_false_iff_ne]; omega
        have e52 : ((x.toNat : Int) == 52) = false := by rw [beq_eq_false_iff_ne]; omega
        have e53 : ((x.toNat : Int) == 53) = true := by rw [beq_iff_eq]; omega
        have hD : isDig x = true := isDig_iff.2 (by unfold IsD; omega)
        have HN := Lib.hid (nE_dig hD k en p (s.data.toList.drop (k + 1)))
        rw [← hx, ← drop_at hlt] at HN
        clear hD
        rcases pcase with ⟨rfl, g1⟩ | ⟨rfl, g1, g2⟩ | ⟨hp0, hp3, g1, g2⟩
        · have HM : Hid (nE (k + 1) (k + 1) 1 (s.data.toList.drop (k + 1)) = V) := by show _ = _; rw [← HK.out, HN.out]; rfl
          clear HN HK
          go_wp2
          go_roundw
          case rel => exact ⟨k + 1, k + 1, 1, by omega, by omega, by omega, by first | rfl | go_num, by first | rfl | go_num, by first | rfl | go_num, HM, hbel⟩
          case measure => simp [intOf]; omega
        · have HM : Hid (nE (k + 1) (k + 1) 4 (s.data.toList.drop (k + 1)) = V) := by show _ = _; rw [← HK.out, HN.out]; rfl
          clear HN HK
          go_wp2
          go_roundw
          case rel => exact ⟨k + 1, k + 1, 4, by omega, by omega, by omega, by first | rfl | go_num, by first | rfl | go_num, by first | rfl | go_num, HM, hbel⟩
          case measure => simp [intOf]; omega
        · have HM : Hid (nE (k + 1) (k + 1) p (s.data.toList.drop (k + 1)) = V) := by show _ = _; rw [← HK.out, HN.out, if_neg (by omega)]
          clear HN HK
          go_wp2
          go_roundw
          case rel => exact ⟨k + 1, k + 1, p, by omega, by omega, by omega, by first | rfl | go_num, by first | rfl | go_num, by first | rfl | go_num, HM, hbel⟩
          case measure => simp [intOf]; omega
      by_cases h54 : x.toNat = 54
      · have e48 : ((x.toNat : Int) == 48) = false := by rw [beq_eq_false_iff_ne]; omega
        have e49 : ((x.toNat : Int) == 49) = false := by rw [beq_eq_false_iff_ne]; omega
        have e50 : ((x.toNat : Int) == 50) = false := by rw [beq_eq_false_iff_ne]; omega
        have e51 : ((x.toNat : Int) == 51) = false := by rw [beq_eq_false_iff_ne]; omega
        have e52 : ((x.toNat : Int) == 52) = false := by rw [beq_eq_false_iff_ne]; omega
        have e53 : ((x.toNat : Int) == 53) = false := by rw [beq_eq_false_iff_ne]; omega
        have e54 : ((x.toNat : Int) == 54) = true := by rw [beq_iff_eq]; omega
        have hD : isDig x = true := isDig_iff.2 (by unfold IsD; omega)
        have HN := Lib.hid (nE_dig hD k en p (s.data.toList.drop (k + 1)))
        rw [← hx, ← drop_at hlt] at HN
        clear hD
        rcases pcase with ⟨rfl, g1⟩ | ⟨rfl, g1, g2⟩ | ⟨hp0, hp3, g1, g2⟩
        · have HM : Hid (nE (k + 1) (k + 1) 1 (s.data.toList.drop (k + 1)) = V) := by show _ = _; rw [← HK.out, HN.out]; rfl
          clear HN HK
          go_wp2
          go_roundw
          case rel => exact ⟨k + 1, k + 1, 1, by omega, by omega, by omega, by first | rfl | go_num, by first | rfl | go_num, by first | rfl | go_num, HM, hbel⟩
          case measure => simp [intOf]; omega
        · have HM : Hid (nE (k + 1) (k + 1) 4 (s.data.toList.drop (k + 1)) = V) := by show _ = _; rw [← HK.out, HN.out]; rfl
          clear HN HK
          go_wp2
          go_roundw
          case rel => exact ⟨k + 1, k + 1, 4, by omega, by omega, by omega, by first | rfl | go_num, by first | rfl | go_num, by first | rfl | go_num, HM, hbel⟩
          case measure => simp [intOf]; omega
        · have HM : Hid (nE (k + 1) (k + 1) p (s.data.toList.drop (k + 1)) = V) := by show _ = _; rw [← HK.out, HN.out, if_neg (by omega)]
          clear HN HK
          go_wp2
          go_roundw
          case rel => exact ⟨k + 1, k + 1, p, by omega, by omega, by omega, by first | rfl | go_num, by first | rfl | go_num, by first | rfl | go_num, HM, hbel⟩
          case measure => simp [intOf]; omega
      by_cases h55 : x.toNat = 55
      · have e48 : ((x.toNat : Int) == 48) = false := by rw [beq_eq_false_iff_ne]; omega
        have e49 : ((x.toNat : Int) == 49) = false := by rw [beq_eq_false_iff_ne]; omega
        have e50 : ((x.toNat : Int) == 50) = false := by rw [beq_eq_false_iff_ne]; omega
        have e51 : ((x.toNat : Int) == 51) = false := by rw [beq_eq_false_iff_ne]; omega
        have e52 : ((x.toNat : Int) == 52) = false := by rw [beq_eq_false_iff_ne]; omega
        have e53 : ((x.toNat : Int) == 53) = false := by rw [beq_eq_false_iff_ne]; omega
        have e54 : ((x.toNat : Int) == 54) = false := by rw [beq_eq_false_iff_ne]; omega
        have e55 : ((x.toNat : Int) == 55) = true := by rw [beq_iff_eq]; omega
        have hD : isDig x = true := isDig_iff.2 (by unfold IsD; omega)
        have HN := Lib.hid (nE_dig hD k en p (s.data.toList.drop (k + 1)))
        rw [← hx, ← drop_at hlt] at HN
        clear hD
        rcases pcase with ⟨rfl, g1⟩ | ⟨rfl, g1, g2⟩ | ⟨hp0, hp3, g1, g2⟩
        · have HM : Hid (nE (k + 1) (k + 1) 1 (s.data.toList.drop (k + 1)) = V) := by show _ = _; rw [← HK.out, HN.out]; rfl
          clear HN HK
          go_wp2
          go_roundw
          case rel => exact ⟨k + 1, k + 1, 1, by omega, by omega, by omega, by first | rfl | go_num, by first | rfl | go_num, by first | rfl | go_num, HM, hbel⟩
          case measure => simp [intOf]; omega
        · have HM : Hid (nE (k + 1) (k + 1) 4 (s.data.toList.drop (k + 1)) = V) := by show _ = _; rw [← HK.out, HN.out]; rfl
          clear HN HK
          go_wp2
          go_roundw
          case rel => exact ⟨k + 1, k + 1, 4, by omega, by omega, by omega, by first | rfl | go_num, by first | rfl | go_num, by first | rfl | go_num, HM, hbel⟩
          case measure => simp [intOf]; omega
        · have HM : Hid (nE (k + 1) (k + 1) p (s.data.toList.drop (k + 1)) = V) := by show _ = _; rw [← HK.out, HN.out, if_neg (by omega)]
          clear HN HK
          go_wp2
          go_roundw
          case rel => exact ⟨k + 1, k + 1, p, by omega, by omega, by omega, by first | rfl | go_num, by first | rfl | go_num, by first | rfl | go_num, HM, hbel⟩
          case measure => simp [intOf]; omega
      by_cases h56 : x.toNat = 56
      · have e48 : ((x.toNat : Int) == 48) = false := by rw [beq_eq_false_iff_ne]; omega
        have e49 : ((x.toNat : Int) == 49) = false := by rw [beq_eq_false_iff_ne]; omega
        have e50 : ((x.toNat : Int) == 50) = false := by rw [beq_eq_false_iff_ne]; omega
        have e51 : ((x.toNat : Int) == 51) = false := by rw [beq_eq_false_iff_ne]; omega
        have e52 : ((x.toNat : Int) == 52) = false := by rw [beq_eq_false_iff_ne]; omega
        have e53 : ((x.toNat : Int) == 53) = false := by rw [beq_eq_false_iff_ne]; omega
        have e54 : ((x.toNat : Int) == 54) = false := by rw [beq_eq_false_iff_ne]; omega
        have e55 : ((x.toNat : Int) == 55) = false := by rw [beq_eq_false_iff_ne]; omega
        have e56 : ((x.toNat : Int) == 56) = true := by rw [beq_iff_eq]; omega
        have hD : isDig x = true := isDig_iff.2 (by unfold IsD; omega)
        have HN := Lib.hid (nE_dig hD k en p (s.data.toList.drop (k + 1)))
        rw [← hx, ← drop_at hlt] at HN
        clear hD
        rcases pcase with ⟨rfl, g1⟩ | ⟨rfl, g1, g2⟩ | ⟨hp0, hp3, g1, g2⟩
        · have HM : Hid (nE (k + 1) (k + 1) 1 (s.data.toList.drop (k + 1)) = V) := by show _ = _; rw [← HK.out, HN.out]; rfl
          clear HN HK
          go_wp2
          go_roundw
          case rel => exact ⟨k + 1, k + 1, 1, by omega, by omega, by omega, by first | rfl | go_num, by first | rfl | go_num, by first | rfl | go_num, HM, hbel⟩
          case measure => simp [intOf]; omega
        · have HM : Hid (nE (k + 1) (k + 1) 4 (s.data.toList.drop (k + 1)) = V) := by show _ = _; rw [← HK.out, HN.out]; rfl
          clear HN HK
          go_wp2
          go_roundw
          case rel => exact ⟨k + 1, k + 1, 4, by omega, by omega, by omega, by first | rfl | go_num, by first | rfl | go_num, by first | rfl | go_num, HM, hbel⟩
          case measure => simp [intOf]; omega
        · have HM : Hid (nE (k + 1) (k + 1) p (s.data.toList.drop (k + 1)) = V) := by show _ = _; rw [← HK.out, HN.out, if_neg (by omega)]
          clear HN HK
          go_wp2
          go_roundw
          case rel => exact ⟨k + 1, k + 1, p, by omega, by omega, by omega, by first | rfl | go_num, by first | rfl | go_num, by first | rfl | go_num, HM, hbel⟩
          case measure => simp [intOf]; omega
      by_cases h57 : x.toNat = 57
      · have e48 : ((x.toNat : Int) == 48) = false := by rw [beq_eq_false_iff_ne]; omega
        have e49 : ((x.toNat : Int) == 49) = false := by rw [beq_eq_false_iff_ne]; omega
        have e50 : ((x.toNat : Int) == 50) = false := by rw [beq_eq_false_iff_ne]; omega
        have e51 : ((x.toNat : Int) == 51) = false := by rw [beq_eq_false_iff_ne]; omega
        have e52 : ((x.toNat : Int) == 52) = false := by rw [beq_eq_false_iff_ne]; omega
        have e53 : ((x.toNat : Int) == 53) = false := by rw [beq_eq_false_iff_ne]; omega
        have e54 : ((x.toNat : Int) == 54) = false := by rw [beq_eq_false_iff_ne]; omega
        have e55 : ((x.toNat : Int) == 55) = false := by rw [beq_eq_false_iff_ne]; omega
        have e56 : ((x.toNat : Int) == 56) = false := by rw [beq_eq_false_iff_ne]; omega
        have e57 : ((x.toNat : Int) == 57) = true := by rw [beq_iff_eq]; omega
        have hD : isDig x = true := isDig_iff.2 (by unfold IsD; omega)
        have HN := Lib.hid (nE_dig hD k en p (s.data.toList.drop (k + 1)))
        rw [← hx, ← drop_at hlt] at HN
        clear hD
        rcases pcase with ⟨rfl, g1⟩ | ⟨rfl, g1, g2⟩ | ⟨hp0, hp3, g1, g2⟩
        · have HM : Hid (nE (k + 1) (k + 1) 1 (s.data.toList.drop (k + 1)) = V) := by show _ = _; rw [← HK.out, HN.out]; rfl
          clear HN HK
          go_wp2
          go_roundw
          case rel => exact ⟨k + 1, k + 1, 1, by omega, by omega, by omega, by first | rfl | go_num, by first | rfl | go_num, by first | rfl | go_num, HM, hbel⟩
          case measure => simp [intOf]; omega
        · have HM : Hid (nE (k + 1) (k + 1) 4 (s.data.toList.drop (k + 1)) = V) := by show _ = _; rw [← HK.out, HN.out]; rfl
          clear HN HK
          go_wp2
          go_roundw
          case rel => exact ⟨k + 1, k + 1, 4, by omega, by omega, by omega, by first | rfl | go_num, by first | rfl | go_num, by first | rfl | go_num, HM, hbel⟩
          case measure => simp [intOf]; omega
        · have HM : Hid (nE (k + 1) (k + 1) p (s.data.toList.drop (k + 1)) = V) := by show _ = _; rw [← HK.out, HN.out, if_neg (by omega)]
          clear HN HK
          go_wp2
          go_roundw
          case rel => exact ⟨k + 1, k + 1, p, by omega, by omega, by omega, by first | rfl | go_num, by first | rfl | go_num, by first | rfl | go_num, HM, hbel⟩
          case measure => simp [intOf]; omega
      by_cases h43 : x.toNat = 43
      · have e48 : ((x.toNat : Int) == 48) = false := by rw [beq_eq_false_iff_ne]; omega
        have e49 : ((x.toNat : Int) == 49) = false := by rw [beq_eq_false_iff_ne]; omega
        have e50 : ((x.toNat : Int) == 50) = false := by rw [beq_eq_false_iff_ne]; omega
        have e51 : ((x.toNat : Int) == 51) = false := by rw [beq_eq_false_iff_ne]; omega
        have e52 : ((x.toNat : Int) == 52) = false := by rw [beq_eq_false_iff_ne]; omega
        have e53 : ((x.toNat : Int) == 53) = false := by rw [beq_eq_false_iff_ne]; omega
        have e54 : ((x.toNat : Int) == 54) = false := by rw [beq_eq_false_iff_ne]; omega
        have e55 : ((x.toNat : Int) == 55) = false := by rw [beq_eq_false_iff_ne]; omega
        have e56 : ((x.toNat : Int) == 56) = false := by rw [beq_eq_false_iff_ne]; omega
        have e57 : ((x.toNat : Int) == 57) = false := by rw [beq_eq_false_iff_ne]; omega
        have e43 : ((x.toNat : Int) == 43) = true := by rw [beq_iff_eq]; omega
        have hS : x = 43 ∨ x = 45 := by first | exact .inl (UInt8.toNat_inj.1 (by show x.toNat = 43; omega)) | exact .inr (UInt8.toNat_inj.1 (by show x.toNat = 45; omega))
        have HN := Lib.hid (nE_sg hS k en p (s.data.toList.drop (k + 1)))
        rw [← hx, ← drop_at hlt] at HN
        clear hS
        rcases pcase with ⟨rfl, g1⟩ | ⟨rfl, g1, g2⟩ | ⟨hp0, hp3, g1, g2⟩
        · have HM : Hid (nE (k + 1) en 1 (s.data.toList.drop (k + 1)) = V) := by show _ = _; rw [← HK.out, HN.out]; rfl
          clear HN HK
          go_wp2
          go_roundw
          case rel => exact ⟨k + 1, en, 1, by omega, by omega, by omega, by first | rfl | go_num, by first | rfl | go_num, by first | rfl | go_num, HM, hbel⟩
          case measure => simp [intOf]; omega
        · have HM : Hid (nE (k + 1) en 4 (s.data.toList.drop (k + 1)) = V) := by show _ = _; rw [← HK.out, HN.out]; rfl
          clear HN HK
          go_wp2
          go_roundw
          case rel => exact ⟨k + 1, en, 4, by omega, by omega, by omega, by first | rfl | go_num, by first | rfl | go_num, by first | rfl | go_num, HM, hbel⟩
          case measure => simp [intOf]; omega
        · have HE : Hid (en = V) := by show _ = _; rw [← HK.out, HN.out, if_neg (by omega)]
          clear HN HK
          go_wp2
          (try rw [Exit.noGoto_ret])
          go_ret
          exact ⟨by rw [← HE.out]; rfl, hbel⟩
      by_cases h45 : x.toNat = 45
      · have e48 : ((x.toNat : Int) == 48) = false := by rw [beq_eq_false_iff_ne]; omega
        have e49 : ((x.toNat : Int) == 49) = false := by rw [beq_eq_false_iff_ne]; omega
        have e50 : ((x.toNat : Int) == 50) = false := by rw [beq_eq_false_iff_ne]; omega
        have e51 : ((x.toNat : Int) == 51) = false := by rw [beq_eq_false_iff_ne]; omega
        have e52 : ((x.toNat : Int) == 52) = false := by rw [beq_eq_false_iff_ne]; omega
        have e53 : ((x.toNat : Int) == 53) = false := by rw [beq_eq_false_iff_ne]; omega
        have e54 : ((x.toNat : Int) == 54) = false := by rw [beq_eq_false_iff_ne]; omega
        have e55 : ((x.toNat : Int) == 55) = false := by rw [beq_eq_false_iff_ne]; omega
        have e56 : ((x.toNat : Int) == 56) = false := by rw [beq_eq_false_iff_ne]; omega
        have e57 : ((x.toNat : Int) == 57) = false := by rw [beq_eq_false_iff_ne]; omega
        have e43 : ((x.toNat : Int) == 43) = false := by rw [beq_eq_false_iff_ne]; omega
        have e45 : ((x.toNat : Int) == 45) = true := by rw [beq_iff_eq]; omega
        have hS : x = 43 ∨ x = 45 := by first | exact .inl (UInt8.toNat_inj.1 (by show x.toNat = 43; omega)) | exact .inr (UInt8.toNat_inj.1 (by show x.toNat = 45; omega))
        have HN := Lib.hid (nE_sg hS k en p (s.data.toList.drop (k + 1)))
        rw [← hx, ← drop_at hlt] at HN
        clear hS
        rcases pcase with ⟨rfl, g1⟩ | ⟨rfl, g1, g2⟩ | ⟨hp0, hp3, g1, g2⟩
        · have HM : Hid (nE (k + 1) en 1 (s.data.toList.drop (k + 1)) = V) := by show _ = _; rw [← HK.out, HN.out]; rfl
          clear HN HK
          go_wp2
          go_roundw
          case rel => exact ⟨k + 1, en, 1, by omega, by omega, by omega, by first | rfl | go_num, by first | rfl | go_num, by first | rfl | go_num, HM, hbel⟩
          case measure => simp [intOf]; omega
        · have HM : Hid (nE (k + 1) en 4 (s.data.toList.drop (k + 1)) = V) := by show _ = _; rw [← HK.out, HN.out]; rfl
          clear HN HK
          go_wp2
          go_roundw
          case rel => exact ⟨k + 1, en, 4, by omega, by omega, by omega, by first | rfl | go_num, by first | rfl | go_num, by first | rfl | go_num, HM, hbel⟩
          case measure => simp [intOf]; omega
        · have HE : Hid (en = V) := by show _ = _; rw [← HK.out, HN.out, if_neg (by omega)]
          clear HN HK
          go_wp2
          (try rw [Exit.noGoto_ret])
          go_ret
          exact ⟨by rw [← HE.out]; rfl, hbel⟩
      by_cases h46 : x.toNat = 46
      · have e48 : ((x.toNat : Int) == 48) = false := by rw [beq_eq_false_iff_ne]; omega
        have e49 : ((x.toNat : Int) == 49) = false := by rw [beq_eq_false_iff_ne]; omega
        have e50 : ((x.toNat : Int) == 50) = false := by rw [beq_eq_false_iff_ne]; omega
        have e51 : ((x.toNat : Int) == 51) = false := by rw [beq_eq_false_iff_ne]; omega
        have e52 : ((x.toNat : Int) == 52) = false := by rw [beq_eq_false_iff_ne]; omega
        have e53 : ((x.toNat : Int) == 53) = false := by rw [beq_eq_false_iff_ne]; omega
        have e54 : ((x.toNat : Int) == 54) = false := by rw [beq_eq_false_iff_ne]; omega
        have e55 : ((x.toNat : Int) == 55) = false := by rw [beq_eq_false_iff_ne]; omega
        have e56 : ((x.toNat : Int) == 56) = false := by rw [beq_eq_false_iff_ne]; omega
        have e57 : ((x.toNat : Int) == 57) = false := by rw [beq_eq_false_iff_ne]; omega
        have e43 : ((x.toNat : Int) == 43) = false := by rw [beq_eq_false_iff_ne]; omega
        have e45 : ((x.toNat : Int) == 45) = false := by rw [beq_eq_false_iff_ne]; omega
        have e46 : ((x.toNat : Int) == 46) = true := by rw [beq_iff_eq]; omega
        have HN := Lib.hid (nE_dot k en p (s.data.toList.drop (k + 1)))
        rw [show (46 : UInt8) = x from UInt8.toNat_inj.1 (by show 46 = x.toNat; omega), ← hx, ← drop_at hlt] at HN
        by_cases hp1 : 1 < p
        · have HE : Hid (en = V) := by show _ = _; rw [← HK.out, HN.out, if_pos hp1]
          have hpi : (1 : Int) < (p : Int) := by omega
          clear HN HK
          rcases pcase with ⟨rfl, g1⟩ | ⟨rfl, g1, g2⟩ | ⟨hp0, hp3, g1, g2⟩
          all_goals
            first | (exfalso; omega) | skip
          all_goals
            go_wp2
            (try rw [Exit.noGoto_ret])
            go_ret
            exact ⟨by rw [← HE.out]; rfl, hbel⟩
        · have hpi : ¬ (1 : Int) < (p : Int) := by omega
          by_cases he : 0 < en
          · have HM : Hid (nE (k + 1) (k + 1) 2 (s.data.toList.drop (k + 1)) = V) := by show _ = _; rw [← HK.out, HN.out, if_neg hp1, if_pos he]
            have hei : (0 : Int) < (en : Int) := by omega
            clear HN HK
            rcases pcase with ⟨rfl, g1⟩ | ⟨rfl, g1, g2⟩ | ⟨hp0, hp3, g1, g2⟩
            all_goals
              first | (exfalso; omega) | skip
            all_goals
              go_wp2
              go_roundw
              case rel => exact ⟨k + 1, k + 1, 2, by omega, by omega, by omega, by first | rfl | go_num, by first | rfl | go_num, by first | rfl | go_num, HM, hbel⟩
              case measure => simp [intOf]; omega
          · have HM : Hid (nE (k + 1) en 2 (s.data.toList.drop (k + 1)) = V) := by show _ = _; rw [← HK.out, HN.out, if_neg hp1, if_neg he]
            have hei : ¬ (0 : Int) < (en : Int) := by omega
            clear HN HK
            rcases pcase with ⟨rfl, g1⟩ | ⟨rfl, g1, g2⟩ | ⟨hp0, hp3, g1, g2⟩
            all_goals
              first | (exfalso; omega) | skip
            all_goals
              go_wp2
              go_roundw
              case rel => exact ⟨k + 1, en, 2, by omega, by omega, by omega, by first | rfl | go_num, by first | rfl | go_num, by first | rfl | go_num, HM, hbel⟩
              case measure => simp [intOf]; omega
      by_cases h101 : x.toNat = 101
      · have e48 : ((x.toNat : Int) == 48) = false := by rw [beq_eq_false_iff_ne]; omega
        have e49 : ((x.toNat : Int) == 49) = false := by rw [beq_eq_false_iff_ne]; omega
        have e50 : ((x.toNat : Int) == 50) = false := by rw [beq_eq_false_iff_ne]; omega
        have e51 : ((x.toNat : Int) == 51) = false := by rw [beq_eq_false_iff_ne]; omega
        have e52 : ((x.toNat : Int) == 52) = false := by rw [beq_eq_false_iff_ne]; omega
        have e53 : ((x.toNat : Int) == 53) = false := by rw [beq_eq_false_iff_ne]; omega
        have e54 : ((x.toNat : Int) == 54) = false := by rw [beq_eq_false_iff_ne]; omega
        have e55 : ((x.toNat : Int) == 55) = false := by rw [beq_eq_false_iff_ne]; omega
        have e56 : ((x.toNat : Int) == 56) = false := by rw [beq_eq_false_iff_ne]; omega
        have e57 : ((x.toNat : Int) == 57) = false := by rw [beq_eq_false_iff_ne]; omega
        have e43 : ((x.toNat : Int) == 43) = false := by rw [beq_eq_false_iff_ne]; omega
        have e45 : ((x.toNat : Int) == 45) = false := by rw [beq_eq_false_iff_ne]; omega
        have e46 : ((x.toNat : Int) == 46) = false := by rw [beq_eq_false_iff_ne]; omega
        have e101 : ((x.toNat : Int) == 101) = true := by rw [beq_iff_eq]; omega
        have hS : x = 101 ∨ x = 69 := by first | exact .inl (UInt8.toNat_inj.1 (by show x.toNat = 101; omega)) | exact .inr (UInt8.toNat_inj.1 (by show x.toNat = 69; omega))
        have HN := Lib.hid (nE_e hS k en p (s.data.toList.drop (k + 1)))
        rw [← hx, ← drop_at hlt] at HN
        clear hS
        by_cases he : en = 0
        · have HE : Hid (en = V) := by show _ = _; rw [← HK.out, HN.out, if_pos (.inl he)]
          have hei : ((en : Int) == 0) = true := by rw [beq_iff_eq]; omega
          clear HN HK he
          rcases pcase with ⟨rfl, g1⟩ | ⟨rfl, g1, g2⟩ | ⟨hp0, hp3, g1, g2⟩
          all_goals
            go_wp2
            (try rw [Exit.noGoto_ret])
            go_ret
            exact ⟨by rw [← HE.out]; rfl, hbel⟩
        · have hei : ((en : Int) == 0) = false := by rw [beq_eq_false_iff_ne]; omega
          by_cases hp2 : 2 < p
          · have HE : Hid (en = V) := by show _ = _; rw [← HK.out, HN.out, if_pos (.inr hp2)]
            have hpi : (2 : Int) < (p : Int) := by omega
            clear HN HK
            rcases pcase with ⟨rfl, g1⟩ | ⟨rfl, g1, g2⟩ | ⟨hp0, hp3, g1, g2⟩
            all_goals
              first | (exfalso; omega) | skip
            all_goals
              go_wp2
              (try rw [Exit.noGoto_ret])
              go_ret
              exact ⟨by rw [← HE.out]; rfl, hbel⟩
          · have HM : Hid (nE (k + 1) en 3 (s.data.toList.drop (k + 1)) = V) := by show _ = _; rw [← HK.out, HN.out, if_neg (by omega)]
            have hpi : ¬ (2 : Int) < (p : Int) := by omega
            clear HN HK
            rcases pcase with ⟨rfl, g1⟩ | ⟨rfl, g1, g2⟩ | ⟨hp0, hp3, g1, g2⟩
            all_goals
              first | (exfalso; omega) | skip
            all_goals
              go_wp2
              go_roundw
              case rel => exact ⟨k + 1, en, 3, by omega, by omega, by omega, by first | rfl | go_num, by first | rfl | go_num, by first | rfl | go_num, HM, hbel⟩
              case measure => simp [intOf]; omega
      by_cases h69 : x.toNat = 69
      · have e48 : ((x.toNat : Int) == 48) = false := by rw [beq_eq_false_iff_ne]; omega
        have e49 : ((x.toNat : Int) == 49) = false := by rw [beq_eq_false_iff_ne]; omega
        have e50 : ((x.toNat : Int) == 50) = false := by rw [beq_eq_false_iff_ne]; omega
        have e51 : ((x.toNat : Int) == 51) = false := by rw [beq_eq_false_iff_ne]; omega
        have e52 : ((x.toNat : Int) == 52) = false := by rw [beq_eq_false_iff_ne]; omega
        have e53 : ((x.toNat : Int) == 53) = false := by rw [beq_eq_false_iff_ne]; omega
        have e54 : ((x.toNat : Int) == 54) = false := by rw [beq_eq_false_iff_ne]; omega
        have e55 : ((x.toNat : Int) == 55) = false := by rw [beq_eq_false_iff_ne]; omega
        have e56 : ((x.toNat : Int) == 56) = false := by rw [beq_eq_false_iff_ne]; omega
        have e57 : ((x.toNat : Int) == 57) = false := by rw [beq_eq_false_iff_ne]; omega
        have e43 : ((x.toNat : Int) == 43) = false := by rw [beq_eq_false_iff_ne]; omega
        have e45 : ((x.toNat : Int) == 45) = false := by rw [beq_eq_false_iff_ne]; omega
        have e46 : ((x.toNat : Int) == 46) = false := by rw [beq_eq_false_iff_ne]; omega
        have e101 : ((x.toNat : Int) == 101) = false := by rw [beq_eq_false_iff_ne]; omega
        have e69 : ((x.toNat : Int) == 69) = true := by rw [beq_iff_eq]; omega
        have hS : x = 101 ∨ x = 69 := by first | exact .inl (UInt8.toNat_inj.1 (by show x.toNat = 101; omega)) | exact .inr (UInt8.toNat_inj.1 (by show x.toNat = 69; omega))
        have HN := Lib.hid (nE_e hS k en p (s.data.toList.drop (k + 1)))
        rw [← hx, ← drop_at hlt] at HN
        clear hS
        by_cases he : en = 0
        · have HE : Hid (en = V) := by show _ = _; rw [← HK.out, HN.out, if_pos (.inl he)]
          have hei : ((en : Int) == 0) = true := by rw [beq_iff_eq]; omega
          clear HN HK he
          rcases pcase with ⟨rfl, g1⟩ | ⟨rfl, g1, g2⟩ | ⟨hp0, hp3, g1, g2⟩
          all_goals
            go_wp2
            (try rw [Exit.noGoto_ret])
            go_ret
            exact ⟨by rw [← HE.out]; rfl, hbel⟩
        · have hei : ((en : Int) == 0) = false := by rw [beq_eq_false_iff_ne]; omega
          by_cases hp2 : 2 < p
          · have HE : Hid (en = V) := by show _ = _; rw [← HK.out, HN.out, if_pos (.inr hp2)]
            have hpi : (2 : Int) < (p : Int) := by omega
            clear HN HK
            rcases pcase with ⟨rfl, g1⟩ | ⟨rfl, g1, g2⟩ | ⟨hp0, hp3, g1, g2⟩
            all_goals
              first | (exfalso; omega) | skip
            all_goals
              go_wp2
              (try rw [Exit.noGoto_ret])
              go_ret
              exact ⟨by rw [← HE.out]; rfl, hbel⟩
          · have HM : Hid (nE (k + 1) en 3 (s.data.toList.drop (k + 1)) = V) := by show _ = _; rw [← HK.out, HN.out, if_neg (by omega)]
            have hpi : ¬ (2 : Int) < (p : Int) := by omega
            clear HN HK
            rcases pcase with ⟨rfl, g1⟩ | ⟨rfl, g1, g2⟩ | ⟨hp0, hp3, g1, g2⟩
            all_goals
              first | (exfalso; omega) | skip
            all_goals
              go_wp2
              go_roundw
              case rel => exact ⟨k + 1, en, 3, by omega, by omega, by omega, by first | rfl | go_num, by first | rfl | go_num, by first | rfl | go_num, HM, hbel⟩
              case measure => simp [intOf]; omega
      have hno : x.toNat ≠ 43 ∧ x.toNat ≠ 45 ∧ x.toNat ≠ 46 ∧ x.toNat ≠ 101 ∧ x.toNat ≠ 69 := ⟨h43, h45, h46, h101, h69⟩
      have e48 : ((x.toNat : Int) == 48) = false := by rw [beq_eq_false_iff_ne]; omega
      have e49 : ((x.toNat : Int) == 49) = false := by rw [beq_eq_false_iff_ne]; omega
      have e50 : ((x.toNat : Int) == 50) = false := by rw [beq_eq_false_iff_ne]; omega
      have e51 : ((x.toNat : Int) == 51) = false := by rw [beq_eq_false_iff_ne]; omega
      have e52 : ((x.toNat : Int) == 52) = false := by rw [beq_eq_false_iff_ne]; omega
      have e53 : ((x.toNat : Int) == 53) = false := by rw [beq_eq_false_iff_ne]; omega
      have e54 : ((x.toNat : Int) == 54) = false := by rw [beq_eq_false_iff_ne]; omega
      have e55 : ((x.toNat : Int) == 55) = false := by rw [beq_eq_false_iff_ne]; omega
      have e56 : ((x.toNat : Int) == 56) = false := by rw [beq_eq_false_iff_ne]; omega
      have e57 : ((x.toNat : Int) == 57) = false := by rw [beq_eq_false_iff_ne]; omega
      have e43 : ((x.toNat : Int) == 43) = false := by rw [beq_eq_false_iff_ne]; omega
      have e45 : ((x.toNat : Int) == 45) = false := by rw [beq_eq_false_iff_ne]; omega
      have e46 : ((x.toNat : Int) == 46) = false := by rw [beq_eq_false_iff_ne]; omega
      have e101 : ((x.toNat : Int) == 101) = false := by rw [beq_eq_false_iff_ne]; omega
      have e69 : ((x.toNat : Int) == 69) = false := by rw [beq_eq_false_iff_ne]; omega
      have HE : Hid (en = V) := by
        show _ = _
        rw [← HK.out, drop_at hlt, hx, nE_no (by cases hq : isDig x with | false => rfl | true => exact absurd (isDig_iff.1 hq) (by unfold IsD; omega)) (by rintro (h | h) <;> rw [h] at hno <;> revert hno <;> decide) (by intro h; rw [h] at hno; revert hno; decide) (by rintro (h | h) <;> rw [h] at hno <;> revert hno <;> decide)]
      clear HK hno
      rcases pcase with ⟨rfl, g1⟩ | ⟨rfl, g1, g2⟩ | ⟨hp0, hp3, g1, g2⟩
      all_goals
        go_wp2
        (try rw [Exit.noGoto_ret])
        go_ret
        exact ⟨by rw [← HE.out]; rfl, hbel⟩
    · have hki : ¬ (k : Int) < (s.size : Int) := by omega
      have HE : Hid (en = V) := by show _ = _; rw [← HK.out, drop_end hlt, nE_nil]
      clear HK pcase
      go_wp2
      (try rw [Exit.noGoto_ret])
      go_ret
      exact ⟨by rw [← HE.out]; rfl, hbel⟩

end Go.Proofs.YtlhdolcadlabpaaDoor
