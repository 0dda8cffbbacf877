/- spec.l03Scan from a place where a plus stands. Conditions: at most 1000 bytes; what is left there is given by its parts. -/
import Derived.Test.YtlhdolcadlabpaaDoorPre1
namespace Go.Proofs.YtlhdolcadlabpaaDoor
set_option linter.unusedVariables false
open Go.RowKit

set_option maxHeartbeats 4000000 in
set_option maxRecDepth 100000 in
theorem specScanA (s : ByteArray) (a V : Nat) (x0 : UInt8) (W F r1 r2 : List UInt8) (w : World) (hs : s.size ≤ 1000) (h1 : a < s.size) (hx0 : s[a] = x0) (a1 : ((x0.toNat : Int) == 43) = true)
    (HST : Hid (Way s.data.toList W F r1 r2 (a + 1) 0 false)) (HSN : Hid (V = if W = [] ∧ F = [] then a else scanE s.size (s.size - r2.length) r2)) (HFR : Hid (frac r1 = (F, r2))) :
    Calls Tryd.prog 31 #[.string s, .int .i64 a] w fun r w' => r = .returned (.int .i64 V) ∧ Below w.heap.size w w' := by
  have hpi : (a : Int) < (s.size : Int) := by omega
  have p0 : pVal false = 0 := rfl
  have p1 : pVal true = 1 := rfl
  go_enter Tryd.func31, Tryd.ntmps31
  go_wp2
  clear a1
  (try clear a2)
  go_loopw [5, 6, 7] (fun kv dv pv wr => ScanRel w s W F r1 r2 kv dv pv wr) (fun kv _ _ _ => s.size - (intOf kv).toNat)
  case atStart => exact ⟨a + 1, 0, false, by omega, Nat.zero_le _, by first | rfl | go_num, rfl, rfl, HST.out, Below.refl _ _⟩
  case round =>
    clear HST hx0
    obtain ⟨k, d, q, hk, hdk, rfl, rfl, rfl, hway, hbel⟩ := hrel
    by_cases hlt : k < s.size
    · obtain ⟨x, hx⟩ : ∃ x, s[k] = x := ⟨_, rfl⟩
      have hxl := x.toNat_lt
      by_cases hD : isDig x = true
      · have HWY := Lib.hid (way_digit hway hlt (by rw [hx]; exact hD))
        have e46 : ((x.toNat : Int) == 46) = false := by rw [beq_eq_false_iff_ne]; have := isDig_iff.1 hD; unfold IsD at this; omega
        clear hway
        go_wp2_with (go_at_call 45; refine (specDigB _ _).mono ?_; rintro r w' ⟨rfl, rfl⟩)
        go_roundw
        case rel => exact ⟨k + 1, d + 1, q, hlt, by omega, by go_num, by go_num, rfl, HWY.out, hbel⟩
        case measure => simp [intOf]; omega
      · have hD2 : isDig x = false := by simpa using hD
        clear hD
        by_cases h46 : x.toNat = 46 ∧ q = false
        · obtain ⟨h46, rfl⟩ := h46
          have HWY := Lib.hid (way_dot hway hlt (by rw [hx]; exact UInt8.toNat_inj.1 h46) HFR.out)
          have e46 : ((x.toNat : Int) == 46) = true := by rw [beq_iff_eq]; omega
          clear hway h46
          go_wp2_with (go_at_call 45; refine (specDigB _ _).mono ?_; rintro r w' ⟨rfl, rfl⟩)
          go_roundw
          case rel => exact ⟨k + 1, d, true, hlt, by omega, by go_num, rfl, by first | rfl | go_num, HWY.out, hbel⟩
          case measure => simp [intOf]; omega
        · have e46 : ((x.toNat : Int) == 46) = false ∨ (((x.toNat : Int) == 46) = true ∧ q = true) := by
            by_cases g : x.toNat = 46
            · refine .inr ⟨by rw [beq_iff_eq]; omega, ?_⟩
              cases q
              · exact absurd ⟨g, rfl⟩ h46
              · rfl
            · exact .inl (by rw [beq_eq_false_iff_ne]; omega)
          obtain ⟨g1, g2⟩ := way_end hway HFR.out (fun hk => by
            rw [hx]
            refine ⟨hD2, fun hq h => h46 ⟨by rw [h]; rfl, hq⟩⟩)
          have HR2 := Lib.hid g2
          have hkL : k = s.size - r2.length := by rw [← g2, List.length_drop, size_list]; omega
          have HS0 : Hid (V = if d = 0 then a else scanE s.size k r2) := by
            show _ = _
            rw [HSN.out]
            by_cases hd0 : d = 0
            · rw [if_pos hd0, if_pos ⟨List.eq_nil_of_length_eq_zero (by omega), List.eq_nil_of_length_eq_zero (by omega)⟩]
            · rw [if_neg hd0, if_neg (fun h => by rw [h.1, h.2] at g1; simp at g1; omega), ← hkL]
          clear g1 g2 hkL hway
          clear h46
          rcases e46 with e46 | ⟨e46, rfl⟩
          all_goals
            by_cases hd0 : d = 0
            · have HV : Hid (V = a) := by show _ = _; rw [HS0.out, if_pos hd0]
              subst hd0
              go_wp2_with (go_at_call 45; refine (specDigB _ _).mono ?_; rintro r w' ⟨rfl, rfl⟩)
              go_ret
              exact ⟨by rw [HV.out]; rfl, hbel⟩
            · have hdb : ((d : Int) == 0) = false := by rw [beq_eq_false_iff_ne]; omega
              by_cases hE : x.toNat = 101 ∨ x.toNat = 69
              · have hex : x = 101 ∨ x = 69 := by rcases hE with h | h; exact .inl (UInt8.toNat_inj.1 h); exact .inr (UInt8.toNat_inj.1 h)
                have HSC0 : Hid (V = if tW (cutR (s.data.toList.drop (k + 1))).2 = [] then k else s.size - (dW (cutR (s.data.toList.drop (k + 1))).2).length) := by
                  show _ = _
                  rw [HS0.out, if_neg hd0, ← HR2.out, drop_at hlt, hx]
                  show (if x = 101 ∨ x = 69 then _ else _) = _
                  rw [if_pos hex]
                have e1 : ((x.toNat : Int) == 101) = true ∨ (((x.toNat : Int) == 101) = false ∧ ((x.toNat : Int) == 69) = true) := by
                  rcases hE with h | h
                  · exact .inl (by rw [beq_iff_eq]; omega)
                  · exact .inr ⟨by rw [beq_eq_false_iff_ne]; omega, by rw [beq_iff_eq]; omega⟩
                clear HS0 hE hex HR2
                by_cases hn : k + 1 < s.size
                · obtain ⟨y, hy⟩ : ∃ y, s[k + 1] = y := ⟨_, rfl⟩
                  have hni : (k : Int) + 1 < (s.size : Int) := by omega
                  by_cases hsg : y.toNat = 43 ∨ y.toNat = 45
                  · have hys : y = 43 ∨ y = 45 := by rcases hsg with h | h; exact .inl (UInt8.toNat_inj.1 h); exact .inr (UInt8.toNat_inj.1 h)
                    obtain ⟨t0, ht0⟩ : ∃ t0, (cutR (s.data.toList.drop (k + 1))).2 = t0 := ⟨_, rfl⟩
                    have HT0 : Hid (s.data.toList.drop (k + 2) = t0) := by show _ = _; rw [← ht0, drop_at hn, hy, cutR_cons, if_pos hys]
                    have HSC : Hid (V = if tW t0 = [] then k else s.size - (dW t0).length) := by show _ = _; rw [HSC0.out, ht0]
                    obtain ⟨k2, hk2e⟩ : ∃ k2, k + 2 = k2 := ⟨_, rfl⟩
                    rw [hk2e] at HT0
                    have hk2 : k2 ≤ s.size := by omega
                    have hk2i : (k : Int) + 1 + 1 = (k2 : Int) := by omega
                    have e5 : ((y.toNat : Int) == 43) = true ∨ (((y.toNat : Int) == 43) = false ∧ ((y.toNat : Int) == 45) = true) := by
                      rcases hsg with h | h
                      · exact .inl (by rw [beq_iff_eq]; omega)
                      · exact .inr ⟨by rw [beq_eq_false_iff_ne]; omega, by rw [beq_iff_eq]; omega⟩
                    clear HSC0 hsg hys ht0 hk2e
                    rcases e1 with e1 | ⟨e1, e3⟩
                    all_goals
                      rcases e5 with e5 | ⟨e5, e6⟩
                      all_goals
                        go_wp2_with (go_at_call 45; refine (specDigB _ _).mono ?_; rintro r w' ⟨rfl, rfl⟩)
                        go_loopw [5] (fun kv wr => ∃ j : Nat, k2 ≤ j ∧ j ≤ s.size ∧ kv = .int .i64 j ∧ (tW t0).length = (j - k2) + (tW (s.data.toList.drop j)).length ∧ dW (s.data.toList.drop j) = dW t0 ∧ Below w.heap.size w wr) (fun kv _ => s.size - (intOf kv).toNat)
                        case atStart => exact ⟨k2, Nat.le_refl _, hk2, by first | rfl | (rw [hk2i]) | go_num, by rw [HT0.out]; simp, by rw [HT0.out], hbel⟩
                        case round =>
                          clear hbel
                          obtain ⟨j, hj1, hj2, rfl, hj3, hj4, hbel⟩ := hrel
                          have fin : ¬ j < s.size ∨ (∃ h : j < s.size, isDig s[j] = false) → (tW t0).length = j - k2 ∧ j = s.size - (dW t0).length := fun h => by
                            have hj5 : tW (s.data.toList.drop j) = [] ∧ dW (s.data.toList.drop j) = s.data.toList.drop j := by
                              rcases h with h | ⟨h, g⟩
                              · rw [drop_end h]; exact ⟨rfl, rfl⟩
                              · rw [drop_at h]; exact tW_stop g
                            rw [hj5.1] at hj3
                            rw [hj5.2] at hj4
                            refine ⟨by simpa using hj3, ?_⟩
                            rw [← hj4, List.length_drop, size_list]; omega
                          have HF := Lib.hid fin
                          clear fin
                          by_cases hjl : j < s.size
                          · obtain ⟨y, hy⟩ : ∃ y, s[j] = y := ⟨_, rfl⟩
                            by_cases hdy : isDig y = true
                            · have HJ : Hid ((tW t0).length = (j + 1 - k2) + (tW (s.data.toList.drop (j + 1))).length ∧ dW (s.data.toList.drop (j + 1)) = dW t0) := by
                                have e := drop_at hjl
                                obtain ⟨t1, t2⟩ := tW_cons (l := s.data.toList.drop (j + 1)) (show isDig s[j] = true by rw [hy]; exact hdy)
                                rw [e, t1, List.length_cons] at hj3
                                rw [e, t2] at hj4
                                exact ⟨by omega, hj4⟩
                              clear hj3 hj4 HF
                              go_wp2_with (go_at_call 45; refine (specDigB _ _).mono ?_; rintro r w' ⟨rfl, rfl⟩)
                              go_roundw
                              case rel => exact ⟨j + 1, by omega, hjl, by go_num, HJ.out.1, HJ.out.2, hbel⟩
                              case measure => simp [intOf]; omega
                            · have hdy2 : isDig y = false := by simpa using hdy
                              obtain ⟨f1, f2⟩ := HF.out (.inr ⟨hjl, by rw [hy]; exact hdy2⟩)
                              clear hj3 hj4 HF hdy
                              by_cases hgt : k2 < j
                              · have HV : Hid (V = j) := by show _ = _; rw [HSC.out, if_neg (fun h => by rw [h] at f1; simp at f1; omega)]; exact f2.symm
                                have hgi : (k2 : Int) < (j : Int) := by omega
                                clear HSC f1 f2
                                go_wp2_with (go_at_call 45; refine (specDigB _ _).mono ?_; rintro r w' ⟨rfl, rfl⟩)
                                go_ret
                                exact ⟨by rw [HV.out]; rfl, hbel⟩
                              · have HV : Hid (V = k) := by show _ = _; rw [HSC.out, if_pos (List.eq_nil_of_length_eq_zero (by omega))]
                                have hgi : ¬ (k2 : Int) < (j : Int) := by omega
                                clear HSC f1 f2
                                go_wp2_with (go_at_call 45; refine (specDigB _ _).mono ?_; rintro r w' ⟨rfl, rfl⟩)
                                go_ret
                                exact ⟨by rw [HV.out]; rfl, hbel⟩
                          · obtain ⟨f1, f2⟩ := HF.out (.inl hjl)
                            clear hj3 hj4 HF
                            by_cases hgt : k2 < j
                            · have HV : Hid (V = j) := by show _ = _; rw [HSC.out, if_neg (fun h => by rw [h] at f1; simp at f1; omega)]; exact f2.symm
                              have hgi : (k2 : Int) < (j : Int) := by omega
                              clear HSC f1 f2
                              go_wp2_with (go_at_call 45; refine (specDigB _ _).mono ?_; rintro r w' ⟨rfl, rfl⟩)
                              go_ret
                              exact ⟨by rw [HV.out]; rfl, hbel⟩
                            · have HV : Hid (V = k) := by show _ = _; rw [HSC.out, if_pos (List.eq_nil_of_length_eq_zero (by omega))]
                              have hgi : ¬ (k2 : Int) < (j : Int) := by omega
                              clear HSC f1 f2
                              go_wp2_with (go_at_call 45; refine (specDigB _ _).mono ?_; rintro r w' ⟨rfl, rfl⟩)
                              go_ret
                              exact ⟨by rw [HV.out]; rfl, hbel⟩
                  · have hys : ¬ (y = 43 ∨ y = 45) := by rintro (h | h); exact hsg (.inl (by rw [h]; rfl)); exact hsg (.inr (by rw [h]; rfl))
                    obtain ⟨t0, ht0⟩ : ∃ t0, (cutR (s.data.toList.drop (k + 1))).2 = t0 := ⟨_, rfl⟩
                    have HT0 : Hid (s.data.toList.drop (k + 1) = t0) := by show _ = _; rw [← ht0, drop_at hn, hy, cutR_cons, if_neg hys]
                    have HSC : Hid (V = if tW t0 = [] then k else s.size - (dW t0).length) := by show _ = _; rw [HSC0.out, ht0]
                    obtain ⟨k2, hk2e⟩ : ∃ k2, k + 1 = k2 := ⟨_, rfl⟩
                    rw [hk2e] at HT0
                    have hk2 : k2 ≤ s.size := by omega
                    have hk2i : (k : Int) + 1 = (k2 : Int) := by omega
                    have hk2l : k2 < s.size := by omega
                    have hyk : s[k2]'hk2l = y := by subst hk2e; exact hy
                    have e5 : ((y.toNat : Int) == 43) = false := by rw [beq_eq_false_iff_ne]; omega
                    have e6 : ((y.toNat : Int) == 45) = false := by rw [beq_eq_false_iff_ne]; omega
                    have hni2 : (k2 : Int) < (s.size : Int) := by omega
                    clear HSC0 hsg hys ht0 hk2e hy
                    rcases e1 with e1 | ⟨e1, e3⟩
                    all_goals
                      go_wp2_with (go_at_call 45; refine (specDigB _ _).mono ?_; rintro r w' ⟨rfl, rfl⟩)
                      go_loopw [5] (fun kv wr => ∃ j : Nat, k2 ≤ j ∧ j ≤ s.size ∧ kv = .int .i64 j ∧ (tW t0).length = (j - k2) + (tW (s.data.toList.drop j)).length ∧ dW (s.data.toList.drop j) = dW t0 ∧ Below w.heap.size w wr) (fun kv _ => s.size - (intOf kv).toNat)
                      case atStart => exact ⟨k2, Nat.le_refl _, hk2, by first | rfl | (rw [hk2i]) | go_num, by rw [HT0.out]; simp, by rw [HT0.out], hbel⟩
                      case round =>
                        clear hbel
                        obtain ⟨j, hj1, hj2, rfl, hj3, hj4, hbel⟩ := hrel
                        have fin : ¬ j < s.size ∨ (∃ h : j < s.size, isDig s[j] = false) → (tW t0).length = j - k2 ∧ j = s.size - (dW t0).length := fun h => by
                          have hj5 : tW (s.data.toList.drop j) = [] ∧ dW (s.data.toList.drop j) = s.data.toList.drop j := by
                            rcases h with h | ⟨h, g⟩
                            · rw [drop_end h]; exact ⟨rfl, rfl⟩
                            · rw [drop_at h]; exact tW_stop g
                          rw [hj5.1] at hj3
                          rw [hj5.2] at hj4
                          refine ⟨by simpa using hj3, ?_⟩
                          rw [← hj4, List.length_drop, size_list]; omega
                        have HF := Lib.hid fin
                        clear fin
                        by_cases hjl : j < s.size
                        · obtain ⟨y, hy⟩ : ∃ y, s[j] = y := ⟨_, rfl⟩
                          by_cases hdy : isDig y = true
                          · have HJ : Hid ((tW t0).length = (j + 1 - k2) + (tW (s.data.toList.drop (j + 1))).length ∧ dW (s.data.toList.drop (j + 1)) = dW t0) := by
                              have e := drop_at hjl
                              obtain ⟨t1, t2⟩ := tW_cons (l := s.data.toList.drop (j + 1)) (show isDig s[j] = true by rw [hy]; exact hdy)
                              rw [e, t1, List.length_cons] at hj3
                              rw [e, t2] at hj4
                              exact ⟨by omega, hj4⟩
                            clear hj3 hj4 HF
                            go_wp2_with (go_at_call 45; refine (specDigB _ _).mono ?_; rintro r w' ⟨rfl, rfl⟩)
                            go_roundw
                            case rel => exact ⟨j + 1, by omega, hjl, by go_num, HJ.out.1, HJ.out.2, hbel⟩
                            case measure => simp [intOf]; omega
                          · have hdy2 : isDig y = false := by simpa using hdy
                            obtain ⟨f1, f2⟩ := HF.out (.inr ⟨hjl, by rw [hy]; exact hdy2⟩)
                            clear hj3 hj4 HF hdy
                            by_cases hgt : k2 < j
                            · have HV : Hid (V = j) := by show _ = _; rw [HSC.out, if_neg (fun h => by rw [h] at f1; simp at f1; omega)]; exact f2.symm
                              have hgi : (k2 : Int) < (j : Int) := by omega
                              clear HSC f1 f2
                              go_wp2_with (go_at_call 45; refine (specDigB _ _).mono ?_; rintro r w' ⟨rfl, rfl⟩)
                              go_ret
                              exact ⟨by rw [HV.out]; rfl, hbel⟩
                            · have HV : Hid (V = k) := by show _ = _; rw [HSC.out, if_pos (List.eq_nil_of_length_eq_zero (by omega))]
                              have hgi : ¬ (k2 : Int) < (j : Int) := by omega
                              clear HSC f1 f2
                              go_wp2_with (go_at_call 45; refine (specDigB _ _).mono ?_; rintro r w' ⟨rfl, rfl⟩)
                              go_ret
                              exact ⟨by rw [HV.out]; rfl, hbel⟩
                        · obtain ⟨f1, f2⟩ := HF.out (.inl hjl)
                          clear hj3 hj4 HF
                          by_cases hgt : k2 < j
                          · have HV : Hid (V = j) := by show _ = _; rw [HSC.out, if_neg (fun h => by rw [h] at f1; simp at f1; omega)]; exact f2.symm
                            have hgi : (k2 : Int) < (j : Int) := by omega
                            clear HSC f1 f2
                            go_wp2_with (go_at_call 45; refine (specDigB _ _).mono ?_; rintro r w' ⟨rfl, rfl⟩)
                            go_ret
                            exact ⟨by rw [HV.out]; rfl, hbel⟩
                          · have HV : Hid (V = k) := by show _ = _; rw [HSC.out, if_pos (List.eq_nil_of_length_eq_zero (by omega))]
                            have hgi : ¬ (k2 : Int) < (j : Int) := by omega
                            clear HSC f1 f2
                            go_wp2_with (go_at_call 45; refine (specDigB _ _).mono ?_; rintro r w' ⟨rfl, rfl⟩)
                            go_ret
                            exact ⟨by rw [HV.out]; rfl, hbel⟩
                · have hni : ¬ (k : Int) + 1 < (s.size : Int) := by omega
                  have HV : Hid (V = k) := by show _ = _; rw [HSC0.out, drop_end hn]; rfl
                  obtain ⟨t0, ht0⟩ : ∃ t0 : List UInt8, t0 = [] := ⟨_, rfl⟩
                  have HT0 : Hid (s.data.toList.drop (k + 1) = t0) := by show _ = _; rw [ht0]; exact drop_end hn
                  have HSC : Hid (V = if tW t0 = [] then k else s.size - (dW t0).length) := by show _ = _; rw [HV.out, ht0]; rfl
                  obtain ⟨k2, hk2e⟩ : ∃ k2, k + 1 = k2 := ⟨_, rfl⟩
                  rw [hk2e] at HT0
                  have hk2 : k2 ≤ s.size := by omega
                  have hk2i : (k : Int) + 1 = (k2 : Int) := by omega
                  have hni2 : ¬ (k2 : Int) < (s.size : Int) := by omega
                  clear HSC0 HV ht0 hk2e
                  rcases e1 with e1 | ⟨e1, e3⟩
                  all_goals
                    go_wp2_with (go_at_call 45; refine (specDigB _ _).mono ?_; rintro r w' ⟨rfl, rfl⟩)
                    go_loopw [5] (fun kv wr => ∃ j : Nat, k2 ≤ j ∧ j ≤ s.size ∧ kv = .int .i64 j ∧ (tW t0).length = (j - k2) + (tW (s.data.toList.drop j)).length ∧ dW (s.data.toList.drop j) = dW t0 ∧ Below w.heap.size w wr) (fun kv _ => s.size - (intOf kv).toNat)
                    case atStart => exact ⟨k2, Nat.le_refl _, hk2, by first | rfl | (rw [hk2i]) | go_num, by rw [HT0.out]; simp, by rw [HT0.out], hbel⟩
                    case round =>
                      clear hbel
                      obtain ⟨j, hj1, hj2, rfl, hj3, hj4, hbel⟩ := hrel
                      have fin : ¬ j < s.size ∨ (∃ h : j < s.size, isDig s[j] = false) → (tW t0).length = j - k2 ∧ j = s.size - (dW t0).length := fun h => by
                        have hj5 : tW (s.data.toList.drop j) = [] ∧ dW (s.data.toList.drop j) = s.data.toList.drop j := by
                          rcases h with h | ⟨h, g⟩
                          · rw [drop_end h]; exact ⟨rfl, rfl⟩
                          · rw [drop_at h]; exact tW_stop g
                        rw [hj5.1] at hj3
                        rw [hj5.2] at hj4
                        refine ⟨by simpa using hj3, ?_⟩
                        rw [← hj4, List.length_drop, size_list]; omega
                      have HF := Lib.hid fin
                      clear fin
                      by_cases hjl : j < s.size
                      · obtain ⟨y, hy⟩ : ∃ y, s[j] = y := ⟨_, rfl⟩
                        by_cases hdy : isDig y = true
                        · have HJ : Hid ((tW t0).length = (j + 1 - k2) + (tW (s.data.toList.drop (j + 1))).length ∧ dW (s.data.toList.drop (j + 1)) = dW t0) := by
                            have e := drop_at hjl
                            obtain ⟨t1, t2⟩ := tW_cons (l := s.data.toList.drop (j + 1)) (show isDig s[j] = true by rw [hy]; exact hdy)
                            rw [e, t1, List.length_cons] at hj3
                            rw [e, t2] at hj4
                            exact ⟨by omega, hj4⟩
                          clear hj3 hj4 HF
                          go_wp2_with (go_at_call 45; refine (specDigB _ _).mono ?_; rintro r w' ⟨rfl, rfl⟩)
                          go_roundw
                          case rel => exact ⟨j + 1, by omega, hjl, by go_num, HJ.out.1, HJ.out.2, hbel⟩
                          case measure => simp [intOf]; omega
                        · have hdy2 : isDig y = false := by simpa using hdy
                          obtain ⟨f1, f2⟩ := HF.out (.inr ⟨hjl, by rw [hy]; exact hdy2⟩)
                          clear hj3 hj4 HF hdy
                          by_cases hgt : k2 < j
                          · have HV : Hid (V = j) := by show _ = _; rw [HSC.out, if_neg (fun h => by rw [h] at f1; simp at f1; omega)]; exact f2.symm
                            have hgi : (k2 : Int) < (j : Int) := by omega
                            clear HSC f1 f2
                            go_wp2_with (go_at_call 45; refine (specDigB _ _).mono ?_; rintro r w' ⟨rfl, rfl⟩)
                            go_ret
                            exact ⟨by rw [HV.out]; rfl, hbel⟩
                          · have HV : Hid (V = k) := by show _ = _; rw [HSC.out, if_pos (List.eq_nil_of_length_eq_zero (by omega))]
                            have hgi : ¬ (k2 : Int) < (j : Int) := by omega
                            clear HSC f1 f2
                            go_wp2_with (go_at_call 45; refine (specDigB _ _).mono ?_; rintro r w' ⟨rfl, rfl⟩)
                            go_ret
                            exact ⟨by rw [HV.out]; rfl, hbel⟩
                      · obtain ⟨f1, f2⟩ := HF.out (.inl hjl)
                        clear hj3 hj4 HF
                        by_cases hgt : k2 < j
                        · have HV : Hid (V = j) := by show _ = _; rw [HSC.out, if_neg (fun h => by rw [h] at f1; simp at f1; omega)]; exact f2.symm
                          have hgi : (k2 : Int) < (j : Int) := by omega
                          clear HSC f1 f2
                          go_wp2_with (go_at_call 45; refine (specDigB _ _).mono ?_; rintro r w' ⟨rfl, rfl⟩)
                          go_ret
                          exact ⟨by rw [HV.out]; rfl, hbel⟩
                        · have HV : Hid (V = k) := by show _ = _; rw [HSC.out, if_pos (List.eq_nil_of_length_eq_zero (by omega))]
                          have hgi : ¬ (k2 : Int) < (j : Int) := by omega
                          clear HSC f1 f2
                          go_wp2_with (go_at_call 45; refine (specDigB _ _).mono ?_; rintro r w' ⟨rfl, rfl⟩)
                          go_ret
                          exact ⟨by rw [HV.out]; rfl, hbel⟩
              · have hex : ¬ (x = 101 ∨ x = 69) := by rintro (h | h); exact hE (.inl (by rw [h]; rfl)); exact hE (.inr (by rw [h]; rfl))
                have HV : Hid (V = k) := by
                  show _ = _
                  rw [HS0.out, if_neg hd0, ← HR2.out, drop_at hlt, hx]
                  show (if x = 101 ∨ x = 69 then _ else _) = _
                  rw [if_neg hex]
                have e1 : ((x.toNat : Int) == 101) = false := by rw [beq_eq_false_iff_ne]; omega
                have e3 : ((x.toNat : Int) == 69) = false := by rw [beq_eq_false_iff_ne]; omega
                clear HS0 hE hex HR2
                go_wp2_with (go_at_call 45; refine (specDigB _ _).mono ?_; rintro r w' ⟨rfl, rfl⟩)
                go_ret
                exact ⟨by rw [HV.out]; rfl, hbel⟩
    · have hlti : ¬ (k : Int) < (s.size : Int) := by omega
      obtain ⟨g1, g2⟩ := way_end hway HFR.out (fun hk => absurd hk hlt)
      have HR2 := Lib.hid g2
      have hkL : k = s.size - r2.length := by rw [← g2, List.length_drop, size_list]; omega
      have HS0 : Hid (V = if d = 0 then a else scanE s.size k r2) := by
        show _ = _
        rw [HSN.out]
        by_cases hd0 : d = 0
        · rw [if_pos hd0, if_pos ⟨List.eq_nil_of_length_eq_zero (by omega), List.eq_nil_of_length_eq_zero (by omega)⟩]
        · rw [if_neg hd0, if_neg (fun h => by rw [h.1, h.2] at g1; simp at g1; omega), ← hkL]
      clear g1 g2 hkL hway
      by_cases hd0 : d = 0
      · have HV : Hid (V = a) := by show _ = _; rw [HS0.out, if_pos hd0]
        subst hd0
        go_wp2_with (go_at_call 45; refine (specDigB _ _).mono ?_; rintro r w' ⟨rfl, rfl⟩)
        go_ret
        exact ⟨by rw [HV.out]; rfl, hbel⟩
      · have hdb : ((d : Int) == 0) = false := by rw [beq_eq_false_iff_ne]; omega
        have HV : Hid (V = k) := by show _ = _; rw [HS0.out, if_neg hd0, ← HR2.out, drop_end hlt]; rfl
        go_wp2_with (go_at_call 45; refine (specDigB _ _).mono ?_; rintro r w' ⟨rfl, rfl⟩)
        go_ret
        exact ⟨by rw [HV.out]; rfl, hbel⟩

end Go.Proofs.YtlhdolcadlabpaaDoor
