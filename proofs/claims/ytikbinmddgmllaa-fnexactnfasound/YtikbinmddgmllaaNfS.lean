/- spec.NfaSound answers as the plain function. Conditions: at most 1048576 elements in all. -/
import Derived.Test.YtikbinmddgmllaaNfI2
namespace Go.Proofs.Ytikbinmddgmllaa
set_option linter.unusedVariables false
open Go.RowKit

def SSRel (os : List No) (A : Option Addr) (c : Nat) (w : World) (i : Value) (wr : World) : Prop :=
  ∃ k : Nat, k ≤ os.length ∧ i = .int .i64 k ∧ okS os.length k (os.drop k) = soundR os ∧ (wr.cell? ⟨w.heap.size, 0, none⟩ = some (.slice A os.length c) ∧ w.heap.size < wr.heap.size) ∧ Below w.heap.size w wr

theorem inn_between (n : Nat) (x : Int) : decide (0 ≤ x ∧ x ≤ (n : Int) - 1) = inn n x := by
  unfold inn
  rw [decide_eq_decide]
  omega

set_option maxHeartbeats 8000000 in
set_option maxRecDepth 100000 in
theorem specNfaSound (A : Option Addr) (c : Nat) (os : List No) (w : World) (hlen : os.length + osum os ≤ 1048576) (hN : Ops w w.heap.size A os) :
    Calls Try.prog 5 #[.agg #[.slice A os.length c]] w fun e w' => e = .returned (.bool (soundR os)) ∧ Below w.heap.size w w' := by
  have b0 : Below w.heap.size w (w.alloc (.cells #[.slice A os.length c] 29)) := (Below.refl _ _).alloc (Nat.le_refl _) _
  by_cases hs1 : 1 ≤ os.length
  · by_cases hs2 : os.length ≤ 4000
    · have hz1 : ¬ (os.length : Int) < 1 := by omega
      have hz2 : ¬ (4000 : Int) < (os.length : Int) := by omega
      obtain ⟨m, hm⟩ : ∃ m, os.length - 1 = m := ⟨_, rfl⟩
      have hml : m < os.length := by omega
      have hmz : (os.length : Int) - 1 = (m : Int) := by omega
      obtain ⟨b, o, sa, sc, rfl, hbb, hs, hn1⟩ := hN m hml
      have l0 := (hs.move (w' := w.alloc (.cells #[.slice (some ⟨b, o, none⟩) os.length c] 29)) fun i => b0.cell (p := ⟨b, i, none⟩) hbb).c0
      have HN := Lib.hid hN
      clear hN hs hn1
      by_cases h8 : os[m].op = 8
      · have HP := Lib.hid (soundR_spec (os := os) (by omega) hs2 (by subst hm; exact h8))
        rw [h8] at l0
        have HM := Lib.hid hm
        clear hm h8
        go_enter Try.func5, Try.ntmps5
        go_wp2
        clear l0
        go_loopw [4] (SSRel os (some ⟨b, o, none⟩) c w) (fun i _ => os.length - (intOf i).toNat)
        case atStart => exact ⟨0, Nat.zero_le _, rfl, HP.out.symm, ⟨by rw [cell_of_row _ _ _ _ _ _ (heap_alloc_new w _)]; rfl, by simp⟩, b0⟩
        case round =>
          obtain ⟨k, hk, rfl, hok, ⟨hx, hxs⟩, hbel⟩ := hrel
          clear b0
          by_cases hlt : k < os.length
          · obtain ⟨b', o', sa, sc, hAA, hbb', hs, hn1⟩ := HN.out k hlt
            cases hAA
            obtain ⟨c0, c1, c2, c3, c4⟩ := hs.move (w' := wr) fun i => hbel.cell (p := ⟨b, i, none⟩) hbb
            have hbk := osum_get hlt
            rw [okS_step hlt] at hok
            obtain ⟨nd, hnd⟩ : ∃ nd, os[k] = nd := ⟨_, rfl⟩
            rw [hnd] at c0 c1 c2 c3 c4 hn1 hok hbk
            have X := heap_alloc_new wr (.cells #[.int .i64 nd.op, .int .i64 nd.a, .int .i64 nd.b, .bool nd.neg, .slice sa nd.set.length sc] 36)
            have HB := Lib.hid (hbel.alloc hbel.size (.cells #[.int .i64 nd.op, .int .i64 nd.a, .int .i64 nd.b, .bool nd.neg, .slice sa nd.set.length sc] 36))
            have d0 := cell_of_row _ _ 0 _ _ _ X
            have d1 := cell_of_row _ _ 1 _ _ _ X
            have d2 := cell_of_row _ _ 2 _ _ _ X
            have d4 := cell_of_row _ _ 4 _ _ _ X
            simp only [List.getElem?_toArray, List.getElem?_cons_zero, List.getElem?_cons_succ] at d0 d1 d2 d4
            have hS := hn1.below hbel
            have HO := Lib.hid hok
            have hx2 : (wr.alloc (.cells #[.int .i64 nd.op, .int .i64 nd.a, .int .i64 nd.b, .bool nd.neg, .slice sa nd.set.length sc] 36)).cell? ⟨w.heap.size, 0, none⟩ = some (.slice (some ⟨b, o, none⟩) os.length c) := (((Below.refl wr.heap.size wr).alloc (Nat.le_refl _) _).cell (p := ⟨w.heap.size, 0, none⟩) hxs).trans hx
            have HX := Lib.hid (And.intro hx2 (show w.heap.size < (wr.alloc (.cells #[.int .i64 nd.op, .int .i64 nd.a, .int .i64 nd.b, .bool nd.neg, .slice sa nd.set.length sc] 36)).heap.size by simp; omega))
            clear hs hn1 hnd hok X
            obtain ⟨op, a, bb, neg, set⟩ := nd
            simp only at *
            have back : ∀ t : Bool, opOk os.length ⟨op, a, bb, neg, set⟩ = t → (op = 8 → k + 1 = os.length) → Hid ((t && okS os.length (k + 1) (os.drop (k + 1))) = soundR os) := fun t h1 h2 => by
              have := HO.out
              rw [h1, decide_eq_true (show (op = 8 → k + 1 = os.length) from h2), Bool.and_true] at this
              exact this
            by_cases q1 : op = 1
            · subst q1
              have hR := back (pt a) (by unfold opOk; rfl) (fun h => by cases h)
              have cP := fun W => point_any a W
              clear HO back d2 d4 hS
              cases hq : pt a with
              | true =>
                rw [hq] at cP hR
                clear hq
                go_wp2_with (go_at_call 10; refine (cP _).mono ?_; rintro e w' ⟨rfl, rfl⟩)
                go_roundw
                case rel => exact ⟨k + 1, hlt, by go_num, by simpa using hR.out, HX.out, HB.out⟩
                case measure => simp [intOf]; omega
              | false =>
                rw [hq] at cP hR
                clear hq
                go_wp2_with (go_at_call 10; refine (cP _).mono ?_; rintro e w' ⟨rfl, rfl⟩)
                go_ret
                exact ⟨ret_b (by simpa using hR.out), HB.out⟩
            by_cases q2 : op = 2
            · subst q2
              have hR := back true (by unfold opOk; rfl) (fun h => by cases h)
              clear HO back d1 d2 d4 hS
              go_wp2
              go_roundw
              case rel => exact ⟨k + 1, hlt, by go_num, by simpa using hR.out, HX.out, HB.out⟩
              case measure => simp [intOf]; omega
            by_cases q4 : op = 4
            · subst q4
              have hR := back true (by unfold opOk; rfl) (fun h => by cases h)
              clear HO back d1 d2 d4 hS
              go_wp2
              go_roundw
              case rel => exact ⟨k + 1, hlt, by go_num, by simpa using hR.out, HX.out, HB.out⟩
              case measure => simp [intOf]; omega
            by_cases q5 : op = 5
            · subst q5
              have hR := back true (by unfold opOk; rfl) (fun h => by cases h)
              clear HO back d1 d2 d4 hS
              go_wp2
              go_roundw
              case rel => exact ⟨k + 1, hlt, by go_num, by simpa using hR.out, HX.out, HB.out⟩
              case measure => simp [intOf]; omega
            by_cases q3 : op = 3
            · subst q3
              have HBK := Lib.hid (back (set.all pt && decide (set.length % 2 = 0)) (by unfold opOk; rfl) (fun h => by cases h))
              have HS := Lib.hid hS
              clear HO back d1 d2 hS
              by_cases hev : set.length % 2 = 0
              · have hm2 : Int.tmod (set.length : Int) 2 = 0 := by rw [Int.tmod_eq_emod_of_nonneg (by omega)]; omega
                rw [decide_eq_true hev, Bool.and_true] at HBK
                clear hev
                obtain ⟨W, hW⟩ : ∃ W, (wr.alloc (.cells #[.int .i64 3, .int .i64 a, .int .i64 bb, .bool neg, .slice sa set.length sc] 36)) = W := ⟨_, rfl⟩
                have hS2 : Hid (Nums .i64 W w.heap.size sa set) := by rw [← hW]; exact HS.out.below ((Below.refl _ _).alloc hbel.size _)
                rw [hW] at d0 d4 hx2 HX HB
                go_wp2
                go_loopw [6] (fun i W2 => ∃ j : Nat, j ≤ set.length ∧ i = .int .i64 j ∧ (set.drop j).all pt = set.all pt ∧ W = W2) (fun i _ => set.length - (intOf i).toNat)
                case atStart => exact ⟨0, Nat.zero_le _, rfl, rfl, rfl⟩
                case round =>
                  obtain ⟨j, hj, rfl, hal, rfl⟩ := hrel
                  by_cases hjl : j < set.length
                  · obtain ⟨b2, o2, rfl, hb2, hc2⟩ := hS2.out j hjl
                    rw [all_step hjl] at hal
                    obtain ⟨y, hy⟩ : ∃ y, set[j] = y := ⟨_, rfl⟩
                    rw [hy] at hc2 hal
                    have cP := fun W => point_any y W
                    have HAL := Lib.hid hal
                    clear hal hy
                    cases hq : pt y with
                    | true =>
                      rw [hq, Bool.true_and] at HAL
                      rw [hq] at cP
                      clear hq
                      go_wp2_with (go_at_call 10; refine (cP _).mono ?_; rintro e w' ⟨rfl, rfl⟩)
                      go_roundw
                      case rel => exact ⟨j + 1, hjl, by go_num, HAL.out, by trivial⟩
                      case measure => simp [intOf]; omega
                    | false =>
                      rw [hq, Bool.false_and] at HAL
                      rw [hq] at cP
                      clear hq
                      go_wp2_with (go_at_call 10; refine (cP _).mono ?_; rintro e w' ⟨rfl, rfl⟩)
                      go_ret
                      exact ⟨ret_b (by have := HBK.out.out; rw [← HAL.out, Bool.false_and] at this; exact this), HB.out⟩
                  · rw [List.drop_eq_nil_of_le (by omega)] at hal
                    have HAL := Lib.hid (show true = set.all pt from hal)
                    clear hal
                    go_wp2
                    go_roundw
                    case rel => exact ⟨k + 1, hlt, by go_num, by have := HBK.out.out; rw [← HAL.out, Bool.true_and] at this; exact this, HX.out, HB.out⟩
                    case measure => simp [intOf]; omega
              · have hm2 : Int.tmod (set.length : Int) 2 = 1 := by rw [Int.tmod_eq_emod_of_nonneg (by omega)]; omega
                rw [decide_eq_false hev, Bool.and_false] at HBK
                clear hev
                go_wp2
                go_ret
                exact ⟨ret_b (by simpa using HBK.out.out), HB.out⟩
            by_cases q6 : op = 6
            · subst q6
              have hR := back (inn os.length a && inn os.length bb) (by unfold opOk; rfl) (fun h => by cases h)
              have cA : ∀ W, Calls Try.prog 11 #[.int .i64 a, .int .i64 0, .int .i64 m] W _ := fun W => between_any a 0 m W
              have cB : ∀ W, Calls Try.prog 11 #[.int .i64 bb, .int .i64 0, .int .i64 m] W _ := fun W => between_any bb 0 m W
              rw [show decide ((0 : Int) ≤ a ∧ a ≤ (m : Int)) = inn os.length a by rw [← hmz]; exact inn_between _ _] at cA
              rw [show decide ((0 : Int) ≤ bb ∧ bb ≤ (m : Int)) = inn os.length bb by rw [← hmz]; exact inn_between _ _] at cB
              clear HO back d4 hS
              cases ha : inn os.length a with
              | true =>
                rw [ha] at cA hR
                cases hb : inn os.length bb with
                | true =>
                  rw [hb] at cB hR
                  clear ha hb
                  go_wp2_with (go_at_call 11; (first | with_reducible refine (cA _).mono ?_ | with_reducible refine (cB _).mono ?_); rintro e w' ⟨rfl, rfl⟩)
                  go_roundw
                  case rel => exact ⟨k + 1, hlt, by go_num, by simpa using hR.out, HX.out, HB.out⟩
                  case measure => simp [intOf]; omega
                | false =>
                  rw [hb] at cB hR
                  clear ha hb
                  go_wp2_with (go_at_call 11; (first | with_reducible refine (cA _).mono ?_ | with_reducible refine (cB _).mono ?_); rintro e w' ⟨rfl, rfl⟩)
                  go_ret
                  exact ⟨ret_b (by simpa using hR.out), HB.out⟩
              | false =>
                rw [ha] at cA hR
                clear ha
                go_wp2_with (go_at_call 11; (first | with_reducible refine (cA _).mono ?_ | with_reducible refine (cB _).mono ?_); rintro e w' ⟨rfl, rfl⟩)
                go_ret
                exact ⟨ret_b (by simpa using hR.out), HB.out⟩
            by_cases q7 : op = 7
            · subst q7
              have hR := back (inn os.length a) (by unfold opOk; rfl) (fun h => by cases h)
              have cA : ∀ W, Calls Try.prog 11 #[.int .i64 a, .int .i64 0, .int .i64 m] W _ := fun W => between_any a 0 m W
              rw [show decide ((0 : Int) ≤ a ∧ a ≤ (m : Int)) = inn os.length a by rw [← hmz]; exact inn_between _ _] at cA
              clear HO back d2 d4 hS
              cases ha : inn os.length a with
              | true =>
                rw [ha] at cA hR
                clear ha
                go_wp2_with (go_at_call 11; with_reducible refine (cA _).mono ?_; rintro e w' ⟨rfl, rfl⟩)
                go_roundw
                case rel => exact ⟨k + 1, hlt, by go_num, by simpa using hR.out, HX.out, HB.out⟩
                case measure => simp [intOf]; omega
              | false =>
                rw [ha] at cA hR
                clear ha
                go_wp2_with (go_at_call 11; with_reducible refine (cA _).mono ?_; rintro e w' ⟨rfl, rfl⟩)
                go_ret
                exact ⟨ret_b (by simpa using hR.out), HB.out⟩
            by_cases q8 : op = 8
            · subst q8
              by_cases hl : k + 1 = os.length
              · have hR := back true (by unfold opOk; rfl) (fun _ => hl)
                have hlz : ((k : Int) == (m : Int)) = true := by simp; omega
                clear HO back d1 d2 d4 hS hl
                go_wp2
                go_roundw
                case rel => exact ⟨k + 1, hlt, by go_num, by simpa using hR.out, HX.out, HB.out⟩
                case measure => simp [intOf]; omega
              · have hlz : ((k : Int) == (m : Int)) = false := by simp; omega
                have hR : Hid (false = soundR os) := by
                  have := HO.out
                  rw [decide_eq_false (show ¬ ((8 : Int) = 8 → k + 1 = os.length) from fun h => hl (h rfl)), Bool.and_false, Bool.false_and] at this
                  exact this
                clear HO back d1 d2 d4 hS hl
                go_wp2
                go_ret
                exact ⟨ret_b hR.out, HB.out⟩
            have hR := back false (by
              unfold opOk; simp only []; rw [if_neg q1, if_neg q3, if_neg q6, if_neg q7, decide_eq_false]
              omega) (fun h => absurd h q8)
            clear HO back d1 d2 d4 hS
            go_wp2
            go_ret
            exact ⟨ret_b (by simpa using hR.out), HB.out⟩
          · rw [List.drop_eq_nil_of_le (by omega)] at hok
            have HO := Lib.hid hok
            clear hok
            go_wp2
            go_ret
            exact ⟨ret_b HO.out, hbel⟩
      · have HR := Lib.hid (soundR_last (os := os) (by omega) (by subst hm; exact h8))
        have hb8 : (os[m].op == 8) = false := by simpa using h8
        obtain ⟨x, hx⟩ : ∃ x, os[m].op = x := ⟨_, rfl⟩
        rw [hx] at l0 h8 hb8
        clear hm hx
        go_enter Try.func5, Try.ntmps5
        go_wp2
        go_ret
        exact ⟨by rw [HR.out]; rfl, b0⟩
    · have hz1 : ¬ (os.length : Int) < 1 := by omega
      have hz2 : (4000 : Int) < (os.length : Int) := by omega
      have HR := Lib.hid (soundR_size (os := os) (by omega))
      clear hN
      go_enter Try.func5, Try.ntmps5
      go_wp2
      go_ret
      exact ⟨by rw [HR.out]; rfl, b0⟩
  · have hz1 : (os.length : Int) < 1 := by omega
    have HR := Lib.hid (soundR_size (os := os) (by omega))
    clear hN
    go_enter Try.func5, Try.ntmps5
    go_wp2
    go_ret
    exact ⟨by rw [HR.out]; rfl, b0⟩

end Go.Proofs.Ytikbinmddgmllaa
