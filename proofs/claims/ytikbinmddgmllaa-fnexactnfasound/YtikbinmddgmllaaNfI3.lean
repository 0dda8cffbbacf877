/- impl.NfaSound answers as the plain function. Conditions: at most 1048576 elements in all. -/
import Derived.Test.YtikbinmddgmllaaNfI2
namespace Go.Proofs.Ytikbinmddgmllaa
set_option linter.unusedVariables false
open Go.RowKit

def NSRel (os : List No) (w : World) (i : Value) (wr : World) : Prop :=
  ∃ k : Nat, k ≤ os.length ∧ i = .int .i64 k ∧ okI os.length k (os.drop k) = soundR os ∧ Below w.heap.size w wr

set_option maxHeartbeats 4000000 in
set_option maxRecDepth 100000 in
theorem implNfaSound (A : Option Addr) (c : Nat) (os : List No) (w : World) (hlen : os.length + osum os ≤ 1048576) (hN : Ops w w.heap.size A os) :
    Calls Try.prog 7 #[.agg #[.slice A os.length c]] w fun e w' => e = .returned (.bool (soundR os)) ∧ Below w.heap.size w w' := by
  have b0 : Below w.heap.size w (w.alloc (.cells #[.slice A os.length c] 29)) := (Below.refl _ _).alloc (Nat.le_refl _) _
  by_cases hs1 : 1 ≤ os.length
  · by_cases hs2 : os.length ≤ 4000
    · have hz1 : ¬ (os.length : Int) < 1 := by omega
      have hz2 : ¬ (4000 : Int) < (os.length : Int) := by omega
      have HP := Lib.hid (soundR_prog hs1 hs2)
      have HN := Lib.hid hN
      clear hN
      go_enter Try.func7, Try.ntmps7
      go_wp2
      go_loopw [19] (NSRel os w) (fun i _ => os.length - (intOf i).toNat)
      case atStart => exact ⟨0, Nat.zero_le _, rfl, HP.out.symm, b0⟩
      case round =>
        obtain ⟨k, hk, rfl, hok, hbel⟩ := hrel
        clear b0
        by_cases hlt : k < os.length
        · obtain ⟨b, o, sa, sc, rfl, hbb, hs, hn1⟩ := HN.out k hlt
          obtain ⟨c0, c1, c2, c3, c4⟩ := hs.move (w' := wr) fun i => hbel.cell (p := ⟨b, i, none⟩) hbb
          have hbk := osum_get hlt
          rw [okI_step hlt] at hok
          obtain ⟨nd, hnd⟩ : ∃ nd, os[k] = nd := ⟨_, rfl⟩
          rw [hnd] at c0 c1 c2 c3 c4 hn1 hok hbk
          have bw := (Below.refl wr.heap.size wr).alloc (Nat.le_refl _) (.cells #[.int .i64 nd.op, .int .i64 nd.a, .int .i64 nd.b, .bool nd.neg, .slice sa nd.set.length sc] 36)
          have X := heap_alloc_new wr (.cells #[.int .i64 nd.op, .int .i64 nd.a, .int .i64 nd.b, .bool nd.neg, .slice sa nd.set.length sc] 36)
          have cS := opSound_any nd sa sc os.length (wr.alloc (.cells #[.int .i64 nd.op, .int .i64 nd.a, .int .i64 nd.b, .bool nd.neg, .slice sa nd.set.length sc] 36)) (by omega) (by omega) (((hn1.below hbel).up hbel.size |>.below bw).up bw.size)
          unfold opv at cS
          have HB := Lib.hid (hbel.alloc hbel.size (.cells #[.int .i64 nd.op, .int .i64 nd.a, .int .i64 nd.b, .bool nd.neg, .slice sa nd.set.length sc] 36))
          have HX := Lib.hid X
          have HO := Lib.hid hok
          have after : ∀ W, Below (wr.alloc (.cells #[.int .i64 nd.op, .int .i64 nd.a, .int .i64 nd.b, .bool nd.neg, .slice sa nd.set.length sc] 36)).heap.size (wr.alloc (.cells #[.int .i64 nd.op, .int .i64 nd.a, .int .i64 nd.b, .bool nd.neg, .slice sa nd.set.length sc] 36)) W → W.cell? ⟨wr.heap.size, 0, none⟩ = some (.int .i64 nd.op) ∧ Below w.heap.size w W := fun W h => by
            refine ⟨?_, HB.out.trans (h.mono HB.out.size)⟩
            rw [h.cell (p := ⟨wr.heap.size, 0, none⟩) (by simp), cell_of_row _ _ _ _ _ _ X]
            rfl
          clear hs hn1 hbk hnd hok bw X
          have HA := Lib.hid after
          clear after
          cases hq : opOk os.length nd with
          | false =>
            rw [hq] at cS HO
            clear hq
            go_wp2_with (go_at_call 13; with_reducible refine cS.mono ?_; rintro e w2 ⟨rfl, b2⟩; obtain ⟨e0, B2⟩ := HA.out _ b2)
            go_ret
            exact ⟨ret_b (by rw [← HO.out]; rfl), B2⟩
          | true =>
            rw [hq] at cS HO
            clear hq
            by_cases h8 : nd.op = 8
            · by_cases hl : k + 1 = os.length
              · have HL := Lib.hid hl
                have hlz : ((k : Int) == (os.length : Int) - 1) = true := by simp; omega
                have HO2 : Hid (okI os.length (k + 1) (os.drop (k + 1)) = soundR os) := by rw [decide_eq_true (show nd.op = 8 ↔ k + 1 = os.length by simp [h8, hl]), Bool.and_true, Bool.true_and] at HO; exact HO
                rw [h8] at c0 cS HA
                clear HO hl
                go_wp2_with (go_at_call 13; with_reducible refine cS.mono ?_; rintro e w2 ⟨rfl, b2⟩; obtain ⟨e0, B2⟩ := HA.out _ b2)
                go_roundw
                case rel => exact ⟨k + 1, hlt, by go_num, HO2.out, B2⟩
                case measure => simp [intOf]; omega
              · have HL := Lib.hid hl
                have hlz : ((k : Int) == (os.length : Int) - 1) = false := by simp; omega
                have HO2 : Hid (false = soundR os) := by rw [decide_eq_false (show ¬ (nd.op = 8 ↔ k + 1 = os.length) by simp [h8, hl])] at HO; simpa using HO
                rw [h8] at c0 cS HA
                clear HO hl
                go_wp2_with (go_at_call 13; with_reducible refine cS.mono ?_; rintro e w2 ⟨rfl, b2⟩; obtain ⟨e0, B2⟩ := HA.out _ b2)
                go_ret
                exact ⟨ret_b HO2.out, B2⟩
            · have hb8 : (nd.op == 8) = false := by simpa using h8
              by_cases hl : k + 1 = os.length
              · have HL := Lib.hid hl
                have hlz : ((k : Int) == (os.length : Int) - 1) = true := by simp; omega
                have HO2 : Hid (false = soundR os) := by rw [decide_eq_false (show ¬ (nd.op = 8 ↔ k + 1 = os.length) by simp [h8, hl])] at HO; simpa using HO
                clear HO hl
                go_wp2_with (go_at_call 13; with_reducible refine cS.mono ?_; rintro e w2 ⟨rfl, b2⟩; obtain ⟨e0, B2⟩ := HA.out _ b2)
                go_ret
                exact ⟨ret_b HO2.out, B2⟩
              · have HL := Lib.hid hl
                have hlz : ((k : Int) == (os.length : Int) - 1) = false := by simp; omega
                have HO2 : Hid (okI os.length (k + 1) (os.drop (k + 1)) = soundR os) := by rw [decide_eq_true (show nd.op = 8 ↔ k + 1 = os.length by simp [h8, hl]), Bool.and_true, Bool.true_and] at HO; exact HO
                clear HO hl
                go_wp2_with (go_at_call 13; with_reducible refine cS.mono ?_; rintro e w2 ⟨rfl, b2⟩; obtain ⟨e0, B2⟩ := HA.out _ b2)
                go_roundw
                case rel => exact ⟨k + 1, hlt, by go_num, HO2.out, B2⟩
                case measure => simp [intOf]; omega
        · rw [List.drop_eq_nil_of_le (by omega)] at hok
          have HO := Lib.hid hok
          clear hok
          go_wp2
          go_ret
          exact ⟨ret_b HO.out, hbel⟩
    · have hz1 : ¬ (os.length : Int) < 1 := by omega
      have hz2 : (4000 : Int) < (os.length : Int) := by omega
      have HR := Lib.hid (soundR_size (os := os) (by omega))
      clear hN
      go_enter Try.func7, Try.ntmps7
      go_wp2
      go_ret
      exact ⟨by rw [HR.out]; rfl, b0⟩
  · have hz1 : (os.length : Int) < 1 := by omega
    have HR := Lib.hid (soundR_size (os := os) (by omega))
    clear hN
    go_enter Try.func7, Try.ntmps7
    go_wp2
    go_ret
    exact ⟨by rw [HR.out]; rfl, b0⟩

end Go.Proofs.Ytikbinmddgmllaa
