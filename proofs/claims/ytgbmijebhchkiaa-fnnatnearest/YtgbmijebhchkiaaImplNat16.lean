/- impl's roundsUp. Conditions: a natural lies there; 1 to 600 digits are cut. -/
import Derived.Test.YtgbmijebhchkiaaImplNat15
namespace Go.Proofs.Ytgbmijebhchkiaa
open Go.RowKit
open Go.Lib (byteCells)

/-- Must the number without its last m digits be raised? -/
def upB (v m : Nat) : Bool := decide (10 ^ m < 2 * (v % 10 ^ m) ∨ 2 * (v % 10 ^ m) = 10 ^ m ∧ v / 10 ^ m % 2 = 1)
theorem rnd_up (v m : Nat) : rnd v m = if upB v m = true then v / 10 ^ m + 1 else v / 10 ^ m := by
  unfold rnd upB
  by_cases h : 10 ^ m < 2 * (v % 10 ^ m) ∨ 2 * (v % 10 ^ m) = 10 ^ m ∧ v / 10 ^ m % 2 = 1
  · rw [if_pos h, if_pos (decide_eq_true h)]
  · rw [if_neg h, if_neg (by rw [decide_eq_false h]; simp)]
theorem up_parts (v p : Nat) : v % 10 ^ (p + 1) = dgt v p * 10 ^ p + v % 10 ^ p ∧ v % 10 ^ p < 10 ^ p ∧ 10 ^ (p + 1) = 10 * 10 ^ p := ⟨mod_succ v p, Nat.mod_lt _ (pow_pos' p), by rw [Nat.pow_succ, Nat.mul_comm]⟩
theorem up_ne {v p : Nat} (h : dgt v p ≠ 5) : upB v (p + 1) = decide (5 < dgt v p) := by
  obtain ⟨e1, e2, e3⟩ := up_parts v p
  unfold upB
  rw [e1, e3]
  generalize v / (10 * 10 ^ p) = z
  generalize v % 10 ^ p = r at *
  generalize dgt v p = d at *
  generalize 10 ^ p = T at *
  rcases Nat.lt_or_gt_of_ne h with h1 | h1
  · have : d * T ≤ 4 * T := Nat.mul_le_mul_right _ (by omega)
    rw [decide_eq_false (by omega), decide_eq_false (by omega)]
  · have : 6 * T ≤ d * T := Nat.mul_le_mul_right _ (by omega)
    rw [decide_eq_true (.inl (by omega)), decide_eq_true (by omega)]
theorem up_more {v p j : Nat} (h : dgt v p = 5) (hj : j < p) (hd : dgt v j ≠ 0) : upB v (p + 1) = true := by
  obtain ⟨e1, e2, e3⟩ := up_parts v p
  have hr : v % 10 ^ p ≠ 0 := fun e => by
    apply hd
    have e4 := apart_at v p
    rw [e, split3, Nat.add_zero] at e4
    rw [e4]
    have := dgt_low (q := 10 * (v / 10 ^ (p + 1)) + dgt v p) (l := 0) hj
    rw [Nat.add_zero] at this
    rw [this, dgt_nought]
  unfold upB
  rw [e1, e3, h]
  exact decide_eq_true (.inl (by omega))
theorem up_tie {v p : Nat} (h : dgt v p = 5) (h0 : v % 10 ^ p = 0) : upB v (p + 1) = decide (dgt v (p + 1) % 2 = 1) := by
  obtain ⟨e1, e2, e3⟩ := up_parts v p
  have e5 : dgt v (p + 1) % 2 = v / 10 ^ (p + 1) % 2 := by unfold dgt; omega
  unfold upB
  rw [e5, e1, h0, h]
  rw [e3]
  generalize v / (10 * 10 ^ p) % 2 = z
  by_cases hz : z = 1
  · rw [decide_eq_true (.inr ⟨by omega, hz⟩), decide_eq_true hz]
  · rw [decide_eq_false (by omega), decide_eq_false hz]

set_option maxHeartbeats 400000 in
set_option maxRecDepth 100000 in
theorem implRoundsUp (g v m : Nat) (w : World) (hA : NatAt w g v (len v)) (hm : m ≤ 600) (hm1 : 1 ≤ m) :
    Calls Try.prog 52 #[.pointer (some ⟨g, 0, none⟩), .int .i64 (m : Int)] w fun e w' => e = .returned (.bool (upB v m)) ∧ Below w.heap.size w w' := by
  obtain ⟨p, rfl⟩ : ∃ p, m = p + 1 := ⟨m - 1, by omega⟩
  obtain ⟨ac, _, _⟩ := hA.cells
  have hgl := hA.lt
  have c1 := ac p (by omega)
  have c2 := ac (p + 1) (by omega)
  have HC := Lib.hid ac
  have hd9 := dgt_lt v p
  have hd9' := dgt_lt v (p + 1)
  have ep : ((p + 1 : Nat) : Int) - 1 = (p : Int) := by omega
  have ecast : ((p + 1 : Nat) : Int) = (p : Int) + 1 := by omega
  have hp6 : (p : Int) < 601 := by omega
  have hp0 : (0 : Int) ≤ (p : Int) := by omega
  have hp7 : (p : Int) + 1 < 601 := by omega
  have hp8 : (p : Int) ≤ 601 := by omega
  rw [ecast]
  by_cases h5 : dgt v p = 5
  · rw [h5] at c1
    have HT := Lib.hid (fun h0 => up_tie (v := v) h5 h0)
    have HM := Lib.hid (fun j hj hd => up_more (v := v) (j := j) h5 hj hd)
    have c1' : w.cell? ⟨g, p, none⟩ = some (.int .u8 5) := c1
    clear ac c1 h5 ep ecast hA
    go_enter Try.func52, Try.ntmps52
    go_wp2
    go_loopw [26] (fun i wr => ∃ j : Nat, j ≤ p ∧ i = .int .i64 (j : Int) ∧ v % 10 ^ j = 0 ∧ Below w.heap.size w wr) (fun i _ => p - (intOf i).toNat)
    case atStart => exact ⟨0, Nat.zero_le _, rfl, by rw [Nat.pow_zero, Nat.mod_one], Below.refl _ _⟩
    case round =>
      obtain ⟨j, hj, rfl, hmod, hbel⟩ := hrel
      by_cases hlt : j < p
      · have cj := (hbel.cell (p := ⟨g, j, none⟩) hgl).trans (HC.out j (by omega))
        have HM2 := Lib.hid hmod
        obtain ⟨d, hd⟩ : ∃ d, dgt v j = d := ⟨_, rfl⟩
        rw [hd] at cj
        have HD := Lib.hid hd
        clear hmod hd
        have hjp : (j : Int) < (p : Int) := by omega
        by_cases h0 : d = 0
        · subst h0
          have cj' : wr.cell? ⟨g, j, none⟩ = some (.int .u8 0) := cj
          have HZ : Hid (v % 10 ^ (j + 1) = 0) := by
            show _ = _
            rw [mod_succ, HD.out, HM2.out, Nat.zero_mul]
          clear cj
          go_wp2
          go_roundw
          case rel => exact ⟨j + 1, hlt, by go_num, HZ.out, hbel⟩
          case measure => simp [intOf]; omega
        · have hne : ((d : Int) != 0) = true := by simp; omega
          have HU := Lib.hid (HM.out j hlt (by rw [HD.out]; exact h0))
          go_wp2
          go_ret
          exact ⟨by rw [HU.out]; rfl, hbel⟩
      · have hjp : j = p := by omega
        have HU := Lib.hid (HT.out (by rw [← hjp]; exact hmod))
        have c3 := (hbel.cell (p := ⟨g, p + 1, none⟩) hgl).trans c2
        obtain ⟨d, hd⟩ : ∃ d, dgt v (p + 1) = d := ⟨_, rfl⟩
        rw [hd] at c3 HU hd9'
        have HF : Hid (decide (d % 2 = 1) = ((d : Int) % 2 == 1)) := by
          show _ = _
          by_cases h : d % 2 = 1
          · rw [decide_eq_true h]; exact (beq_iff_eq.2 (by omega)).symm
          · rw [decide_eq_false h]; exact (beq_eq_false_iff_ne.2 (by omega)).symm
        have hjnp : ¬ (j : Int) < (p : Int) := by omega
        clear hmod hjp hd c2 HC HT HM
        go_wp2
        go_ret
        exact ⟨by rw [HU.out, HF.out]; rfl, hbel⟩
  · have HN := Lib.hid (up_ne h5)
    obtain ⟨d, hd⟩ : ∃ d, dgt v p = d := ⟨_, rfl⟩
    rw [hd] at c1 HN hd9 h5
    have hne : ((d : Int) != 5) = true := by simp; omega
    have HF : Hid (decide (5 < d) = decide ((5 : Int) < (d : Int))) := by
      show _ = _
      by_cases h : 5 < d
      · rw [decide_eq_true h, decide_eq_true (by omega)]
      · rw [decide_eq_false h, decide_eq_false (by omega)]
    clear ac h5 hd ep ecast hA c2 HC
    go_enter Try.func52, Try.ntmps52
    go_wp2
    go_ret
    exact ⟨by rw [HN.out, HF.out]; rfl, Below.refl _ _⟩

end Go.Proofs.Ytgbmijebhchkiaa
