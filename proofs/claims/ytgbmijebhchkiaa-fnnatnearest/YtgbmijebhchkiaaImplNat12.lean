/- impl.NatShift. Conditions: at most 1048576 bytes. -/
import Derived.Test.YtgbmijebhchkiaaImplNat9
namespace Go.Proofs.Ytgbmijebhchkiaa
open Go.RowKit
open Go.Lib (byteCells)

theorem dgt_shift (v m i : Nat) : dgt (v * 10 ^ m) i = if i < m then 0 else dgt v (i - m) := by
  split
  · next h =>
    have := dgt_low (q := v) (k := m) (l := 0) h
    rw [Nat.add_zero] at this
    rw [this, dgt_nought]
  · next h =>
    have := dgt_high (q := v) (k := m) (l := 0) (pow_pos' m) (i - m)
    rw [Nat.add_zero, show m + (i - m) = i by omega] at this
    exact this
theorem len_shift {v : Nat} (h : v ≠ 0) (m : Nat) : len (v * 10 ^ m) = len v + m := by
  have h1 := lt_len v
  have h2 := le_of_len h
  have h3 := len_pos h
  apply len_eq
  · rw [Nat.pow_add]; exact Nat.mul_lt_mul_of_pos_right h1 (pow_pos' m)
  · right
    rw [show len v + m - 1 = len v - 1 + m by omega, Nat.pow_add]
    exact Nat.mul_le_mul_right _ h2
theorem shift_cells {C O : Array Value} {v n m k : Nat} (h : IsNat C v n) (hO : IsNat O 0 k) (hv : v < 10 ^ n) (hn : n + m ≤ 600) : IsNat (splice O.toList m (piece C 0 n)).toArray (v * 10 ^ m) k := by
  have hs := hO.size
  have hs2 := h.size
  have hpl : (piece C 0 n).length = n := piece_length (by omega)
  have hfit : m + (piece C 0 n).length ≤ O.toList.length := by rw [hpl, Array.length_toList]; omega
  have hlen : (splice O.toList m (piece C 0 n)).length = 602 := by rw [length_splice _ _ _ hfit, Array.length_toList, hs]
  have hat := splice_at hfit
  have hval : v * 10 ^ m < 10 ^ (n + m) := by rw [Nat.pow_add]; exact Nat.mul_lt_mul_of_pos_right hv (pow_pos' m)
  refine ⟨by simp [hlen], fun i hi => ?_, ?_, lt_top hval (by omega)⟩
  · rw [List.getElem?_toArray, hat, dgt_shift]
    by_cases h1 : i < m
    · rw [if_pos h1, if_pos h1, Array.getElem?_toList, hO.dig i hi, dgt_nought]
    · rw [if_neg h1, if_neg h1, hpl]
      by_cases h2 : i < m + n
      · rw [if_pos h2, piece_at (by omega), Nat.zero_add, h.dig (i - m) (by omega)]
      · rw [if_neg h2, Array.getElem?_toList, hO.dig i hi, dgt_nought, dgt_ge hv (by omega)]
  · rw [List.getElem?_toArray, hat, if_neg (by omega), hpl, if_neg (by omega), Array.getElem?_toList, hO.len]

set_option maxHeartbeats 2000000 in
set_option maxRecDepth 100000 in
theorem implNatShift (s : ByteArray) (n : Int) (w : World) (hs : s.size ≤ 1048576) : Calls Try.prog 25 #[.string s, .int .i64 n] w (Ans2 (shiftOf s n) w) := by
  have cN := fun W => implNaturalOf s W hs
  have hz := Try.zeroNat
  unfold AnsNat at cN
  clear hs
  have HV : Hid (okS s = true → ∀ m : Nat, m ≤ 600 → n = (m : Int) → shiftOf s n = fits (ofV s * 10 ^ m)) := fun h m hm e => by
    have g : NatS s := of_decide_eq_true h
    subst e
    unfold shiftOf; rw [if_pos ⟨g, by omega, by omega⟩, ofV_eq g, Int.toNat_natCast]
  have HX : Hid (¬ (0 ≤ n ∧ n ≤ 600) → shiftOf s n = ([], false)) := fun h => by
    unfold shiftOf; rw [if_neg (fun g => h g.2)]
  have HW : Hid (okS s = false → shiftOf s n = ([], false)) := fun h => by
    unfold shiftOf; rw [if_neg (fun g => by unfold okS at h; rw [decide_eq_true g.1] at h; cases h)]
  have l1 := ofV_len s
  generalize shiftOf s n = res at *
  generalize ofV s = v at *
  generalize okS s = ok at *
  go_enter Try.func25, Try.ntmps25
  go_wp2_with fail
  refine (cN _).mono ?_
  rintro e w1 ⟨C, rfl, IC, B1⟩
  clear cN
  have H1 := heap_alloc_new w1 (.cells zeroCells 42)
  obtain ⟨N1, D1⟩ := one_is B1 IC
  cases ok
  · obtain rfl := HW.out rfl
    clear HW HV HX
    go_wp2_with (refine store_nat w1.heap.size rfl rfl H1 zero_is IC ?_)
    go_ret2
    exact ⟨rfl, D1⟩
  · by_cases hn : 0 ≤ n ∧ n ≤ 600
    · obtain ⟨m, rfl⟩ : ∃ m : Nat, n = m := ⟨n.toNat, by omega⟩
      have hm : m ≤ 600 := by omega
      have hmi : ¬ (600 : Int) < (m : Int) := by omega
      obtain rfl := HV.out rfl m hm rfl
      have c2 := N1.cells.2.1
      clear HW HV HX hn
      by_cases h0 : v = 0
      · subst h0
        have HF : Hid (fits (0 * 10 ^ m) = ([48], true)) := by
          show _ = _
          rw [Nat.zero_mul]; unfold fits; rw [natOf_small (by omega)]; rfl
        have c2' : ((w1.alloc (.cells zeroCells 42)).setRow w1.heap.size C).cell? ⟨w1.heap.size, 601, none⟩ = some (.int .i64 0) := c2
        clear c2
        generalize fits (0 * 10 ^ m) = f at *
        go_wp2_with (refine store_nat w1.heap.size rfl rfl H1 zero_is IC ?_)
        go_ret2
        exact ⟨by rw [HF.out]; rfl, D1⟩
      · have HLS := Lib.hid (len_shift h0 m)
        have HLT := Lib.hid (lt_len v)
        have HPV := Lib.hid (len_pos h0)
        obtain ⟨N, hN⟩ : ∃ N, len v = N := ⟨_, rfl⟩
        rw [hN] at IC N1 l1 HLS HLT c2 HPV
        have hne : ((N : Int) == 0) = false := beq_zero (by have := HPV.out; omega)
        by_cases h6 : N + m ≤ 600
        · have h6i : ¬ (600 : Int) < (N : Int) + (m : Int) := by omega
          obtain ⟨u2, N2, D2⟩ : ∃ u, NatAt (((w1.alloc (.cells zeroCells 42)).setRow w1.heap.size C).alloc (.cells zeroCells 42)) w1.heap.size v N ∧ u = (((w1.alloc (.cells zeroCells 42)).setRow w1.heap.size C).alloc (.cells zeroCells 42)) := ⟨_, N1.alloc _, rfl⟩
          clear D2 u2
          have hz1 : ((w1.alloc (.cells zeroCells 42)).setRow w1.heap.size C).heap.size = w1.heap.size + 1 := by simp
          have N3 := NatAt.new ((w1.alloc (.cells zeroCells 42)).setRow w1.heap.size C) zero_is
          rw [hz1] at N3
          have D3 := D1.alloc (o := .cells zeroCells 42) D1.size
          have hmi0 : (0 : Int) ≤ (m : Int) := by omega
          have hmi1 : (m : Int) ≤ 601 := by omega
          have hNi1 : (N : Int) ≤ 601 := by omega
          have hNi0 : (0 : Int) ≤ (N : Int) := by omega
          have c3 := N2.cells.2.1
          clear hN
          go_wp2_with (refine store_nat w1.heap.size rfl rfl H1 zero_is IC ?_)
          generalize ((w1.alloc (.cells zeroCells 42)).setRow w1.heap.size C).alloc (.cells zeroCells 42) = w3 at *
          have h601 : ¬ 601 = m := by omega
          go_still_tail 7, (by kernel_rfl)
          change wpList _ _ _ _ _ w3.drew
          have P2 : NatAt w3.drew w1.heap.size v N := N2
          have P3 : NatAt w3.drew (w1.heap.size + 1) 0 0 := N3
          have D4 := D3.drew
          clear N2 N3 D3 c3 c2 N1 D1 H1 hz1
          generalize w3.drew = w4 at *
          obtain ⟨CN, hCN, ICN⟩ := P2
          obtain ⟨CO, hCO, ICO⟩ := P3
          have sz1 := ICN.size
          have sz2 := ICO.size
          have IS := shift_cells (m := m) ICN ICO HLT.out h6
          have hB1 := B1.size
          refine copy_nat (w1.heap.size + 1) m (601 - m) (601 - m) w1.heap.size 0 N 601 N rfl rfl hCO hCN ICN (by omega) (by omega) (by omega) ?_
          have Q3 : NatAt (w4.setRow (w1.heap.size + 1) (splice CO.toList m (piece CN 0 N)).toArray) (w1.heap.size + 1) (v * 10 ^ m) 0 := ⟨_, setRow_heap w4 _ CO _ _ _ hCO, IS⟩
          have Q2 : NatAt (w4.setRow (w1.heap.size + 1) (splice CO.toList m (piece CN 0 N)).toArray) w1.heap.size v N := ⟨CN, (setRow_other _ _ _ _ (by omega)).trans hCN, ICN⟩
          have D5 : Below w.heap.size w (w4.setRow (w1.heap.size + 1) (splice CO.toList m (piece CN 0 N)).toArray) := below_row D4 (by omega) _
          clear hCN hCO IS D4
          generalize w4.setRow (w1.heap.size + 1) (splice CO.toList m (piece CN 0 N)).toArray = w5 at *
          obtain ⟨_, c5, c6⟩ := Q3.cells
          have f5 := c6 601
          have c7 := Q2.cells.2.1
          have Q4 := Q3.setLen (N + m)
          rw [← HLS.out] at Q4
          have cR := implResult _ _ _ Q4
          rw [HLS.out] at cR
          unfold Ans2 at cR
          have D6 : Below w.heap.size w (w5.setCell ⟨w1.heap.size + 1, 601, none⟩ (.int .i64 ((N + m : Nat) : Int))) := D5.setCell (by show w.heap.size ≤ w1.heap.size + 1; omega) _
          have ecast : ((N + m : Nat) : Int) = (N : Int) + (m : Int) := by omega
          rw [ecast] at cR D6
          clear c6 Q3 Q2 Q4 D5 ecast
          generalize fits (v * 10 ^ m) = f at *
          go_wp2_with fail
          refine cR.mono ?_
          rintro e w7 ⟨rfl, B7⟩
          have D7 := D6.trans (B7.mono D6.size)
          clear cR B7 D6
          go_wp2
          go_ret2
          exact ⟨rfl, D7⟩
        · have h6i : (600 : Int) < (N : Int) + (m : Int) := by omega
          have HF : Hid (fits (v * 10 ^ m) = ([], false)) := by
            show _ = _
            unfold fits
            rw [if_neg]
            rw [← len_nz (Nat.mul_ne_zero h0 (Nat.ne_of_gt (pow_pos' m))), HLS.out]; exact h6
          generalize fits (v * 10 ^ m) = f at *
          go_wp2_with (refine store_nat w1.heap.size rfl rfl H1 zero_is IC ?_)
          go_ret2
          exact ⟨by rw [HF.out]; rfl, D1⟩
    · obtain rfl := HX.out hn
      clear HW HV HX
      have hcase : n < 0 ∨ (¬ n < 0 ∧ (600 : Int) < n) := by omega
      rcases hcase with h1 | ⟨h1, h2⟩
      all_goals
        go_wp2_with (refine store_nat w1.heap.size rfl rfl H1 zero_is IC ?_)
        go_ret2
        exact ⟨rfl, D1⟩

end Go.Proofs.Ytgbmijebhchkiaa
