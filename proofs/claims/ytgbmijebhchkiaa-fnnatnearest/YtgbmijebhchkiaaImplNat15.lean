/- impl's cut, roundsUp. Conditions: a natural lies there; at most 600 digits are cut. -/
import Derived.Test.YtgbmijebhchkiaaImplNat9
namespace Go.Proofs.Ytgbmijebhchkiaa
open Go.RowKit
open Go.Lib (byteCells)

theorem dgt_cut (v m i : Nat) : dgt (v / 10 ^ m) i = dgt v (m + i) := by
  unfold dgt
  rw [Nat.div_div_eq_div_mul, ← Nat.pow_add]
theorem cut_cells {C O : Array Value} {v n m k : Nat} (h : IsNat C v n) (hO : IsNat O 0 k) (hm : m ≤ 600) : IsNat (splice O.toList 0 (piece C m (601 - m))).toArray (v / 10 ^ m) k := by
  have hs := hO.size
  have hs2 := h.size
  have hpl : (piece C m (601 - m)).length = 601 - m := piece_length (by omega)
  have hfit : 0 + (piece C m (601 - m)).length ≤ O.toList.length := by rw [hpl, Array.length_toList]; omega
  have hlen : (splice O.toList 0 (piece C m (601 - m))).length = 602 := by rw [length_splice _ _ _ hfit, Array.length_toList, hs]
  have hat := splice_at hfit
  have hval : v / 10 ^ m < TOP := Nat.lt_of_le_of_lt (Nat.div_le_self _ _) h.lt
  have hge : ∀ i, 601 ≤ m + i → dgt v (m + i) = 0 := fun i hi => by
    have key : ∀ T : Nat, v < topOf T → T ≤ m + i → dgt v (m + i) = 0 := fun T h1 h2 => dgt_ge h1 h2
    exact key 601 h.lt hi
  refine ⟨by simp [hlen], fun i hi => ?_, ?_, hval⟩
  · rw [List.getElem?_toArray, hat, dgt_cut, if_neg (by omega), hpl]
    by_cases h2 : i < 601 - m
    · rw [if_pos (by omega), Nat.sub_zero, piece_at h2, h.dig (m + i) (by omega)]
    · rw [if_neg (by omega), Array.getElem?_toList, hO.dig i hi, dgt_nought, hge i (by omega)]
  · rw [List.getElem?_toArray, hat, if_neg (by omega), hpl, if_neg (by omega), Array.getElem?_toList, hO.len]
theorem len_cut (v m : Nat) : len (v / 10 ^ m) = len v - m := by
  by_cases h : v < 10 ^ m
  · rw [Nat.div_eq_of_lt h, len_zero]
    have := len_le_of h
    omega
  · have hv : v ≠ 0 := fun e => by subst e; exact h (pow_pos' m)
    have h1 := lt_len v
    have h2 := le_of_len hv
    have hml : m < len v := by
      rcases Nat.lt_or_ge m (len v) with h3 | h3
      · exact h3
      · exact absurd (Nat.lt_of_lt_of_le h1 (Nat.pow_le_pow_right (by omega) h3)) h
    apply len_eq
    · rw [Nat.div_lt_iff_lt_mul (pow_pos' m), ← Nat.pow_add, show len v - m + m = len v by omega]; exact h1
    · right
      rw [Nat.le_div_iff_mul_le (pow_pos' m), ← Nat.pow_add, show len v - m - 1 + m = len v - 1 by omega]; exact h2

set_option maxHeartbeats 400000 in
set_option maxRecDepth 100000 in
theorem implCut (g v m : Nat) (w : World) (hA : NatAt w g v (len v)) (hm : m ≤ 600) :
    Calls Try.prog 51 #[.pointer (some ⟨g, 0, none⟩), .int .i64 (m : Int)] w (AnsOne (v / 10 ^ m) w) := by
  have hz := Try.zeroNat
  have hgl := hA.lt
  have HLC := Lib.hid (len_cut v m)
  have h601 : ¬ 601 = m := by omega
  have hm0 : (0 : Int) ≤ (m : Int) := by omega
  have hm1 : (m : Int) ≤ 601 := by omega
  have hN6 : len v ≤ 601 := by obtain ⟨C, _, hI⟩ := hA; exact len_top hI.lt
  obtain ⟨n, hn⟩ : ∃ n, len v = n := ⟨_, rfl⟩
  rw [hn] at hA HLC hN6
  have N0 := (NatAt.new w zero_is).alloc (.cells zeroCells 42)
  have N1 := NatAt.new (w.alloc (.cells zeroCells 42)) zero_is
  have hsz : (w.alloc (.cells zeroCells 42)).heap.size = w.heap.size + 1 := by simp
  rw [hsz] at N1
  have MA := (hA.alloc (.cells zeroCells 42)).alloc (.cells zeroCells 42)
  have D0 : Below w.heap.size w ((w.alloc (.cells zeroCells 42)).alloc (.cells zeroCells 42)) := ((Below.refl _ _).alloc (Nat.le_refl _) _).alloc (by simp) _
  clear hsz hn hA
  go_enter Try.func51, Try.ntmps51
  go_wp2
  generalize (w.alloc (.cells zeroCells 42)).alloc (.cells zeroCells 42) = w0 at *
  go_still_tail 7, (by kernel_rfl)
  change wpList _ _ _ _ _ w0.drew
  have P0 : NatAt w0.drew w.heap.size 0 0 := N0
  have P1 : NatAt w0.drew (w.heap.size + 1) 0 0 := N1
  have PA : NatAt w0.drew g v n := MA
  have D1 := D0.drew
  clear N0 N1 MA D0
  generalize w0.drew = w1 at *
  obtain ⟨CA, hCA, ICA⟩ := PA
  obtain ⟨CO, hCO, ICO⟩ := P1
  have sz1 := ICA.size
  have sz2 := ICO.size
  have IS := cut_cells (m := m) ICA ICO hm
  refine copy_nat (w.heap.size + 1) 0 601 601 g m (601 - m) (601 - m) (601 - m) rfl rfl hCO hCA ICA (by omega) (by omega) (by omega) ?_
  have Q1 : NatAt (w1.setRow (w.heap.size + 1) (splice CO.toList 0 (piece CA m (601 - m))).toArray) (w.heap.size + 1) (v / 10 ^ m) 0 := ⟨_, setRow_heap w1 _ CO _ _ _ hCO, IS⟩
  have QA : NatAt (w1.setRow (w.heap.size + 1) (splice CO.toList 0 (piece CA m (601 - m))).toArray) g v n := ⟨CA, (setRow_other _ _ _ _ (by omega)).trans hCA, ICA⟩
  have Q0 := P0.rowOther (k := w.heap.size + 1) (splice CO.toList 0 (piece CA m (601 - m))).toArray (by omega)
  have D2 : Below w.heap.size w (w1.setRow (w.heap.size + 1) (splice CO.toList 0 (piece CA m (601 - m))).toArray) := below_row D1 (by omega) _
  clear hCA hCO IS D1 P0 ICA ICO sz1 sz2
  generalize w1.setRow (w.heap.size + 1) (splice CO.toList 0 (piece CA m (601 - m))).toArray = w2 at *
  have a2 := QA.cells.2.1
  have c2 := Q1.cells.2.1
  have f2 := Q1.cells.2.2 601
  clear QA
  obtain ⟨r, hr⟩ : ∃ r, n - m = r := ⟨_, rfl⟩
  rw [hr] at HLC
  have S1 := Q1.setLen r
  have S0 := Q0.setOther (k := w.heap.size + 1) (i := 601) (.int .i64 (r : Int)) (by omega)
  have D3 : Below w.heap.size w (w2.setCell ⟨w.heap.size + 1, 601, none⟩ (.int .i64 (r : Int))) := D2.setCell (Nat.le_succ _) _
  obtain ⟨C0, h0, I0⟩ := S0
  obtain ⟨C1, h1, I1⟩ := S1
  have I1' := I1
  rw [← HLC.out] at I1'
  have HI := Lib.hid I1'
  have hcase : ((n : Int) - (m : Int) = (r : Int) ∧ ¬ (r : Int) < 0) ∨ ((n : Int) - (m : Int) < 0 ∧ r = 0) := by omega
  clear Q1 Q0 D2 I1' hr
  rcases hcase with ⟨e1, e2⟩ | ⟨e1, rfl⟩
  · have v1 := IntWalk.i64_in (r : Int) ⟨by omega, by omega⟩
    go_wp2_with (first | (with_reducible show wpList _ _ _ (⟨_, .load _ _, _, _, _, _⟩ :: _) _ _; refine load_nat (w.heap.size + 1) rfl h1 I1 ?_) | (with_reducible show wpList _ _ _ (⟨_, .store _ _ _, _, _, _, _⟩ :: _) _ _; refine store_nat w.heap.size rfl rfl h0 I0 I1 ?_))
    refine bodyPost_ret (results_nat1 rfl _ _ rfl (setRow_heap _ _ _ _ _ _ h0) I1) rfl ?_
    exact ⟨C1, rfl, HI.out, below_row D3 (Nat.le_refl _) _⟩
  · have v1 := IntWalk.i64_in ((n : Int) - (m : Int)) ⟨by omega, by omega⟩
    go_wp2_with (first | (with_reducible show wpList _ _ _ (⟨_, .load _ _, _, _, _, _⟩ :: _) _ _; refine load_nat (w.heap.size + 1) rfl h1 I1 ?_) | (with_reducible show wpList _ _ _ (⟨_, .store _ _ _, _, _, _, _⟩ :: _) _ _; refine store_nat w.heap.size rfl rfl h0 I0 I1 ?_))
    refine bodyPost_ret (results_nat1 rfl _ _ rfl (setRow_heap _ _ _ _ _ _ h0) I1) rfl ?_
    exact ⟨C1, rfl, HI.out, below_row D3 (Nat.le_refl _) _⟩

end Go.Proofs.Ytgbmijebhchkiaa
