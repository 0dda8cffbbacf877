/- impl.NatMul. Conditions: at most 1048576 bytes. -/
import Derived.Test.YtgbmijebhchkiaaImplNat13
import Derived.Test.YtgbmijebhchkiaaSpecNat9
namespace Go.Proofs.Ytgbmijebhchkiaa
open Go.RowKit
open Go.Lib (byteCells)

theorem len_mul {a b : Nat} (h : 601 < len a + len b) (ha : len a ≤ 600) (hb : len b ≤ 600) : ¬ (natOf (a * b)).length ≤ 600 := by
  have a0 : a ≠ 0 := fun e => by subst e; rw [len_zero] at h; omega
  have b0 : b ≠ 0 := fun e => by subst e; rw [len_zero] at h; omega
  have h1 := le_of_len a0
  have h2 := le_of_len b0
  have h3 : 10 ^ (len a - 1 + (len b - 1)) ≤ a * b := by rw [Nat.pow_add]; exact Nat.mul_le_mul h1 h2
  have h4 := lt_len (a * b)
  have h5 := (Nat.pow_lt_pow_iff_right (a := 10) (by omega)).1 (Nat.lt_of_le_of_lt h3 h4)
  rw [← len_nz (Nat.mul_ne_zero a0 b0)]
  omega

set_option maxHeartbeats 2000000 in
set_option maxRecDepth 100000 in
theorem implNatMul (s t : ByteArray) (w : World) (hs : s.size ≤ 1048576) (ht : t.size ≤ 1048576) : Calls Try.prog 18 #[.string s, .string t] w (Ans2 (mulOf s t) w) := by
  have cN := fun W => implNaturalsOf s t W hs ht
  have hz := Try.zeroNat
  unfold AnsNats at cN
  clear hs ht
  have HV : Hid ((okS s && okS t) = true → mulOf s t = fits (ofV s * ofV t)) := fun h => by
    obtain ⟨g1, g2⟩ := ofV_bad h
    unfold mulOf; rw [if_pos ⟨g1, g2⟩, ofV_eq g1, ofV_eq g2]
  have HW : Hid ((okS s && okS t) = false → mulOf s t = ([], false)) := fun h => by
    unfold mulOf; rw [if_neg (ofV_not h)]
  have l1 := ofV_len s
  have l2 := ofV_len t
  generalize mulOf s t = res at *
  generalize ofV s = va at *
  generalize ofV t = vb at *
  generalize (okS s && okS t) = ok at *
  go_enter Try.func18, Try.ntmps18
  go_wp2_with fail
  refine (cN _).mono ?_
  rintro e w1 ⟨C, D, rfl, IC, ID, B1⟩
  clear cN
  have H1 := two_first w1
  have H2 := two_second w1 C
  obtain ⟨N1, N2, D1, _⟩ := two_is B1 IC ID
  have c1 : ((((w1.alloc (.cells zeroCells 42)).alloc (.cells zeroCells 42)).setRow w1.heap.size C).setRow (w1.heap.size + 1) D).cell? ⟨w1.heap.size, 601, none⟩ = some (.int .i64 (len va : Int)) := N1.cells.2.1
  have c2 : ((((w1.alloc (.cells zeroCells 42)).alloc (.cells zeroCells 42)).setRow w1.heap.size C).setRow (w1.heap.size + 1) D).cell? ⟨w1.heap.size + 1, 601, none⟩ = some (.int .i64 (len vb : Int)) := N2.cells.2.1
  cases ok
  · obtain rfl := HW.out rfl
    clear HW HV c1 c2
    go_wp2_with (first | (with_reducible show wpList _ _ _ (⟨_, .store _ _ _, _, _, _, _⟩ :: _) _ _; refine store_nat w1.heap.size rfl rfl H1 zero_is IC ?_) | (with_reducible show wpList _ _ _ (⟨_, .store _ _ _, _, _, _, _⟩ :: _) _ _; refine store_nat (w1.heap.size + 1) rfl rfl H2 zero_is ID ?_))
    go_ret2
    exact ⟨rfl, D1⟩
  · obtain rfl := HV.out rfl
    clear HW HV
    by_cases h6 : len va + len vb ≤ 601
    · have cC := implTimes _ _ _ _ _ N1 N2 h6
      unfold AnsOne at cC
      have h6i : ¬ (601 : Int) < (len va : Int) + (len vb : Int) := by omega
      generalize len va = na at c1 h6i l1
      generalize len vb = nb at c2 h6i l2
      go_wp2_with (first | (with_reducible show wpList _ _ _ (⟨_, .store _ _ _, _, _, _, _⟩ :: _) _ _; refine store_nat w1.heap.size rfl rfl H1 zero_is IC ?_) | (with_reducible show wpList _ _ _ (⟨_, .store _ _ _, _, _, _, _⟩ :: _) _ _; refine store_nat (w1.heap.size + 1) rfl rfl H2 zero_is ID ?_))
      refine cC.mono ?_
      rintro e w3 ⟨E, rfl, IE, B3⟩
      have D3 := D1.trans (B3.mono D1.size)
      obtain ⟨N4, D4⟩ := one_is D3 IE
      have cR := implResult _ _ _ N4
      unfold Ans2 at cR
      clear N4 N1 N2 D1 D3 B3 B1 H1 H2 cC c1 c2
      have H5 := heap_alloc_new w3 (.cells zeroCells 42)
      go_wp2_with (with_reducible show wpList _ _ _ (⟨_, .store _ _ _, _, _, _, _⟩ :: _) _ _; refine store_nat w3.heap.size rfl rfl H5 zero_is IE ?_)
      refine cR.mono ?_
      rintro e w5 ⟨rfl, B5⟩
      have D5 := D4.trans (B5.mono D4.size)
      clear cR B5 D4
      generalize fits (va * vb) = f at *
      go_wp2
      go_ret2
      exact ⟨rfl, D5⟩
    · have HF : Hid (fits (va * vb) = ([], false)) := by
        show _ = _
        unfold fits
        rw [if_neg (len_mul (by omega) l1 l2)]
      have h6i : (601 : Int) < (len va : Int) + (len vb : Int) := by omega
      generalize fits (va * vb) = f at *
      generalize len va = na at c1 h6i l1
      generalize len vb = nb at c2 h6i l2
      go_wp2_with (first | (with_reducible show wpList _ _ _ (⟨_, .store _ _ _, _, _, _, _⟩ :: _) _ _; refine store_nat w1.heap.size rfl rfl H1 zero_is IC ?_) | (with_reducible show wpList _ _ _ (⟨_, .store _ _ _, _, _, _, _⟩ :: _) _ _; refine store_nat (w1.heap.size + 1) rfl rfl H2 zero_is ID ?_))
      go_ret2
      exact ⟨by rw [HF.out]; rfl, D1⟩

end Go.Proofs.Ytgbmijebhchkiaa
