/- impl.NatDiv. Conditions: at most 1048576 bytes. -/
import Derived.Test.YtgbmijebhchkiaaImplNat10
namespace Go.Proofs.Ytgbmijebhchkiaa
open Go.RowKit
open Go.Lib (byteCells)

set_option maxHeartbeats 2000000 in
set_option maxRecDepth 100000 in
theorem implNatDiv (s t : ByteArray) (w : World) (hs : s.size ≤ 1048576) (ht : t.size ≤ 1048576) : Calls Try.prog 16 #[.string s, .string t] w (Ans3 (divOf s t).1 (divOf s t).2.1 (divOf s t).2.2 w) := by
  have cN := fun W => implNaturalsOf s t W hs ht
  have hz := Try.zeroNat
  unfold AnsNats at cN
  clear hs ht
  have HV : Hid ((okS s && okS t) = true → 0 < ofV t → divOf s t = (natOf (ofV s / ofV t), natOf (ofV s % ofV t), true)) := fun h h0 => by
    obtain ⟨g1, g2⟩ := ofV_bad h
    rw [ofV_eq g1, ofV_eq g2] at *
    unfold divOf; rw [if_pos ⟨g1, g2, h0⟩]
  have HX : Hid ((okS s && okS t) = true → ¬ 0 < ofV t → divOf s t = ([], [], false)) := fun h h0 => by
    obtain ⟨g1, g2⟩ := ofV_bad h
    rw [ofV_eq g2] at h0
    unfold divOf; rw [if_neg (fun h => h0 h.2.2)]
  have HW : Hid ((okS s && okS t) = false → divOf s t = ([], [], false)) := fun h => by
    unfold divOf; rw [if_neg (fun g => ofV_not h ⟨g.1, g.2.1⟩)]
  have l1 := ofV_len s
  have l2 := ofV_len t
  generalize divOf s t = res at *
  generalize ofV s = va at *
  generalize ofV t = vb at *
  generalize (okS s && okS t) = ok at *
  go_enter Try.func16, Try.ntmps16
  go_wp2_with fail
  refine (cN _).mono ?_
  rintro e w1 ⟨C, D, rfl, IC, ID, B1⟩
  clear cN
  have H1 := two_first w1
  have H2 := two_second w1 C
  obtain ⟨N1, N2, D1, _⟩ := two_is B1 IC ID
  have c2 : ((((w1.alloc (.cells zeroCells 42)).alloc (.cells zeroCells 42)).setRow w1.heap.size C).setRow (w1.heap.size + 1) D).cell? ⟨w1.heap.size + 1, 601, none⟩ = some (.int .i64 (len vb : Int)) := N2.cells.2.1
  cases ok
  · obtain rfl := HW.out rfl
    clear HW HV HX
    go_wp2_with (first | (refine store_nat w1.heap.size rfl rfl H1 zero_is IC ?_) | (refine store_nat (w1.heap.size + 1) rfl rfl H2 zero_is ID ?_))
    go_ret3
    exact ⟨rfl, D1⟩
  · by_cases h0 : 0 < vb
    · obtain rfl := HV.out rfl h0
      clear HW HV HX
      have hne : ((len vb : Int) == 0) = false := beq_zero (by have := len_pos (v := vb) (by omega); omega)
      have cD := implDividedBy _ _ _ _ _ N1 N2 l1 l2 h0
      unfold AnsTwo at cD
      generalize len vb = m at c2 hne
      go_wp2_with (first | (refine store_nat w1.heap.size rfl rfl H1 zero_is IC ?_) | (refine store_nat (w1.heap.size + 1) rfl rfl H2 zero_is ID ?_))
      refine cD.mono ?_
      rintro e w3 ⟨E, F, rfl, IE, IF, B3⟩
      have D3 := D1.trans (B3.mono D1.size)
      have H3 := two_first w3
      have H4 := two_second w3 E
      obtain ⟨M1, M2, D4, Z4⟩ := two_is D3 IE IF
      have cT := implText _ _ _ M1
      unfold AnsS at cT
      clear cD N1 N2 D1 B3 H1 H2 c2 D3
      go_wp2_with (first | (refine store_nat w3.heap.size rfl rfl H3 zero_is IE ?_) | (refine store_nat (w3.heap.size + 1) rfl rfl H4 zero_is IF ?_))
      refine cT.mono ?_
      rintro e w5 ⟨rfl, B5⟩
      have M5 := M2.below B5 (by rw [Z4]; omega)
      have D5 := D4.trans (B5.mono D4.size)
      have cU := implText _ _ _ M5
      unfold AnsS at cU
      clear cT M1 M2 D4 Z4 B5 H3 H4
      generalize natOf (va / vb) = p at *
      generalize natOf (va % vb) = q at *
      go_wp2_with fail
      refine cU.mono ?_
      rintro e w6 ⟨rfl, B6⟩
      have D6 := D5.trans (B6.mono D5.size)
      clear cU B6 D5 M5
      go_wp2
      go_ret3
      exact ⟨rfl, D6⟩
    · obtain rfl := HX.out rfl h0
      obtain rfl : vb = 0 := by omega
      have c2' : ((((w1.alloc (.cells zeroCells 42)).alloc (.cells zeroCells 42)).setRow w1.heap.size C).setRow (w1.heap.size + 1) D).cell? ⟨w1.heap.size + 1, 601, none⟩ = some (.int .i64 0) := c2
      clear HW HV HX c2
      go_wp2_with (first | (refine store_nat w1.heap.size rfl rfl H1 zero_is IC ?_) | (refine store_nat (w1.heap.size + 1) rfl rfl H2 zero_is ID ?_))
      go_ret3
      exact ⟨rfl, D1⟩

end Go.Proofs.Ytgbmijebhchkiaa
