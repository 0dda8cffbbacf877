/- impl.NatRound. Conditions: at most 1048576 bytes. -/
import Derived.Test.YtgbmijebhchkiaaOneNat
namespace Go.Proofs.Ytgbmijebhchkiaa
open Go.RowKit
open Go.Lib (byteCells)

set_option maxHeartbeats 400000 in
set_option maxRecDepth 100000 in
theorem implNatRound (s : ByteArray) (n : Int) (w : World) (hs : s.size ≤ 1048576) : Calls Try.prog 27 #[.string s, .int .i64 n] w (Ans2 (rndOf s n) w) := by
  have cN := fun W => implNaturalOf s W hs
  have hz := Try.zeroNat
  unfold AnsNat at cN
  clear hs
  have HV : Hid (okS s = true → ∀ m : Nat, m ≤ 600 → n = (m : Int) → rndOf s n = fits (rnd (ofV s) m)) := fun h m hm e => by
    have g : NatS s := of_decide_eq_true h
    subst e
    unfold rndOf; rw [if_pos ⟨g, by omega, by omega⟩, ofV_eq g, Int.toNat_natCast]
  have HX : Hid (¬ (0 ≤ n ∧ n ≤ 600) → rndOf s n = ([], false)) := fun h => by
    unfold rndOf; rw [if_neg (fun g => h g.2)]
  have HW : Hid (okS s = false → rndOf s n = ([], false)) := fun h => by
    unfold rndOf; rw [if_neg (fun g => by unfold okS at h; rw [decide_eq_true g.1] at h; cases h)]
  have l1 := ofV_len s
  generalize rndOf s n = res at *
  generalize ofV s = v at *
  generalize okS s = ok at *
  go_enter Try.func27, Try.ntmps27
  go_wp2_with fail
  refine (cN _).mono ?_
  rintro e w1 ⟨C, rfl, IC, B1⟩
  clear cN
  have H1 := heap_alloc_new w1 (.cells zeroCells 42)
  obtain ⟨N1, D1⟩ := one_is B1 IC
  cases ok
  · obtain rfl := HW.out rfl
    clear HW HV HX
    go_wp2_with (with_reducible show wpList _ _ _ (⟨_, .store _ _ _, _, _, _, _⟩ :: _) _ _; refine store_nat w1.heap.size rfl rfl H1 zero_is IC ?_)
    go_ret2
    exact ⟨rfl, D1⟩
  · by_cases hn : 0 ≤ n ∧ n ≤ 600
    · obtain ⟨m, rfl⟩ : ∃ m : Nat, n = m := ⟨n.toNat, by omega⟩
      have hm : m ≤ 600 := by omega
      have hmi : ¬ (600 : Int) < (m : Int) := by omega
      obtain rfl := HV.out rfl m hm rfl
      clear HW HV HX hn
      have cC := implCut _ _ m _ N1 hm
      unfold AnsOne at cC
      have HR := Lib.hid (rnd_up v m)
      have HL : Hid (len (v / 10 ^ m) ≤ 600) := Nat.le_trans (len_mono' (Nat.div_le_self _ _)) l1
      go_wp2_with (with_reducible show wpList _ _ _ (⟨_, .store _ _ _, _, _, _, _⟩ :: _) _ _; refine store_nat w1.heap.size rfl rfl H1 zero_is IC ?_)
      refine cC.mono ?_
      rintro e w3 ⟨E, rfl, IE, B3⟩
      have N3 := N1.below B3 N1.lt
      have D3 := D1.trans (B3.mono D1.size)
      clear cC N1 D1 B3 H1
      have H3 := heap_alloc_new w3 (.cells zeroCells 42)
      obtain ⟨N5, D5⟩ := one_is D3 IE
      have hB1 := B1.size
      have N6 := (N3.alloc (.cells zeroCells 42)).rowOther (k := w3.heap.size) E (by have := N3.lt; omega)
      by_cases hm0 : 0 < m
      · have hm0i : (0 : Int) < (m : Int) := by omega
        have cU := implRoundsUp _ _ m _ N6 hm (by omega)
        go_wp2_with (with_reducible show wpList _ _ _ (⟨_, .store _ _ _, _, _, _, _⟩ :: _) _ _; refine store_nat w3.heap.size rfl rfl H3 zero_is IE ?_)
        refine cU.mono ?_
        rintro e w5 ⟨rfl, B5⟩
        have M5 := N5.below B5 (by simp)
        have D6 := D5.trans (B5.mono D5.size)
        clear cU N5 D5 B5 N6 H3 N3
        generalize upB v m = up at *
        cases up
        · have HE : Hid (fits (rnd v m) = fits (v / 10 ^ m)) := by show _ = _; rw [HR.out]; simp
          generalize v / 10 ^ m = q at *
          have cR := implResult _ _ _ M5
          unfold Ans2 at cR
          clear HR HL
          go_wp2_with fail
          refine cR.mono ?_
          rintro e w7 ⟨rfl, B7⟩
          have D7 := D6.trans (B7.mono D6.size)
          generalize fits q = f at *
          clear cR B7 D6 M5
          go_wp2
          go_ret2
          exact ⟨by rw [HE.out]; rfl, D7⟩
        · have HE : Hid (fits (rnd v m) = fits (v / 10 ^ m + 1)) := by show _ = _; rw [HR.out]; simp
          have hL := HL.out
          generalize v / 10 ^ m = q at *
          clear HR HL
          obtain ⟨O1, O2, b1, b2, IO⟩ := one_row
          obtain ⟨N8, D8⟩ := one_is D6 IO
          have N8' : NatAt ((w5.alloc (.cells zeroCells 42)).setRow w5.heap.size O2) w5.heap.size 1 (len 1) := by rw [len_one]; exact N8
          clear N8
          have M8 := (M5.alloc (.cells zeroCells 42)).rowOther (k := w5.heap.size) O2 (by have := M5.lt; omega)
          have cP := implPlus _ _ _ _ _ M8 N8' hL (by rw [len_one]; omega)
          unfold AnsOne at cP
          have H8 := heap_alloc_new w5 (.cells zeroCells 42)
          go_wp2_with (first | (with_reducible show wpList _ _ _ (⟨_, .build _ _, _, _, _, _⟩ :: _) _ _; first | refine build1 b1 rfl ?_ | refine build2 b2 rfl rfl ?_) | (with_reducible show wpList _ _ _ (⟨_, .store _ _ _, _, _, _, _⟩ :: _) _ _; refine store_nat w5.heap.size rfl rfl H8 zero_is IO ?_))
          refine cP.mono ?_
          rintro e w9 ⟨F, rfl, IF, B9⟩
          have M9 := M8.below B9 M8.lt
          have D9 := D8.trans (B9.mono D8.size)
          have M10 := M9.row IF
          have hw3 : w.heap.size ≤ w3.heap.size := D3.size
          have D10 := below_row D9 hw3 F
          have cR := implResult _ _ _ M10
          unfold Ans2 at cR
          obtain ⟨O9, h9, I9⟩ := M9
          clear cP M5 M8 N8' D8 D9 D6 M10 B9 H8 b1 b2
          go_wp2_with (with_reducible show wpList _ _ _ (⟨_, .store _ _ _, _, _, _, _⟩ :: _) _ _; refine store_nat w3.heap.size rfl rfl h9 I9 IF ?_)
          refine cR.mono ?_
          rintro e w11 ⟨rfl, B11⟩
          have D11 := D10.trans (B11.mono D10.size)
          generalize fits (q + 1) = f at *
          clear cR B11 D10
          go_wp2
          go_ret2
          exact ⟨by rw [HE.out]; rfl, D11⟩
      · obtain rfl : m = 0 := by omega
        have HE : Hid (fits (rnd v 0) = fits (v / 10 ^ 0)) := by
          show _ = _
          unfold rnd
          rw [if_neg (by simp; omega)]
        generalize v / 10 ^ 0 = q at *
        have cR := implResult _ _ _ N5
        unfold Ans2 at cR
        clear HR HL N6 N3
        go_wp2_with (with_reducible show wpList _ _ _ (⟨_, .store _ _ _, _, _, _, _⟩ :: _) _ _; refine store_nat w3.heap.size rfl rfl H3 zero_is IE ?_)
        refine cR.mono ?_
        rintro e w7 ⟨rfl, B7⟩
        have D7 := D5.trans (B7.mono D5.size)
        generalize fits q = f at *
        clear cR B7 D5 N5
        go_wp2
        go_ret2
        exact ⟨by rw [HE.out]; rfl, D7⟩
    · obtain rfl := HX.out hn
      clear HW HV HX
      have hcase : n < 0 ∨ (¬ n < 0 ∧ (600 : Int) < n) := by omega
      rcases hcase with h1 | ⟨h1, h2⟩
      all_goals
        go_wp2_with (with_reducible show wpList _ _ _ (⟨_, .store _ _ _, _, _, _, _⟩ :: _) _ _; refine store_nat w1.heap.size rfl rfl H1 zero_is IC ?_)
        go_ret2
        exact ⟨rfl, D1⟩

end Go.Proofs.Ytgbmijebhchkiaa
