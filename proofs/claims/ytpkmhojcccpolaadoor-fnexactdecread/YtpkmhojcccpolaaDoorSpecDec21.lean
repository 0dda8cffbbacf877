/- spec.DecRead. Condition: at most 1048576 bytes. -/
import Derived.Test.YtpkmhojcccpolaaDoorSpecDec19
import Derived.Test.YtpkmhojcccpolaaDoorSpecDec20
namespace Go.Proofs.YtpkmhojcccpolaaDoor
set_option linter.unusedVariables false
open Go.RowKit

set_option maxHeartbeats 4000000 in
set_option maxRecDepth 100000 in
theorem specDecRead (s : ByteArray) (w : World) (hs : s.size ≤ 1048576) :
    Calls Tryd.prog 16 #[.string s] w (AnsDC (readR s.data.toList) w) := by
  have L1 := DecAt.new w false ⟨#[]⟩ 0
  have L2 : Below w.heap.size w (w.alloc (.cells #[.bool false, .string ⟨#[]⟩, .int .i64 0] 26)) := (Below.refl _ _).alloc (Nat.le_refl _) _
  obtain ⟨R, hR⟩ : ∃ R, readR s.data.toList = R := ⟨_, rfl⟩
  rw [hR]
  by_cases h0 : s.size = 0
  · obtain rfl : s = ⟨#[]⟩ := ByteArray.ext (Array.eq_empty_of_size_eq_zero h0)
    have HV : Hid (R = (DecV.zero, 3)) := by
      show _ = _
      rw [← hR]
      exact read_not (by simp) (fun h => h.2 ⟨rfl, rfl⟩)
    clear hR h0 hs
    go_enter Tryd.func16, Tryd.ntmps16
    go_wp2_with (with_reducible show wpList _ _ _ (⟨_, .store _ _ _, _, _, _, _⟩ :: _) _ _; refine store_dec w.heap.size rfl rfl L1 ?_)
    refine bodyPost_ret (results_dcS rfl _ _ rfl rfl L1.row) rfl ⟨?_, below_row3 L2 (Nat.le_refl _) _⟩
    rw [HV.out]; rfl
  · have hte : s.toList.isEmpty = false := list_full s h0
    by_cases hlen : 1000 < s.size
    · have HV : Hid (R = (DecV.zero, 3)) := by
        show _ = _
        rw [← hR]
        unfold readR
        rw [if_pos (by rw [size_list]; exact hlen)]
      have hli : (1000 : Int) < (s.size : Int) := by omega
      clear hR
      go_enter Tryd.func16, Tryd.ntmps16
      go_wp2_with (with_reducible show wpList _ _ _ (⟨_, .store _ _ _, _, _, _, _⟩ :: _) _ _; refine store_dec w.heap.size rfl rfl L1 ?_)
      refine bodyPost_ret (results_dcS rfl _ _ rfl rfl L1.row) rfl ⟨?_, below_row3 L2 (Nat.le_refl _) _⟩
      rw [HV.out]; rfl
    · have hli : ¬ (1000 : Int) < (s.size : Int) := by omega
      have hlz : s.data.toList.length ≤ 1000 := by rw [size_list]; omega
      have hl1 : 1 ≤ s.data.toList.length := by rw [size_list]; omega
      have cN := fun W => specScan s W (by omega) (by omega)
      have hall := scan_all hl1
      rw [size_list] at hall
      obtain ⟨k, hk⟩ : ∃ k, scanN s.data.toList = k := ⟨_, rfl⟩
      rw [hk] at cN hall
      by_cases hy : k = s.size
      · obtain ⟨y1, y2⟩ := hall.1 hy
        obtain ⟨x, hx⟩ := Option.ne_none_iff_exists'.1 y1
        have cR := fun W => specRead s x W (by omega) (by omega) hx y2
        rw [← read_yes hlz hx y2, hR] at cR
        unfold AnsDC at cR
        obtain ⟨⟨rn, rd, re⟩, rc⟩ := R
        dsimp only at cR
        obtain ⟨rs, hrs⟩ : ∃ rs : ByteArray, ⟨rd.toArray⟩ = rs := ⟨_, rfl⟩
        rw [hrs] at cR
        have HRS := Lib.hid hrs
        have hb : ((k : Int) != (s.size : Int)) = false := by rw [hy]; simp
        clear hR hrs hall y1 y2 hx hk hlz hl1 hy
        go_enter Tryd.func16, Tryd.ntmps16
        go_wp2_with fail
        refine (cN _).mono ?_
        rintro r w1 ⟨rfl, B1⟩
        have K1 := L1.belowS B1
        have D1 := below_kept L2 (Nat.le_refl _) B1
        clear cN B1 L1 L2
        go_wp2_with fail
        refine (cR _).mono ?_
        rintro r w2 ⟨rfl, B2⟩
        have KZ := K1.belowS B2
        have DZ := below_kept D1 (Nat.le_refl _) B2
        clear cR B2 K1 D1
        go_wp2_with (with_reducible show wpList _ _ _ (⟨_, .store _ _ _, _, _, _, _⟩ :: _) _ _; refine store_dec w.heap.size rfl rfl KZ ?_)
        refine bodyPost_ret (results_dcS rfl _ _ rfl rfl KZ.row) rfl ⟨?_, below_row3 DZ (Nat.le_refl _) _⟩
        rw [← HRS.out]; rfl
      · have HV : Hid (R = (DecV.zero, 3)) := by
          show _ = _
          rw [← hR]
          exact read_not hlz (fun h => hy (hall.2 h))
        have hb : ((k : Int) != (s.size : Int)) = true := by rw [bne_iff_ne]; omega
        clear hR hall hk hlz hl1 hy
        go_enter Tryd.func16, Tryd.ntmps16
        go_wp2_with fail
        refine (cN _).mono ?_
        rintro r w1 ⟨rfl, B1⟩
        have KZ := L1.belowS B1
        have DZ := below_kept L2 (Nat.le_refl _) B1
        clear cN B1 L1 L2
        go_wp2_with (with_reducible show wpList _ _ _ (⟨_, .store _ _ _, _, _, _, _⟩ :: _) _ _; refine store_dec w.heap.size rfl rfl KZ ?_)
        refine bodyPost_ret (results_dcS rfl _ _ rfl rfl KZ.row) rfl ⟨?_, below_row3 DZ (Nat.le_refl _) _⟩
        rw [HV.out]; rfl

end Go.Proofs.YtpkmhojcccpolaaDoor
