/- The law's marks in lists of strings, from any number on. Conditions: at most 1048576 elements, numbers up to 1048577. -/
import Derived.Test.YtjklnfcoaakkgaaDoorStrMem
namespace Go.Proofs.YtjklnfcoaakkgaaDoor
set_option linter.unusedVariables false
open Go.RowKit

/-- What a list marked from k0 on holds behind k of its places. -/
def markedK (xs : List ByteArray) (k0 k : Nat) : List ByteArray := (List.range k).map (fun j : Nat => markB (k0 + j)) ++ xs.drop k
theorem markedK_length (xs : List ByteArray) (k0 k : Nat) (h : k ≤ xs.length) : (markedK xs k0 k).length = xs.length := by simp [markedK]; omega
theorem markedK_zero (xs : List ByteArray) (k0 : Nat) : markedK xs k0 0 = xs := by simp [markedK]
theorem markedK_step (xs : List ByteArray) (k0 k : Nat) (h : k < xs.length) :
    ((markedK xs k0 k).map Value.string).set k (.string (markB (k0 + k))) = (markedK xs k0 (k + 1)).map Value.string := by
  apply List.ext_getElem?
  intro j
  simp only [markedK, List.getElem?_set, List.getElem?_map, List.getElem?_append, List.length_map, List.length_append, List.length_range, List.length_drop, List.getElem?_drop]
  by_cases h1 : k = j
  · subst h1
    simp [show k < k + (xs.length - k) by omega]
  · rcases Nat.lt_or_gt_of_ne h1 with h2 | h2
    · simp [h1, show ¬ j < k by omega, show ¬ j < k + 1 by omega, show k + (j - k) = j by omega, show k + 1 + (j - (k + 1)) = j by omega]
    · simp [h1, h2, show j < k + 1 by omega]
theorem markedK_get (xs : List ByteArray) (k0 j : Nat) (h : j < xs.length) : (markedK xs k0 xs.length)[j]'(by rw [markedK_length _ _ _ (Nat.le_refl _)]; exact h) = markB (k0 + j) := by simp [markedK]

set_option maxHeartbeats 2000000 in
set_option maxRecDepth 100000 in
theorem markStrsK (k0 B : Nat) (A : Option Addr) (c : Nat) (xs : List ByteArray) (w : World) (h1 : 1 ≤ k0) (hlen : k0 + xs.length ≤ 1048577) (hB : B ≤ w.heap.size) (hown : w.ownsRow B 9 1 (.slice A xs.length c) xs.length (xs.map Value.string)) :
    Calls Tryd.prog 36 #[.slice A xs.length c, .int .i64 k0] w fun e w' => e = .returned (.int .i64 ((k0 + xs.length : Nat) : Int)) ∧
      w'.ownsRow B 9 1 (.slice A xs.length c) xs.length ((markedK xs k0 xs.length).map Value.string) ∧ w.grownBy w' (Value.ownBlock (.slice A xs.length c)) := by
  go_enter Tryd.func36, Tryd.ntmps36
  go_wp2
  go_loopw [1, 5] (fun n i wr => ∃ k q : Nat, k ≤ xs.length ∧ i = .int .i64 k ∧ n = .int .i64 q ∧ Hid (k0 + k = q) ∧ wr.ownsRow B 9 1 (.slice A xs.length c) xs.length ((markedK xs k0 k).map Value.string) ∧ w.grownBy wr (Value.ownBlock (.slice A xs.length c)))
    (fun _ i _ => xs.length - (intOf i).toNat)
  case atStart => exact ⟨0, k0, Nat.zero_le _, rfl, rfl, rfl, by rw [markedK_zero]; exact hown, World.grownBy.refl _ _⟩
  case round =>
    obtain ⟨k, q, hk, rfl, rfl, hq, hownr, hg⟩ := hrel
    clear hown
    by_cases hlt : k < xs.length
    · obtain ⟨g, rfl⟩ : ∃ g, A = some ⟨g, 0, none⟩ := by
        rcases hownr.2 with ⟨_, h0⟩ | ⟨g, cap, cur, hv, _⟩
        · omega
        · injection hv with hA; exact ⟨g, hA⟩
      have hgl := (hownr.lt g rfl).2
      have hq1 : 1 ≤ q := by have := hq.out; omega
      have hq2 : q ≤ 1048577 := by have := hq.out; omega
      have cM := markText_any q wr (by omega) (by omega)
      obtain ⟨u, hu⟩ : ∃ u, wr.cell? ⟨g, k, none⟩ = some (.string u) := by
        refine ⟨(markedK xs k0 k)[k]'(by rw [markedK_length _ _ _ hk]; exact hlt), ?_⟩
        rw [hownr.cellAt k (by omega)]
        simp [markedK_length _ _ _ hk, hlt]
      have hfo : wr.frozen? ⟨g, k, none⟩ = false := hownr.frozenAt k
      have HO := Lib.hid hownr
      have HG := Lib.hid hg; clear hg hownr
      go_wp2_with (go_at_call 58; refine cM.mono ?_; rintro e w1 ⟨rfl, b1⟩; have hu1 := (b1.cell (p := ⟨g, k, none⟩) hgl).trans hu; have hf1 := (b1.frozen (p := ⟨g, k, none⟩) hgl).trans hfo)
      have hO1 := HO.out.kept (row := none) ⟨b1.os, b1.tape, b1.output, b1.size, fun k hk _ => b1.block k hk⟩ (by simp [Value.ownBlock])
      have hst := hO1.stored k (.string (markB q))
      rw [← hq.out, markedK_step xs k0 k hlt, hq.out] at hst
      have HS := Lib.hid hst; clear hst hO1
      have HB1 := Lib.hid b1
      clear b1 cM
      go_roundw
      case rel =>
        refine ⟨k + 1, q + 1, hlt, by go_num, by go_num, (by show _ = _; have := hq.out; omega), HS.out.1, ?_⟩
        have h1 := HG.out
        have h2 := HS.out.2
        have h3 := HB1.out
        exact ⟨h2.os.trans (h3.os.trans h1.os), h2.tape.trans (h3.tape.trans h1.tape), h2.output.trans (h3.output.trans h1.output), Nat.le_trans h1.size (Nat.le_trans h3.size h2.size), fun j hj hn => (h2.block j (Nat.lt_of_lt_of_le hj (Nat.le_trans h1.size h3.size)) hn).trans ((h3.block j (Nat.lt_of_lt_of_le hj h1.size)).trans (h1.block j hj hn))⟩
      case measure => simp [intOf]; omega
    · obtain rfl : k = xs.length := by omega
      have HO := Lib.hid hownr; have HG := Lib.hid hg; clear hownr hg
      go_wp2
      go_ret
      exact ⟨by rw [hq.out] <;> rfl, HO.out, HG.out⟩

set_option maxHeartbeats 2000000 in
set_option maxRecDepth 100000 in
theorem heldStrsK (k0 : Nat) (A : Option Addr) (c : Nat) (xs : List ByteArray) (w : World) (h1 : 1 ≤ k0) (hlen : k0 + xs.length ≤ 1048577) (hN : Strs w w.heap.size A (markedK xs k0 xs.length)) :
    Calls Tryd.prog 37 #[.slice A xs.length c, .int .i64 k0] w fun e w' => e = .returned (.int .i64 ((k0 + xs.length : Nat) : Int)) ∧ Below w.heap.size w w' := by
  go_enter Tryd.func37, Tryd.ntmps37
  go_wp2
  go_loopw [1, 5] (fun n i wr => ∃ k q : Nat, k ≤ xs.length ∧ i = .int .i64 k ∧ n = .int .i64 q ∧ Hid (k0 + k = q) ∧ Below w.heap.size w wr) (fun _ i _ => xs.length - (intOf i).toNat)
  case atStart => exact ⟨0, k0, Nat.zero_le _, rfl, rfl, rfl, Below.refl _ _⟩
  case round =>
    obtain ⟨k, q, hk, rfl, rfl, hq, hbel⟩ := hrel
    by_cases hlt : k < xs.length
    · obtain ⟨b, o, rfl, hb, hc0⟩ := hN k (by rw [markedK_length _ _ _ (Nat.le_refl _)]; exact hlt)
      rw [markedK_get _ _ _ hlt, hq.out] at hc0
      have hq1 : 1 ≤ q := by have := hq.out; omega
      have hq2 : q ≤ 1048577 := by have := hq.out; omega
      have hcW : ∀ W, Below w.heap.size w W → W.cell? ⟨b, o + k, none⟩ = some (.string (markB q)) := fun W h => (h.cell (p := ⟨b, o + k, none⟩) hb).trans hc0
      obtain ⟨mk, hmk⟩ : ∃ mk, markB q = mk := ⟨_, rfl⟩
      have cM : ∀ W, Calls Tryd.prog 58 #[.int .i64 q] W fun e w' => e = .returned (.string mk) ∧ Below W.heap.size W w' := fun W => by
        have := markText_any q W (by omega) (by omega)
        rw [hmk] at this
        exact this
      rw [hmk] at hcW
      have hc := hcW wr hbel
      have hcd := hcW wr.drew (drewS hbel)
      have HB := Lib.hid hbel
      have HCW := Lib.hid hcW
      clear hN hc0 hmk hbel hcW
      go_wp2
      go_region_with (go_at_call 58; refine (cM _).mono ?_; rintro e w1 ⟨rfl, b1⟩; have B1 : Hid (Below w.heap.size w w1) := (drewS HB.out).trans (b1.mono (drewS HB.out).size); have hc1 := HCW.out w1 B1.out; clear b1)
      all_goals
        clear hc hcd hc1
        go_wp2
        go_roundw
        case rel => exact ⟨k + 1, q + 1, hlt, by go_num, by go_num, (by show _ = _; have := hq.out; omega), B1.out⟩
        case measure => simp [intOf]; omega
    · clear hN
      obtain rfl : k = xs.length := by omega
      go_wp2
      go_ret
      exact ⟨by rw [hq.out] <;> rfl, hbel⟩

end Go.Proofs.YtjklnfcoaakkgaaDoor
