/- laws.eqIntS tells whether two lists are equal; laws.markIntS writes numbers into a list, laws.heldIntS tells whether they stand there. Conditions: at most 1048576 elements. -/
import Derived.Test.YtbdacfljdpdmiaaDoorRows
import Derived.Test.YtbdacfljdpdmiaaDoorMem
import Derived.Deep.QuietTactic
import Derived.BigQuiet
import Derived.Lib.Hide
namespace Go.Proofs.YtbdacfljdpdmiaaDoor
open Go.RowKit

set_option maxHeartbeats 1000000 in
set_option maxRecDepth 100000 in
theorem eqInts_any (A B : Option Addr) (c d : Nat) (zs : List Int) (w : World) (hlen : zs.length ≤ 1048576) (hA : Nums .i64 w w.heap.size A zs) (hB : Nums .i64 w w.heap.size B zs) :
    Calls Tryd.prog 28 #[.slice A zs.length c, .slice B zs.length d] w fun e w' => e = .returned (.bool true) ∧ Below w.heap.size w w' := by
  go_enter Tryd.func28, Tryd.ntmps28
  go_wp2
  go_loopw [5] (fun i wr => ∃ k : Nat, k ≤ zs.length ∧ i = .int .i64 k ∧ Below w.heap.size w wr) (fun i _ => zs.length - (intOf i).toNat)
  case atStart => exact ⟨0, Nat.zero_le _, rfl, Below.refl _ _⟩
  case round =>
    obtain ⟨k, hk, rfl, hbel⟩ := hrel
    by_cases hlt : k < zs.length
    · obtain ⟨b, o, rfl, hb, hc⟩ := hA k hlt
      obtain ⟨b', o', rfl, hb', hc'⟩ := hB k hlt
      have hcr : wr.cell? ⟨b, o + k, none⟩ = some (.int .i64 zs[k]) := (hbel.cell (p := ⟨b, o + k, none⟩) hb).trans hc
      have hcr' : wr.cell? ⟨b', o' + k, none⟩ = some (.int .i64 zs[k]) := (hbel.cell (p := ⟨b', o' + k, none⟩) hb').trans hc'
      have hltz : (k : Int) < (zs.length : Int) := by omega
      clear hc hc' hA hB
      go_wp2
      go_quiet (fail)
      go_wp2
      go_roundw
      case rel => exact ⟨k + 1, hlt, by go_num, belowDrewN hbel _⟩
      case measure => simp [intOf]; omega
    · go_wp2
      go_ret
      exact ⟨rfl, hbel⟩

/-- What a marked list holds behind k of its places. -/
def marked (zs : List Int) (k : Nat) : List Int := (List.range k).map (fun j : Nat => (j : Int) + 1) ++ zs.drop k

theorem marked_length (zs : List Int) (k : Nat) (h : k ≤ zs.length) : (marked zs k).length = zs.length := by simp [marked]; omega
theorem marked_step (zs : List Int) (k : Nat) (h : k < zs.length) :
    ((marked zs k).map (Value.int .i64)).set k (.int .i64 ((k : Int) + 1)) = (marked zs (k + 1)).map (Value.int .i64) := by
  apply List.ext_getElem?
  intro j
  simp only [marked, List.getElem?_set, List.getElem?_map, List.getElem?_append, List.length_map, List.length_append, List.length_range, List.length_drop, List.getElem?_drop]
  by_cases h1 : k = j
  · subst h1
    simp [show k < k + (zs.length - k) by omega]
  · rcases Nat.lt_or_gt_of_ne h1 with h2 | h2
    · simp [h1, show ¬ j < k by omega, show ¬ j < k + 1 by omega, show k + (j - k) = j by omega, show k + 1 + (j - (k + 1)) = j by omega]
    · simp [h1, h2, show j < k + 1 by omega]

set_option maxHeartbeats 1000000 in
set_option maxRecDepth 100000 in
theorem mark_any (B : Nat) (A : Option Addr) (c : Nat) (zs : List Int) (w : World) (hlen : zs.length ≤ 1048576) (hown : w.ownsRow B 3 1 (.slice A zs.length c) zs.length (zs.map (Value.int .i64))) :
    Calls Tryd.prog 29 #[.slice A zs.length c, .int .i64 1] w fun e w' => e = .returned (.int .i64 ((zs.length : Int) + 1)) ∧
      w'.ownsRow B 3 1 (.slice A zs.length c) zs.length ((marked zs zs.length).map (Value.int .i64)) ∧ w.grownBy w' (Value.ownBlock (.slice A zs.length c)) := by
  go_enter Tryd.func29, Tryd.ntmps29
  go_wp2
  go_loopw [1, 5] (fun n i wr => ∃ k : Nat, k ≤ zs.length ∧ i = .int .i64 k ∧ n = .int .i64 ((k : Int) + 1) ∧ wr.ownsRow B 3 1 (.slice A zs.length c) zs.length ((marked zs k).map (Value.int .i64)) ∧ w.grownBy wr (Value.ownBlock (.slice A zs.length c)))
    (fun _ i _ => zs.length - (intOf i).toNat)
  case atStart => exact ⟨0, Nat.zero_le _, rfl, rfl, by simpa [marked] using hown, World.grownBy.refl _ _⟩
  case round =>
    obtain ⟨k, hk, rfl, rfl, hownr, hg⟩ := hrel
    clear hown
    by_cases hlt : k < zs.length
    · obtain ⟨g, rfl⟩ : ∃ g, A = some ⟨g, 0, none⟩ := by
        rcases hownr.2 with ⟨_, h0⟩ | ⟨g, cap, cur, hv, _⟩
        · omega
        · injection hv with hA; exact ⟨g, hA⟩
      obtain ⟨u, hu⟩ : ∃ u, wr.cell? ⟨g, k, none⟩ = some (.int .i64 u) := by
        refine ⟨(marked zs k)[k]'(by rw [marked_length _ _ hk]; exact hlt), ?_⟩
        rw [hownr.cellAt k (by omega)]
        simp [marked_length _ _ hk, hlt]
      have hfo : wr.frozen? ⟨g, k, none⟩ = false := hownr.frozenAt k
      have hst := hownr.stored k (.int .i64 ((k : Int) + 1))
      rw [marked_step zs k hlt] at hst
      have HS := Lib.hid hst; clear hst
      have HG := Lib.hid hg; clear hg hownr
      go_wp2
      go_roundw
      case rel =>
        refine ⟨k + 1, hlt, by go_num, by go_num, HS.out.1, ?_⟩
        have h1 := HG.out
        have h2 := HS.out.2
        exact ⟨h2.os.trans h1.os, h2.tape.trans h1.tape, h2.output.trans h1.output, Nat.le_trans h1.size h2.size, fun j hj hn => (h2.block j (Nat.lt_of_lt_of_le hj h1.size) hn).trans (h1.block j hj hn)⟩
      case measure => simp [intOf]; omega
    · obtain rfl : k = zs.length := by omega
      have HO := Lib.hid hownr; have HG := Lib.hid hg; clear hownr hg
      go_wp2
      go_ret
      exact ⟨rfl, HO.out, HG.out⟩

set_option maxHeartbeats 1000000 in
set_option maxRecDepth 100000 in
theorem held_any (A : Option Addr) (c : Nat) (zs : List Int) (w : World) (hlen : zs.length ≤ 1048576) (hN : Nums .i64 w w.heap.size A (marked zs zs.length)) :
    Calls Tryd.prog 30 #[.slice A zs.length c, .int .i64 1] w fun e w' => e = .returned (.int .i64 ((zs.length : Int) + 1)) ∧ w = w' := by
  go_enter Tryd.func30, Tryd.ntmps30
  go_wp2
  go_loop [1, 5] (fun n i => ∃ k : Nat, k ≤ zs.length ∧ i = .int .i64 k ∧ n = .int .i64 ((k : Int) + 1)) (fun _ i => zs.length - (intOf i).toNat)
  case atStart => exact ⟨0, Nat.zero_le _, rfl, rfl⟩
  case round =>
    obtain ⟨k, hk, rfl, rfl⟩ := hrel
    by_cases hlt : k < zs.length
    · obtain ⟨b, o, rfl, hb, hc⟩ := hN k (by rw [marked_length _ _ (Nat.le_refl _)]; exact hlt)
      have hm : (marked zs zs.length)[k]'(by rw [marked_length _ _ (Nat.le_refl _)]; exact hlt) = (k : Int) + 1 := by simp [marked]
      rw [hm] at hc
      clear hm hN
      go_wp2
      go_round
      case rel => exact ⟨k + 1, hlt, by go_num, by go_num⟩
      case measure => simp [intOf]; omega
    · clear hN
      obtain rfl : k = zs.length := by omega
      go_wp2
      go_ret
      exact ⟨rfl, rfl⟩

end Go.Proofs.YtbdacfljdpdmiaaDoor
