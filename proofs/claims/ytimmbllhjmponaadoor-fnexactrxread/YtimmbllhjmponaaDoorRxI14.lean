/- The program's reader of patterns: whole. Conditions: at most 1000 code points. -/
import Derived.Test.YtimmbllhjmponaaDoorRxI13
import Derived.Test.YtimmbllhjmponaaDoorRxBk
import Derived.Test.YtimmbllhjmponaaDoorRxSizeI
namespace Go.Proofs.YtimmbllhjmponaaDoor
set_option linter.unusedVariables false
open Go.RowKit

def WholeIs (w : World) (p : Nat) (s : List Int) (PA : Option Addr) (pc : Nat) (F : List Nat) (r : Rd) (e : Ending) (w' : World) : Prop :=
  match r with
  | .ok n j o => e = .returned (.tuple #[]) ∧ ∃ F', Rdr w' p s PA pc j 0 o F' ∧ Keep (p :: F) w w' ∧ ∀ b ∈ F', b ∈ F ∨ w.heap.size ≤ b
  | .err c q => e = .panicked [{ v := .iface 44 (.agg #[.int .i64 q, .int .i64 c]), recovered := false }] ∧ Keep (p :: F) w w'

set_option maxHeartbeats 4000000 in
set_option maxRecDepth 100000 in
theorem whole_any (w : World) (p : Nat) (s : List Int) (PA : Option Addr) (pc : Nat) (F : List Nat) (h : Rdr w p s PA pc 0 0 [] F) (hs : s.length ≤ 1000) (hP : Pos s) (r : Rd) (hr : Hid (wholeR s = r)) :
    Calls Tryd.prog 21 #[.pointer (some ⟨p, 0, none⟩)] w (WholeIs w p s PA pc F r) := by
  have cA := alts_all s hs hP 6 (Nat.le_refl _) w p PA pc 0 [] F h (Nat.zero_le _) (by simp; omega)
  have hfar := innerD_far s 7 (altsD s 6) rfl 0 [] (Nat.zero_le _)
  have HFar := Lib.hid hfar
  clear hfar h
  go_enter Tryd.func21, Tryd.ntmps21
  go_wp2_with fail
  refine cA.mono ?_
  intro e w1 hpost
  clear cA
  cases hA : altsD s 6 0 [] with
  | err cc q =>
    rw [hA] at hpost
    obtain ⟨rfl, k⟩ := hpost
    have e : Hid (r = .err cc q) := by show r = _; rw [← hr.out]; unfold wholeR; rw [hA]
    have K2 := Lib.hid k
    clear k hA
    go_wp2
    exact ⟨rfl, by rw [e.out]; exact ⟨rfl, K2.out⟩⟩
  | ok x j o =>
    rw [hA] at hpost
    obtain ⟨rfl, F1, r1, k1, s1⟩ := hpost
    have hbk := altsD_bulk hs hA
    have hfar := HFar.out x j o hA
    have hj1 := hfar.2.1
    have HE : Hid (r = if pk s j ≠ 0 then .err 2 j else if 400 < o.length ∨ 1000 < sizeR o then .err 7 j else .ok x j o) := by show r = _; rw [← hr.out]; unfold wholeR; rw [hA]
    have K1 := Lib.hid k1
    have R1 := Lib.hid r1
    have S1 : Hid (∀ b ∈ F1, b ∈ F ∨ w.heap.size ≤ b) := fun b hb => by
      rcases s1 b hb with h | h | h
      · exact .inl h
      · cases h
      · exact .inr h
    clear k1 r1 s1 hA hfar
    obtain ⟨y, hy⟩ : ∃ y, pk s j = y := ⟨_, rfl⟩
    rw [hy] at HE
    have HY := Lib.hid hy
    clear hy
    go_wp2_with fail
    refine (rd_ahead0 R1.out hs (by omega)).mono ?_
    rintro e w2 ⟨rfl, k2, r2⟩
    rw [HY.out]
    have K2 := Lib.hid (K1.out.tr k2.nil)
    have R2 := Lib.hid r2
    obtain ⟨nv, xs, hR, hO, hFe⟩ := r2
    obtain ⟨A, c, rfl, hN⟩ := hO.nodes
    obtain ⟨c0, c1, c2, c3⟩ := hR.cell
    have HN := Lib.hid hN
    clear k2 hR hO hFe hN K1 R1
    by_cases hy0 : y = 0
    · subst hy0
      by_cases h4 : 400 < o.length
      · have e : Hid (r = .err 7 j) := by show r = _; rw [HE.out, if_neg (by simp), if_pos (.inl h4)]
        have h4z : (400 : Int) < o.length := by omega
        clear HE
        go_wp2
        exact ⟨rfl, by rw [e.out]; exact ⟨rfl, K2.out⟩⟩
      · have h4z : ¬ (400 : Int) < o.length := by omega
        have cZ := implSize A c o w2 (by omega) HN.out
        go_wp2_with fail
        refine cZ.mono ?_
        rintro e w3 ⟨rfl, b3⟩
        have K3 := Lib.hid (K2.out.tr (Keep.ofBelow b3).nil)
        have R3 := Lib.hid (R2.out.keep0 (Keep.ofBelow b3))
        obtain ⟨nv3, xs3, hR3, hO3, hFe3⟩ := R3.out
        obtain ⟨d0, d1, d2, d3⟩ := hR3.cell
        clear cZ b3 hR3 hO3 hFe3
        by_cases h1 : 1000 < sizeR o
        · have e : Hid (r = .err 7 j) := by show r = _; rw [HE.out, if_neg (by simp), if_pos (.inr h1)]
          clear HE
          go_wp2
          exact ⟨rfl, by rw [e.out]; exact ⟨rfl, K3.out⟩⟩
        · have e : Hid (r = .ok x j o) := by show r = _; rw [HE.out, if_neg (by simp), if_neg (by omega)]
          clear HE
          go_wp2
          go_end0
          rw [e.out]
          exact ⟨rfl, F1, R3.out, K3.out, S1.out⟩
    · have e : Hid (r = .err 2 j) := by show r = _; rw [HE.out, if_pos hy0]
      clear HE
      go_wp2
      exact ⟨rfl, by rw [e.out]; exact ⟨rfl, K2.out⟩⟩

end Go.Proofs.YtimmbllhjmponaaDoor
