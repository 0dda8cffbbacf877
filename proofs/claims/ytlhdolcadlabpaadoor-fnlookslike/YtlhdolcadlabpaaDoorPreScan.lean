/- spec.l03Scan from any place. Conditions: at most 1000 bytes. -/
import Derived.Test.YtlhdolcadlabpaaDoorPreScanA
import Derived.Test.YtlhdolcadlabpaaDoorPreScanB
import Derived.Test.YtlhdolcadlabpaaDoorPreScanC
namespace Go.Proofs.YtlhdolcadlabpaaDoor
set_option linter.unusedVariables false
open Go.RowKit

set_option maxHeartbeats 1000000 in
theorem specScanD (s : ByteArray) (a : Nat) (w : World) (hs : s.size ≤ 1000) (h1 : a = s.size) :
    Calls Tryd.prog 31 #[.string s, .int .i64 a] w fun r w' => r = .returned (.int .i64 a) ∧ Below w.heap.size w w' := by
  have hpi : ¬ (a : Int) < (s.size : Int) := by omega
  clear h1
  go_enter Tryd.func31, Tryd.ntmps31
  go_wp2
  go_loopw [5, 6, 7] (fun kv dv pv wr => kv = .int .i64 a ∧ dv = .int .i64 0 ∧ pv = .int .i64 0 ∧ Below w.heap.size w wr) (fun _ _ _ _ => 0)
  case atStart => exact ⟨rfl, rfl, rfl, Below.refl _ _⟩
  case round =>
    obtain ⟨rfl, rfl, rfl, hbel⟩ := hrel
    go_wp2_with fail
    go_ret
    exact ⟨rfl, hbel⟩

theorem specScanG (s : ByteArray) (a V : Nat) (w : World) (hs : s.size ≤ 1000) (ha : a ≤ s.size) (hV : a + scanN (s.data.toList.drop a) = V) :
    Calls Tryd.prog 31 #[.string s, .int .i64 a] w fun r w' => r = .returned (.int .i64 V) ∧ Below w.heap.size w w' := by
  by_cases h : a < s.size
  · have e := drop_at h
    obtain ⟨x0, hx0⟩ : ∃ x, s[a] = x := ⟨_, rfl⟩
    rw [hx0] at e
    obtain ⟨r0, hr0⟩ : ∃ r, (cutR (s.data.toList.drop a)).2 = r := ⟨_, rfl⟩
    obtain ⟨W, hW⟩ : ∃ q, tW r0 = q := ⟨_, rfl⟩
    obtain ⟨r1, hr1⟩ : ∃ q, dW r0 = q := ⟨_, rfl⟩
    obtain ⟨⟨F, r2⟩, hfr⟩ : ∃ q, frac r1 = q := ⟨_, rfl⟩
    have hL : (s.data.toList.drop a).length = s.size - a := by rw [List.length_drop, size_list]
    have hr2 : r2.length ≤ s.size - a := by
      have h1 := cutR_len (s.data.toList.drop a)
      have h2 := len_tW r0
      have h3 := frac_len r1
      rw [hfr] at h3
      rw [hr1] at h2
      rw [hr0] at h1
      dsimp only at h3
      omega
    have HSN : Hid (V = if W = [] ∧ F = [] then a else scanE s.size (s.size - r2.length) r2) := by
      show _ = _
      rw [← hV]
      unfold scanN
      rw [hr0, hW, hr1, hfr, hL]
      dsimp only
      split
      · rfl
      · rw [← scanE_shift a _ _ r2 hr2]
        have e1 : a + (s.size - a) = s.size := by omega
        have e2 : a + (s.size - a - r2.length) = s.size - r2.length := by omega
        rw [e1, e2]
    have HFR := Lib.hid hfr
    rw [e, cutR_cons] at hr0
    by_cases g : x0 = 43 ∨ x0 = 45
    · rw [if_pos g] at hr0
      have hr : s.data.toList.drop (a + 1) = r0 := hr0
      have HST : Hid (Way s.data.toList W F r1 r2 (a + 1) 0 false) := ⟨by rw [hr, hW]; omega, by rw [hr]; exact hr1⟩
      rcases g with g | g
      · exact specScanA s a V x0 W F r1 r2 w hs h hx0 (by rw [g]; rfl) HST HSN HFR
      · exact specScanB s a V x0 W F r1 r2 w hs h hx0 (by rw [g]; rfl) (by rw [g]; rfl) HST HSN HFR
    · rw [if_neg g] at hr0
      have hr : s.data.toList.drop a = r0 := by rw [e]; exact hr0
      have HST : Hid (Way s.data.toList W F r1 r2 a 0 false) := ⟨by rw [hr, hW]; omega, by rw [hr]; exact hr1⟩
      refine specScanC s a V x0 W F r1 r2 w hs h hx0 ?_ ?_ HST HSN HFR
      · rw [beq_eq_false_iff_ne]; exact fun e => g (.inl (UInt8.toNat_inj.1 (by show x0.toNat = 43; omega)))
      · rw [beq_eq_false_iff_ne]; exact fun e => g (.inr (UInt8.toNat_inj.1 (by show x0.toNat = 45; omega)))
  · have e : V = a := by rw [← hV, drop_end h]; rfl
    subst e
    exact specScanD s V w hs (by omega)

end Go.Proofs.YtlhdolcadlabpaaDoor
