/- spec.DecNeg and spec.l03Sum of valid decimals. -/
import Derived.Test.YtpkmhojcccpolaaDoorSpecDec3
namespace Go.Proofs.YtpkmhojcccpolaaDoor
set_option linter.unusedVariables false
open Go.RowKit

/-- Two more blocks than a valid decimal needs; behind it a decimal is stored. -/
theorem neg_list {n : Bool} {s : ByteArray} {e : Int} (h : s.size ≠ 0) : negOf (dOf n s e) = dOf (!n) s e := by
  unfold negOf
  rw [if_neg]
  · rfl
  · show s.data.toList ≠ []
    intro g
    have := size_list s
    rw [g] at this; simp at this; omega
theorem neg_nil {n : Bool} {s : ByteArray} {e : Int} (h : s.size = 0) : negOf (dOf n s e) = DecV.zero := by
  unfold negOf
  rw [if_pos]
  exact List.eq_nil_of_length_eq_zero (by show s.data.toList.length = 0; rw [size_list]; exact h)
theorem mk_list (s : ByteArray) : (⟨s.data.toList.toArray⟩ : ByteArray) = s := by rw [Array.toArray_toList]

set_option maxHeartbeats 1000000 in
set_option maxRecDepth 100000 in
theorem specDecNeg (n : Bool) (s : ByteArray) (e : Int) (w : World) (hs : s.size ≤ 1048576) (b1 : -9223372036854775808 ≤ e) (b2 : e ≤ 9223372036854775807) :
    Calls Tryd.prog 58 #[.agg #[.bool n, .string s, .int .i64 e]] w fun r w' => ((dOf n s e).Ok → AnsD (negOf (dOf n s e)) w r w') ∧ (¬ (dOf n s e).Ok → AnsD DecV.zero w r w') := by
  have cO := fun W => specDecOk n s e W hs b1 b2
  obtain ⟨P, HP⟩ : ∃ P : Prop, Hid (P = (dOf n s e).Ok) := ⟨_, rfl⟩
  rw [← HP.out] at cO
  have K1 := (DecAt.new w n s e).alloc (.cells #[.bool false, .string ⟨#[]⟩, .int .i64 0] 26)
  have K2 := DecAt.new (w.alloc (.cells #[.bool n, .string s, .int .i64 e] 26)) false ⟨#[]⟩ 0
  rw [show (w.alloc (.cells #[.bool n, .string s, .int .i64 e] 26)).heap.size = w.heap.size + 1 by simp] at K2
  have B : Below w.heap.size w ((w.alloc (.cells #[.bool n, .string s, .int .i64 e] 26)).alloc (.cells #[.bool false, .string ⟨#[]⟩, .int .i64 0] 26)) := ((Below.refl _ _).alloc (Nat.le_refl _) _).alloc (by simp) _
  rw [← HP.out]
  obtain ⟨A, hA⟩ : ∃ A : Ending → World → Prop, A = fun r w' => (P → AnsD (negOf (dOf n s e)) w r w') ∧ (¬ P → AnsD DecV.zero w r w') := ⟨_, rfl⟩
  have HA := Lib.hid hA
  rw [← hA]
  clear hA
  go_enter Tryd.func58, Tryd.ntmps58
  go_wp2_with fail
  refine (cO _).mono ?_
  intro r w1 hr
  obtain ⟨hb, B1⟩ := AnsB.get hr
  obtain ⟨k0, k1, k2⟩ := (K1.belowS B1).cell
  have K3 := K2.belowS B1
  obtain ⟨k3, k4, k5⟩ := K3.cell
  have f0 := K3.frozen 0
  have f1 := K3.frozen 1
  have f2 := K3.frozen 2
  have D := B.trans (B1.mono B.size)
  clear cO B1 hr B K1 K2
  rcases hb with ⟨rfl, hb⟩ | ⟨rfl, hb⟩
  · have HB := Lib.hid hb
    clear hb
    by_cases h0 : s.size = 0
    · have hnil : s.toList.isEmpty = true := by rw [List.isEmpty_iff]; exact toList_nil.2 h0
      have HN : Hid (negOf (dOf n s e) = DecV.zero) := neg_nil h0
      clear h0
      go_wp2
      refine bodyPost_ret (v := .agg #[.bool false, .string ⟨#[]⟩, .int .i64 0]) (by simp [results, Tryd.results58, go_sem, (K3.set false ⟨#[]⟩ 0).cell]) rfl ?_
      rw [HA.out]
      exact ⟨fun _ => ⟨by rw [HN.out]; rfl, Below.set3 D (by omega)⟩, fun h => absurd HB.out h⟩
    · have hnil : s.toList.isEmpty = false := by rw [List.isEmpty_eq_false_iff]; exact fun h => h0 (toList_nil.1 h)
      have HN : Hid (negOf (dOf n s e) = dOf (!n) s e) := neg_list h0
      clear h0
      go_wp2
      refine bodyPost_ret (v := .agg #[.bool (!n), .string s, .int .i64 e]) (by simp [results, Tryd.results58, go_sem, (K3.set (!n) s e).cell]) rfl ?_
      rw [HA.out]
      exact ⟨fun _ => ⟨by rw [HN.out]; show _ = Ending.returned (.agg #[.bool (!n), .string ⟨s.data.toList.toArray⟩, .int .i64 e]); rw [mk_list], Below.set3 D (by omega)⟩, fun h => absurd HB.out h⟩
  · have HB := Lib.hid hb
    clear hb
    go_wp2
    refine bodyPost_ret (v := .agg #[.bool false, .string ⟨#[]⟩, .int .i64 0]) (by simp [results, Tryd.results58, go_sem, (K3.set false ⟨#[]⟩ 0).cell]) rfl ?_
    rw [HA.out]
    exact ⟨fun h => absurd h HB.out, fun _ => ⟨rfl, Below.set3 D (by omega)⟩⟩

end Go.Proofs.YtpkmhojcccpolaaDoor
