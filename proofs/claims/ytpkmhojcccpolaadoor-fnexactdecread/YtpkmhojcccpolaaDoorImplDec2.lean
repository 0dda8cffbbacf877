/- strings.Clone, impl's magnitude, impl.DecNeg. Condition: at most 1048576 digits. -/
import Derived.Test.YtpkmhojcccpolaaDoorImplDec1
import Derived.Test.YtpkmhojcccpolaaDoorDecPlain
import Derived.Test.YtpkmhojcccpolaaDoorShelf
namespace Go.Proofs.YtpkmhojcccpolaaDoor
set_option linter.unusedVariables false
open Go.RowKit

set_option maxHeartbeats 400000 in
theorem implClone (s : ByteArray) (w : World) (hs : s.size ≤ 1048576) : Calls Tryd.prog 77 #[.string s] w fun r w' => r = .returned (.string s) ∧ Below w.heap.size w w' := by
  have c := fun W => Tryd.stringslite_Clone s W (by omega)
  go_enter Tryd.func77, Tryd.ntmps77
  go_wp2_with fail
  refine (c _).mono ?_
  rintro r w1 ⟨rfl, B1⟩
  clear c
  go_wp2
  go_ret
  exact ⟨rfl, B1⟩

theorem specDecNegR (n : Bool) (s : ByteArray) (e : Int) (w : World) (hs : s.size ≤ 1048576) (b1 : -9223372036854775808 ≤ e) (b2 : e ≤ 9223372036854775807) :
    Calls Tryd.prog 58 #[.agg #[.bool n, .string s, .int .i64 e]] w (AnsD (negR (dOf n s e)) w) := by
  refine (specDecNeg n s e w hs b1 b2).mono fun r w' h => ?_
  unfold negR
  by_cases g : (dOf n s e).Ok
  · rw [if_pos g]; exact h.1 g
  · rw [if_neg g]; exact h.2 g

set_option maxHeartbeats 400000 in
theorem implMagnitude (n : Bool) (s : ByteArray) (e : Int) (w : World) (hs : s.size ≤ 1048576) (b1 : -1000000000 ≤ e) (b2 : e ≤ 1000000000) :
    Calls Tryd.prog 39 #[.agg #[.bool n, .string s, .int .i64 e]] w fun r w' => r = .returned (.int .i64 (e + s.size - 1)) ∧ Below w.heap.size w w' := by
  have B : Below w.heap.size w (w.alloc (.cells #[.bool n, .string s, .int .i64 e] 26)) := (Below.refl _ _).alloc (Nat.le_refl _) _
  go_enter Tryd.func39, Tryd.ntmps39
  go_wp2
  go_ret
  exact ⟨rfl, B⟩

set_option maxHeartbeats 1000000 in
set_option maxRecDepth 100000 in
theorem implDecNeg (n : Bool) (s : ByteArray) (e : Int) (w : World) (hs : s.size ≤ 1048576) (b1 : -9223372036854775808 ≤ e) (b2 : e ≤ 9223372036854775807) :
    Calls Tryd.prog 59 #[.agg #[.bool n, .string s, .int .i64 e]] w (AnsD (negR (dOf n s e)) w) := by
  have cO := fun W => implDecOk n s e W hs b1 b2
  have cZ := fun W => implIsZero n s e W
  have cC := fun W => implClone s W hs
  obtain ⟨R, hR⟩ : ∃ R, negR (dOf n s e) = R := ⟨_, rfl⟩
  rw [hR]
  unfold negR at hR
  have HR := Lib.hid hR
  clear hR
  have K1 := (DecAt.new w n s e).alloc (.cells #[.bool false, .string ⟨#[]⟩, .int .i64 0] 26)
  have K2 := DecAt.new (w.alloc (.cells #[.bool n, .string s, .int .i64 e] 26)) false ⟨#[]⟩ 0
  rw [show (w.alloc (.cells #[.bool n, .string s, .int .i64 e] 26)).heap.size = w.heap.size + 1 by simp] at K2
  have B : Below w.heap.size w ((w.alloc (.cells #[.bool n, .string s, .int .i64 e] 26)).alloc (.cells #[.bool false, .string ⟨#[]⟩, .int .i64 0] 26)) := ((Below.refl _ _).alloc (Nat.le_refl _) _).alloc (by simp) _
  go_enter Tryd.func59, Tryd.ntmps59
  go_wp2_with fail
  refine (cO _).mono ?_
  intro r w1 hr
  obtain ⟨hb, B1⟩ := AnsB.get hr
  have K3 := K1.belowS B1
  have K4 := K2.belowS B1
  have D1 := below_kept B (Nat.le_refl _) B1
  obtain ⟨k0, k1, k2⟩ := K3.cell
  clear cO B1 hr B K1 K2
  rcases hb with ⟨rfl, hb⟩ | ⟨rfl, hb⟩
  · have HB := Lib.hid hb
    clear hb
    go_wp2_with fail
    refine (cZ _).mono ?_
    intro r w2 hr
    obtain ⟨hb, B2⟩ := AnsB.get hr
    have KA := K3.belowS B2
    have KR := K4.belowS B2
    have D := below_kept D1 (Nat.le_refl _) B2
    clear cZ B2 hr D1 K3 K4 k0 k1 k2
    obtain ⟨k0, k1, k2⟩ := KA.cell
    obtain ⟨k3, k4, k5⟩ := KR.cell
    have f0 := KR.frozen 0
    have f1 := KR.frozen 1
    have f2 := KR.frozen 2
    rcases hb with ⟨rfl, hb⟩ | ⟨rfl, hb⟩
    · have HZ : Hid (R = DecV.zero) := by show _ = _; rw [← HR.out, if_pos HB.out, hb]; rfl
      clear hb
      go_wp2
      refine bodyPost_ret (v := .agg #[.bool false, .string ⟨#[]⟩, .int .i64 0]) (by simp [results, Tryd.results59, go_sem, (KR.set false ⟨#[]⟩ 0).cell]) rfl ⟨?_, Below.set3 D (by omega)⟩
      rw [HZ.out]; rfl
    · have h0 : s.size ≠ 0 := fun h => hb (by
        rcases HB.out with g | g
        · exact g
        · have := g.2.1
          rw [show (dOf n s e).dig.length = s.size from size_list s] at this
          omega)
      have HZ : Hid (R = dOf (!n) s e) := by show _ = _; rw [← HR.out, if_pos HB.out, neg_list h0]
      clear hb h0
      go_wp2_with fail
      refine wp_region_kept 9 (fun w' => DecAt w' w.heap.size n s e ∧ DecAt w' (w.heap.size + 1) false ⟨#[]⟩ 0 ∧ Below w.heap.size w w') (by kernel_rfl) (by kernel_rfl) (fun _ _ d _ _ h => by cases d <;> exact h) ⟨KA, KR, D.drew⟩ ?_
      simp only [List.take_succ_cons, List.take_zero, List.drop_succ_cons, List.drop_zero]
      iterate 5 (refine kept_step (fun K hK => ?_); go_simp; refine ⟨_, fun W hW => .inl (by obtain ⟨h0, h1, h2⟩ := hW.1.cell; go_simp; exact rfl), hK _ ?_⟩; clear hK K)
      (refine kept_step (fun K hK => ?_); go_simp; refine ⟨_, fun W hW => .inr (.inr ⟨_, _, ?_, (cC W).mono (fun r w' h => ⟨h.1, held3 hW h.2⟩)⟩), hK _ ?_⟩; (· first | (go_simp; done) | (go_simp; rfl)); clear hK K)
      iterate 3 (refine kept_step (fun K hK => ?_); go_simp; refine ⟨_, fun W hW => .inl (by obtain ⟨h0, h1, h2⟩ := hW.1.cell; go_simp; exact rfl), hK _ ?_⟩; clear hK K)
      refine kept_nil ?_
      rintro W ⟨h0, h1, h2⟩
      obtain ⟨k6, k7, k8⟩ := h1.cell
      have g0 := h1.frozen 0
      have g1 := h1.frozen 1
      have g2 := h1.frozen 2
      clear cC D KA KR k0 k1 k2 k3 k4 k5 f0 f1 f2
      go_wp2
      refine bodyPost_ret (v := .agg #[.bool (!n), .string s, .int .i64 e]) (by simp [results, Tryd.results59, go_sem, (h1.set (!n) s e).cell]) rfl ⟨?_, Below.set3 h2 (by omega)⟩
      rw [HZ.out]
      show _ = Ending.returned (.agg #[.bool (!n), .string ⟨s.data.toList.toArray⟩, .int .i64 e])
      rw [mk_list]
  · have HZ : Hid (R = DecV.zero) := by show _ = _; rw [← HR.out, if_neg hb]
    clear hb
    obtain ⟨k3, k4, k5⟩ := K4.cell
    have f0 := K4.frozen 0
    have f1 := K4.frozen 1
    have f2 := K4.frozen 2
    go_wp2
    refine bodyPost_ret (v := .agg #[.bool false, .string ⟨#[]⟩, .int .i64 0]) (by simp [results, Tryd.results59, go_sem, (K4.set false ⟨#[]⟩ 0).cell]) rfl ⟨?_, Below.set3 D1 (by omega)⟩
    rw [HZ.out]; rfl

end Go.Proofs.YtpkmhojcccpolaaDoor
