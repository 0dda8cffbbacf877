/- impl.DecOk answers whether a decimal is valid. Condition: at most 1048576 digits. -/
import Derived.Test.YthijeckcjfnbcaaGreatDoorSpecDec1
import Derived.Test.YthijeckcjfnbcaaGreatDoorImplNat1
import Derived.Test.YthijeckcjfnbcaaGreatDoorSpecDecA
import Derived.Test.YthijeckcjfnbcaaGreatDoorShelf
namespace Go.Proofs.YthijeckcjfnbcaaGreatDoor
set_option linter.unusedVariables false
open Go.RowKit

theorem cell_below {w w' : World} {a : Addr} {v : Value} (h : w.cell? a = some v) (hb : Below w.heap.size w w') (hl : a.block < w.heap.size) : w'.cell? a = some v := (hb.cell hl).trans h

set_option maxHeartbeats 1000000 in
set_option maxRecDepth 100000 in
theorem implDecOk (n : Bool) (s : ByteArray) (e : Int) (w : World) (hs : s.size ≤ 1048576) (b1 : -9223372036854775808 ≤ e) (b2 : e ≤ 9223372036854775807) :
    Calls Tryz.prog 25 #[.agg #[.bool n, .string s, .int .i64 e]] w (AnsB (dOf n s e).Ok w) := by
  have B : Below w.heap.size w (w.alloc (.cells #[.bool n, .string s, .int .i64 e] 25)) := (Below.refl _ _).alloc (Nat.le_refl _) _
  have cZ := fun W => implIsZero n s e W
  have cN := fun W => implNatOk s W hs
  obtain ⟨P, HP⟩ : ∃ P : Prop, Hid (P = (dOf n s e).Ok) := ⟨_, rfl⟩
  rw [← HP.out]
  go_enter Tryz.func25, Tryz.ntmps25
  go_wp2_with fail
  refine (cZ _).mono ?_
  intro r w1 hr
  obtain ⟨hb, B1⟩ := AnsB.get hr
  have K1 := (DecAt.new w n s e).belowS B1
  obtain ⟨k0, k1, k2⟩ := K1.cell
  have D := B.trans (B1.mono B.size)
  clear cZ B1 hr B
  rcases hb with ⟨rfl, hb⟩ | ⟨rfl, hb⟩
  · have HB := Lib.hid hb
    clear hb
    go_wp2
    go_ret
    exact ⟨_, rfl, ⟨fun _ => by rw [HP.out]; exact .inl HB.out, fun _ => rfl⟩, D⟩
  · have HZ := Lib.hid hb
    clear hb
    have z1 := IntWalk.i64_in ((s.size : Int) - 1) ⟨by omega, by omega⟩
    go_wp2_with fail
    refine (cN _).mono ?_
    intro r w2 hr
    obtain ⟨hb, B2⟩ := AnsB.get hr
    obtain ⟨k3, k4, k5⟩ := (K1.belowS B2).cell
    have D2 := D.trans (B2.mono D.size)
    clear cN B2 hr D k0 k1 k2 K1
    rcases hb with ⟨rfl, hb⟩ | ⟨rfl, hb⟩
    · have h0 : 0 < s.size := by
        rcases Nat.eq_zero_or_pos s.size with h | h
        · exact absurd (List.eq_nil_of_length_eq_zero (by rw [size_list]; exact h)) hb.1.1
        · exact h
      have HI := Lib.hid (ok_iff (n := n) (e := e) h0)
      rw [← HP.out] at HI
      have HB := Lib.hid hb
      have hx48 : s.size ≤ 20 → s[s.size - 1].toNat ≠ 48 → (s[0]).toNat ≠ 48 := by
        intro _ g1 g2
        rcases hb.1.2 with h | h
        · rw [size_list] at h
          apply g1
          have : s.size - 1 = 0 := by omega
          simp only [this]; exact g2
        · apply h
          rw [head_at s h0]
          congr 1
          exact UInt8.toNat_inj.1 g2
      have HX := Lib.hid hx48
      clear hb HZ HP hx48
      obtain ⟨m, hm⟩ : ∃ m : Nat, s.size - 1 = m := ⟨_, rfl⟩
      have hmi : (s.size : Int) - 1 = (m : Int) := by omega
      have hml : m < s.size := by omega
      obtain ⟨y, hy⟩ : ∃ y, s[m]'hml = y := ⟨_, rfl⟩
      have HY : Hid (s[s.size - 1]'(by omega) = y) := by show _ = _; rw [← hy]; congr 1
      by_cases c1 : m < 20
      · by_cases c3 : y.toNat = 48
        · go_wp2
          go_ret
          exact ⟨_, rfl, ⟨fun h => (by cases h), fun h => absurd (show (s[s.size - 1]'(by omega)).toNat = 48 by rw [HY.out]; exact c3) (HI.out.1 h).2.2.2.1⟩, D2⟩
        · have g3 : ((y.toNat : Int) == 48) = false := beq_eq_false_iff_ne.2 (by omega)
          have g1 : decide ((20 : Int) ≤ (m : Int)) = false := decide_eq_false (by omega)
          have hy2 : (s[s.size - 1]'(by omega)).toNat ≠ 48 := by rw [HY.out]; exact c3
          have HX2 := Lib.hid (HX.out (by omega) hy2)
          have HY2 := Lib.hid hy2
          clear hy2
          by_cases c4 : -99 - (m : Int) ≤ e
          · by_cases c5 : e ≤ 99 - (m : Int)
            · go_wp2
              go_ret
              exact ⟨_, rfl, ⟨fun _ => HI.out.2 ⟨HB.out, by omega, HX2.out, HY2.out, by omega, by omega⟩, fun _ => by first | rfl | exact decide_eq_true c5⟩, D2⟩
            · go_wp2
              go_ret
              exact ⟨_, rfl, ⟨fun h => absurd (of_decide_eq_true h) (by omega), fun h => by have := (HI.out.1 h).2.2.2.2; omega⟩, D2⟩
          · go_wp2
            go_ret
            exact ⟨_, rfl, ⟨fun h => (by cases h), fun h => by have := (HI.out.1 h).2.2.2.2; omega⟩, D2⟩
      · go_wp2
        go_ret
        exact ⟨_, rfl, ⟨fun h => (by cases h), fun h => absurd (HI.out.1 h).2.1 (by omega)⟩, D2⟩
    · have HN : Hid (¬ P) := by
        show ¬ P
        rw [HP.out]
        rintro (h | h)
        · exact HZ.out h
        · apply hb
          have h0 : s.data.toList ≠ [] := fun g => by have := h.2.1; rw [show (dOf n s e).dig = s.data.toList from rfl, g] at this; simp at this
          exact ⟨⟨h0, .inr h.2.2.2.1⟩, h.1, by have h2 : s.data.toList.length ≤ 20 := h.2.2.1; rw [size_list] at h2; omega⟩
      clear hb HZ HP
      go_wp2
      go_ret
      exact ⟨_, rfl, ⟨fun h => (by cases h), fun h => absurd h HN.out⟩, D2⟩

end Go.Proofs.YthijeckcjfnbcaaGreatDoor

/- strings.Clone, impl's magnitude, impl.DecNeg. Condition: at most 1048576 digits. -/
namespace Go.Proofs.YthijeckcjfnbcaaGreatDoor
set_option linter.unusedVariables false
open Go.RowKit

set_option maxHeartbeats 400000 in
theorem implClone (s : ByteArray) (w : World) (hs : s.size ≤ 1048576) : Calls Tryz.prog 42 #[.string s] w fun r w' => r = .returned (.string s) ∧ Below w.heap.size w w' := by
  have c := fun W => Tryz.stringslite_Clone s W (by omega)
  go_enter Tryz.func42, Tryz.ntmps42
  go_wp2_with fail
  refine (c _).mono ?_
  rintro r w1 ⟨rfl, B1⟩
  clear c
  go_wp2
  go_ret
  exact ⟨rfl, B1⟩

theorem specDecNegR (n : Bool) (s : ByteArray) (e : Int) (w : World) (hs : s.size ≤ 1048576) (b1 : -9223372036854775808 ≤ e) (b2 : e ≤ 9223372036854775807) :
    Calls Tryz.prog 43 #[.agg #[.bool n, .string s, .int .i64 e]] w (AnsD (negR (dOf n s e)) w) := by
  refine (specDecNeg n s e w hs b1 b2).mono fun r w' h => ?_
  unfold negR
  by_cases g : (dOf n s e).Ok
  · rw [if_pos g]; exact h.1 g
  · rw [if_neg g]; exact h.2 g

set_option maxHeartbeats 400000 in
theorem implMagnitude (n : Bool) (s : ByteArray) (e : Int) (w : World) (hs : s.size ≤ 1048576) (b1 : -1000000000 ≤ e) (b2 : e ≤ 1000000000) :
    Calls Tryz.prog 61 #[.agg #[.bool n, .string s, .int .i64 e]] w fun r w' => r = .returned (.int .i64 (e + s.size - 1)) ∧ Below w.heap.size w w' := by
  have B : Below w.heap.size w (w.alloc (.cells #[.bool n, .string s, .int .i64 e] 25)) := (Below.refl _ _).alloc (Nat.le_refl _) _
  go_enter Tryz.func61, Tryz.ntmps61
  go_wp2
  go_ret
  exact ⟨rfl, B⟩

set_option maxHeartbeats 1000000 in
set_option maxRecDepth 100000 in
theorem implDecNeg (n : Bool) (s : ByteArray) (e : Int) (w : World) (hs : s.size ≤ 1048576) (b1 : -9223372036854775808 ≤ e) (b2 : e ≤ 9223372036854775807) :
    Calls Tryz.prog 14 #[.agg #[.bool n, .string s, .int .i64 e]] w (AnsD (negR (dOf n s e)) w) := by
  have cO := fun W => implDecOk n s e W hs b1 b2
  have cZ := fun W => implIsZero n s e W
  have cC := fun W => implClone s W hs
  obtain ⟨R, hR⟩ : ∃ R, negR (dOf n s e) = R := ⟨_, rfl⟩
  rw [hR]
  unfold negR at hR
  have HR := Lib.hid hR
  clear hR
  have K1 := (DecAt.new w n s e).alloc (.cells #[.bool false, .string ⟨#[]⟩, .int .i64 0] 25)
  have K2 := DecAt.new (w.alloc (.cells #[.bool n, .string s, .int .i64 e] 25)) false ⟨#[]⟩ 0
  rw [show (w.alloc (.cells #[.bool n, .string s, .int .i64 e] 25)).heap.size = w.heap.size + 1 by simp] at K2
  have B : Below w.heap.size w ((w.alloc (.cells #[.bool n, .string s, .int .i64 e] 25)).alloc (.cells #[.bool false, .string ⟨#[]⟩, .int .i64 0] 25)) := ((Below.refl _ _).alloc (Nat.le_refl _) _).alloc (by simp) _
  go_enter Tryz.func14, Tryz.ntmps14
  go_wp2_with fail
  refine (cO _).mono ?_
  intro r w1 hr
  obtain ⟨hb, B1⟩ := AnsB.get hr
  have K3 := K1.belowS B1
  have K4 := K2.belowS B1
  have D1 := below_kept B (Nat.le_refl _) B1
  obtain ⟨k0, k1, k2⟩ := K3.cell
  clear cO B1 hr B K1 K2
  rcases hb with ⟨rfl, hb⟩ | ⟨rfl, hb⟩
  · have HB := Lib.hid hb
    clear hb
    go_wp2_with fail
    refine (cZ _).mono ?_
    intro r w2 hr
    obtain ⟨hb, B2⟩ := AnsB.get hr
    have KA := K3.belowS B2
    have KR := K4.belowS B2
    have D := below_kept D1 (Nat.le_refl _) B2
    clear cZ B2 hr D1 K3 K4 k0 k1 k2
    obtain ⟨k0, k1, k2⟩ := KA.cell
    obtain ⟨k3, k4, k5⟩ := KR.cell
    have f0 := KR.frozen 0
    have f1 := KR.frozen 1
    have f2 := KR.frozen 2
    rcases hb with ⟨rfl, hb⟩ | ⟨rfl, hb⟩
    · have HZ : Hid (R = DecV.zero) := by show _ = _; rw [← HR.out, if_pos HB.out, hb]; rfl
      clear hb
      go_wp2
      refine bodyPost_ret (v := .agg #[.bool false, .string ⟨#[]⟩, .int .i64 0]) (by simp [results, Tryz.results14, go_sem, (KR.set false ⟨#[]⟩ 0).cell]) rfl ⟨?_, Below.set3 D (by omega)⟩
      rw [HZ.out]; rfl
    · have h0 : s.size ≠ 0 := fun h => hb (by
        rcases HB.out with g | g
        · exact g
        · have := g.2.1
          rw [show (dOf n s e).dig.length = s.size from size_list s] at this
          omega)
      have HZ : Hid (R = dOf (!n) s e) := by show _ = _; rw [← HR.out, if_pos HB.out, neg_list h0]
      clear hb h0
      go_wp2_with fail
      refine wp_region_kept 9 (fun w' => DecAt w' w.heap.size n s e ∧ DecAt w' (w.heap.size + 1) false ⟨#[]⟩ 0 ∧ Below w.heap.size w w') (by kernel_rfl) (by kernel_rfl) (fun _ _ d _ _ h => by cases d <;> exact h) ⟨KA, KR, D.drew⟩ ?_
      simp only [List.take_succ_cons, List.take_zero, List.drop_succ_cons, List.drop_zero]
      iterate 5 (refine kept_step (fun K hK => ?_); go_simp; refine ⟨_, fun W hW => .inl (by obtain ⟨h0, h1, h2⟩ := hW.1.cell; go_simp; exact rfl), hK _ ?_⟩; clear hK K)
      (refine kept_step (fun K hK => ?_); go_simp; refine ⟨_, fun W hW => .inr (.inr ⟨_, _, ?_, (cC W).mono (fun r w' h => ⟨h.1, held3 hW h.2⟩)⟩), hK _ ?_⟩; (· first | (go_simp; done) | (go_simp; rfl)); clear hK K)
      iterate 3 (refine kept_step (fun K hK => ?_); go_simp; refine ⟨_, fun W hW => .inl (by obtain ⟨h0, h1, h2⟩ := hW.1.cell; go_simp; exact rfl), hK _ ?_⟩; clear hK K)
      refine kept_nil ?_
      rintro W ⟨h0, h1, h2⟩
      obtain ⟨k6, k7, k8⟩ := h1.cell
      have g0 := h1.frozen 0
      have g1 := h1.frozen 1
      have g2 := h1.frozen 2
      clear cC D KA KR k0 k1 k2 k3 k4 k5 f0 f1 f2
      go_wp2
      refine bodyPost_ret (v := .agg #[.bool (!n), .string s, .int .i64 e]) (by simp [results, Tryz.results14, go_sem, (h1.set (!n) s e).cell]) rfl ⟨?_, Below.set3 h2 (by omega)⟩
      rw [HZ.out]
      show _ = Ending.returned (.agg #[.bool (!n), .string ⟨s.data.toList.toArray⟩, .int .i64 e])
      rw [mk_list]
  · have HZ : Hid (R = DecV.zero) := by show _ = _; rw [← HR.out, if_neg hb]
    clear hb
    obtain ⟨k3, k4, k5⟩ := K4.cell
    have f0 := K4.frozen 0
    have f1 := K4.frozen 1
    have f2 := K4.frozen 2
    go_wp2
    refine bodyPost_ret (v := .agg #[.bool false, .string ⟨#[]⟩, .int .i64 0]) (by simp [results, Tryz.results14, go_sem, (K4.set false ⟨#[]⟩ 0).cell]) rfl ⟨?_, Below.set3 D1 (by omega)⟩
    rw [HZ.out]; rfl

end Go.Proofs.YthijeckcjfnbcaaGreatDoor
