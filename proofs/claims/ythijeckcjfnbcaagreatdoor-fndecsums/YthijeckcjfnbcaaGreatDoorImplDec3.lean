/- cmp.Compare at int; impl's sign, compareSize, DecCmp. Condition: at most 1048576 digits. -/
import Derived.Test.YthijeckcjfnbcaaGreatDoorImplDecA
namespace Go.Proofs.YthijeckcjfnbcaaGreatDoor
set_option linter.unusedVariables false
open Go.RowKit

set_option maxHeartbeats 400000 in
theorem cmpIntD (x y : Int) (w : World) : Calls Tryz.prog 33 #[.int .i64 x, .int .i64 y] w fun r w' => r = .returned (.int .i64 (cmpI x y)) ∧ Below w.heap.size w w' := by
  rcases Int.lt_trichotomy x y with h | h | h
  · have HS : Hid (cmpI x y = -1) := by show _ = _; unfold cmpI; rw [if_pos h]
    go_enter Tryz.func33, Tryz.ntmps33
    go_wp2
    go_ret
    exact ⟨by rw [HS.out]; rfl, Below.refl _ _⟩
  · subst h
    have HS : Hid (cmpI x x = 0) := by show _ = _; unfold cmpI; rw [if_neg (by omega), if_neg (by omega)]
    go_enter Tryz.func33, Tryz.ntmps33
    go_wp2
    go_ret
    exact ⟨by rw [HS.out]; rfl, Below.refl _ _⟩
  · have HS : Hid (cmpI x y = 1) := by show _ = _; unfold cmpI; rw [if_neg (by omega), if_pos h]
    go_enter Tryz.func33, Tryz.ntmps33
    go_wp2
    go_ret
    exact ⟨by rw [HS.out]; rfl, Below.refl _ _⟩

set_option maxHeartbeats 400000 in
theorem implSign (n : Bool) (s : ByteArray) (e : Int) (w : World) (h : (dOf n s e).Ok) :
    Calls Tryz.prog 32 #[.agg #[.bool n, .string s, .int .i64 e]] w fun r w' => r = .returned (.int .i64 (sgn (dOf n s e))) ∧ Below w.heap.size w w' := by
  have cZ := fun W => implIsZero n s e W
  have K0 := DecAt.new w n s e
  have B : Below w.heap.size w (w.alloc (.cells #[.bool n, .string s, .int .i64 e] 25)) := (Below.refl _ _).alloc (Nat.le_refl _) _
  obtain ⟨R, hR⟩ : ∃ R, sgn (dOf n s e) = R := ⟨_, rfl⟩
  have HR : Hid ((dOf n s e = DecV.zero → R = 0) ∧ (¬ dOf n s e = DecV.zero → R = if n then -1 else 1)) := by
    rw [← hR]
    refine ⟨fun g => by rw [g]; rfl, fun g => ?_⟩
    unfold sgn
    rw [if_neg (fun g2 => g (h.nil g2))]
    rfl
  rw [hR]
  clear hR
  go_enter Tryz.func32, Tryz.ntmps32
  go_wp2_with fail
  refine (cZ _).mono ?_
  intro r w1 hr
  obtain ⟨hb, B1⟩ := AnsB.get hr
  have K1 := K0.belowS B1
  have D := below_kept B (Nat.le_refl _) B1
  obtain ⟨k0, k1, k2⟩ := K1.cell
  clear cZ B1 hr B K0
  rcases hb with ⟨rfl, hb⟩ | ⟨rfl, hb⟩
  · have HV : Hid (R = 0) := HR.out.1 hb
    clear hb
    go_wp2
    go_ret
    exact ⟨by rw [HV.out]; rfl, D⟩
  · have HV : Hid (R = if n then -1 else 1) := HR.out.2 hb
    clear hb
    cases n
    · go_wp2
      go_ret
      exact ⟨by rw [HV.out]; rfl, D⟩
    · go_wp2
      go_ret
      exact ⟨by rw [HV.out]; rfl, D⟩

set_option maxHeartbeats 1000000 in
set_option maxRecDepth 100000 in
theorem implCompareSize (n : Bool) (s : ByteArray) (e : Int) (n2 : Bool) (s2 : ByteArray) (e2 : Int) (w : World) (hs : s.size ≤ 1048576) (hs2 : s2.size ≤ 1048576) (b1 : -1000000000 ≤ e) (b2 : e ≤ 1000000000) (c1 : -1000000000 ≤ e2) (c2 : e2 ≤ 1000000000) :
    Calls Tryz.prog 34 #[.agg #[.bool n, .string s, .int .i64 e], .agg #[.bool n2, .string s2, .int .i64 e2]] w fun r w' => r = .returned (.int .i64 (cmpSz (dOf n s e) (dOf n2 s2 e2))) ∧ Below w.heap.size w w' := by
  have cM1 := fun W => implMagnitude n s e W hs b1 b2
  have cM2 := fun W => implMagnitude n2 s2 e2 W hs2 c1 c2
  have HR : Hid (cmpSz (dOf n s e) (dOf n2 s2 e2) = if e + s.size - 1 = e2 + s2.size - 1 then Lib.compareBytes s.data.toList s2.data.toList else cmpI (e + s.size - 1) (e2 + s2.size - 1)) := by
    show _ = _
    unfold cmpSz
    rw [show (dOf n s e).dig.length = s.size from size_list s, show (dOf n2 s2 e2).dig.length = s2.size from size_list s2]
    rfl
  obtain ⟨x, hx⟩ : ∃ x, e + s.size - 1 = x := ⟨_, rfl⟩
  obtain ⟨y, hy⟩ : ∃ y, e2 + s2.size - 1 = y := ⟨_, rfl⟩
  rw [hx] at cM1 HR
  rw [hy] at cM2 HR
  have cC := fun W => cmpIntD x y W
  have cS : ∀ W, Calls Tryz.prog 64 #[.string s, .string s2] W fun r w' => r = .returned (.int .i64 (Lib.compareBytes s.data.toList s2.data.toList)) ∧ Below W.heap.size W w' := fun W =>
    (Tryz.strings_Compare s s2 W).mono fun r w' h => ⟨h.1, by rw [h.2]; exact Below.refl _ _⟩
  generalize Lib.compareBytes s.data.toList s2.data.toList = m at cS HR
  generalize cmpSz (dOf n s e) (dOf n2 s2 e2) = R at *
  clear hx hy
  have KA0 := (DecAt.new w n s e).alloc (.cells #[.bool n2, .string s2, .int .i64 e2] 25)
  have KB0 := DecAt.new (w.alloc (.cells #[.bool n, .string s, .int .i64 e] 25)) n2 s2 e2
  rw [show (w.alloc (.cells #[.bool n, .string s, .int .i64 e] 25)).heap.size = w.heap.size + 1 by simp] at KB0
  have B0 : Below w.heap.size w ((w.alloc (.cells #[.bool n, .string s, .int .i64 e] 25)).alloc (.cells #[.bool n2, .string s2, .int .i64 e2] 25)) := ((Below.refl _ _).alloc (Nat.le_refl _) _).alloc (by simp) _
  go_enter Tryz.func34, Tryz.ntmps34
  go_wp2_with fail
  refine wp_region_kept_all (fun w' => DecAt w' w.heap.size n s e ∧ DecAt w' (w.heap.size + 1) n2 s2 e2 ∧ Below w.heap.size w w') (by kernel_rfl) (by kernel_rfl) (fun _ _ d _ _ h => by cases d <;> exact h) ⟨KA0, KB0, B0.drew⟩ ?_
  (refine kept_step (fun K hK => ?_); go_simp; refine ⟨_, fun W hW => .inl (by obtain ⟨h0, h1, h2⟩ := hW.1.cell; obtain ⟨h3, h4, h5⟩ := hW.2.1.cell; first | (go_simp; exact rfl) | (go_simp; rw [if_neg (by omega)])), hK _ ?_⟩; clear hK K)
  (refine kept_step (fun K hK => ?_); go_simp; refine ⟨_, fun W hW => .inr (.inr ⟨_, _, ?_, (cM1 W).mono (fun r w' h => ⟨h.1, held3 hW h.2⟩)⟩), hK _ ?_⟩; (· first | (go_simp; done) | (go_simp; rfl)); clear hK K)
  (refine kept_step (fun K hK => ?_); go_simp; refine ⟨_, fun W hW => .inl (by obtain ⟨h0, h1, h2⟩ := hW.1.cell; obtain ⟨h3, h4, h5⟩ := hW.2.1.cell; first | (go_simp; exact rfl) | (go_simp; rw [if_neg (by omega)])), hK _ ?_⟩; clear hK K)
  (refine kept_step (fun K hK => ?_); go_simp; refine ⟨_, fun W hW => .inr (.inr ⟨_, _, ?_, (cM2 W).mono (fun r w' h => ⟨h.1, held3 hW h.2⟩)⟩), hK _ ?_⟩; (· first | (go_simp; done) | (go_simp; rfl)); clear hK K)
  (refine kept_step (fun K hK => ?_); go_simp; refine ⟨_, fun W hW => .inl (by obtain ⟨h0, h1, h2⟩ := hW.1.cell; obtain ⟨h3, h4, h5⟩ := hW.2.1.cell; first | (go_simp; exact rfl) | (go_simp; rw [if_neg (by omega)])), hK _ ?_⟩; clear hK K)
  refine kept_nil ?_
  rintro W ⟨KA, KB, D⟩
  obtain ⟨k0, k1, k2⟩ := KA.cell
  obtain ⟨k3, k4, k5⟩ := KB.cell
  clear KA0 KB0 B0
  by_cases hxy : x = y
  · have hq : (x == y) = true := by rw [beq_iff_eq]; exact hxy
    have HV : Hid (R = m) := by show _ = _; rw [HR.out, if_pos hxy]
    clear hxy HR
    go_wp2_with fail
    refine (cS _).mono ?_
    rintro r w3 ⟨rfl, B3⟩
    have D3 := below_kept D (Nat.le_refl _) B3
    clear cS B3 D
    go_wp2
    go_ret
    exact ⟨by rw [HV.out]; rfl, D3⟩
  · have hq : (x == y) = false := by rw [beq_eq_false_iff_ne]; exact hxy
    have HV : Hid (R = cmpI x y) := by show _ = _; rw [HR.out, if_neg hxy]
    clear hxy HR
    generalize cmpI x y = q at *
    go_wp2_with fail
    refine wp_region_kept_all (fun w' => DecAt w' w.heap.size n s e ∧ DecAt w' (w.heap.size + 1) n2 s2 e2 ∧ Below w.heap.size w w') (by kernel_rfl) (by kernel_rfl) (fun _ _ d _ _ h => by cases d <;> exact h) ⟨KA, KB, D.drew⟩ ?_
    (refine kept_step (fun K hK => ?_); go_simp; refine ⟨_, fun W hW => .inl (by obtain ⟨h0, h1, h2⟩ := hW.1.cell; obtain ⟨h3, h4, h5⟩ := hW.2.1.cell; first | (go_simp; exact rfl) | (go_simp; rw [if_neg (by omega)])), hK _ ?_⟩; clear hK K)
    (refine kept_step (fun K hK => ?_); go_simp; refine ⟨_, fun W hW => .inr (.inr ⟨_, _, ?_, (cM1 W).mono (fun r w' h => ⟨h.1, held3 hW h.2⟩)⟩), hK _ ?_⟩; (· first | (go_simp; done) | (go_simp; rfl)); clear hK K)
    (refine kept_step (fun K hK => ?_); go_simp; refine ⟨_, fun W hW => .inl (by obtain ⟨h0, h1, h2⟩ := hW.1.cell; obtain ⟨h3, h4, h5⟩ := hW.2.1.cell; first | (go_simp; exact rfl) | (go_simp; rw [if_neg (by omega)])), hK _ ?_⟩; clear hK K)
    (refine kept_step (fun K hK => ?_); go_simp; refine ⟨_, fun W hW => .inr (.inr ⟨_, _, ?_, (cM2 W).mono (fun r w' h => ⟨h.1, held3 hW h.2⟩)⟩), hK _ ?_⟩; (· first | (go_simp; done) | (go_simp; rfl)); clear hK K)
    (refine kept_step (fun K hK => ?_); go_simp; refine ⟨_, fun W hW => .inr (.inr ⟨_, _, ?_, (cC W).mono (fun r w' h => ⟨h.1, held3 hW h.2⟩)⟩), hK _ ?_⟩; (· first | (go_simp; done) | (go_simp; rfl)); clear hK K)
    (refine kept_step (fun K hK => ?_); go_simp; refine ⟨_, fun W hW => .inl (by obtain ⟨h0, h1, h2⟩ := hW.1.cell; obtain ⟨h3, h4, h5⟩ := hW.2.1.cell; first | (go_simp; exact rfl) | (go_simp; rw [if_neg (by omega)])), hK _ ?_⟩; clear hK K)
    refine kept_nil ?_
    rintro W2 ⟨h0, h1, h2⟩
    clear cM1 cM2 cC cS D KA KB k0 k1 k2 k3 k4 k5
    go_wp2
    go_ret
    exact ⟨by rw [HV.out]; rfl, h2⟩

set_option maxHeartbeats 1000000 in
set_option maxRecDepth 100000 in
theorem implDecCmp (n : Bool) (s : ByteArray) (e : Int) (n2 : Bool) (s2 : ByteArray) (e2 : Int) (w : World) (hs : s.size ≤ 1048576) (hs2 : s2.size ≤ 1048576) (b1 : -9223372036854775808 ≤ e) (b2 : e ≤ 9223372036854775807) (c1 : -9223372036854775808 ≤ e2) (c2 : e2 ≤ 9223372036854775807) :
    Calls Tryz.prog 9 #[.agg #[.bool n, .string s, .int .i64 e], .agg #[.bool n2, .string s2, .int .i64 e2]] w (AnsN (cmpR (dOf n s e) (dOf n2 s2 e2)) w) := by
  obtain ⟨R, hR⟩ : ∃ R, cmpR (dOf n s e) (dOf n2 s2 e2) = R := ⟨_, rfl⟩
  rw [hR]
  unfold cmpR at hR
  have HR := Lib.hid hR
  clear hR
  have KA0 := (DecAt.new w n s e).alloc (.cells #[.bool n2, .string s2, .int .i64 e2] 25)
  have KB0 := DecAt.new (w.alloc (.cells #[.bool n, .string s, .int .i64 e] 25)) n2 s2 e2
  rw [show (w.alloc (.cells #[.bool n, .string s, .int .i64 e] 25)).heap.size = w.heap.size + 1 by simp] at KB0
  have B0 : Below w.heap.size w ((w.alloc (.cells #[.bool n, .string s, .int .i64 e] 25)).alloc (.cells #[.bool n2, .string s2, .int .i64 e2] 25)) := ((Below.refl _ _).alloc (Nat.le_refl _) _).alloc (by simp) _
  have cO1 := fun W => implDecOk n s e W hs b1 b2
  have cO2 := fun W => implDecOk n2 s2 e2 W hs2 c1 c2
  go_enter Tryz.func9, Tryz.ntmps9
  go_wp2_with fail
  refine (cO1 _).mono ?_
  intro r w1 hr
  obtain ⟨hb, B1⟩ := AnsB.get hr
  have KA1 := KA0.belowS B1
  have KB1 := KB0.belowS B1
  have D1 := below_kept B0 (Nat.le_refl _) B1
  obtain ⟨k0, k1, k2⟩ := KA1.cell
  obtain ⟨k3, k4, k5⟩ := KB1.cell
  clear cO1 B1 hr B0 KA0 KB0
  rcases hb with ⟨rfl, hb⟩ | ⟨rfl, hb⟩
  · have HP := Lib.hid hb
    clear hb
    go_wp2_with fail
    refine (cO2 _).mono ?_
    intro r w2 hr
    obtain ⟨hb, B2⟩ := AnsB.get hr
    have KA := KA1.belowS B2
    have KB := KB1.belowS B2
    have D := below_kept D1 (Nat.le_refl _) B2
    clear cO2 B2 hr D1 KA1 KB1 k0 k1 k2 k3 k4 k5
    obtain ⟨k0, k1, k2⟩ := KA.cell
    obtain ⟨k3, k4, k5⟩ := KB.cell
    rcases hb with ⟨rfl, hb⟩ | ⟨rfl, hb⟩
    · have HQ := Lib.hid hb
      clear hb
      have cG1 := fun W => implSign n s e W HP.out
      have cG2 := fun W => implSign n2 s2 e2 W HQ.out
      obtain ⟨q1, q2, q3, q4⟩ := ok_size HP.out
      obtain ⟨p1, p2, p3, p4⟩ := ok_size HQ.out
      have cC1 := fun W => implCompareSize n s e n2 s2 e2 W hs hs2 (by omega) (by omega) (by omega) (by omega)
      have cC2 := fun W => implCompareSize n2 s2 e2 n s e W hs2 hs (by omega) (by omega) (by omega) (by omega)
      clear q1 p1 q2 q3 q4 p2 p3 p4
      have HV0 : Hid (R = if sgn (dOf n s e) = sgn (dOf n2 s2 e2) then (if n then cmpSz (dOf n2 s2 e2) (dOf n s e) else cmpSz (dOf n s e) (dOf n2 s2 e2)) else cmpI (sgn (dOf n s e)) (sgn (dOf n2 s2 e2))) := by
        show _ = _
        rw [← HR.out, if_pos ⟨HP.out, HQ.out⟩]
        exact (cmp_dec HP.out HQ.out).symm
      generalize sgn (dOf n s e) = x at *
      generalize sgn (dOf n2 s2 e2) = y at *
      generalize cmpSz (dOf n2 s2 e2) (dOf n s e) = z2 at *
      generalize cmpSz (dOf n s e) (dOf n2 s2 e2) = z1 at *
      have cC := fun W => cmpIntD x y W
      go_wp2_with fail
      refine wp_region_kept_all (fun w' => DecAt w' w.heap.size n s e ∧ DecAt w' (w.heap.size + 1) n2 s2 e2 ∧ Below w.heap.size w w') (by kernel_rfl) (by kernel_rfl) (fun _ _ d _ _ h => by cases d <;> exact h) ⟨KA, KB, D.drew⟩ ?_
      (refine kept_step (fun K hK => ?_); go_simp; refine ⟨_, fun W hW => .inl (by obtain ⟨h0, h1, h2⟩ := hW.1.cell; obtain ⟨h3, h4, h5⟩ := hW.2.1.cell; first | (go_simp; exact rfl) | (go_simp; rw [if_neg (by omega)])), hK _ ?_⟩; clear hK K)
      (refine kept_step (fun K hK => ?_); go_simp; refine ⟨_, fun W hW => .inr (.inr ⟨_, _, ?_, (cG1 W).mono (fun r w' h => ⟨h.1, held3 hW h.2⟩)⟩), hK _ ?_⟩; (· first | (go_simp; done) | (go_simp; rfl)); clear hK K)
      (refine kept_step (fun K hK => ?_); go_simp; refine ⟨_, fun W hW => .inl (by obtain ⟨h0, h1, h2⟩ := hW.1.cell; obtain ⟨h3, h4, h5⟩ := hW.2.1.cell; first | (go_simp; exact rfl) | (go_simp; rw [if_neg (by omega)])), hK _ ?_⟩; clear hK K)
      (refine kept_step (fun K hK => ?_); go_simp; refine ⟨_, fun W hW => .inr (.inr ⟨_, _, ?_, (cG2 W).mono (fun r w' h => ⟨h.1, held3 hW h.2⟩)⟩), hK _ ?_⟩; (· first | (go_simp; done) | (go_simp; rfl)); clear hK K)
      (refine kept_step (fun K hK => ?_); go_simp; refine ⟨_, fun W hW => .inl (by obtain ⟨h0, h1, h2⟩ := hW.1.cell; obtain ⟨h3, h4, h5⟩ := hW.2.1.cell; first | (go_simp; exact rfl) | (go_simp; rw [if_neg (by omega)])), hK _ ?_⟩; clear hK K)
      refine kept_nil ?_
      rintro W ⟨KA2, KB2, D2⟩
      clear KA KB D k0 k1 k2 k3 k4 k5
      obtain ⟨k0, k1, k2⟩ := KA2.cell
      obtain ⟨k3, k4, k5⟩ := KB2.cell
      by_cases hxy : x = y
      · have hq : (x == y) = true := by rw [beq_iff_eq]; exact hxy
        cases n
        · have HV : Hid (R = z1) := by show _ = _; rw [HV0.out, if_pos hxy]; rfl
          clear hxy HV0
          go_wp2_with fail
          refine (cC1 _).mono ?_
          rintro r w3 ⟨rfl, B3⟩
          have D3 := below_kept D2 (Nat.le_refl _) B3
          clear cC1 cC2 B3 D2
          go_wp2
          go_ret
          exact ⟨by rw [HV.out]; rfl, D3⟩
        · have HV : Hid (R = z2) := by show _ = _; rw [HV0.out, if_pos hxy]; rfl
          clear hxy HV0
          go_wp2_with fail
          refine (cC2 _).mono ?_
          rintro r w3 ⟨rfl, B3⟩
          have D3 := below_kept D2 (Nat.le_refl _) B3
          clear cC1 cC2 B3 D2
          go_wp2
          go_ret
          exact ⟨by rw [HV.out]; rfl, D3⟩
      · have hq : (x == y) = false := by rw [beq_eq_false_iff_ne]; exact hxy
        have HV : Hid (R = cmpI x y) := by show _ = _; rw [HV0.out, if_neg hxy]
        clear hxy HV0
        generalize cmpI x y = q at *
        go_wp2_with fail
        refine wp_region_kept_all (fun w' => DecAt w' w.heap.size n s e ∧ DecAt w' (w.heap.size + 1) n2 s2 e2 ∧ Below w.heap.size w w') (by kernel_rfl) (by kernel_rfl) (fun _ _ d _ _ h => by cases d <;> exact h) ⟨KA2, KB2, D2.drew⟩ ?_
        (refine kept_step (fun K hK => ?_); go_simp; refine ⟨_, fun W hW => .inl (by obtain ⟨h0, h1, h2⟩ := hW.1.cell; obtain ⟨h3, h4, h5⟩ := hW.2.1.cell; first | (go_simp; exact rfl) | (go_simp; rw [if_neg (by omega)])), hK _ ?_⟩; clear hK K)
        (refine kept_step (fun K hK => ?_); go_simp; refine ⟨_, fun W hW => .inr (.inr ⟨_, _, ?_, (cG1 W).mono (fun r w' h => ⟨h.1, held3 hW h.2⟩)⟩), hK _ ?_⟩; (· first | (go_simp; done) | (go_simp; rfl)); clear hK K)
        (refine kept_step (fun K hK => ?_); go_simp; refine ⟨_, fun W hW => .inl (by obtain ⟨h0, h1, h2⟩ := hW.1.cell; obtain ⟨h3, h4, h5⟩ := hW.2.1.cell; first | (go_simp; exact rfl) | (go_simp; rw [if_neg (by omega)])), hK _ ?_⟩; clear hK K)
        (refine kept_step (fun K hK => ?_); go_simp; refine ⟨_, fun W hW => .inr (.inr ⟨_, _, ?_, (cG2 W).mono (fun r w' h => ⟨h.1, held3 hW h.2⟩)⟩), hK _ ?_⟩; (· first | (go_simp; done) | (go_simp; rfl)); clear hK K)
        (refine kept_step (fun K hK => ?_); go_simp; refine ⟨_, fun W hW => .inr (.inr ⟨_, _, ?_, (cC W).mono (fun r w' h => ⟨h.1, held3 hW h.2⟩)⟩), hK _ ?_⟩; (· first | (go_simp; done) | (go_simp; rfl)); clear hK K)
        (refine kept_step (fun K hK => ?_); go_simp; refine ⟨_, fun W hW => .inl (by obtain ⟨h0, h1, h2⟩ := hW.1.cell; obtain ⟨h3, h4, h5⟩ := hW.2.1.cell; first | (go_simp; exact rfl) | (go_simp; rw [if_neg (by omega)])), hK _ ?_⟩; clear hK K)
        refine kept_nil ?_
        rintro W2 ⟨h0, h1, h2⟩
        clear cG1 cG2 cC cC1 cC2 D2 KA2 KB2 k0 k1 k2 k3 k4 k5
        go_wp2
        go_ret
        exact ⟨by rw [HV.out]; rfl, h2⟩
    · have HN : Hid (¬ ((dOf n s e).Ok ∧ (dOf n2 s2 e2).Ok)) := fun h => hb h.2
      clear hb
      go_wp2
      go_ret
      exact ⟨by rw [← HR.out, if_neg HN.out]; rfl, D⟩
  · have HN : Hid (¬ ((dOf n s e).Ok ∧ (dOf n2 s2 e2).Ok)) := fun h => hb h.1
    clear hb
    go_wp2
    go_ret
    exact ⟨by rw [← HR.out, if_neg HN.out]; rfl, D1⟩

end Go.Proofs.YthijeckcjfnbcaaGreatDoor
