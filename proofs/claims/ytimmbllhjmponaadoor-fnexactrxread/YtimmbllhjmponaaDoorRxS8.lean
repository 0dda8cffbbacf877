/- The specification's reader of patterns: atom, outside of groups and brackets. Conditions: at most 1000 code points. -/
import Derived.Test.YtimmbllhjmponaaDoorRxS7
namespace Go.Proofs.YtimmbllhjmponaaDoor
set_option linter.unusedVariables false
open Go.RowKit

set_option maxHeartbeats 4000000 in
set_option maxRecDepth 100000 in
theorem satom_plain (M : Nat) (inner : Option (Nat → List Nd → Rd)) (w : World) (p : Nat) (s : List Int) (PA : Option Addr) (pc i d : Nat) (out : List Nd) (F : List Nat) (h : SRd w p s PA pc i 0 0 d out F) (hs : s.length ≤ 1000) (hi : i < s.length) (hP : Pos s)
    (ho : out.length ≤ 10000) (hM : out.length ≤ M) (h40 : pk s i ≠ 40) (h91 : pk s i ≠ 91) (r : Rd) (hr : Hid (atomS s inner i out = r)) :
    Calls Tryd.prog 45 #[.pointer (some ⟨p, 0, none⟩)] w (SPost M w p s PA pc d F [] r) := by
  obtain ⟨nv, hR, hb⟩ := h.rs
  obtain ⟨c0, c1, c2, c3, c4, c5⟩ := hR.cell
  have R0 := Lib.hid hR
  have HB := Lib.hid hb
  clear h hR hb
  go_enter Tryd.func45, Tryd.ntmps45
  go_wp2_with fail
  refine (peek_any w p s PA pc i 0 0 d nv R0.out hs (by omega)).mono ?_
  rintro e w2 ⟨rfl, k2, r2⟩
  have RD2 := Lib.hid (HB.out _ _ _ _ _ r2 k2.nil)
  have K2 := Lib.hid (k2.nil (G := p :: F))
  have R2 := Lib.hid r2
  have HB2 : Hid (∀ w' i' code' bad' d', Ss w' p s PA pc i' code' bad' d' nv → Keep [p] w2 w' → SRd w' p s PA pc i' code' bad' d' out F) := fun w' i' code' bad' d' q1 q2 => HB.out w' i' code' bad' d' q1 (k2.nil.tr q2)
  obtain ⟨d0, d1, d2, d3, d4, d5⟩ := r2.cell
  have f1 := r2.frozen 1
  obtain ⟨x, hx⟩ : ∃ x, pk s i = x := ⟨_, rfl⟩
  have HX := Lib.hid hx
  rw [hx] at h40 h91 ⊢
  clear k2 r2 hx c0 c1 c2 c3 c4 c5 R0 HB
  have fin : ∀ (cc : Int) (q : Nat) (w6 : World) (e5 : Ending), SPost M w2 p s PA pc d F [] (.err cc q) e5 w6 → SPost M w p s PA pc d F [] (.err cc q) e5 w6 := fun cc q w6 e5 hh => by
    obtain ⟨q0, q1, j6, o6, F6, q2, q3, q4, q5⟩ := hh
    refine ⟨q0, q1, j6, o6, F6, q2, q3, K2.out.tr q4, fun b hb => ?_⟩
    rcases q5 b hb with h | h | h
    · exact .inl h
    · cases h
    · have := K2.out.size; exact .inr (.inr (by omega))
  have FIN := Lib.hid fin
  clear fin
  by_cases h41 : x = 41
  · subst h41
    have e : Hid (r = .err 2 i) := by show r = _; rw [← hr.out]; unfold atomS; rw [if_neg (by rw [HX.out]; exact h40), if_pos HX.out]
    go_wp2_with fail
    refine (fail_post M 2 i w2 p s PA pc i d out F [] RD2.out hs (by omega) hM).mono ?_
    rintro e5 w6 ⟨rfl, q⟩
    have Q := Lib.hid (FIN.out _ _ _ _ q)
    clear q
    go_wp2
    go_ret
    rw [e.out]
    exact Q.out
  have HA : Hid (r = atomR s none i out) := by show r = _; rw [← hr.out]; unfold atomS; rw [if_neg (by rw [HX.out]; exact h40), if_neg (by rw [HX.out]; exact h41)]
  by_cases hrep : isRep x = true
  · have e : Hid (r = .err 5 i) := by show r = _; rw [HA.out]; unfold atomR; rw [HX.out, if_pos hrep]
    have hc := isRep_cases hrep
    clear hrep
    rcases hc with rfl | rfl | rfl | rfl
    all_goals
      go_wp2_with fail
      refine (fail_post M 5 i w2 p s PA pc i d out F [] RD2.out hs (by omega) hM).mono ?_
      rintro e5 w6 ⟨rfl, q⟩
      have Q := Lib.hid (FIN.out _ _ _ _ q)
      clear q
      go_wp2
      go_ret
      rw [e.out]
      exact Q.out
  have okf : ∀ (m : Nat) (nd : Nd) (w3 : World) (e5 : Ending) (w6 : World), Keep [p] w2 w3 → SPost M w3 p s PA pc d F [] (.ok out.length m (out ++ [nd])) e5 w6 → SPost M w p s PA pc d F [] (.ok out.length m (out ++ [nd])) e5 w6 := fun m nd w3 e5 w6 hk hh => by
    obtain ⟨q0, F6, q1, q2, q3⟩ := hh
    have hk' := K2.out.tr (kp (G := F) hk)
    refine ⟨q0, F6, q1, hk'.tr q2, fun b hb => ?_⟩
    rcases q3 b hb with h | h | h
    · exact .inl h
    · cases h
    · have := hk'.size; exact .inr (.inr (by omega))
  have OKF := Lib.hid okf
  clear okf
  have hnr : ¬ x = 42 ∧ ¬ x = 43 ∧ ¬ x = 63 ∧ ¬ x = 123 := by simpa [isRep] using hrep
  obtain ⟨n1, n2, n3, n4⟩ := hnr
  obtain ⟨m, hm⟩ : ∃ m, i + 1 = m := ⟨_, rfl⟩
  have hz0 : (i : Int) + 1 = (m : Int) := by omega
  have kS := R2.out.keepSet 1 (.int .i64 (m : Int))
  have RD3 := Lib.hid (HB2.out _ _ _ _ _ (R2.out.set1 m) kS)
  have KS := Lib.hid kS
  have HREP := Lib.hid hrep
  have HM := Lib.hid hm
  clear kS hrep hm
  by_cases hsg : x = 46 ∨ x = 94 ∨ x = 36
  · have e : Hid (r = .ok out.length m (out ++ [plainNode (if x = 46 then 3 else if x = 94 then 5 else 6)])) := by
      show r = _
      rw [HA.out]
      unfold atomR
      rw [HX.out, if_neg HREP.out, if_neg h40, if_neg h91, HM.out]
      rcases hsg with rfl | rfl | rfl <;> rfl
    have cS := fun W => sign_any x W hsg
    obtain ⟨kd, hkd⟩ : ∃ kd : Int, (if x = 46 then 3 else if x = 94 then 5 else 6) = kd := ⟨_, rfl⟩
    rw [hkd] at e
    simp only [hkd] at cS
    have cP := put_post M (plainNode kd) (.slice none 0 0) _ p s PA pc m d out F RD3.out (by omega) rfl (row_nilS _ _) (fun b hb => by cases hb)
    simp only [plainNode] at cP
    clear hkd
    rcases hsg with rfl | rfl | rfl
    all_goals
      go_wp2_with fail
      refine (cS _).mono ?_
      rintro e5 w6 ⟨rfl, rfl⟩
      go_wp2_with fail
      refine cP.mono ?_
      intro e5 w6 q
      have Q := Lib.hid (OKF.out _ _ _ _ _ KS.out q)
      obtain ⟨rfl, q⟩ := q
      clear q cP cS
      go_wp2
      go_ret
      rw [e.out]
      exact Q.out
  have g46 : ¬ x = 46 := fun h => hsg (.inl h)
  have g94 : ¬ x = 94 := fun h => hsg (.inr (.inl h))
  have g36 : ¬ x = 36 := fun h => hsg (.inr (.inr h))
  have HQ : Hid (atomR s none i out = match pointR s i with | none => .err 6 i | some (c, j) => .ok out.length j (out ++ [charNode c])) := by
    show atomR s none i out = _
    unfold atomR
    rw [HX.out, if_neg HREP.out, if_neg h40, if_neg h91, if_neg g46, if_neg g94, if_neg g36]
    cases pointR s i <;> rfl
  clear hsg
  by_cases h92 : x = 92
  · subst h92
    have cE := escape_any w2 p s PA pc i d nv R2.out hs hi hP HX.out
    clear hz0 RD3 KS d0 d1 d2 d3 d4 d5 f1
    go_wp2_with fail
    refine cE.mono ?_
    intro e5 w3 hpt
    unfold PtIs at hpt
    clear cE
    cases hpr : pointR s i with
    | none =>
      rw [hpr] at hpt
      obtain ⟨rfl, k3, r3⟩ := hpt
      have e : Hid (r = .err 6 i) := by show r = _; rw [HA.out, HQ.out, hpr]
      obtain ⟨c0, c1, c2, c3, c4, c5⟩ := r3.cell
      have RD3 := Lib.hid (HB2.out _ _ _ _ _ r3 k3)
      have K3 := Lib.hid (K2.out.tr (kp k3))
      clear k3 r3 hpr
      go_wp2
      go_ret
      rw [e.out]
      exact ⟨by omega, ⟨_, rfl⟩, i + 2, out, F, hM, RD3.out, K3.out, fun b hb => .inl hb⟩
    | some v =>
      obtain ⟨c, j⟩ := v
      rw [hpr] at hpt
      obtain ⟨rfl, k3, r3⟩ := hpt
      have e : Hid (r = .ok out.length j (out ++ [charNode c])) := by show r = _; rw [HA.out, HQ.out, hpr]
      obtain ⟨c0, c1, c2, c3, c4, c5⟩ := r3.cell
      have cP := put_post M (charNode c) (.slice none 0 0) w3 p s PA pc j d out F (HB2.out _ _ _ _ _ r3 k3) (by omega) rfl (row_nilS _ _) (fun b hb => by cases hb)
      simp only [charNode] at cP
      have KS := Lib.hid k3
      clear k3 r3 hpr
      go_wp2_with fail
      refine cP.mono ?_
      intro e5 w6 q
      have Q := Lib.hid (OKF.out _ _ _ _ _ KS.out q)
      obtain ⟨rfl, q⟩ := q
      clear q cP
      go_wp2
      go_ret
      rw [e.out]
      exact Q.out
  have e : Hid (r = .ok out.length m (out ++ [charNode x])) := by
    show r = _
    rw [HA.out, HQ.out]
    unfold pointR
    rw [HX.out, if_neg h92, HM.out]
  have cP := put_post M (charNode x) (.slice none 0 0) _ p s PA pc m d out F RD3.out (by omega) rfl (row_nilS _ _) (fun b hb => by cases hb)
  simp only [charNode] at cP
  go_wp2_with fail
  refine cP.mono ?_
  intro e5 w6 q
  have Q := Lib.hid (OKF.out _ _ _ _ _ KS.out q)
  obtain ⟨rfl, q⟩ := q
  clear q cP
  go_wp2
  go_ret
  rw [e.out]
  exact Q.out

end Go.Proofs.YtimmbllhjmponaaDoor
