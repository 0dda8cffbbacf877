/- The specification's reader of patterns: atom. Conditions: at most 1000 code points. -/
import Derived.Test.YtimmbllhjmponaaDoorRxS8
import Derived.Test.YtimmbllhjmponaaDoorRxS9g
namespace Go.Proofs.YtimmbllhjmponaaDoor
set_option linter.unusedVariables false
open Go.RowKit

/-- What is asked of alternatives inside of which n more groups may be nested. -/
def SAltsC (s : List Int) (n : Nat) : Prop := ∀ (w : World) (p : Nat) (PA : Option Addr) (pc i : Nat) (out : List Nd) (F : List Nat), SRd w p s PA pc i 0 0 (6 - n) out F → i ≤ s.length → out.length + 2 * (s.length - i) ≤ 10000 →
  Calls Tryd.prog 16 #[.pointer (some ⟨p, 0, none⟩)] w (SPost (10003 + 2 * n) w p s PA pc (6 - n) F [] (altsS s (decide (n = 6)) (innerS s n) i out))

theorem altsS_far {s : List Int} (hP : Pos s) (n : Nat) {i : Nat} {out : List Nd} (hi : i ≤ s.length) : FarS s i out (altsS s false (innerS s n) i out) := by
  rw [altsS_eq hP (innerD_far s n) (innerS_ag hP n) false hi, upT_false]
  exact altsR_far (innerD_far s n) hi
theorem atomS_far {s : List Int} (hP : Pos s) (n : Nat) {i : Nat} {out : List Nd} (hi : i < s.length) : Far s i out (atomS s (innerS s n) i out) := by
  by_cases h41 : pk s i = 41
  · intro n' j o h
    unfold atomS at h
    rw [if_neg (by omega), if_pos h41] at h
    cases h
  · rw [atomS_eq hP (innerD_far s n) (innerS_ag hP n) hi h41]
    exact atomR_far (innerD_far s n) hi

theorem SPost.pre {M : Nat} {w w1 : World} {p : Nat} {s : List Int} {PA : Option Addr} {pc d : Nat} {F F1 X : List Nat} {r : Rd} {e : Ending} {w' : World} (hk : Keep (p :: F) w w1) (hF : ∀ b ∈ F1, b ∈ F ∨ w.heap.size ≤ b) (hX : ∀ b ∈ X, w.heap.size ≤ b) (h : SPost M w1 p s PA pc d F1 X r e w') : SPost M w p s PA pc d F [] r e w' := by
  have hG : ∀ b ∈ p :: F1, b ∈ p :: F ∨ w.heap.size ≤ b := fun b hb => by
    rcases List.mem_cons.1 hb with rfl | hb
    · exact .inl (by simp)
    · rcases hF b hb with h | h
      · exact .inl (List.mem_cons_of_mem _ h)
      · exact .inr h
  have up : ∀ b, b ∈ F1 ∨ b ∈ X ∨ w1.heap.size ≤ b → b ∈ F ∨ b ∈ ([] : List Nat) ∨ w.heap.size ≤ b := fun b hb => by
    rcases hb with h | h | h
    · rcases hF b h with h | h
      · exact .inl h
      · exact .inr (.inr h)
    · exact .inr (.inr (hX b h))
    · exact .inr (.inr (Nat.le_trans hk.size h))
  cases r with
  | ok n j o =>
    obtain ⟨h1, F', h2, h3, h4⟩ := h
    exact ⟨h1, F', h2, hk.trans h3 hG, fun b hb => up b (h4 b hb)⟩
  | err c q =>
    obtain ⟨h1, h2, j, o, F', h3, h4, h5, h6⟩ := h
    exact ⟨h1, h2, j, o, F', h3, h4, hk.trans h5 hG, fun b hb => up b (h6 b hb)⟩

set_option maxHeartbeats 4000000 in
set_option maxRecDepth 100000 in
theorem satom_bracket (M : Nat) (inner : Option (Nat → List Nd → Rd)) (w : World) (p : Nat) (s : List Int) (PA : Option Addr) (pc i d : Nat) (out : List Nd) (F : List Nat) (h : SRd w p s PA pc i 0 0 d out F) (hs : s.length ≤ 1000) (hi : i < s.length) (hP : Pos s)
    (ho : out.length ≤ 10000) (hM : out.length ≤ M) (h91 : pk s i = 91) :
    Calls Tryd.prog 45 #[.pointer (some ⟨p, 0, none⟩)] w (SPost M w p s PA pc d F [] (atomS s inner i out)) := by
  obtain ⟨nv, hR, hb⟩ := h.rs
  obtain ⟨c0, c1, c2, c3, c4, c5⟩ := hR.cell
  have R0 := Lib.hid hR
  have HB := Lib.hid hb
  have H91 := Lib.hid h91
  clear h hR hb h91
  obtain ⟨r, hr⟩ : ∃ r, bracketR s i out = r := ⟨_, rfl⟩
  have e : Hid (atomS s inner i out = r) := by
    show atomS s inner i out = r
    unfold atomS atomR
    rw [H91.out, if_neg (by omega), if_neg (by omega), if_neg (by decide), if_neg (by omega), if_pos rfl]
    exact hr
  rw [e.out]
  have HR := Lib.hid hr
  clear hr e
  go_enter Tryd.func45, Tryd.ntmps45
  go_wp2_with fail
  refine (peek_any w p s PA pc i 0 0 d nv R0.out hs (by omega)).mono ?_
  rintro e w2 ⟨rfl, k2, r2⟩
  have RD2 := Lib.hid (HB.out _ _ _ _ _ r2 k2.nil)
  have K2 := Lib.hid (k2.nil (G := [p]))
  rw [H91.out]
  clear k2 r2 c0 c1 c2 c3 c4 c5
  have cB := sbracket_any M w2 p s PA pc i d out F RD2.out hs ho hM hi hP r HR
  go_wp2_with fail
  refine cB.mono ?_
  intro e5 w6 q
  have Q := Lib.hid (SPost.pre0 K2.out q)
  clear cB
  cases r with
  | err cc qq =>
    obtain ⟨_, ⟨v, rfl⟩, _⟩ := q
    go_wp2
    go_ret
    exact Q.out
  | ok x j o =>
    obtain ⟨rfl, _⟩ := q
    go_wp2
    go_ret
    exact Q.out

set_option maxHeartbeats 4000000 in
set_option maxRecDepth 100000 in
theorem satom_group (n : Nat) (hn : n ≤ 6) (w : World) (p : Nat) (s : List Int) (ih : ∀ m, n = m + 1 → SAltsC s m) (PA : Option Addr) (pc i d : Nat) (out : List Nd) (F : List Nat) (h : SRd w p s PA pc i 0 0 d out F) (hs : s.length ≤ 1000) (hd : d = 6 - n) (hi : i < s.length) (hP : Pos s)
    (ho : out.length + 2 * (s.length - i) ≤ 10000) (h40 : pk s i = 40) (r : Rd) (hr : Hid (groupS s (innerS s n) i out = r)) :
    Calls Tryd.prog 45 #[.pointer (some ⟨p, 0, none⟩)] w (SPost (10001 + 2 * n) w p s PA pc d F [] r) := by
  obtain ⟨nv, hR, hb⟩ := h.rs
  obtain ⟨c0, c1, c2, c3, c4, c5⟩ := hR.cell
  have R0 := Lib.hid hR
  have HB := Lib.hid hb
  have H40 := Lib.hid h40
  have HI := Lib.hid ih
  clear h hR hb h40 ih
  go_enter Tryd.func45, Tryd.ntmps45
  go_wp2_with fail
  refine (peek_any w p s PA pc i 0 0 d nv R0.out hs (by omega)).mono ?_
  rintro e w2 ⟨rfl, k2, r2⟩
  have RD2 := Lib.hid (HB.out _ _ _ _ _ r2 k2.nil)
  have K2 := Lib.hid (k2.nil (G := p :: F))
  have HB2 : Hid (∀ w' i' code' bad' d', Ss w' p s PA pc i' code' bad' d' nv → Keep [p] w2 w' → SRd w' p s PA pc i' code' bad' d' out F) := fun w' i' code' bad' d' q1 q2 => HB.out w' i' code' bad' d' q1 (k2.nil.tr q2)
  have R2 := Lib.hid r2
  rw [H40.out]
  clear k2 r2 c0 c1 c2 c3 c4 c5 R0 HB
  obtain ⟨c0, c1, c2, c3, c4, c5⟩ := R2.out.cell
  cases n with
  | zero =>
    have hd6 : d = 6 := by omega
    clear hd
    subst hd6
    have e : Hid (r = .err 3 i) := by show r = _; rw [← hr.out]; rfl
    have cF := fail_post (10001 + 2 * 0) 3 i w2 p s PA pc i 6 out F [] RD2.out hs (by omega) (by omega)
    go_wp2_with fail
    refine cF.mono ?_
    rintro e5 w6 ⟨rfl, q⟩
    have Q := Lib.hid (SPost.pre K2.out (fun b hb => .inl hb) (fun b hb => by cases hb) q)
    clear q cF
    go_wp2
    go_ret
    rw [e.out]
    exact Q.out
  | succ n =>
    have hdz : ¬ (d : Int) = 6 := by omega
    have hdb : ((d : Int) == 6) = false := beq_eq_false_iff_ne.2 hdz
    have f1 := R2.out.frozen 1
    have f4 := R2.out.frozen 4
    have R3 := R2.out.set1 (i + 1)
    have R4 := R3.set4 (d + 1)
    have K3 := R2.out.keepSet 1 (.int .i64 ((i + 1 : Nat) : Int))
    have K4 := K3.tr (R3.keepSet 4 (.int .i64 ((d + 1 : Nat) : Int)))
    have RD4 := Lib.hid (HB2.out _ _ _ _ _ R4 K4)
    have KK := Lib.hid (K2.out.tr (kp K4))
    have hzi : (i : Int) + 1 = ((i + 1 : Nat) : Int) := by omega
    have hzd : (d : Int) + 1 = ((d + 1 : Nat) : Int) := by omega
    obtain ⟨m, hm⟩ : ∃ m, i + 1 = m := ⟨_, rfl⟩
    obtain ⟨d1, hd1⟩ : ∃ d1, d + 1 = d1 := ⟨_, rfl⟩
    rw [hm] at hzi RD4 KK
    rw [hd1] at hzd RD4 KK
    have hd2 : d1 = 6 - n := by omega
    have hd7 : d1 ≤ 7 := by omega
    have hd8 : d ≤ 7 := by omega
    have hml : m ≤ s.length := by omega
    have cA := HI.out n rfl _ p PA pc m out F (by rw [← hd2]; exact RD4.out) hml (by omega)
    rw [← hd2] at cA
    have hne : decide (n = 6) = false := decide_eq_false (by omega)
    rw [hne] at cA
    have HFar := Lib.hid (altsS_far hP n (out := out) hml)
    have HM := Lib.hid hm
    have HD1 := Lib.hid hd1
    have HG : Hid (r = match altsS s false (innerS s n) m out with | .err c p => .err c p | .ok n j o => if pk s j = 41 then .ok n (j + 1) o else .err 2 s.length) := by
      show r = _
      rw [← hr.out, ← HM.out]
      show groupS s (some (altsS s false (innerS s n))) i out = _
      unfold groupS
      simp only
      cases altsS s false (innerS s n) (i + 1) out <;> rfl
    clear hm hd1 hd hd2 R3 R4 K3 K4 hne HI
    go_wp2_with fail
    refine cA.mono ?_
    intro e w5 hpost
    clear cA c0 c1 c2 c3 c4 c5 f1 f4
    cases hA : altsS s false (innerS s n) m out with
    | err cc q =>
      rw [hA] at hpost
      obtain ⟨hcc, ⟨v, rfl⟩, j, o, F5, hM5, r5, k5, s5⟩ := hpost
      have e : Hid (r = .err cc q) := by show r = _; rw [HG.out, hA]
      obtain ⟨nv5, hR5, hb5⟩ := r5.rs
      obtain ⟨c0, c1, c2, c3, c4, c5⟩ := hR5.cell
      have f4 := hR5.frozen 4
      have hzd2 : (d1 : Int) - 1 = (d : Int) := by have := HD1.out; omega
      have hcz : (cc == 0) = false := beq_eq_false_iff_ne.2 (by omega)
      have hcn : ¬ cc = 0 := by omega
      have RX := Lib.hid (hb5 _ _ _ _ _ (hR5.set4 d) (hR5.keepSet 4 (.int .i64 (d : Int))))
      have KX := Lib.hid ((KK.out.tr k5).tr (kp (hR5.keepSet 4 (.int .i64 (d : Int)))))
      have SX : Hid (∀ b ∈ F5, b ∈ F ∨ b ∈ ([] : List Nat) ∨ w.heap.size ≤ b) := fun b hb => by
        rcases s5 b hb with h | h | h
        · exact .inl h
        · cases h
        · exact .inr (.inr (Nat.le_trans KK.out.size h))
      clear r5 k5 s5 hR5 hb5 hA HG
      go_wp2
      go_ret
      rw [e.out]
      exact ⟨hcc, ⟨_, rfl⟩, j, o, F5, by omega, RX.out, KX.out, SX.out⟩
    | ok x j o =>
      rw [hA] at hpost
      obtain ⟨rfl, F5, r5, k5, s5⟩ := hpost
      have hfar := HFar.out x j o hA
      have hjl := hfar.2.1
      have hjo := hfar.2.2.1
      have e0 : Hid (r = if pk s j = 41 then .ok x (j + 1) o else .err 2 s.length) := by show r = _; rw [HG.out, hA]
      obtain ⟨nv5, hR5, hb5⟩ := r5.rs
      obtain ⟨c0, c1, c2, c3, c4, c5⟩ := hR5.cell
      have f4 := hR5.frozen 4
      have hzd2 : (d1 : Int) - 1 = (d : Int) := by have := HD1.out; omega
      have R6 := Lib.hid (hR5.set4 d)
      have HB5 : Hid (∀ w' i' code' bad' d', Ss w' p s PA pc i' code' bad' d' nv5 → Keep [p] (w5.setCell ⟨p, 4, none⟩ (.int .i64 (d : Int))) w' → SRd w' p s PA pc i' code' bad' d' o F5) := fun w' i' code' bad' d' q1 q2 => hb5 w' i' code' bad' d' q1 ((hR5.keepSet 4 (.int .i64 (d : Int))).tr q2)
      have K6 := Lib.hid ((KK.out.tr k5).tr (kp (hR5.keepSet 4 (.int .i64 (d : Int)))))
      have SX : Hid (∀ b ∈ F5, b ∈ F ∨ w.heap.size ≤ b) := fun b hb => by
        rcases s5 b hb with h | h | h
        · exact .inl h
        · cases h
        · exact .inr (Nat.le_trans KK.out.size h)
      clear r5 k5 s5 hR5 hb5 hA HG hfar
      obtain ⟨y, hy⟩ : ∃ y, pk s j = y := ⟨_, rfl⟩
      have HY := Lib.hid hy
      rw [hy] at e0
      clear hy
      have cP := peek_any _ p s PA pc j 0 0 d nv5 R6.out hs (by omega)
      rw [HY.out] at cP
      go_wp2_with fail
      refine cP.mono ?_
      rintro e w7 ⟨rfl, k7, r7⟩
      have R7 := Lib.hid r7
      have K7 := Lib.hid (k7.nil (G := [p]))
      obtain ⟨b0, b1, b2, b3, b4, b5⟩ := r7.cell
      have f1 := r7.frozen 1
      clear k7 r7 cP c0 c1 c2 c3 c4 c5 f4
      by_cases h41 : y = 41
      · have e1 : Hid (r = .ok x (j + 1) o) := by show r = _; rw [e0.out, if_pos h41]
        have hyb : (y == 41) = true := by simp [h41]
        obtain ⟨m2, hm2⟩ : ∃ m2, j + 1 = m2 := ⟨_, rfl⟩
        have hzj : (j : Int) + 1 = (m2 : Int) := by omega
        rw [hm2] at e1
        have k8 := R7.out.keepSet 1 (.int .i64 (m2 : Int))
        have RX := Lib.hid (HB5.out _ _ _ _ _ (R7.out.set1 m2) (K7.out.tr k8))
        have KX := Lib.hid (K6.out.tr (kp (K7.out.tr k8)))
        clear hm2 k8 e0
        go_wp2
        go_ret
        rw [e1.out]
        refine ⟨rfl, F5, RX.out, KX.out, fun b hb => ?_⟩
        rcases SX.out b hb with h | h
        · exact .inl h
        · exact .inr (.inr h)
      · have e1 : Hid (r = .err 2 s.length) := by show r = _; rw [e0.out, if_neg h41]
        have hyb : (y == 41) = false := beq_eq_false_iff_ne.2 h41
        have hyn : (y != 41) = true := by simp [h41]
        have cF := fail_post (10001 + 2 * (n + 1)) 2 s.length w7 p s PA pc j d o F5 [] (HB5.out _ _ _ _ _ R7.out K7.out) hs (by omega) (by omega)
        have KX := Lib.hid (K6.out.tr (kp K7.out))
        clear e0
        go_wp2_with fail
        refine cF.mono ?_
        rintro e5 w9 ⟨rfl, q⟩
        have Q := Lib.hid (SPost.pre KX.out SX.out (fun b hb => by cases hb) q)
        clear q cF
        go_wp2
        go_ret
        rw [e1.out]
        exact Q.out

theorem satom_any (n : Nat) (hn : n ≤ 6) (w : World) (p : Nat) (s : List Int) (ih : ∀ m, n = m + 1 → SAltsC s m) (PA : Option Addr) (pc i d : Nat) (out : List Nd) (F : List Nat) (h : SRd w p s PA pc i 0 0 d out F) (hs : s.length ≤ 1000) (hd : d = 6 - n) (hi : i < s.length) (hP : Pos s)
    (ho : out.length + 2 * (s.length - i) ≤ 10000) :
    Calls Tryd.prog 45 #[.pointer (some ⟨p, 0, none⟩)] w (SPost (10001 + 2 * n) w p s PA pc d F [] (atomS s (innerS s n) i out)) := by
  by_cases h40 : pk s i = 40
  · exact satom_group n hn w p s ih PA pc i d out F h hs hd hi hP ho h40 _ (show _ = _ by unfold atomS; rw [if_pos h40])
  · by_cases h91 : pk s i = 91
    · exact satom_bracket _ _ w p s PA pc i d out F h hs hi hP (by omega) (by omega) h91
    · exact satom_plain _ _ w p s PA pc i d out F h hs hi hP (by omega) (by omega) h40 h91 _ rfl

end Go.Proofs.YtimmbllhjmponaaDoor
