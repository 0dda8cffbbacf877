/- The specification's reader of patterns: piece, from what atom answers. Conditions: at most 1000 code points. -/
import Derived.Test.YtimmbllhjmponaaDoorRxS6
import Derived.Test.YtimmbllhjmponaaDoorRxIB
namespace Go.Proofs.YtimmbllhjmponaaDoor
set_option linter.unusedVariables false
open Go.RowKit

theorem pieceS_of {s : List Int} {inner : Option (Nat → List Nd → Rd)} {i : Nat} {out : List Nd} {kid : Int} {j : Nat} {o : List Nd} (h : atomS s inner i out = .ok kid j o) :
    pieceS s inner i out = match repR s j with | .no => .ok kid j o | .bad => .err 5 j | .yes lo hi k => if isRep (pk s k) = true then .err 5 k else .ok o.length k (o ++ [repNode lo hi kid]) := by
  unfold pieceS
  rw [h]
  simp only
  cases repR s j <;> rfl

theorem put_rep (lo hi kid : Int) (w : World) (p : Nat) (s : List Int) (PA : Option Addr) (pc m d : Nat) (o : List Nd) (F : List Nat) (z : Nat) (hz : w.heap.size = z) (h : SRd w p s PA pc m 0 0 d o F) (ho : o.length ≤ 10000) :
    Calls Tryd.prog 28 #[.pointer (some ⟨p, 0, none⟩), .agg #[.int .i64 9, .int .i64 lo, .int .i64 hi, .bool false, .slice none 0 0, .slice (some ⟨z, 0, none⟩) 1 1]] (w.alloc (.cells #[.int .i64 kid] 3)) fun e w' => e = .returned (.int .i64 o.length) ∧
      ∃ F', SRd w' p s PA pc m 0 0 d (o ++ [repNode lo hi kid]) F' ∧ Keep (p :: F) w w' ∧ ∀ b ∈ F', b ∈ F ∨ w.heap.size ≤ b := by
  subst hz
  have hA : Keep [] w (w.alloc (.cells #[.int .i64 kid] 3)) := (Keep.refl [] w).alloc _
  have hrow := row_low (new_ints w [kid] (by simp [maxLen])) (show p + 1 ≤ w.heap.size from h.lt)
  have hr := h.range
  refine (put_post 0 (repNode lo hi kid) (.slice (some ⟨w.heap.size, 0, none⟩) 1 1) (w.alloc (.cells #[.int .i64 kid] 3)) p s PA pc m d o F (h.keep0 hA) (by omega) rfl hrow (fun b hb hm => by
    simp [Value.ownBlock] at hb
    have := (hr b hm).2
    omega)).mono ?_
  rintro e w' ⟨h1, F', h2, h3, h4⟩
  refine ⟨h1, F', h2, hA.nil.tr h3, fun b hb => ?_⟩
  rcases h4 b hb with h | h | h
  · exact .inl h
  · simp [Value.ownBlock] at h; exact .inr (by omega)
  · have := hA.size; exact .inr (by omega)

set_option maxHeartbeats 4000000 in
set_option maxRecDepth 100000 in
theorem spiece_any (M : Nat) (inner : Option (Nat → List Nd → Rd)) (w : World) (p : Nat) (s : List Int) (PA : Option Addr) (pc i d : Nat) (out : List Nd) (F : List Nat) (hs : s.length ≤ 1000) (hi : i < s.length) (hP : Pos s)
    (hFar : ∀ kid j o, atomS s inner i out = .ok kid j o → j ≤ s.length ∧ o.length ≤ 10000 ∧ o.length + 1 ≤ M)
    (cA : Calls Tryd.prog 45 #[.pointer (some ⟨p, 0, none⟩)] w (SPost M w p s PA pc d F [] (atomS s inner i out))) (r : Rd) (hr : Hid (pieceS s inner i out = r)) :
    Calls Tryd.prog 38 #[.pointer (some ⟨p, 0, none⟩)] w (SPost M w p s PA pc d F [] r) := by
  have HFar := Lib.hid hFar
  clear hFar
  go_enter Tryd.func38, Tryd.ntmps38
  go_wp2_with fail
  refine cA.mono ?_
  intro e w1 hpost
  clear cA
  cases hA : atomS s inner i out with
  | err cc q =>
    rw [hA] at hpost
    obtain ⟨hc, ⟨v, rfl⟩, j, o, F', hM, hS, hk, hn⟩ := hpost
    have e : Hid (r = .err cc q) := by show r = _; rw [← hr.out]; unfold pieceS; rw [hA]
    obtain ⟨nv, hR, -⟩ := hS.rs
    obtain ⟨c0, c1, c2, c3, c4, c5⟩ := hR.cell
    have hc0 : ¬ cc = 0 := by omega
    have H := Lib.hid (And.intro hS (And.intro hk hn))
    clear hR hS hk hn hA
    go_wp2
    go_ret
    rw [e.out]
    exact ⟨hc, ⟨_, rfl⟩, j, o, F', hM, H.out⟩
  | ok kid j o =>
    rw [hA] at hpost
    obtain ⟨rfl, F1, r1, k1, s1⟩ := hpost
    obtain ⟨hjl, hol, hoM⟩ := HFar.out kid j o hA
    have HE := Lib.hid (pieceS_of hA)
    have K1 := Lib.hid k1
    have R1 := Lib.hid r1
    have S1 : Hid (∀ b ∈ F1, b ∈ F ∨ w.heap.size ≤ b) := fun b hb => by
      rcases s1 b hb with h | h | h
      · exact .inl h
      · cases h
      · exact .inr h
    have HRG := Lib.hid r1.range
    obtain ⟨nv, hR, hb⟩ := r1.rs
    have HB := Lib.hid hb
    obtain ⟨c0, c1, c2, c3, c4, c5⟩ := hR.cell
    have R0 := Lib.hid hR
    clear k1 r1 s1 hA hR hb HFar
    go_wp2_with fail
    refine (peek_any w1 p s PA pc j 0 0 d nv R0.out hs (by omega)).mono ?_
    rintro e w2 ⟨rfl, k2, r2⟩
    have RD2 := Lib.hid (HB.out _ _ _ _ _ r2 k2.nil)
    obtain ⟨nv2, hR2, hb2⟩ := RD2.out.rs
    have K2 := Lib.hid (K1.out.tr k2.nil)
    obtain ⟨d0, d1, d2, d3, d4, d5⟩ := hR2.cell
    have f1 := hR2.frozen 1
    have R2 := Lib.hid hR2
    have HB2 := Lib.hid hb2
    have z2 := k2.size
    obtain ⟨x, hx⟩ : ∃ x, pk s j = x := ⟨_, rfl⟩
    have HX := Lib.hid hx
    rw [hx]
    clear k2 r2 hR2 hb2 hx c0 c1 c2 c3 c4 c5 K1 R1 HB R0
    by_cases h42 : x = 42
    · subst h42
      obtain ⟨m, hm⟩ : ∃ m, j + 1 = m := ⟨_, rfl⟩
      have hz0 : (j : Int) + 1 = (m : Int) := by omega
      have hjlt : j < s.length := lt_of_pk (by rw [HX.out]; decide)
      have hml : m ≤ s.length := by omega
      have HT : Hid (repR s j = .yes 0 (-1) m) := by show repR s j = _; unfold repR; rw [HX.out, ← hm]; rfl
      have kS := R2.out.keepSet 1 (.int .i64 (m : Int))
      have RD3 := Lib.hid (HB2.out _ _ _ _ _ (R2.out.set1 m) kS)
      have K3 := Lib.hid (K2.out.tr (kp kS))
      have z3 : (w2.setCell ⟨p, 1, none⟩ (.int .i64 (m : Int))).heap.size = w2.heap.size := setCell_size' _ _ _
      clear kS hm hjlt
      go_wp2_with fail
      refine (put_rep 0 (-1) kid _ p s PA pc m d o F1 _ z3 RD3.out (by omega)).mono ?_
      rintro e w4 ⟨rfl, F4, r4, k4, s4⟩
      have z4 := k4.size
      have K4 := Lib.hid (K3.out.trans k4 fun b hb => by
        rcases List.mem_cons.1 hb with h | h
        · exact .inl (by simp [h])
        · rcases S1.out b h with h | h
          · exact .inl (by simp [h])
          · exact .inr h)
      have S4 : Hid (∀ b ∈ F4, b ∈ F ∨ b ∈ ([] : List Nat) ∨ w.heap.size ≤ b) := fun b hb => by
        rcases s4 b hb with h | h
        · rcases S1.out b h with h | h
          · exact .inl h
          · exact .inr (.inr h)
        · have := K3.out.size; exact .inr (.inr (by omega))
      obtain ⟨nv4, hR4, hb4⟩ := r4.rs
      have cP := peek_any w4 p s PA pc m 0 0 d nv4 hR4 hs (by omega)
      have HB4 := Lib.hid hb4
      clear r4 k4 s4 hR4 hb4
      go_wp2_with fail
      refine cP.mono ?_
      rintro e w5 ⟨rfl, k5, r5⟩
      have RD5 := Lib.hid (HB4.out _ _ _ _ _ r5 k5.nil)
      have K5 := Lib.hid (K4.out.tr k5.nil)
      have hM5 : Hid ((o ++ [repNode 0 (-1) kid]).length ≤ M) := by show _ ≤ M; simp; omega
      obtain ⟨y, hy⟩ : ∃ y, pk s m = y := ⟨_, rfl⟩
      rw [hy]
      have HY := Lib.hid hy
      have c1 := r5.cell.2.1
      clear k5 r5 cP hy HB4
      by_cases hrep : isRep y = true
      · have e : Hid (r = .err 5 m) := by show r = _; rw [← hr.out, HE.out, HT.out]; simp only; rw [HY.out, if_pos hrep]
        have hc := isRep_cases hrep
        clear hrep
        rcases hc with rfl | rfl | rfl | rfl
        all_goals
          go_wp2_with fail
          refine (fail_post M 5 m w5 p s PA pc m d _ F4 [] RD5.out hs (by omega) hM5.out).mono ?_
          rintro e5 w6 ⟨rfl, -, -, j6, o6, F6, q1, q2, q3, q4⟩
          have Q := Lib.hid (And.intro q1 (And.intro q2 (And.intro q3 q4)))
          clear q1 q2 q3 q4
          go_wp2
          go_ret
          rw [e.out]
          obtain ⟨q1, q2, q3, q4⟩ := Q.out
          refine ⟨by omega, ⟨_, rfl⟩, j6, o6, F6, q1, q2, K5.out.trans q3 fun b hb => ?_, fun b hb => ?_⟩
          · rcases List.mem_cons.1 hb with h | h
            · exact .inl (by simp [h])
            · rcases S4.out b h with h | h | h
              · exact .inl (by simp [h])
              · cases h
              · exact .inr h
          · rcases q4 b hb with h | h | h
            · exact S4.out b h
            · cases h
            · have := K5.out.size; exact .inr (.inr (by omega))
      · have e : Hid (r = .ok o.length m (o ++ [repNode 0 (-1) kid])) := by show r = _; rw [← hr.out, HE.out, HT.out]; simp only; rw [HY.out, if_neg hrep]
        have hn : ¬ y = 42 ∧ ¬ y = 43 ∧ ¬ y = 63 ∧ ¬ y = 123 := by simpa [isRep] using hrep
        obtain ⟨n1, n2, n3, n4⟩ := hn
        clear hrep
        go_wp2
        go_ret
        rw [e.out]
        exact ⟨rfl, F4, RD5.out, K5.out, S4.out⟩
    by_cases h43 : x = 43
    · subst h43
      obtain ⟨m, hm⟩ : ∃ m, j + 1 = m := ⟨_, rfl⟩
      have hz0 : (j : Int) + 1 = (m : Int) := by omega
      have hjlt : j < s.length := lt_of_pk (by rw [HX.out]; decide)
      have hml : m ≤ s.length := by omega
      have HT : Hid (repR s j = .yes 1 (-1) m) := by show repR s j = _; unfold repR; rw [HX.out, ← hm]; rfl
      have kS := R2.out.keepSet 1 (.int .i64 (m : Int))
      have RD3 := Lib.hid (HB2.out _ _ _ _ _ (R2.out.set1 m) kS)
      have K3 := Lib.hid (K2.out.tr (kp kS))
      have z3 : (w2.setCell ⟨p, 1, none⟩ (.int .i64 (m : Int))).heap.size = w2.heap.size := setCell_size' _ _ _
      clear kS hm hjlt
      go_wp2_with fail
      refine (put_rep 1 (-1) kid _ p s PA pc m d o F1 _ z3 RD3.out (by omega)).mono ?_
      rintro e w4 ⟨rfl, F4, r4, k4, s4⟩
      have z4 := k4.size
      have K4 := Lib.hid (K3.out.trans k4 fun b hb => by
        rcases List.mem_cons.1 hb with h | h
        · exact .inl (by simp [h])
        · rcases S1.out b h with h | h
          · exact .inl (by simp [h])
          · exact .inr h)
      have S4 : Hid (∀ b ∈ F4, b ∈ F ∨ b ∈ ([] : List Nat) ∨ w.heap.size ≤ b) := fun b hb => by
        rcases s4 b hb with h | h
        · rcases S1.out b h with h | h
          · exact .inl h
          · exact .inr (.inr h)
        · have := K3.out.size; exact .inr (.inr (by omega))
      obtain ⟨nv4, hR4, hb4⟩ := r4.rs
      have cP := peek_any w4 p s PA pc m 0 0 d nv4 hR4 hs (by omega)
      have HB4 := Lib.hid hb4
      clear r4 k4 s4 hR4 hb4
      go_wp2_with fail
      refine cP.mono ?_
      rintro e w5 ⟨rfl, k5, r5⟩
      have RD5 := Lib.hid (HB4.out _ _ _ _ _ r5 k5.nil)
      have K5 := Lib.hid (K4.out.tr k5.nil)
      have hM5 : Hid ((o ++ [repNode 1 (-1) kid]).length ≤ M) := by show _ ≤ M; simp; omega
      obtain ⟨y, hy⟩ : ∃ y, pk s m = y := ⟨_, rfl⟩
      rw [hy]
      have HY := Lib.hid hy
      have c1 := r5.cell.2.1
      clear k5 r5 cP hy HB4
      by_cases hrep : isRep y = true
      · have e : Hid (r = .err 5 m) := by show r = _; rw [← hr.out, HE.out, HT.out]; simp only; rw [HY.out, if_pos hrep]
        have hc := isRep_cases hrep
        clear hrep
        rcases hc with rfl | rfl | rfl | rfl
        all_goals
          go_wp2_with fail
          refine (fail_post M 5 m w5 p s PA pc m d _ F4 [] RD5.out hs (by omega) hM5.out).mono ?_
          rintro e5 w6 ⟨rfl, -, -, j6, o6, F6, q1, q2, q3, q4⟩
          have Q := Lib.hid (And.intro q1 (And.intro q2 (And.intro q3 q4)))
          clear q1 q2 q3 q4
          go_wp2
          go_ret
          rw [e.out]
          obtain ⟨q1, q2, q3, q4⟩ := Q.out
          refine ⟨by omega, ⟨_, rfl⟩, j6, o6, F6, q1, q2, K5.out.trans q3 fun b hb => ?_, fun b hb => ?_⟩
          · rcases List.mem_cons.1 hb with h | h
            · exact .inl (by simp [h])
            · rcases S4.out b h with h | h | h
              · exact .inl (by simp [h])
              · cases h
              · exact .inr h
          · rcases q4 b hb with h | h | h
            · exact S4.out b h
            · cases h
            · have := K5.out.size; exact .inr (.inr (by omega))
      · have e : Hid (r = .ok o.length m (o ++ [repNode 1 (-1) kid])) := by show r = _; rw [← hr.out, HE.out, HT.out]; simp only; rw [HY.out, if_neg hrep]
        have hn : ¬ y = 42 ∧ ¬ y = 43 ∧ ¬ y = 63 ∧ ¬ y = 123 := by simpa [isRep] using hrep
        obtain ⟨n1, n2, n3, n4⟩ := hn
        clear hrep
        go_wp2
        go_ret
        rw [e.out]
        exact ⟨rfl, F4, RD5.out, K5.out, S4.out⟩
    by_cases h63 : x = 63
    · subst h63
      obtain ⟨m, hm⟩ : ∃ m, j + 1 = m := ⟨_, rfl⟩
      have hz0 : (j : Int) + 1 = (m : Int) := by omega
      have hjlt : j < s.length := lt_of_pk (by rw [HX.out]; decide)
      have hml : m ≤ s.length := by omega
      have HT : Hid (repR s j = .yes 0 1 m) := by show repR s j = _; unfold repR; rw [HX.out, ← hm]; rfl
      have kS := R2.out.keepSet 1 (.int .i64 (m : Int))
      have RD3 := Lib.hid (HB2.out _ _ _ _ _ (R2.out.set1 m) kS)
      have K3 := Lib.hid (K2.out.tr (kp kS))
      have z3 : (w2.setCell ⟨p, 1, none⟩ (.int .i64 (m : Int))).heap.size = w2.heap.size := setCell_size' _ _ _
      clear kS hm hjlt
      go_wp2_with fail
      refine (put_rep 0 1 kid _ p s PA pc m d o F1 _ z3 RD3.out (by omega)).mono ?_
      rintro e w4 ⟨rfl, F4, r4, k4, s4⟩
      have z4 := k4.size
      have K4 := Lib.hid (K3.out.trans k4 fun b hb => by
        rcases List.mem_cons.1 hb with h | h
        · exact .inl (by simp [h])
        · rcases S1.out b h with h | h
          · exact .inl (by simp [h])
          · exact .inr h)
      have S4 : Hid (∀ b ∈ F4, b ∈ F ∨ b ∈ ([] : List Nat) ∨ w.heap.size ≤ b) := fun b hb => by
        rcases s4 b hb with h | h
        · rcases S1.out b h with h | h
          · exact .inl h
          · exact .inr (.inr h)
        · have := K3.out.size; exact .inr (.inr (by omega))
      obtain ⟨nv4, hR4, hb4⟩ := r4.rs
      have cP := peek_any w4 p s PA pc m 0 0 d nv4 hR4 hs (by omega)
      have HB4 := Lib.hid hb4
      clear r4 k4 s4 hR4 hb4
      go_wp2_with fail
      refine cP.mono ?_
      rintro e w5 ⟨rfl, k5, r5⟩
      have RD5 := Lib.hid (HB4.out _ _ _ _ _ r5 k5.nil)
      have K5 := Lib.hid (K4.out.tr k5.nil)
      have hM5 : Hid ((o ++ [repNode 0 1 kid]).length ≤ M) := by show _ ≤ M; simp; omega
      obtain ⟨y, hy⟩ : ∃ y, pk s m = y := ⟨_, rfl⟩
      rw [hy]
      have HY := Lib.hid hy
      have c1 := r5.cell.2.1
      clear k5 r5 cP hy HB4
      by_cases hrep : isRep y = true
      · have e : Hid (r = .err 5 m) := by show r = _; rw [← hr.out, HE.out, HT.out]; simp only; rw [HY.out, if_pos hrep]
        have hc := isRep_cases hrep
        clear hrep
        rcases hc with rfl | rfl | rfl | rfl
        all_goals
          go_wp2_with fail
          refine (fail_post M 5 m w5 p s PA pc m d _ F4 [] RD5.out hs (by omega) hM5.out).mono ?_
          rintro e5 w6 ⟨rfl, -, -, j6, o6, F6, q1, q2, q3, q4⟩
          have Q := Lib.hid (And.intro q1 (And.intro q2 (And.intro q3 q4)))
          clear q1 q2 q3 q4
          go_wp2
          go_ret
          rw [e.out]
          obtain ⟨q1, q2, q3, q4⟩ := Q.out
          refine ⟨by omega, ⟨_, rfl⟩, j6, o6, F6, q1, q2, K5.out.trans q3 fun b hb => ?_, fun b hb => ?_⟩
          · rcases List.mem_cons.1 hb with h | h
            · exact .inl (by simp [h])
            · rcases S4.out b h with h | h | h
              · exact .inl (by simp [h])
              · cases h
              · exact .inr h
          · rcases q4 b hb with h | h | h
            · exact S4.out b h
            · cases h
            · have := K5.out.size; exact .inr (.inr (by omega))
      · have e : Hid (r = .ok o.length m (o ++ [repNode 0 1 kid])) := by show r = _; rw [← hr.out, HE.out, HT.out]; simp only; rw [HY.out, if_neg hrep]
        have hn : ¬ y = 42 ∧ ¬ y = 43 ∧ ¬ y = 63 ∧ ¬ y = 123 := by simpa [isRep] using hrep
        obtain ⟨n1, n2, n3, n4⟩ := hn
        clear hrep
        go_wp2
        go_ret
        rw [e.out]
        exact ⟨rfl, F4, RD5.out, K5.out, S4.out⟩
    by_cases h123 : x = 123
    · subst h123
      have hjlt : j < s.length := lt_of_pk (by rw [HX.out]; decide)
      have cT := stimes_any w2 p s PA pc j d nv2 R2.out hs hjlt hP
      clear d0 d1 d2 d3 d4 d5 f1
      go_wp2_with fail
      refine cT.mono ?_
      intro e w3 hT3
      unfold STimesIs at hT3
      clear cT
      cases hTm : timesR s j with
      | none =>
        rw [hTm] at hT3
        obtain ⟨rfl, k3, j3, hj3, r3⟩ := hT3
        have HT : Hid (repR s j = .bad) := by show repR s j = _; unfold repR; rw [HX.out, hTm]; rfl
        have e : Hid (r = .err 5 j) := by show r = _; rw [← hr.out, HE.out, HT.out]
        have RD3 := Lib.hid (HB2.out _ _ _ _ _ r3 k3)
        have K3 := Lib.hid (K2.out.tr (kp k3))
        clear k3 r3 hTm
        go_wp2_with fail
        refine (fail_post M 5 j w3 p s PA pc j3 d o F1 [] RD3.out hs (by omega) (by omega)).mono ?_
        rintro e5 w6 ⟨rfl, -, -, j6, o6, F6, q1, q2, q3, q4⟩
        have Q := Lib.hid (And.intro q1 (And.intro q2 (And.intro q3 q4)))
        clear q1 q2 q3 q4
        go_wp2
        go_ret
        rw [e.out]
        obtain ⟨q1, q2, q3, q4⟩ := Q.out
        refine ⟨by omega, ⟨_, rfl⟩, j6, o6, F6, q1, q2, K3.out.trans q3 fun b hb => ?_, fun b hb => ?_⟩
        · rcases List.mem_cons.1 hb with h | h
          · exact .inl (by simp [h])
          · rcases S1.out b h with h | h
            · exact .inl (by simp [h])
            · exact .inr h
        · rcases q4 b hb with h | h | h
          · rcases S1.out b h with h | h
            · exact .inl h
            · exact .inr (.inr h)
          · cases h
          · have := K3.out.size; exact .inr (.inr (by omega))
      | some v =>
        obtain ⟨lo, hi2, m⟩ := v
        rw [hTm] at hT3
        obtain ⟨rfl, k3, r3⟩ := hT3
        have hpl := timesR_place hTm
        obtain ⟨hpl1, hml⟩ := hpl
        have HT : Hid (repR s j = .yes lo hi2 m) := by show repR s j = _; unfold repR; rw [HX.out, hTm]; rfl
        obtain ⟨m1, hm1⟩ : ∃ m1, m = m1 + 1 := ⟨m - 1, by omega⟩
        have hz1 : (m : Int) - 1 = (m1 : Int) := by omega
        have hz0 : (m1 : Int) + 1 = (m : Int) := by omega
        obtain ⟨d0, d1, d2, d3, d4, d5⟩ := r3.cell
        have f1 := r3.frozen 1
        have kS := k3.tr ((r3.keepSet 1 (.int .i64 (m1 : Int))).tr ((r3.set1 m1).keepSet 1 (.int .i64 (m : Int))))
        have RD3 := Lib.hid (HB2.out _ _ _ _ _ ((r3.set1 m1).set1 m) kS)
        have K3 := Lib.hid (K2.out.tr (kp kS))
        have z3 : ((w3.setCell ⟨p, 1, none⟩ (.int .i64 (m1 : Int))).setCell ⟨p, 1, none⟩ (.int .i64 (m : Int))).heap.size = w3.heap.size := by rw [setCell_size', setCell_size']
        clear kS k3 r3 hTm hm1
        go_wp2_with fail
        refine (put_rep lo hi2 kid _ p s PA pc m d o F1 _ z3 RD3.out (by omega)).mono ?_
        rintro e w4 ⟨rfl, F4, r4, k4, s4⟩
        have z4 := k4.size
        have K4 := Lib.hid (K3.out.trans k4 fun b hb => by
          rcases List.mem_cons.1 hb with h | h
          · exact .inl (by simp [h])
          · rcases S1.out b h with h | h
            · exact .inl (by simp [h])
            · exact .inr h)
        have S4 : Hid (∀ b ∈ F4, b ∈ F ∨ b ∈ ([] : List Nat) ∨ w.heap.size ≤ b) := fun b hb => by
          rcases s4 b hb with h | h
          · rcases S1.out b h with h | h
            · exact .inl h
            · exact .inr (.inr h)
          · have := K3.out.size; exact .inr (.inr (by omega))
        obtain ⟨nv4, hR4, hb4⟩ := r4.rs
        have cP := peek_any w4 p s PA pc m 0 0 d nv4 hR4 hs (by omega)
        have HB4 := Lib.hid hb4
        clear r4 k4 s4 hR4 hb4
        go_wp2_with fail
        refine cP.mono ?_
        rintro e w5 ⟨rfl, k5, r5⟩
        have RD5 := Lib.hid (HB4.out _ _ _ _ _ r5 k5.nil)
        have K5 := Lib.hid (K4.out.tr k5.nil)
        have hM5 : Hid ((o ++ [repNode lo hi2 kid]).length ≤ M) := by show _ ≤ M; simp; omega
        obtain ⟨y, hy⟩ : ∃ y, pk s m = y := ⟨_, rfl⟩
        rw [hy]
        have HY := Lib.hid hy
        have c1 := r5.cell.2.1
        clear k5 r5 cP hy HB4
        by_cases hrep : isRep y = true
        · have e : Hid (r = .err 5 m) := by show r = _; rw [← hr.out, HE.out, HT.out]; simp only; rw [HY.out, if_pos hrep]
          have hc := isRep_cases hrep
          clear hrep
          rcases hc with rfl | rfl | rfl | rfl
          all_goals
            go_wp2_with fail
            refine (fail_post M 5 m w5 p s PA pc m d _ F4 [] RD5.out hs (by omega) hM5.out).mono ?_
            rintro e5 w6 ⟨rfl, -, -, j6, o6, F6, q1, q2, q3, q4⟩
            have Q := Lib.hid (And.intro q1 (And.intro q2 (And.intro q3 q4)))
            clear q1 q2 q3 q4
            go_wp2
            go_ret
            rw [e.out]
            obtain ⟨q1, q2, q3, q4⟩ := Q.out
            refine ⟨by omega, ⟨_, rfl⟩, j6, o6, F6, q1, q2, K5.out.trans q3 fun b hb => ?_, fun b hb => ?_⟩
            · rcases List.mem_cons.1 hb with h | h
              · exact .inl (by simp [h])
              · rcases S4.out b h with h | h | h
                · exact .inl (by simp [h])
                · cases h
                · exact .inr h
            · rcases q4 b hb with h | h | h
              · exact S4.out b h
              · cases h
              · have := K5.out.size; exact .inr (.inr (by omega))
        · have e : Hid (r = .ok o.length m (o ++ [repNode lo hi2 kid])) := by show r = _; rw [← hr.out, HE.out, HT.out]; simp only; rw [HY.out, if_neg hrep]
          have hn : ¬ y = 42 ∧ ¬ y = 43 ∧ ¬ y = 63 ∧ ¬ y = 123 := by simpa [isRep] using hrep
          obtain ⟨n1, n2, n3, n4⟩ := hn
          clear hrep
          go_wp2
          go_ret
          rw [e.out]
          exact ⟨rfl, F4, RD5.out, K5.out, S4.out⟩
    have HT : Hid (repR s j = .no) := by show repR s j = _; unfold repR; rw [HX.out, if_neg h42, if_neg h43, if_neg h63, if_neg h123]
    have e : Hid (r = .ok kid j o) := by show r = _; rw [← hr.out, HE.out, HT.out]
    go_wp2
    go_ret
    rw [e.out]
    exact ⟨rfl, F1, RD2.out, K2.out, fun b hb => by rcases S1.out b hb with h | h; exact .inl h; exact .inr (.inr h)⟩

end Go.Proofs.YtimmbllhjmponaaDoor
