/- The specification's reader of patterns: piece, from what atom answers. Conditions: at most 1000 code points. -/
import Derived.Test.YtdkjfppjbkdelaaGreatDoorRxS6
import Derived.Test.YtdkjfppjbkdelaaGreatDoorRxIB
namespace Go.Proofs.YtdkjfppjbkdelaaGreatDoor
set_option linter.unusedVariables false
open Go.RowKit

theorem pieceS_of {s : List Int} {inner : Option (Nat → List Nd → Rd)} {i : Nat} {out : List Nd} {kid : Int} {j : Nat} {o : List Nd} (h : atomS s inner i out = .ok kid j o) :
    pieceS s inner i out = match repR s j with | .no => .ok kid j o | .bad => .err 5 j | .yes lo hi k => if isRep (pk s k) = true then .err 5 k else .ok o.length k (o ++ [repNode lo hi kid]) := by
  unfold pieceS
  rw [h]
  simp only
  cases repR s j <;> rfl

theorem put_rep (lo hi kid : Int) (w : World) (p : Nat) (s : List Int) (PA : Option Addr) (pc m d : Nat) (o : List Nd) (F : List Nat) (z : Nat) (hz : w.heap.size = z) (h : SRd w p s PA pc m 0 0 d o F) (ho : o.length ≤ 10000) :
    Calls Tryz.prog 143 #[.pointer (some ⟨p, 0, none⟩), .agg #[.int .i64 9, .int .i64 lo, .int .i64 hi, .bool false, .slice none 0 0, .slice (some ⟨z, 0, none⟩) 1 1]] (w.alloc (.cells #[.int .i64 kid] 3)) fun e w' => e = .returned (.int .i64 o.length) ∧
      ∃ F', SRd w' p s PA pc m 0 0 d (o ++ [repNode lo hi kid]) F' ∧ Keep (p :: F) w w' ∧ ∀ b ∈ F', b ∈ F ∨ w.heap.size ≤ b := by
  subst hz
  have hA : Keep [] w (w.alloc (.cells #[.int .i64 kid] 3)) := (Keep.refl [] w).alloc _
  have hrow := row_low (new_ints w [kid] (by simp [maxLen])) (show p + 1 ≤ w.heap.size from h.lt)
  have hr := h.range
  refine (put_post 0 (repNode lo hi kid) (.slice (some ⟨w.heap.size, 0, none⟩) 1 1) (w.alloc (.cells #[.int .i64 kid] 3)) p s PA pc m d o F (h.keep0 hA) (by omega) rfl hrow (fun b hb hm => by
    simp [Value.ownBlock] at hb
    have := (hr b hm).2
    omega)).mono ?_
  rintro e w' ⟨h1, F', h2, h3, h4⟩
  refine ⟨h1, F', h2, hA.nil.tr h3, fun b hb => ?_⟩
  rcases h4 b hb with h | h | h
  · exact .inl h
  · simp [Value.ownBlock] at h; exact .inr (by omega)
  · have := hA.size; exact .inr (by omega)

set_option maxHeartbeats 4000000 in
set_option maxRecDepth 100000 in
theorem spiece_any (M : Nat) (inner : Option (Nat → List Nd → Rd)) (w : World) (p : Nat) (s : List Int) (PA : Option Addr) (pc i d : Nat) (out : List Nd) (F : List Nat) (hs : s.length ≤ 1000) (hi : i < s.length) (hP : Pos s)
    (hFar : ∀ kid j o, atomS s inner i out = .ok kid j o → j ≤ s.length ∧ o.length ≤ 10000 ∧ o.length + 1 ≤ M)
    (cA : Calls Tryz.prog 191 #[.pointer (some ⟨p, 0, none⟩)] w (SPost M w p s PA pc d F [] (atomS s inner i out))) (r : Rd) (hr : Hid (pieceS s inner i out = r)) :
    Calls Tryz.prog 173 #[.pointer (some ⟨p, 0, none⟩)] w (SPost M w p s PA pc d F [] r) := by
  have HFar := Lib.hid hFar
  clear hFar
  go_enter Tryz.func173, Tryz.ntmps173
  go_wp2_with fail
  refine cA.mono ?_
  intro e w1 hpost
  clear cA
  cases hA : atomS s inner i out with
  | err cc q =>
    rw [hA] at hpost
    obtain ⟨hc, ⟨v, rfl⟩, j, o, F', hM, hS, hk, hn⟩ := hpost
    have e : Hid (r = .err cc q) := by show r = _; rw [← hr.out]; unfold pieceS; rw [hA]
    obtain ⟨nv, hR, -⟩ := hS.rs
    obtain ⟨c0, c1, c2, c3, c4, c5⟩ := hR.cell
    have hc0 : ¬ cc = 0 := by omega
    have H := Lib.hid (And.intro hS (And.intro hk hn))
    clear hR hS hk hn hA
    go_wp2
    go_ret
    rw [e.out]
    exact ⟨hc, ⟨_, rfl⟩, j, o, F', hM, H.out⟩
  | ok kid j o =>
    rw [hA] at hpost
    obtain ⟨rfl, F1, r1, k1, s1⟩ := hpost
    obtain ⟨hjl, hol, hoM⟩ := HFar.out kid j o hA
    have HE := Lib.hid (pieceS_of hA)
    have K1 := Lib.hid k1
    have R1 := Lib.hid r1
    have S1 : Hid (∀ b ∈ F1, b ∈ F ∨ w.heap.size ≤ b) := fun b hb => by
      rcases s1 b hb with h | h | h
      · exact .inl h
      · cases h
      · exact .inr h
    have HRG := Lib.hid r1.range
    obtain ⟨nv, hR, hb⟩ := r1.rs
    have HB := Lib.hid hb
    obtain ⟨c0, c1, c2, c3, c4, c5⟩ := hR.cell
    have R0 := Lib.hid hR
    clear k1 r1 s1 hA hR hb HFar
    go_wp2_with fail
    refine (peek_any w1 p s PA pc j 0 0 d nv R0.out hs (by omega)).mono ?_
    rintro e w2 ⟨rfl, k2, r2⟩
    have RD2 := Lib.hid (HB.out _ _ _ _ _ r2 k2.nil)
    obtain ⟨nv2, hR2, hb2⟩ := RD2.out.rs
    have K2 := Lib.hid (K1.out.tr k2.nil)
    obtain ⟨d0, d1, d2, d3, d4, d5⟩ := hR2.cell
    have f1 := hR2.frozen 1
    have R2 := Lib.hid hR2
    have HB2 := Lib.hid hb2
    have z2 := k2.size
    obtain ⟨x, hx⟩ : ∃ x, pk s j = x := ⟨_, rfl⟩
    have HX := Lib.hid hx
    rw [hx]
    clear k2 r2 hR2 hb2 hx c0 c1 c2 c3 c4 c5 K1 R1 HB R0
    by_cases h42 : x = 42
    · subst h42
      obtain ⟨m, hm⟩ : ∃ m, j + 1 = m := ⟨_, rfl⟩
      have hz0 : (j : Int) + 1 = (m : Int) := by omega
      have hjlt : j < s.length := lt_of_pk (by rw [HX.out]; decide)
      have hml : m ≤ s.length := by omega
      have HT : Hid (repR s j = .yes 0 (-1) m) := by show repR s j = _; unfold repR; rw [HX.out, ← hm]; rfl
      have kS := R2.out.keepSet 1 (.int .i64 (m : Int))
      have RD3 := Lib.hid (HB2.out _ _ _ _ _ (R2.out.set1 m) kS)
      have K3 := Lib.hid (K2.out.tr (kp kS))
      have z3 : (w2.setCell ⟨p, 1, none⟩ (.int .i64 (m : Int))).heap.size = w2.heap.size := setCell_size' _ _ _
      clear kS hm hjlt
      go_wp2_with fail
      refine (put_rep 0 (-1) kid _ p s PA pc m d o F1 _ z3 RD3.out (by omega)).mono ?_
      rintro e w4 ⟨rfl, F4, r4, k4, s4⟩
      have z4 := k4.size
      have K4 := Lib.hid (K3.out.trans k4 fun b hb => by
        rcases List.mem_cons.1 hb with h | h
        · exact .inl (by simp [h])
        · rcases S1.out b h with h | h
          · exact .inl (by simp [h])
          · exact .inr h)
      have S4 : Hid (∀ b ∈ F4, b ∈ F ∨ b ∈ ([] : List Nat) ∨ w.heap.size ≤ b) := fun b hb => by
        rcases s4 b hb with h | h
        · rcases S1.out b h with h | h
          · exact .inl h
          · exact .inr (.inr h)
        · have := K3.out.size; exact .inr (.inr (by omega))
      obtain ⟨nv4, hR4, hb4⟩ := r4.rs
      have cP := peek_any w4 p s PA pc m 0 0 d nv4 hR4 hs (by omega)
      have HB4 := Lib.hid hb4
      clear r4 k4 s4 hR4 hb4
      go_wp2_with fail
      refine cP.mono ?_
      rintro e w5 ⟨rfl, k5, r5⟩
      have RD5 := Lib.hid (HB4.out _ _ _ _ _ r5 k5.nil)
      have K5 := Lib.hid (K4.out.tr k5.nil)
      have hM5 : Hid ((o ++ [repNode 0 (-1) kid]).length ≤ M) := by show _ ≤ M; simp; omega
      obtain ⟨y, hy⟩ : ∃ y, pk s m = y := ⟨_, rfl⟩
      rw [hy]
      have HY := Lib.hid hy
      have c1 := r5.cell.2.1
      clear k5 r5 cP hy HB4
      by_cases hrep : isRep y = true
      · have e : Hid (r = .err 5 m) := by show r = _; rw [← hr.out, HE.out, HT.out]; simp only; rw [HY.out, if_pos hrep]
        have hc := isRep_cases hrep
        clear hrep
        rcases hc with rfl | rfl | rfl | rfl
        all_goals
          go_wp2_with fail
          refine (fail_post M 5 m w5 p s PA pc m d _ F4 [] RD5.out hs (by omega) hM5.out).mono ?_
          rintro e5 w6 ⟨rfl, -, -, j6, o6, F6, q1, q2, q3, q4⟩
          have Q := Lib.hid (And.intro q1 (And.intro q2 (And.intro q3 q4)))
          clear q1 q2 q3 q4
          go_wp2
          go_ret
          rw [e.out]
          obtain ⟨q1, q2, q3, q4⟩ := Q.out
          refine ⟨by omega, ⟨_, rfl⟩, j6, o6, F6, q1, q2, K5.out.trans q3 fun b hb => ?_, fun b hb => ?_⟩
          · rcases List.mem_cons.1 hb with h | h
            · exact .inl (by simp [h])
            · rcases S4.out b h with h | h | h
              · exact .inl (by simp [h])
              · cases h
              · exact .inr h
          · rcases q4 b hb with h | h | h
            · exact S4.out b h
            · cases h
            · have := K5.out.size; exact .inr (.inr (by omega))
      · have e : Hid (r = .ok o.length m (o ++ [repNode 0 (-1) kid])) := by show r = _; rw [← hr.out, HE.out, HT.out]; simp only; rw [HY.out, if_neg hrep]
        have hn : ¬ y = 42 ∧ ¬ y = 43 ∧ ¬ y = 63 ∧ ¬ y = 123 := by simpa [isRep] using hrep
        obtain ⟨n1, n2, n3, n4⟩ := hn
        clear hrep
        go_wp2
        go_ret
        rw [e.out]
        exact ⟨rfl, F4, RD5.out, K5.out, S4.out⟩
    by_cases h43 : x = 43
    · subst h43
      obtain ⟨m, hm⟩ : ∃ m, j + 1 = m := ⟨_, rfl⟩
      have hz0 : (j : Int) + 1 = (m : Int) := by omega
      have hjlt : j < s.length := lt_of_pk (by rw [HX.out]; decide)
      have hml : m ≤ s.length := by omega
      have HT : Hid (repR s j = .yes 1 (-1) m) := by show repR s j = _; unfold repR; rw [HX.out, ← hm]; rfl
      have kS := R2.out.keepSet 1 (.int .i64 (m : Int))
      have RD3 := Lib.hid (HB2.out _ _ _ _ _ (R2.out.set1 m) kS)
      have K3 := Lib.hid (K2.out.tr (kp kS))
      have z3 : (w2.setCell ⟨p, 1, none⟩ (.int .i64 (m : Int))).heap.size = w2.heap.size := setCell_size' _ _ _
      clear kS hm hjlt
      go_wp2_with fail
      refine (put_rep 1 (-1) kid _ p s PA pc m d o F1 _ z3 RD3.out (by omega)).mono ?_
      rintro e w4 ⟨rfl, F4, r4, k4, s4⟩
      have z4 := k4.size
      have K4 := Lib.hid (K3.out.trans k4 fun b hb => by
        rcases List.mem_cons.1 hb with h | h
        · exact .inl (by simp [h])
        · rcases S1.out b h with h | h
          · exact .inl (by simp [h])
          · exact .inr h)
      have S4 : Hid (∀ b ∈ F4, b ∈ F ∨ b ∈ ([] : List Nat) ∨ w.heap.size ≤ b) := fun b hb => by
        rcases s4 b hb with h | h
        · rcases S1.out b h with h | h
          · exact .inl h
          · exact .inr (.inr h)
        · have := K3.out.size; exact .inr (.inr (by omega))
      obtain ⟨nv4, hR4, hb4⟩ := r4.rs
      have cP := peek_any w4 p s PA pc m 0 0 d nv4 hR4 hs (by omega)
      have HB4 := Lib.hid hb4
      clear r4 k4 s4 hR4 hb4
      go_wp2_with fail
      refine cP.mono ?_
      rintro e w5 ⟨rfl, k5, r5⟩
      have RD5 := Lib.hid (HB4.out _ _ _ _ _ r5 k5.nil)
      have K5 := Lib.hid (K4.out.tr k5.nil)
      have hM5 : Hid ((o ++ [repNode 1 (-1) kid]).length ≤ M) := by show _ ≤ M; simp; omega
      obtain ⟨y, hy⟩ : ∃ y, pk s m = y := ⟨_, rfl⟩
      rw [hy]
      have HY := Lib.hid hy
      have c1 := r5.cell.2.1
      clear k5 r5 cP hy HB4
      by_cases hrep : isRep y = true
      · have e : Hid (r = .err 5 m) := by show r = _; rw [← hr.out, HE.out, HT.out]; simp only; rw [HY.out, if_pos hrep]
        have hc := isRep_cases hrep
        clear hrep
        rcases hc with rfl | rfl | rfl | rfl
        all_goals
          go_wp2_with fail
          refine (fail_post M 5 m w5 p s PA pc m d _ F4 [] RD5.out hs (by omega) hM5.out).mono ?_
          rintro e5 w6 ⟨rfl, -, -, j6, o6, F6, q1, q2, q3, q4⟩
          have Q := Lib.hid (And.intro q1 (And.intro q2 (And.intro q3 q4)))
          clear q1 q2 q3 q4
          go_wp2
          go_ret
          rw [e.out]
          obtain ⟨q1, q2, q3, q4⟩ := Q.out
          refine ⟨by omega, ⟨_, rfl⟩, j6, o6, F6, q1, q2, K5.out.trans q3 fun b hb => ?_, fun b hb => ?_⟩
          · rcases List.mem_cons.1 hb with h | h
            · exact .inl (by simp [h])
            · rcases S4.out b h with h | h | h
              · exact .inl (by simp [h])
              · cases h
              · exact .inr h
          · rcases q4 b hb with h | h | h
            · exact S4.out b h
            · cases h
            · have := K5.out.size; exact .inr (.inr (by omega))
      · have e : Hid (r = .ok o.length m (o ++ [repNode 1 (-1) kid])) := by show r = _; rw [← hr.out, HE.out, HT.out]; simp only; rw [HY.out, if_neg hrep]
        have hn : ¬ y = 42 ∧ ¬ y = 43 ∧ ¬ y = 63 ∧ ¬ y = 123 := by simpa [isRep] using hrep
        obtain ⟨n1, n2, n3, n4⟩ := hn
        clear hrep
        go_wp2
        go_ret
        rw [e.out]
        exact ⟨rfl, F4, RD5.out, K5.out, S4.out⟩
    by_cases h63 : x = 63
    · subst h63
      obtain ⟨m, hm⟩ : ∃ m, j + 1 = m := ⟨_, rfl⟩
      have hz0 : (j : Int) + 1 = (m : Int) := by omega
      have hjlt : j < s.length := lt_of_pk (by rw [HX.out]; decide)
      have hml : m ≤ s.length := by omega
      have HT : Hid (repR s j = .yes 0 1 m) := by show repR s j = _; unfold repR; rw [HX.out, ← hm]; rfl
      have kS := R2.out.keepSet 1 (.int .i64 (m : Int))
      have RD3 := Lib.hid (HB2.out _ _ _ _ _ (R2.out.set1 m) kS)
      have K3 := Lib.hid (K2.out.tr (kp kS))
      have z3 : (w2.setCell ⟨p, 1, none⟩ (.int .i64 (m : Int))).heap.size = w2.heap.size := setCell_size' _ _ _
      clear kS hm hjlt
      go_wp2_with fail
      refine (put_rep 0 1 kid _ p s PA pc m d o F1 _ z3 RD3.out (by omega)).mono ?_
      rintro e w4 ⟨rfl, F4, r4, k4, s4⟩
      have z4 := k4.size
      have K4 := Lib.hid (K3.out.trans k4 fun b hb => by
        rcases List.mem_cons.1 hb with h | h
        · exact .inl (by simp [h])
        · rcases S1.out b h with h | h
          · exact .inl (by simp [h])
          · exact .inr h)
      have S4 : Hid (∀ b ∈ F4, b ∈ F ∨ b ∈ ([] : List Nat) ∨ w.heap.size ≤ b) := fun b hb => by
        rcases s4 b hb with h | h
        · rcases S1.out b h with h | h
          · exact .inl h
          · exact .inr (.inr h)
        · have := K3.out.size; exact .inr (.inr (by omega))
      obtain ⟨nv4, hR4, hb4⟩ := r4.rs
      have cP := peek_any w4 p s PA pc m 0 0 d nv4 hR4 hs (by omega)
      have HB4 := Lib.hid hb4
      clear r4 k4 s4 hR4 hb4
      go_wp2_with fail
      refine cP.mono ?_
      rintro e w5 ⟨rfl, k5, r5⟩
      have RD5 := Lib.hid (HB4.out _ _ _ _ _ r5 k5.nil)
      have K5 := Lib.hid (K4.out.tr k5.nil)
      have hM5 : Hid ((o ++ [repNode 0 1 kid]).length ≤ M) := by show _ ≤ M; simp; omega
      obtain ⟨y, hy⟩ : ∃ y, pk s m = y := ⟨_, rfl⟩
      rw [hy]
      have HY := Lib.hid hy
      have c1 := r5.cell.2.1
      clear k5 r5 cP hy HB4
      by_cases hrep : isRep y = true
      · have e : Hid (r = .err 5 m) := by show r = _; rw [← hr.out, HE.out, HT.out]; simp only; rw [HY.out, if_pos hrep]
        have hc := isRep_cases hrep
        clear hrep
        rcases hc with rfl | rfl | rfl | rfl
        all_goals
          go_wp2_with fail
          refine (fail_post M 5 m w5 p s PA pc m d _ F4 [] RD5.out hs (by omega) hM5.out).mono ?_
          rintro e5 w6 ⟨rfl, -, -, j6, o6, F6, q1, q2, q3, q4⟩
          have Q := Lib.hid (And.intro q1 (And.intro q2 (And.intro q3 q4)))
          clear q1 q2 q3 q4
          go_wp2
          go_ret
          rw [e.out]
          obtain ⟨q1, q2, q3, q4⟩ := Q.out
          refine ⟨by omega, ⟨_, rfl⟩, j6, o6, F6, q1, q2, K5.out.trans q3 fun b hb => ?_, fun b hb => ?_⟩
          · rcases List.mem_cons.1 hb with h | h
            · exact .inl (by simp [h])
            · rcases S4.out b h with h | h | h
              · exact .inl (by simp [h])
              · cases h
              · exact .inr h
          · rcases q4 b hb with h | h | h
            · exact S4.out b h
            · cases h
            · have := K5.out.size; exact .inr (.inr (by omega))
      · have e : Hid (r = .ok o.length m (o ++ [repNode 0 1 kid])) := by show r = _; rw [← hr.out, HE.out, HT.out]; simp only; rw [HY.out, if_neg hrep]
        have hn : ¬ y = 42 ∧ ¬ y = 43 ∧ ¬ y = 63 ∧ ¬ y = 123 := by simpa [isRep] using hrep
        obtain ⟨n1, n2, n3, n4⟩ := hn
        clear hrep
        go_wp2
        go_ret
        rw [e.out]
        exact ⟨rfl, F4, RD5.out, K5.out, S4.out⟩
    by_cases h123 : x = 123
    · subst h123
      have hjlt : j < s.length := lt_of_pk (by rw [HX.out]; decide)
      have cT := stimes_any w2 p s PA pc j d nv2 R2.out hs hjlt hP
      clear d0 d1 d2 d3 d4 d5 f1
      go_wp2_with fail
      refine cT.mono ?_
      intro e w3 hT3
      unfold STimesIs at hT3
      clear cT
      cases hTm : timesR s j with
      | none =>
        rw [hTm] at hT3
        obtain ⟨rfl, k3, j3, hj3, r3⟩ := hT3
        have HT : Hid (repR s j = .bad) := by show repR s j = _; unfold repR; rw [HX.out, hTm]; rfl
        have e : Hid (r = .err 5 j) := by show r = _; rw [← hr.out, HE.out, HT.out]
        have RD3 := Lib.hid (HB2.out _ _ _ _ _ r3 k3)
        have K3 := Lib.hid (K2.out.tr (kp k3))
        clear k3 r3 hTm
        go_wp2_with fail
        refine (fail_post M 5 j w3 p s PA pc j3 d o F1 [] RD3.out hs (by omega) (by omega)).mono ?_
        rintro e5 w6 ⟨rfl, -, -, j6, o6, F6, q1, q2, q3, q4⟩
        have Q := Lib.hid (And.intro q1 (And.intro q2 (And.intro q3 q4)))
        clear q1 q2 q3 q4
        go_wp2
        go_ret
        rw [e.out]
        obtain ⟨q1, q2, q3, q4⟩ := Q.out
        refine ⟨by omega, ⟨_, rfl⟩, j6, o6, F6, q1, q2, K3.out.trans q3 fun b hb => ?_, fun b hb => ?_⟩
        · rcases List.mem_cons.1 hb with h | h
          · exact .inl (by simp [h])
          · rcases S1.out b h with h | h
            · exact .inl (by simp [h])
            · exact .inr h
        · rcases q4 b hb with h | h | h
          · rcases S1.out b h with h | h
            · exact .inl h
            · exact .inr (.inr h)
          · cases h
          · have := K3.out.size; exact .inr (.inr (by omega))
      | some v =>
        obtain ⟨lo, hi2, m⟩ := v
        rw [hTm] at hT3
        obtain ⟨rfl, k3, r3⟩ := hT3
        have hpl := timesR_place hTm
        obtain ⟨hpl1, hml⟩ := hpl
        have HT : Hid (repR s j = .yes lo hi2 m) := by show repR s j = _; unfold repR; rw [HX.out, hTm]; rfl
        obtain ⟨m1, hm1⟩ : ∃ m1, m = m1 + 1 := ⟨m - 1, by omega⟩
        have hz1 : (m : Int) - 1 = (m1 : Int) := by omega
        have hz0 : (m1 : Int) + 1 = (m : Int) := by omega
        obtain ⟨d0, d1, d2, d3, d4, d5⟩ := r3.cell
        have f1 := r3.frozen 1
        have kS := k3.tr ((r3.keepSet 1 (.int .i64 (m1 : Int))).tr ((r3.set1 m1).keepSet 1 (.int .i64 (m : Int))))
        have RD3 := Lib.hid (HB2.out _ _ _ _ _ ((r3.set1 m1).set1 m) kS)
        have K3 := Lib.hid (K2.out.tr (kp kS))
        have z3 : ((w3.setCell ⟨p, 1, none⟩ (.int .i64 (m1 : Int))).setCell ⟨p, 1, none⟩ (.int .i64 (m : Int))).heap.size = w3.heap.size := by rw [setCell_size', setCell_size']
        clear kS k3 r3 hTm hm1
        go_wp2_with fail
        refine (put_rep lo hi2 kid _ p s PA pc m d o F1 _ z3 RD3.out (by omega)).mono ?_
        rintro e w4 ⟨rfl, F4, r4, k4, s4⟩
        have z4 := k4.size
        have K4 := Lib.hid (K3.out.trans k4 fun b hb => by
          rcases List.mem_cons.1 hb with h | h
          · exact .inl (by simp [h])
          · rcases S1.out b h with h | h
            · exact .inl (by simp [h])
            · exact .inr h)
        have S4 : Hid (∀ b ∈ F4, b ∈ F ∨ b ∈ ([] : List Nat) ∨ w.heap.size ≤ b) := fun b hb => by
          rcases s4 b hb with h | h
          · rcases S1.out b h with h | h
            · exact .inl h
            · exact .inr (.inr h)
          · have := K3.out.size; exact .inr (.inr (by omega))
        obtain ⟨nv4, hR4, hb4⟩ := r4.rs
        have cP := peek_any w4 p s PA pc m 0 0 d nv4 hR4 hs (by omega)
        have HB4 := Lib.hid hb4
        clear r4 k4 s4 hR4 hb4
        go_wp2_with fail
        refine cP.mono ?_
        rintro e w5 ⟨rfl, k5, r5⟩
        have RD5 := Lib.hid (HB4.out _ _ _ _ _ r5 k5.nil)
        have K5 := Lib.hid (K4.out.tr k5.nil)
        have hM5 : Hid ((o ++ [repNode lo hi2 kid]).length ≤ M) := by show _ ≤ M; simp; omega
        obtain ⟨y, hy⟩ : ∃ y, pk s m = y := ⟨_, rfl⟩
        rw [hy]
        have HY := Lib.hid hy
        have c1 := r5.cell.2.1
        clear k5 r5 cP hy HB4
        by_cases hrep : isRep y = true
        · have e : Hid (r = .err 5 m) := by show r = _; rw [← hr.out, HE.out, HT.out]; simp only; rw [HY.out, if_pos hrep]
          have hc := isRep_cases hrep
          clear hrep
          rcases hc with rfl | rfl | rfl | rfl
          all_goals
            go_wp2_with fail
            refine (fail_post M 5 m w5 p s PA pc m d _ F4 [] RD5.out hs (by omega) hM5.out).mono ?_
            rintro e5 w6 ⟨rfl, -, -, j6, o6, F6, q1, q2, q3, q4⟩
            have Q := Lib.hid (And.intro q1 (And.intro q2 (And.intro q3 q4)))
            clear q1 q2 q3 q4
            go_wp2
            go_ret
            rw [e.out]
            obtain ⟨q1, q2, q3, q4⟩ := Q.out
            refine ⟨by omega, ⟨_, rfl⟩, j6, o6, F6, q1, q2, K5.out.trans q3 fun b hb => ?_, fun b hb => ?_⟩
            · rcases List.mem_cons.1 hb with h | h
              · exact .inl (by simp [h])
              · rcases S4.out b h with h | h | h
                · exact .inl (by simp [h])
                · cases h
                · exact .inr h
            · rcases q4 b hb with h | h | h
              · exact S4.out b h
              · cases h
              · have := K5.out.size; exact .inr (.inr (by omega))
        · have e : Hid (r = .ok o.length m (o ++ [repNode lo hi2 kid])) := by show r = _; rw [← hr.out, HE.out, HT.out]; simp only; rw [HY.out, if_neg hrep]
          have hn : ¬ y = 42 ∧ ¬ y = 43 ∧ ¬ y = 63 ∧ ¬ y = 123 := by simpa [isRep] using hrep
          obtain ⟨n1, n2, n3, n4⟩ := hn
          clear hrep
          go_wp2
          go_ret
          rw [e.out]
          exact ⟨rfl, F4, RD5.out, K5.out, S4.out⟩
    have HT : Hid (repR s j = .no) := by show repR s j = _; unfold repR; rw [HX.out, if_neg h42, if_neg h43, if_neg h63, if_neg h123]
    have e : Hid (r = .ok kid j o) := by show r = _; rw [← hr.out, HE.out, HT.out]
    go_wp2
    go_ret
    rw [e.out]
    exact ⟨rfl, F1, RD2.out, K2.out, fun b hb => by rcases S1.out b hb with h | h; exact .inl h; exact .inr (.inr h)⟩

end Go.Proofs.YtdkjfppjbkdelaaGreatDoor

/- The specification's reader of patterns: atom, outside of groups and brackets. Conditions: at most 1000 code points. -/
namespace Go.Proofs.YtdkjfppjbkdelaaGreatDoor
set_option linter.unusedVariables false
open Go.RowKit

set_option maxHeartbeats 4000000 in
set_option maxRecDepth 100000 in
theorem satom_plain (M : Nat) (inner : Option (Nat → List Nd → Rd)) (w : World) (p : Nat) (s : List Int) (PA : Option Addr) (pc i d : Nat) (out : List Nd) (F : List Nat) (h : SRd w p s PA pc i 0 0 d out F) (hs : s.length ≤ 1000) (hi : i < s.length) (hP : Pos s)
    (ho : out.length ≤ 10000) (hM : out.length ≤ M) (h40 : pk s i ≠ 40) (h91 : pk s i ≠ 91) (r : Rd) (hr : Hid (atomS s inner i out = r)) :
    Calls Tryz.prog 191 #[.pointer (some ⟨p, 0, none⟩)] w (SPost M w p s PA pc d F [] r) := by
  obtain ⟨nv, hR, hb⟩ := h.rs
  obtain ⟨c0, c1, c2, c3, c4, c5⟩ := hR.cell
  have R0 := Lib.hid hR
  have HB := Lib.hid hb
  clear h hR hb
  go_enter Tryz.func191, Tryz.ntmps191
  go_wp2_with fail
  refine (peek_any w p s PA pc i 0 0 d nv R0.out hs (by omega)).mono ?_
  rintro e w2 ⟨rfl, k2, r2⟩
  have RD2 := Lib.hid (HB.out _ _ _ _ _ r2 k2.nil)
  have K2 := Lib.hid (k2.nil (G := p :: F))
  have R2 := Lib.hid r2
  have HB2 : Hid (∀ w' i' code' bad' d', Ss w' p s PA pc i' code' bad' d' nv → Keep [p] w2 w' → SRd w' p s PA pc i' code' bad' d' out F) := fun w' i' code' bad' d' q1 q2 => HB.out w' i' code' bad' d' q1 (k2.nil.tr q2)
  obtain ⟨d0, d1, d2, d3, d4, d5⟩ := r2.cell
  have f1 := r2.frozen 1
  obtain ⟨x, hx⟩ : ∃ x, pk s i = x := ⟨_, rfl⟩
  have HX := Lib.hid hx
  rw [hx] at h40 h91 ⊢
  clear k2 r2 hx c0 c1 c2 c3 c4 c5 R0 HB
  have fin : ∀ (cc : Int) (q : Nat) (w6 : World) (e5 : Ending), SPost M w2 p s PA pc d F [] (.err cc q) e5 w6 → SPost M w p s PA pc d F [] (.err cc q) e5 w6 := fun cc q w6 e5 hh => by
    obtain ⟨q0, q1, j6, o6, F6, q2, q3, q4, q5⟩ := hh
    refine ⟨q0, q1, j6, o6, F6, q2, q3, K2.out.tr q4, fun b hb => ?_⟩
    rcases q5 b hb with h | h | h
    · exact .inl h
    · cases h
    · have := K2.out.size; exact .inr (.inr (by omega))
  have FIN := Lib.hid fin
  clear fin
  by_cases h41 : x = 41
  · subst h41
    have e : Hid (r = .err 2 i) := by show r = _; rw [← hr.out]; unfold atomS; rw [if_neg (by rw [HX.out]; exact h40), if_pos HX.out]
    go_wp2_with fail
    refine (fail_post M 2 i w2 p s PA pc i d out F [] RD2.out hs (by omega) hM).mono ?_
    rintro e5 w6 ⟨rfl, q⟩
    have Q := Lib.hid (FIN.out _ _ _ _ q)
    clear q
    go_wp2
    go_ret
    rw [e.out]
    exact Q.out
  have HA : Hid (r = atomR s none i out) := by show r = _; rw [← hr.out]; unfold atomS; rw [if_neg (by rw [HX.out]; exact h40), if_neg (by rw [HX.out]; exact h41)]
  by_cases hrep : isRep x = true
  · have e : Hid (r = .err 5 i) := by show r = _; rw [HA.out]; unfold atomR; rw [HX.out, if_pos hrep]
    have hc := isRep_cases hrep
    clear hrep
    rcases hc with rfl | rfl | rfl | rfl
    all_goals
      go_wp2_with fail
      refine (fail_post M 5 i w2 p s PA pc i d out F [] RD2.out hs (by omega) hM).mono ?_
      rintro e5 w6 ⟨rfl, q⟩
      have Q := Lib.hid (FIN.out _ _ _ _ q)
      clear q
      go_wp2
      go_ret
      rw [e.out]
      exact Q.out
  have okf : ∀ (m : Nat) (nd : Nd) (w3 : World) (e5 : Ending) (w6 : World), Keep [p] w2 w3 → SPost M w3 p s PA pc d F [] (.ok out.length m (out ++ [nd])) e5 w6 → SPost M w p s PA pc d F [] (.ok out.length m (out ++ [nd])) e5 w6 := fun m nd w3 e5 w6 hk hh => by
    obtain ⟨q0, F6, q1, q2, q3⟩ := hh
    have hk' := K2.out.tr (kp (G := F) hk)
    refine ⟨q0, F6, q1, hk'.tr q2, fun b hb => ?_⟩
    rcases q3 b hb with h | h | h
    · exact .inl h
    · cases h
    · have := hk'.size; exact .inr (.inr (by omega))
  have OKF := Lib.hid okf
  clear okf
  have hnr : ¬ x = 42 ∧ ¬ x = 43 ∧ ¬ x = 63 ∧ ¬ x = 123 := by simpa [isRep] using hrep
  obtain ⟨n1, n2, n3, n4⟩ := hnr
  obtain ⟨m, hm⟩ : ∃ m, i + 1 = m := ⟨_, rfl⟩
  have hz0 : (i : Int) + 1 = (m : Int) := by omega
  have kS := R2.out.keepSet 1 (.int .i64 (m : Int))
  have RD3 := Lib.hid (HB2.out _ _ _ _ _ (R2.out.set1 m) kS)
  have KS := Lib.hid kS
  have HREP := Lib.hid hrep
  have HM := Lib.hid hm
  clear kS hrep hm
  by_cases hsg : x = 46 ∨ x = 94 ∨ x = 36
  · have e : Hid (r = .ok out.length m (out ++ [plainNode (if x = 46 then 3 else if x = 94 then 5 else 6)])) := by
      show r = _
      rw [HA.out]
      unfold atomR
      rw [HX.out, if_neg HREP.out, if_neg h40, if_neg h91, HM.out]
      rcases hsg with rfl | rfl | rfl <;> rfl
    have cS := fun W => sign_any x W hsg
    obtain ⟨kd, hkd⟩ : ∃ kd : Int, (if x = 46 then 3 else if x = 94 then 5 else 6) = kd := ⟨_, rfl⟩
    rw [hkd] at e
    simp only [hkd] at cS
    have cP := put_post M (plainNode kd) (.slice none 0 0) _ p s PA pc m d out F RD3.out (by omega) rfl (row_nilS _ _) (fun b hb => by cases hb)
    simp only [plainNode] at cP
    clear hkd
    rcases hsg with rfl | rfl | rfl
    all_goals
      go_wp2_with fail
      refine (cS _).mono ?_
      rintro e5 w6 ⟨rfl, rfl⟩
      go_wp2_with fail
      refine cP.mono ?_
      intro e5 w6 q
      have Q := Lib.hid (OKF.out _ _ _ _ _ KS.out q)
      obtain ⟨rfl, q⟩ := q
      clear q cP cS
      go_wp2
      go_ret
      rw [e.out]
      exact Q.out
  have g46 : ¬ x = 46 := fun h => hsg (.inl h)
  have g94 : ¬ x = 94 := fun h => hsg (.inr (.inl h))
  have g36 : ¬ x = 36 := fun h => hsg (.inr (.inr h))
  have HQ : Hid (atomR s none i out = match pointR s i with | none => .err 6 i | some (c, j) => .ok out.length j (out ++ [charNode c])) := by
    show atomR s none i out = _
    unfold atomR
    rw [HX.out, if_neg HREP.out, if_neg h40, if_neg h91, if_neg g46, if_neg g94, if_neg g36]
    cases pointR s i <;> rfl
  clear hsg
  by_cases h92 : x = 92
  · subst h92
    have cE := escape_any w2 p s PA pc i d nv R2.out hs hi hP HX.out
    clear hz0 RD3 KS d0 d1 d2 d3 d4 d5 f1
    go_wp2_with fail
    refine cE.mono ?_
    intro e5 w3 hpt
    unfold PtIs at hpt
    clear cE
    cases hpr : pointR s i with
    | none =>
      rw [hpr] at hpt
      obtain ⟨rfl, k3, r3⟩ := hpt
      have e : Hid (r = .err 6 i) := by show r = _; rw [HA.out, HQ.out, hpr]
      obtain ⟨c0, c1, c2, c3, c4, c5⟩ := r3.cell
      have RD3 := Lib.hid (HB2.out _ _ _ _ _ r3 k3)
      have K3 := Lib.hid (K2.out.tr (kp k3))
      clear k3 r3 hpr
      go_wp2
      go_ret
      rw [e.out]
      exact ⟨by omega, ⟨_, rfl⟩, i + 2, out, F, hM, RD3.out, K3.out, fun b hb => .inl hb⟩
    | some v =>
      obtain ⟨c, j⟩ := v
      rw [hpr] at hpt
      obtain ⟨rfl, k3, r3⟩ := hpt
      have e : Hid (r = .ok out.length j (out ++ [charNode c])) := by show r = _; rw [HA.out, HQ.out, hpr]
      obtain ⟨c0, c1, c2, c3, c4, c5⟩ := r3.cell
      have cP := put_post M (charNode c) (.slice none 0 0) w3 p s PA pc j d out F (HB2.out _ _ _ _ _ r3 k3) (by omega) rfl (row_nilS _ _) (fun b hb => by cases hb)
      simp only [charNode] at cP
      have KS := Lib.hid k3
      clear k3 r3 hpr
      go_wp2_with fail
      refine cP.mono ?_
      intro e5 w6 q
      have Q := Lib.hid (OKF.out _ _ _ _ _ KS.out q)
      obtain ⟨rfl, q⟩ := q
      clear q cP
      go_wp2
      go_ret
      rw [e.out]
      exact Q.out
  have e : Hid (r = .ok out.length m (out ++ [charNode x])) := by
    show r = _
    rw [HA.out, HQ.out]
    unfold pointR
    rw [HX.out, if_neg h92, HM.out]
  have cP := put_post M (charNode x) (.slice none 0 0) _ p s PA pc m d out F RD3.out (by omega) rfl (row_nilS _ _) (fun b hb => by cases hb)
  simp only [charNode] at cP
  go_wp2_with fail
  refine cP.mono ?_
  intro e5 w6 q
  have Q := Lib.hid (OKF.out _ _ _ _ _ KS.out q)
  obtain ⟨rfl, q⟩ := q
  clear q cP
  go_wp2
  go_ret
  rw [e.out]
  exact Q.out

end Go.Proofs.YtdkjfppjbkdelaaGreatDoor
