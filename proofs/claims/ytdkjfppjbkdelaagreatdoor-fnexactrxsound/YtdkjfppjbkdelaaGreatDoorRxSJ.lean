/- The specification's reader of patterns: atom. Conditions: at most 1000 code points. -/
import Derived.Test.YtdkjfppjbkdelaaGreatDoorRxSG
import Derived.Test.YtdkjfppjbkdelaaGreatDoorRxSI
import Derived.Test.YtdkjfppjbkdelaaGreatDoorRxID
namespace Go.Proofs.YtdkjfppjbkdelaaGreatDoor
set_option linter.unusedVariables false
open Go.RowKit

/-- What is asked of alternatives inside of which n more groups may be nested. -/
def SAltsC (s : List Int) (n : Nat) : Prop := ∀ (w : World) (p : Nat) (PA : Option Addr) (pc i : Nat) (out : List Nd) (F : List Nat), SRd w p s PA pc i 0 0 (6 - n) out F → i ≤ s.length → out.length + 2 * (s.length - i) ≤ 10000 →
  Calls Tryz.prog 102 #[.pointer (some ⟨p, 0, none⟩)] w (SPost (10003 + 2 * n) w p s PA pc (6 - n) F [] (altsS s (decide (n = 6)) (innerS s n) i out))

theorem altsS_far {s : List Int} (hP : Pos s) (n : Nat) {i : Nat} {out : List Nd} (hi : i ≤ s.length) : FarS s i out (altsS s false (innerS s n) i out) := by
  rw [altsS_eq hP (innerD_far s n) (innerS_ag hP n) false hi, upT_false]
  exact altsR_far (innerD_far s n) hi
theorem atomS_far {s : List Int} (hP : Pos s) (n : Nat) {i : Nat} {out : List Nd} (hi : i < s.length) : Far s i out (atomS s (innerS s n) i out) := by
  by_cases h41 : pk s i = 41
  · intro n' j o h
    unfold atomS at h
    rw [if_neg (by omega), if_pos h41] at h
    cases h
  · rw [atomS_eq hP (innerD_far s n) (innerS_ag hP n) hi h41]
    exact atomR_far (innerD_far s n) hi

theorem SPost.pre {M : Nat} {w w1 : World} {p : Nat} {s : List Int} {PA : Option Addr} {pc d : Nat} {F F1 X : List Nat} {r : Rd} {e : Ending} {w' : World} (hk : Keep (p :: F) w w1) (hF : ∀ b ∈ F1, b ∈ F ∨ w.heap.size ≤ b) (hX : ∀ b ∈ X, w.heap.size ≤ b) (h : SPost M w1 p s PA pc d F1 X r e w') : SPost M w p s PA pc d F [] r e w' := by
  have hG : ∀ b ∈ p :: F1, b ∈ p :: F ∨ w.heap.size ≤ b := fun b hb => by
    rcases List.mem_cons.1 hb with rfl | hb
    · exact .inl (by simp)
    · rcases hF b hb with h | h
      · exact .inl (List.mem_cons_of_mem _ h)
      · exact .inr h
  have up : ∀ b, b ∈ F1 ∨ b ∈ X ∨ w1.heap.size ≤ b → b ∈ F ∨ b ∈ ([] : List Nat) ∨ w.heap.size ≤ b := fun b hb => by
    rcases hb with h | h | h
    · rcases hF b h with h | h
      · exact .inl h
      · exact .inr (.inr h)
    · exact .inr (.inr (hX b h))
    · exact .inr (.inr (Nat.le_trans hk.size h))
  cases r with
  | ok n j o =>
    obtain ⟨h1, F', h2, h3, h4⟩ := h
    exact ⟨h1, F', h2, hk.trans h3 hG, fun b hb => up b (h4 b hb)⟩
  | err c q =>
    obtain ⟨h1, h2, j, o, F', h3, h4, h5, h6⟩ := h
    exact ⟨h1, h2, j, o, F', h3, h4, hk.trans h5 hG, fun b hb => up b (h6 b hb)⟩

set_option maxHeartbeats 4000000 in
set_option maxRecDepth 100000 in
theorem satom_bracket (M : Nat) (inner : Option (Nat → List Nd → Rd)) (w : World) (p : Nat) (s : List Int) (PA : Option Addr) (pc i d : Nat) (out : List Nd) (F : List Nat) (h : SRd w p s PA pc i 0 0 d out F) (hs : s.length ≤ 1000) (hi : i < s.length) (hP : Pos s)
    (ho : out.length ≤ 10000) (hM : out.length ≤ M) (h91 : pk s i = 91) :
    Calls Tryz.prog 191 #[.pointer (some ⟨p, 0, none⟩)] w (SPost M w p s PA pc d F [] (atomS s inner i out)) := by
  obtain ⟨nv, hR, hb⟩ := h.rs
  obtain ⟨c0, c1, c2, c3, c4, c5⟩ := hR.cell
  have R0 := Lib.hid hR
  have HB := Lib.hid hb
  have H91 := Lib.hid h91
  clear h hR hb h91
  obtain ⟨r, hr⟩ : ∃ r, bracketR s i out = r := ⟨_, rfl⟩
  have e : Hid (atomS s inner i out = r) := by
    show atomS s inner i out = r
    unfold atomS atomR
    rw [H91.out, if_neg (by omega), if_neg (by omega), if_neg (by decide), if_neg (by omega), if_pos rfl]
    exact hr
  rw [e.out]
  have HR := Lib.hid hr
  clear hr e
  go_enter Tryz.func191, Tryz.ntmps191
  go_wp2_with fail
  refine (peek_any w p s PA pc i 0 0 d nv R0.out hs (by omega)).mono ?_
  rintro e w2 ⟨rfl, k2, r2⟩
  have RD2 := Lib.hid (HB.out _ _ _ _ _ r2 k2.nil)
  have K2 := Lib.hid (k2.nil (G := [p]))
  rw [H91.out]
  clear k2 r2 c0 c1 c2 c3 c4 c5
  have cB := sbracket_any M w2 p s PA pc i d out F RD2.out hs ho hM hi hP r HR
  go_wp2_with fail
  refine cB.mono ?_
  intro e5 w6 q
  have Q := Lib.hid (SPost.pre0 K2.out q)
  clear cB
  cases r with
  | err cc qq =>
    obtain ⟨_, ⟨v, rfl⟩, _⟩ := q
    go_wp2
    go_ret
    exact Q.out
  | ok x j o =>
    obtain ⟨rfl, _⟩ := q
    go_wp2
    go_ret
    exact Q.out

set_option maxHeartbeats 4000000 in
set_option maxRecDepth 100000 in
theorem satom_group (n : Nat) (hn : n ≤ 6) (w : World) (p : Nat) (s : List Int) (ih : ∀ m, n = m + 1 → SAltsC s m) (PA : Option Addr) (pc i d : Nat) (out : List Nd) (F : List Nat) (h : SRd w p s PA pc i 0 0 d out F) (hs : s.length ≤ 1000) (hd : d = 6 - n) (hi : i < s.length) (hP : Pos s)
    (ho : out.length + 2 * (s.length - i) ≤ 10000) (h40 : pk s i = 40) (r : Rd) (hr : Hid (groupS s (innerS s n) i out = r)) :
    Calls Tryz.prog 191 #[.pointer (some ⟨p, 0, none⟩)] w (SPost (10001 + 2 * n) w p s PA pc d F [] r) := by
  obtain ⟨nv, hR, hb⟩ := h.rs
  obtain ⟨c0, c1, c2, c3, c4, c5⟩ := hR.cell
  have R0 := Lib.hid hR
  have HB := Lib.hid hb
  have H40 := Lib.hid h40
  have HI := Lib.hid ih
  clear h hR hb h40 ih
  go_enter Tryz.func191, Tryz.ntmps191
  go_wp2_with fail
  refine (peek_any w p s PA pc i 0 0 d nv R0.out hs (by omega)).mono ?_
  rintro e w2 ⟨rfl, k2, r2⟩
  have RD2 := Lib.hid (HB.out _ _ _ _ _ r2 k2.nil)
  have K2 := Lib.hid (k2.nil (G := p :: F))
  have HB2 : Hid (∀ w' i' code' bad' d', Ss w' p s PA pc i' code' bad' d' nv → Keep [p] w2 w' → SRd w' p s PA pc i' code' bad' d' out F) := fun w' i' code' bad' d' q1 q2 => HB.out w' i' code' bad' d' q1 (k2.nil.tr q2)
  have R2 := Lib.hid r2
  rw [H40.out]
  clear k2 r2 c0 c1 c2 c3 c4 c5 R0 HB
  obtain ⟨c0, c1, c2, c3, c4, c5⟩ := R2.out.cell
  cases n with
  | zero =>
    have hd6 : d = 6 := by omega
    clear hd
    subst hd6
    have e : Hid (r = .err 3 i) := by show r = _; rw [← hr.out]; rfl
    have cF := fail_post (10001 + 2 * 0) 3 i w2 p s PA pc i 6 out F [] RD2.out hs (by omega) (by omega)
    go_wp2_with fail
    refine cF.mono ?_
    rintro e5 w6 ⟨rfl, q⟩
    have Q := Lib.hid (SPost.pre K2.out (fun b hb => .inl hb) (fun b hb => by cases hb) q)
    clear q cF
    go_wp2
    go_ret
    rw [e.out]
    exact Q.out
  | succ n =>
    have hdz : ¬ (d : Int) = 6 := by omega
    have hdb : ((d : Int) == 6) = false := beq_eq_false_iff_ne.2 hdz
    have f1 := R2.out.frozen 1
    have f4 := R2.out.frozen 4
    have R3 := R2.out.set1 (i + 1)
    have R4 := R3.set4 (d + 1)
    have K3 := R2.out.keepSet 1 (.int .i64 ((i + 1 : Nat) : Int))
    have K4 := K3.tr (R3.keepSet 4 (.int .i64 ((d + 1 : Nat) : Int)))
    have RD4 := Lib.hid (HB2.out _ _ _ _ _ R4 K4)
    have KK := Lib.hid (K2.out.tr (kp K4))
    have hzi : (i : Int) + 1 = ((i + 1 : Nat) : Int) := by omega
    have hzd : (d : Int) + 1 = ((d + 1 : Nat) : Int) := by omega
    obtain ⟨m, hm⟩ : ∃ m, i + 1 = m := ⟨_, rfl⟩
    obtain ⟨d1, hd1⟩ : ∃ d1, d + 1 = d1 := ⟨_, rfl⟩
    rw [hm] at hzi RD4 KK
    rw [hd1] at hzd RD4 KK
    have hd2 : d1 = 6 - n := by omega
    have hd7 : d1 ≤ 7 := by omega
    have hd8 : d ≤ 7 := by omega
    have hml : m ≤ s.length := by omega
    have cA := HI.out n rfl _ p PA pc m out F (by rw [← hd2]; exact RD4.out) hml (by omega)
    rw [← hd2] at cA
    have hne : decide (n = 6) = false := decide_eq_false (by omega)
    rw [hne] at cA
    have HFar := Lib.hid (altsS_far hP n (out := out) hml)
    have HM := Lib.hid hm
    have HD1 := Lib.hid hd1
    have HG : Hid (r = match altsS s false (innerS s n) m out with | .err c p => .err c p | .ok n j o => if pk s j = 41 then .ok n (j + 1) o else .err 2 s.length) := by
      show r = _
      rw [← hr.out, ← HM.out]
      show groupS s (some (altsS s false (innerS s n))) i out = _
      unfold groupS
      simp only
      cases altsS s false (innerS s n) (i + 1) out <;> rfl
    clear hm hd1 hd hd2 R3 R4 K3 K4 hne HI
    go_wp2_with fail
    refine cA.mono ?_
    intro e w5 hpost
    clear cA c0 c1 c2 c3 c4 c5 f1 f4
    cases hA : altsS s false (innerS s n) m out with
    | err cc q =>
      rw [hA] at hpost
      obtain ⟨hcc, ⟨v, rfl⟩, j, o, F5, hM5, r5, k5, s5⟩ := hpost
      have e : Hid (r = .err cc q) := by show r = _; rw [HG.out, hA]
      obtain ⟨nv5, hR5, hb5⟩ := r5.rs
      obtain ⟨c0, c1, c2, c3, c4, c5⟩ := hR5.cell
      have f4 := hR5.frozen 4
      have hzd2 : (d1 : Int) - 1 = (d : Int) := by have := HD1.out; omega
      have hcz : (cc == 0) = false := beq_eq_false_iff_ne.2 (by omega)
      have hcn : ¬ cc = 0 := by omega
      have RX := Lib.hid (hb5 _ _ _ _ _ (hR5.set4 d) (hR5.keepSet 4 (.int .i64 (d : Int))))
      have KX := Lib.hid ((KK.out.tr k5).tr (kp (hR5.keepSet 4 (.int .i64 (d : Int)))))
      have SX : Hid (∀ b ∈ F5, b ∈ F ∨ b ∈ ([] : List Nat) ∨ w.heap.size ≤ b) := fun b hb => by
        rcases s5 b hb with h | h | h
        · exact .inl h
        · cases h
        · exact .inr (.inr (Nat.le_trans KK.out.size h))
      clear r5 k5 s5 hR5 hb5 hA HG
      go_wp2
      go_ret
      rw [e.out]
      exact ⟨hcc, ⟨_, rfl⟩, j, o, F5, by omega, RX.out, KX.out, SX.out⟩
    | ok x j o =>
      rw [hA] at hpost
      obtain ⟨rfl, F5, r5, k5, s5⟩ := hpost
      have hfar := HFar.out x j o hA
      have hjl := hfar.2.1
      have hjo := hfar.2.2.1
      have e0 : Hid (r = if pk s j = 41 then .ok x (j + 1) o else .err 2 s.length) := by show r = _; rw [HG.out, hA]
      obtain ⟨nv5, hR5, hb5⟩ := r5.rs
      obtain ⟨c0, c1, c2, c3, c4, c5⟩ := hR5.cell
      have f4 := hR5.frozen 4
      have hzd2 : (d1 : Int) - 1 = (d : Int) := by have := HD1.out; omega
      have R6 := Lib.hid (hR5.set4 d)
      have HB5 : Hid (∀ w' i' code' bad' d', Ss w' p s PA pc i' code' bad' d' nv5 → Keep [p] (w5.setCell ⟨p, 4, none⟩ (.int .i64 (d : Int))) w' → SRd w' p s PA pc i' code' bad' d' o F5) := fun w' i' code' bad' d' q1 q2 => hb5 w' i' code' bad' d' q1 ((hR5.keepSet 4 (.int .i64 (d : Int))).tr q2)
      have K6 := Lib.hid ((KK.out.tr k5).tr (kp (hR5.keepSet 4 (.int .i64 (d : Int)))))
      have SX : Hid (∀ b ∈ F5, b ∈ F ∨ w.heap.size ≤ b) := fun b hb => by
        rcases s5 b hb with h | h | h
        · exact .inl h
        · cases h
        · exact .inr (Nat.le_trans KK.out.size h)
      clear r5 k5 s5 hR5 hb5 hA HG hfar
      obtain ⟨y, hy⟩ : ∃ y, pk s j = y := ⟨_, rfl⟩
      have HY := Lib.hid hy
      rw [hy] at e0
      clear hy
      have cP := peek_any _ p s PA pc j 0 0 d nv5 R6.out hs (by omega)
      rw [HY.out] at cP
      go_wp2_with fail
      refine cP.mono ?_
      rintro e w7 ⟨rfl, k7, r7⟩
      have R7 := Lib.hid r7
      have K7 := Lib.hid (k7.nil (G := [p]))
      obtain ⟨b0, b1, b2, b3, b4, b5⟩ := r7.cell
      have f1 := r7.frozen 1
      clear k7 r7 cP c0 c1 c2 c3 c4 c5 f4
      by_cases h41 : y = 41
      · have e1 : Hid (r = .ok x (j + 1) o) := by show r = _; rw [e0.out, if_pos h41]
        have hyb : (y == 41) = true := by simp [h41]
        obtain ⟨m2, hm2⟩ : ∃ m2, j + 1 = m2 := ⟨_, rfl⟩
        have hzj : (j : Int) + 1 = (m2 : Int) := by omega
        rw [hm2] at e1
        have k8 := R7.out.keepSet 1 (.int .i64 (m2 : Int))
        have RX := Lib.hid (HB5.out _ _ _ _ _ (R7.out.set1 m2) (K7.out.tr k8))
        have KX := Lib.hid (K6.out.tr (kp (K7.out.tr k8)))
        clear hm2 k8 e0
        go_wp2
        go_ret
        rw [e1.out]
        refine ⟨rfl, F5, RX.out, KX.out, fun b hb => ?_⟩
        rcases SX.out b hb with h | h
        · exact .inl h
        · exact .inr (.inr h)
      · have e1 : Hid (r = .err 2 s.length) := by show r = _; rw [e0.out, if_neg h41]
        have hyb : (y == 41) = false := beq_eq_false_iff_ne.2 h41
        have hyn : (y != 41) = true := by simp [h41]
        have cF := fail_post (10001 + 2 * (n + 1)) 2 s.length w7 p s PA pc j d o F5 [] (HB5.out _ _ _ _ _ R7.out K7.out) hs (by omega) (by omega)
        have KX := Lib.hid (K6.out.tr (kp K7.out))
        clear e0
        go_wp2_with fail
        refine cF.mono ?_
        rintro e5 w9 ⟨rfl, q⟩
        have Q := Lib.hid (SPost.pre KX.out SX.out (fun b hb => by cases hb) q)
        clear q cF
        go_wp2
        go_ret
        rw [e1.out]
        exact Q.out

theorem satom_any (n : Nat) (hn : n ≤ 6) (w : World) (p : Nat) (s : List Int) (ih : ∀ m, n = m + 1 → SAltsC s m) (PA : Option Addr) (pc i d : Nat) (out : List Nd) (F : List Nat) (h : SRd w p s PA pc i 0 0 d out F) (hs : s.length ≤ 1000) (hd : d = 6 - n) (hi : i < s.length) (hP : Pos s)
    (ho : out.length + 2 * (s.length - i) ≤ 10000) :
    Calls Tryz.prog 191 #[.pointer (some ⟨p, 0, none⟩)] w (SPost (10001 + 2 * n) w p s PA pc d F [] (atomS s (innerS s n) i out)) := by
  by_cases h40 : pk s i = 40
  · exact satom_group n hn w p s ih PA pc i d out F h hs hd hi hP ho h40 _ (show _ = _ by unfold atomS; rw [if_pos h40])
  · by_cases h91 : pk s i = 91
    · exact satom_bracket _ _ w p s PA pc i d out F h hs hi hP (by omega) (by omega) h91
    · exact satom_plain _ _ w p s PA pc i d out F h hs hi hP (by omega) (by omega) h40 h91 _ rfl

end Go.Proofs.YtdkjfppjbkdelaaGreatDoor

/- The specification's reader of patterns: row. Conditions: at most 1000 code points. -/
namespace Go.Proofs.YtdkjfppjbkdelaaGreatDoor
set_option linter.unusedVariables false
open Go.RowKit

theorem SRd.atOf {w : World} {p : Nat} {s : List Int} {PA : Option Addr} {pc i d : Nat} {code : Int} {bad : Nat} {out : List Nd} {F : List Nat} (h : SRd w p s PA pc i code bad d out F) : atOfS p w = i := by
  obtain ⟨nv, xs, h1, _, _⟩ := h
  exact h1.atOf

/-- The state of a loop that collects kids; broken: an error has been met. -/
def SKidRel (C M : Nat) (G : Nat → Nat → List Nd → List Int → Rd) (s : List Int) (r : Rd) (w : World) (p : Nat) (PA : Option Addr) (pc d : Nat) (F : List Nat) (v : Value) (wr : World) : Prop :=
  ∃ (kids : List Int) (o : List Nd) (F' : List Nat), RowI wr (p + 1) v kids ∧ (∀ b, v.ownBlock = some b → w.heap.size ≤ b ∧ b ∉ F') ∧ Keep (p :: F) w wr ∧ (∀ b ∈ F', b ∈ F ∨ w.heap.size ≤ b) ∧
    ((∃ a f, SRd wr p s PA pc a 0 0 d o F' ∧ G f a o kids = r ∧ s.length < a + f ∧ a ≤ s.length ∧ kids.length ≤ a + 1 ∧ o.length + 2 * (s.length - a) ≤ C) ∨
     (∃ cc q j, r = .err cc q ∧ 1 ≤ cc ∧ SRd wr p s PA pc j cc q d o F' ∧ o.length ≤ M ∧ kids ≠ [] ∧ kids.length ≤ 1002))
def leftS (s : List Int) (p : Nat) (w : World) : Nat := match w.cell? ⟨p, 2, none⟩ with | some (.int _ x) => if x = 0 then s.length + 2 - atOfS p w else 0 | _ => 0
theorem SRd.left {w : World} {p : Nat} {s : List Int} {PA : Option Addr} {pc i d : Nat} {code : Int} {bad : Nat} {out : List Nd} {F : List Nat} (h : SRd w p s PA pc i code bad d out F) : leftS s p w = if code = 0 then s.length + 2 - i else 0 := by
  unfold leftS
  rw [h.atOf]
  obtain ⟨nv, xs, h1, _, _⟩ := h
  rw [h1.cell.2.2.1]

/-- Behind the append of a kid. -/
theorem skid_more {w w2 w3 : World} {p : Nat} {s : List Int} {PA : Option Addr} {pc a d : Nat} {code : Int} {bad : Nat} {F F2 : List Nat} {kids : List Int} {x : Int} {v v' : Value} {o : List Nd} (hp0 : p < w.heap.size)
    (hr : SRd w2 p s PA pc a code bad d o F2) (hk : Keep (p :: F) w w2) (hF : ∀ b ∈ F2, b ∈ F ∨ w.heap.size ≤ b) (hv : ∀ b, v.ownBlock = some b → w.heap.size ≤ b ∧ b ∉ F2)
    (hown : w3.ownsRow (p + 1) 3 1 v' (kids.length + 1) (kids.map (Value.int .i64) ++ [.int .i64 x])) (hg : (w2.alloc (.cells #[.int .i64 x] 3)).grownBy w3 v.ownBlock) (hb : ∀ b, v'.ownBlock = some b → v.ownBlock = some b ∨ (w2.alloc (.cells #[.int .i64 x] 3)).heap.size ≤ b) :
    RowI w3 (p + 1) v' (kids ++ [x]) ∧ (∀ b, v'.ownBlock = some b → w.heap.size ≤ b ∧ b ∉ F2) ∧ SRd w3 p s PA pc a code bad d o F2 ∧ Keep (p :: F) w w3 := by
  have hA : Keep [] w2 (w2.alloc (.cells #[.int .i64 x] 3)) := (Keep.refl [] w2).alloc _
  have hG : Keep v.ownBlock.toList w2 w3 := hA.nil.tr (Keep.ofGrown hg)
  have hp := hr.lt
  refine ⟨by unfold RowI; rw [List.length_append, List.map_append]; exact hown, fun b hb' => ?_, hr.keep hG (fun b hb' => ?_), hk.trans hG (fun b hb' => .inr (hv b (by simpa using hb')).1)⟩
  · rcases hb b hb' with h | h
    · exact hv b h
    · rw [alloc_size1] at h
      exact ⟨by have := hk.size; omega, fun hm => by have := (hr.range b hm).2; omega⟩
  · have h1 := hv b (by simpa using hb')
    refine ⟨?_, h1.2⟩
    omega

end Go.Proofs.YtdkjfppjbkdelaaGreatDoor

/- The specification's reader of patterns: row. Conditions: at most 1000 code points. -/
namespace Go.Proofs.YtdkjfppjbkdelaaGreatDoor
set_option linter.unusedVariables false
open Go.RowKit

theorem pieceS_far {s : List Int} (hP : Pos s) (n : Nat) {i : Nat} {out : List Nd} (hi : i < s.length) : Far s i out (pieceS s (innerS s n) i out) := by
  intro n' j o h
  by_cases h41 : pk s i = 41
  · unfold pieceS atomS at h
    rw [if_neg (by omega), if_pos h41] at h
    cases h
  · rw [pieceS_eq hP (innerD_far s n) (innerS_ag hP n) hi h41] at h
    cases hp : pieceR s (innerD s n) i out with
    | err c q => rw [hp] at h; cases h
    | ok n2 j2 o2 =>
      rw [hp] at h
      simp only at h
      split at h
      · cases h
      · cases h
        exact pieceR_far (innerD_far s n) hi _ _ _ hp

set_option maxHeartbeats 8000000 in
set_option maxRecDepth 100000 in
theorem srow_any (n : Nat) (hn : n ≤ 6) (w : World) (p : Nat) (s : List Int) (ih : ∀ m, n = m + 1 → SAltsC s m) (PA : Option Addr) (pc i d : Nat) (out : List Nd) (F : List Nat) (h : SRd w p s PA pc i 0 0 d out F) (hs : s.length ≤ 1000) (hd : d = 6 - n) (hi : i ≤ s.length) (hP : Pos s)
    (ho : out.length + 2 * (s.length - i) ≤ 10000) (top : Bool) (htop : top = decide (n = 6)) (r : Rd) (hr : Hid (rowS s top (innerS s n) i out = r)) (M : Nat) (hM : M = 10002 + 2 * n) :
    Calls Tryz.prog 141 #[.pointer (some ⟨p, 0, none⟩)] w (SPost M w p s PA pc d F [] r) := by
  obtain ⟨i0, hi0, hz0, hz1, hz2⟩ := info_parts Tryz.infoInt
  have HI := Lib.hid ih
  have HD := Lib.hid hd
  have HH := Lib.hid h
  have hp0 := h.lt
  have HTOP : Hid (top = decide (¬ 0 < d)) := by show top = _; rw [htop]; congr 1; apply propext; omega
  have hM2 : 10001 + 2 * n + 1 ≤ M := by omega
  have hM3 : 10002 ≤ M := by omega
  obtain ⟨GG, hGG⟩ : ∃ GG, seqS s top (innerS s n) = GG := ⟨_, rfl⟩
  have hr' : Hid (GG (s.length + 1) i out [] = r) := by show GG _ _ _ _ = r; rw [← hGG]; exact hr.out
  have HGG := Lib.hid hGG
  obtain ⟨CC, hCC⟩ : ∃ CC, 10000 = CC := ⟨_, rfl⟩
  have hC1 : CC ≤ 10000 := by omega
  have hC2 : out.length + 2 * (s.length - i) ≤ CC := by omega
  clear ih hd h htop hr hGG hM ho hCC
  have kAl : Keep [] w (w.alloc (.cells #[] 3)) := (Keep.refl [] w).alloc _
  have HK0 := Lib.hid (kAl.nil (G := p :: F))
  have HH0 := Lib.hid (HH.out.keep0 kAl)
  have HW0 := Lib.hid (row_low (new_ints w [] (by simp [maxLen])) (show p + 1 ≤ w.heap.size from HH.out.lt))
  have HV0 : Hid (∀ b, Value.ownBlock (.slice (some ⟨w.heap.size, 0, none⟩) 0 0) = some b → w.heap.size ≤ b ∧ b ∉ F) := fun b hb => by
    simp [Value.ownBlock] at hb
    subst hb
    exact ⟨Nat.le_refl _, fun hm => by have := (HH.out.range _ hm).2; omega⟩
  clear kAl
  go_enter Tryz.func141, Tryz.ntmps141
  go_wp2
  go_loopw [3] (SKidRel CC (10001 + 2 * n) GG s r w p PA pc d F) (fun _ wr => leftS s p wr)
  case atStart => exact ⟨[], out, F, HW0.out, HV0.out, HK0.out, (fun b hb => .inl hb), .inl ⟨i, s.length + 1, HH0.out, hr'.out, by omega, hi, by simp, hC2⟩⟩
  case round =>
    obtain ⟨kids, o, F1, hrow, hv, hk, hF, hst⟩ := hrel
    obtain ⟨A, c, rfl⟩ := own_form hrow
    have HV := Lib.hid hv
    have S1 := Lib.hid hF
    have K1 := Lib.hid hk
    have WR1 := Lib.hid hrow
    clear hrow hv hk hF HH0 HW0 HV0 HK0
    rcases hst with ⟨a, f, hrd, hG, hf, hal, hkl, hol⟩ | ⟨cc, q, j, hre, hcc, hrd, hoM, hkn, hkl⟩
    · obtain ⟨f, rfl⟩ : ∃ g, f = g + 1 := ⟨f - 1, by omega⟩
      have HL : Hid (leftS s p wr = s.length + 2 - a) := by show leftS s p wr = _; rw [hrd.left, if_pos rfl]
      have HG := Lib.hid hG
      have R1 := Lib.hid hrd
      obtain ⟨nv, hR, hb⟩ := hrd.rs
      have RS := Lib.hid hR
      obtain ⟨c0, c1, c2, c3, c4, c5⟩ := hR.cell
      obtain ⟨x, hx⟩ : ∃ x, pk s a = x := ⟨_, rfl⟩
      have HX := Lib.hid hx
      obtain ⟨B, hB⟩ : ∃ B : Bool, (!(stopS top x)) = B := ⟨_, rfl⟩
      have HBd := Lib.hid hB
      have HPK : Hid (∀ n, Calls Tryz.prog 142 #[.pointer (some ⟨p, 0, none⟩)] (wr.drewN n) fun e w' => e = .returned (.int .i64 x) ∧ ∃ k, w' = (wr.drewN n).drewN k) := fun n => by
        have := peekQ (wr.drewN n) p s PA pc a 0 0 d nv (RS.out.keep0 ((Keep.refl [] _).drewN n)) hs (by omega)
        rw [HX.out] at this
        exact this
      clear hrd hG hR hb hx hB
      go_upto_region 2 with fail
      go_cut [39] (fun v wx => v = .bool B ∧ Keep [] wr wx)
      case first =>
        by_cases hae : a < s.length
        · have haz : (a : Int) < (s.length : Int) := by omega
          have hab : decide (a < s.length) = true := decide_eq_true hae
          have hx0 : x ≠ 0 := fun e => by have := hP.zero (s := s) (i := a); have := HX.out; omega
          by_cases h124 : x = 124
          · have HE : Hid (B = false) := by show B = false; rw [← HBd.out]; simp [stopS, h124]
            have h1b : (x == 124) = true := by simp [h124]
            have h1c : (x != 124) = false := by simp [h124]
            clear hx0
            go_quiet ((go_at_call 142; exact Calls.quiet_of (HPK.out _)))
            go_wp2_with fail
            go_meet
            case rel => exact ⟨by rw [HE.out], (Keep.refl [] wr).drewN _⟩
          · have h1b : (x == 124) = false := beq_eq_false_iff_ne.2 h124
            have h1c : (x != 124) = true := by simp [h124]
            by_cases h41 : x = 41
            · have h4b : (x == 41) = true := by simp [h41]
              by_cases hd0 : 0 < d
              · have hdz : (0 : Int) < (d : Int) := by omega
                have hdb : decide (0 < d) = true := decide_eq_true hd0
                have HE : Hid (B = false) := by show B = false; rw [← HBd.out]; simp [stopS, h41, HTOP.out, hd0]
                clear hx0
                go_quiet ((go_at_call 142; exact Calls.quiet_of (HPK.out _)))
                go_wp2_with fail
                go_meet
                case rel => exact ⟨by rw [HE.out], (Keep.refl [] wr).drewN _⟩
              · have hdz : ¬ (0 : Int) < (d : Int) := by omega
                have hdb : decide (0 < d) = false := decide_eq_false hd0
                have HE : Hid (B = true) := by show B = true; rw [← HBd.out]; simp [stopS, h41, HTOP.out, hd0]
                clear hx0
                go_quiet ((go_at_call 142; exact Calls.quiet_of (HPK.out _)))
                go_wp2_with fail
                go_meet
                case rel => exact ⟨by rw [HE.out], (Keep.refl [] wr).drewN _⟩
            · have h4b : (x == 41) = false := beq_eq_false_iff_ne.2 h41
              have HE : Hid (B = true) := by show B = true; rw [← HBd.out]; simp [stopS, h41, h124, hx0]
              clear hx0
              go_quiet ((go_at_call 142; exact Calls.quiet_of (HPK.out _)))
              go_wp2_with fail
              go_meet
              case rel => exact ⟨by rw [HE.out], (Keep.refl [] wr).drewN _⟩
        · have hab : decide (a < s.length) = false := decide_eq_false hae
          have HE : Hid (B = false) := by
            show B = false
            rw [← HBd.out]
            have := pk_ge (s := s) (i := a) (by omega)
            rw [HX.out] at this
            simp [stopS, this]
          go_quiet ((go_at_call 142; exact Calls.quiet_of (HPK.out _)))
          go_wp2_with fail
          go_meet
          case rel => exact ⟨by rw [HE.out], (Keep.refl [] wr).drewN _⟩
      case rest =>
        obtain ⟨rfl, hk3⟩ := hcut
        have K3 := Lib.hid (K1.out.tr hk3.nil)
        have R3 := Lib.hid (R1.out.keep0 hk3)
        have WR3 := Lib.hid (hk3.row WR1.out (fun b hb => by simp))
        clear hk3 c0 c1 c2 c3 c4 c5 RS HPK R1 WR1 K1
        cases B with
        | false =>
          have hst : stopS top (pk s a) = true := by rw [HX.out]; simpa using HBd.out
          have E0 : Hid (r = if kids = [] then .ok o.length a (o ++ [plainNode 1]) else joinR 7 kids a o) := by show r = _; rw [← HG.out, ← HGG.out, seqS, if_pos hst]
          clear hst HBd
          by_cases hk0 : kids = []
          · have e : Hid (r = .ok o.length a (o ++ [plainNode 1])) := by show r = _; rw [E0.out, if_pos hk0]
            subst hk0
            have cB := put_post M (plainNode 1) (.slice none 0 0) _ p s PA pc a d o F1 R3.out (by omega) rfl (row_nilS _ _) (fun b hb => by cases hb)
            simp only [plainNode] at cB
            go_wp2_with fail
            refine cB.mono ?_
            intro e3 w9 hpost
            have hpost := SPost.pre K3.out S1.out (fun b hb => by cases hb) hpost
            obtain ⟨rfl, hrest⟩ := hpost
            have H2 := Lib.hid hrest
            clear hrest cB
            go_wp2
            go_ret
            rw [e.out]
            exact ⟨rfl, H2.out⟩
          by_cases h1 : kids.length = 1
          · obtain ⟨x1, rfl⟩ : ∃ x, kids = [x] := List.length_eq_one_iff.1 h1
            have e : Hid (r = .ok x1 a o) := by show r = _; rw [E0.out, if_neg hk0]; rfl
            obtain ⟨b1, o1, rfl, hb1, hc1⟩ := Nums.own WR3.out 0 (by simp)
            simp at hc1
            go_wp2
            go_ret
            rw [e.out]
            exact ⟨rfl, F1, R3.out, K3.out, fun b hb => by
              rcases S1.out b hb with h | h
              · exact .inl h
              · exact .inr (.inr h)⟩
          have e : Hid (r = .ok o.length a (o ++ [manyNode 7 kids])) := by
            show r = _
            rw [E0.out, if_neg hk0]
            unfold joinR
            split
            · next n => exact absurd rfl h1
            · rfl
          have hz1 : ¬ (kids.length : Int) = 1 := by omega
          have hz0 : ¬ (kids.length : Int) = 0 := by have := List.length_pos_iff.2 hk0; omega
          have cB := put_post M (manyNode 7 kids) (.slice A kids.length c) _ p s PA pc a d o F1 R3.out (by omega) rfl WR3.out (fun b hb => (HV.out b hb).2)
          simp only [manyNode] at cB
          go_wp2_with fail
          refine cB.mono ?_
          intro e3 w9 hpost
          have hpost := SPost.pre K3.out S1.out (fun b hb => (HV.out b (by simpa using hb)).1) hpost
          obtain ⟨rfl, hrest⟩ := hpost
          have H2 := Lib.hid hrest
          clear hrest cB
          go_wp2
          go_ret
          rw [e.out]
          exact ⟨rfl, H2.out⟩
        | true =>
          have hst : ¬ stopS top (pk s a) = true := by rw [HX.out]; have := HBd.out; simpa using this
          have hal2 : a < s.length := lt_of_pk (fun e => hst (by rw [e]; simp [stopS]))
          have HG2 : Hid (r = match pieceS s (innerS s n) a o with | .err c p => .err c p | .ok n' j o => GG f j o (kids ++ [n'])) := by
            show r = _
            rw [← HG.out, ← HGG.out, seqS, if_neg hst]
            cases pieceS s (innerS s n) a o <;> rfl
          have HFar := Lib.hid (pieceS_far hP n (out := o) hal2)
          have cA := satom_any n hn wc p s HI.out PA pc a d o F1 R3.out hs HD.out hal2 hP (by omega)
          have cP := spiece_any (10001 + 2 * n) (innerS s n) wc p s PA pc a d o F1 hs hal2 hP (fun kid j o' hh => by have := atomS_far hP n hal2 kid j o' hh; omega) cA _ (show Hid (_ = _) from rfl)
          have KB := K3
          have WB := WR3
          have RB := R3
          clear hst HBd cA K3 WR3 R3
          go_wp2_with fail
          refine cP.mono ?_
          intro e w5 hpost
          clear cP
          cases hA : pieceS s (innerS s n) a o with
          | err cc q =>
            rw [hA] at hpost
            obtain ⟨hcc, ⟨x, rfl⟩, j, o2, F2, hM2, r5, k5, s5⟩ := hpost
            have HRE : Hid (r = .err cc q) := by show r = _; rw [HG2.out, hA]
            have HEND : Hid (∀ wX, SRd wX p s PA pc j cc q d o2 F2 → ((∃ a f, SRd wX p s PA pc a 0 0 d o2 F2 ∧ GG f a o2 (kids ++ [x]) = r ∧ s.length < a + f ∧ a ≤ s.length ∧ (kids ++ [x]).length ≤ a + 1 ∧ o2.length + 2 * (s.length - a) ≤ CC) ∨ (∃ cc q j, r = .err cc q ∧ 1 ≤ cc ∧ SRd wX p s PA pc j cc q d o2 F2 ∧ o2.length ≤ 10001 + 2 * n ∧ kids ++ [x] ≠ [] ∧ (kids ++ [x]).length ≤ 1002))) :=
              fun wX hX => .inr ⟨cc, q, j, HRE.out, hcc, hX, by omega, by simp, by simp; omega⟩
            have HLT : Hid (∀ wX, SRd wX p s PA pc j cc q d o2 F2 → leftS s p wX < leftS s p wr) := fun wX hX => by rw [hX.left, HL.out, if_neg (by omega)]; omega
            clear HRE hA
            have hz4 := RB.out.range
            have W5 := Lib.hid (k5.row WB.out (fun b hb hm => by
              rcases List.mem_cons.1 hm with h | h
              · have := (World.ownsRow.lt WB.out b hb).1; omega
              · exact (HV.out b hb).2 h))
            have HV5 : Hid (∀ b, Value.ownBlock (.slice A kids.length c) = some b → w.heap.size ≤ b ∧ b ∉ F2) := fun b hb => ⟨(HV.out b hb).1, fun hm => by
              rcases s5 b hm with h | h | h
              · exact (HV.out b hb).2 h
              · cases h
              · have := (World.ownsRow.lt WB.out b hb).2; omega⟩
            have S5 : Hid (∀ b ∈ F2, b ∈ F ∨ w.heap.size ≤ b) := fun b hb => by
              rcases s5 b hb with h | h | h
              · exact S1.out b h
              · cases h
              · exact .inr (Nat.le_trans KB.out.size h)
            have K5 := Lib.hid (KB.out.trans k5 (fun b hb => by
              rcases List.mem_cons.1 hb with rfl | hb
              · exact .inl (by simp)
              · rcases S1.out b hb with h | h
                · exact .inl (List.mem_cons_of_mem _ h)
                · exact .inr h))
            have R5 := Lib.hid r5
            have z5 : p + 1 ≤ w5.heap.size := r5.lt
            clear r5 k5 s5 hz4
            go_wp2_with (at_builtin; refine list_append_own rfl _ _ 45 rfl (p + 1) 3 i0 (.int .i64 0) 1 8 Tryz.underlying45 hi0 hz0 hz1 hz2 rfl (by decide) (.slice A kids.length c) kids.length (kids.map (Value.int .i64)) rfl (W5.out.alloc _) ⟨w5.heap.size, 0, none⟩ 1 1 [.int .i64 x] rfl rfl (new_one_int w5 x 3) (fun u hu => by simp at hu; subst hu; rfl) (by unfold maxLen; omega) (by omega) (by rw [alloc_size1]; omega) ?_; intro v6 w6 hown6 hgrow6 hblk6; obtain ⟨A6, c6, rfl⟩ := own_form hown6)
            have H6 := Lib.hid (skid_more hp0 R5.out K5.out S5.out HV5.out hown6 hgrow6 hblk6)
            clear hown6 hgrow6 hblk6
            go_roundw
            case rel => exact ⟨kids ++ [x], o2, F2, H6.out.1, H6.out.2.1, H6.out.2.2.2, S5.out, HEND.out _ H6.out.2.2.1⟩
            case measure => exact HLT.out _ H6.out.2.2.1
          | ok x j o2 =>
            rw [hA] at hpost
            obtain ⟨rfl, F2, r5, k5, s5⟩ := hpost
            have hfar := HFar.out x j o2 hA
            have hj0 := hfar.1
            have hj1 := hfar.2.1
            have hj2 := hfar.2.2.1
            have HG3 : Hid (r = GG f j o2 (kids ++ [x])) := by show r = _; rw [HG2.out, hA]
            have HEND : Hid (∀ wX, SRd wX p s PA pc j 0 0 d o2 F2 → ((∃ a f, SRd wX p s PA pc a 0 0 d o2 F2 ∧ GG f a o2 (kids ++ [x]) = r ∧ s.length < a + f ∧ a ≤ s.length ∧ (kids ++ [x]).length ≤ a + 1 ∧ o2.length + 2 * (s.length - a) ≤ CC) ∨ (∃ cc q j, r = .err cc q ∧ 1 ≤ cc ∧ SRd wX p s PA pc j cc q d o2 F2 ∧ o2.length ≤ 10001 + 2 * n ∧ kids ++ [x] ≠ [] ∧ (kids ++ [x]).length ≤ 1002))) :=
              fun wX hX => .inl ⟨j, f, hX, HG3.out.symm, by omega, hj1, by simp; omega, by omega⟩
            have HLT : Hid (∀ wX, SRd wX p s PA pc j 0 0 d o2 F2 → leftS s p wX < leftS s p wr) := fun wX hX => by rw [hX.left, HL.out, if_pos rfl]; omega
            clear HG3 hA hfar
            have hz4 := RB.out.range
            have W5 := Lib.hid (k5.row WB.out (fun b hb hm => by
              rcases List.mem_cons.1 hm with h | h
              · have := (World.ownsRow.lt WB.out b hb).1; omega
              · exact (HV.out b hb).2 h))
            have HV5 : Hid (∀ b, Value.ownBlock (.slice A kids.length c) = some b → w.heap.size ≤ b ∧ b ∉ F2) := fun b hb => ⟨(HV.out b hb).1, fun hm => by
              rcases s5 b hm with h | h | h
              · exact (HV.out b hb).2 h
              · cases h
              · have := (World.ownsRow.lt WB.out b hb).2; omega⟩
            have S5 : Hid (∀ b ∈ F2, b ∈ F ∨ w.heap.size ≤ b) := fun b hb => by
              rcases s5 b hb with h | h | h
              · exact S1.out b h
              · cases h
              · exact .inr (Nat.le_trans KB.out.size h)
            have K5 := Lib.hid (KB.out.trans k5 (fun b hb => by
              rcases List.mem_cons.1 hb with rfl | hb
              · exact .inl (by simp)
              · rcases S1.out b hb with h | h
                · exact .inl (List.mem_cons_of_mem _ h)
                · exact .inr h))
            have R5 := Lib.hid r5
            have z5 : p + 1 ≤ w5.heap.size := r5.lt
            clear r5 k5 s5 hz4
            go_wp2_with (at_builtin; refine list_append_own rfl _ _ 45 rfl (p + 1) 3 i0 (.int .i64 0) 1 8 Tryz.underlying45 hi0 hz0 hz1 hz2 rfl (by decide) (.slice A kids.length c) kids.length (kids.map (Value.int .i64)) rfl (W5.out.alloc _) ⟨w5.heap.size, 0, none⟩ 1 1 [.int .i64 x] rfl rfl (new_one_int w5 x 3) (fun u hu => by simp at hu; subst hu; rfl) (by unfold maxLen; omega) (by omega) (by rw [alloc_size1]; omega) ?_; intro v6 w6 hown6 hgrow6 hblk6; obtain ⟨A6, c6, rfl⟩ := own_form hown6)
            have H6 := Lib.hid (skid_more hp0 R5.out K5.out S5.out HV5.out hown6 hgrow6 hblk6)
            clear hown6 hgrow6 hblk6
            go_roundw
            case rel => exact ⟨kids ++ [x], o2, F2, H6.out.1, H6.out.2.1, H6.out.2.2.2, S5.out, HEND.out _ H6.out.2.2.1⟩
            case measure => exact HLT.out _ H6.out.2.2.1
    · have HRE := Lib.hid hre
      have hccb : (cc == 0) = false := beq_eq_false_iff_ne.2 (by omega)
      obtain ⟨nv, hR, hb⟩ := hrd.rs
      obtain ⟨c0, c1, c2, c3, c4, c5⟩ := hR.cell
      have R1 := Lib.hid hrd
      clear hre hrd hR hb
      go_wp2
      go_quiet (fail)
      have K3 := Lib.hid (K1.out.drewN nq)
      have kd : Keep [] wr (wr.drewN nq) := (Keep.refl [] wr).drewN nq
      have R3 := Lib.hid (R1.out.keep0 kd)
      have WR3 := Lib.hid (kd.row WR1.out (fun b hb => by simp))
      clear kd
      by_cases h1 : kids.length = 1
      · obtain ⟨x1, rfl⟩ : ∃ x, kids = [x] := List.length_eq_one_iff.1 h1
        obtain ⟨b1, o1, rfl, hb1, hc1⟩ := Nums.own WR3.out 0 (by simp)
        simp at hc1
        go_wp2
        go_ret
        rw [HRE.out]
        exact ⟨hcc, ⟨_, rfl⟩, j, o, F1, by omega, R3.out, K3.out, fun b hb => by
          rcases S1.out b hb with h | h
          · exact .inl h
          · exact .inr (.inr h)⟩
      have hz1 : ¬ (kids.length : Int) = 1 := by omega
      have hz0 : ¬ (kids.length : Int) = 0 := by have := List.length_pos_iff.2 hkn; omega
      have cB := put_any (manyNode 7 kids) (.slice none 0 0) (.slice A kids.length c) _ p s PA pc j cc q d o F1 R3.out (by omega) (row_nilS _ _) WR3.out (fun b hb => by cases hb) (fun b hb => (HV.out b hb).2) (fun b hb => by cases hb)
      simp only [manyNode] at cB
      go_wp2_with fail
      refine cB.mono ?_
      rintro e3 w9 ⟨rfl, F9, h2, h3, h4⟩
      have H2 := Lib.hid h2
      have H3 := Lib.hid h3
      have H4 := Lib.hid h4
      clear h2 h3 h4 cB
      go_wp2
      go_ret
      rw [HRE.out]
      refine ⟨hcc, ⟨_, rfl⟩, j, _, F9, by rw [List.length_append]; simp; omega, H2.out, K3.out.trans H3.out (fun b hb => ?_), fun b hb => ?_⟩
      · rcases List.mem_cons.1 hb with rfl | hb
        · exact .inl (by simp)
        · rcases S1.out b hb with h | h
          · exact .inl (List.mem_cons_of_mem _ h)
          · exact .inr h
      · rcases H4.out b hb with h | h | h | h
        · rcases S1.out b h with h | h
          · exact .inl h
          · exact .inr (.inr h)
        · cases h
        · exact .inr (.inr (HV.out b h).1)
        · exact .inr (.inr (Nat.le_trans K3.out.size h))

end Go.Proofs.YtdkjfppjbkdelaaGreatDoor

/- The specification's reader of patterns: alternatives. Conditions: at most 1000 code points. -/
namespace Go.Proofs.YtdkjfppjbkdelaaGreatDoor
set_option linter.unusedVariables false
open Go.RowKit

theorem rowS_far {s : List Int} (hP : Pos s) (n : Nat) (top : Bool) {i : Nat} {out : List Nd} (hi : i ≤ s.length) : FarS s i out (rowS s top (innerS s n) i out) := by
  intro n' j o h
  rw [rowS_eq hP (innerD_far s n) (innerS_ag hP n) top hi] at h
  cases hp : rowR s (innerD s n) i out with
  | err c q => rw [hp] at h; cases h
  | ok n2 j2 o2 =>
    rw [hp] at h
    unfold upT at h
    simp only at h
    split at h
    · cases h
    · cases h
      exact rowR_far (innerD_far s n) hi _ _ _ hp

set_option maxHeartbeats 8000000 in
set_option maxRecDepth 100000 in
theorem salts_any (n : Nat) (hn : n ≤ 6) (w : World) (p : Nat) (s : List Int) (ih : ∀ m, n = m + 1 → SAltsC s m) (PA : Option Addr) (pc i d : Nat) (out : List Nd) (F : List Nat) (h : SRd w p s PA pc i 0 0 d out F) (hs : s.length ≤ 1000) (hd : d = 6 - n) (hi : i ≤ s.length) (hP : Pos s)
    (ho : out.length + 2 * (s.length - i) ≤ 10000) (top : Bool) (htop : top = decide (n = 6)) (r : Rd) (hr : Hid (altsS s top (innerS s n) i out = r)) (M : Nat) (hM : M = 10003 + 2 * n) :
    Calls Tryz.prog 102 #[.pointer (some ⟨p, 0, none⟩)] w (SPost M w p s PA pc d F [] r) := by
  obtain ⟨i0, hi0, hz0, hz1, hz2⟩ := info_parts Tryz.infoInt
  obtain ⟨M2, hM2⟩ : ∃ M2, 10002 + 2 * n = M2 := ⟨_, rfl⟩
  have cS := srow_any n hn w p s ih PA pc i d out F h hs hd hi hP ho top htop _ (show Hid (_ = _) from rfl) M2 hM2.symm
  have HFar0 := Lib.hid (rowS_far hP n top (out := out) hi)
  have HI := Lib.hid ih
  have HD := Lib.hid hd
  have hp0 := h.lt
  have HTOP := Lib.hid htop
  have HM2 := Lib.hid hM2
  have hM3 : M2 + 1 ≤ M := by omega
  have hM4 : 10003 ≤ M := by omega
  have hM5 : M2 ≤ 10014 := by omega
  obtain ⟨GG, hGG⟩ : ∃ GG, altS s top (innerS s n) = GG := ⟨_, rfl⟩
  have HGG := Lib.hid hGG
  obtain ⟨CC, hCC⟩ : ∃ CC, 10001 = CC := ⟨_, rfl⟩
  have hC1 : CC ≤ 10001 := by omega
  have hC2 : out.length + 2 * (s.length - i) + 1 ≤ CC := by omega
  clear ih hd h htop hGG hM ho hCC hM2
  go_enter Tryz.func102, Tryz.ntmps102
  go_wp2_with fail
  refine cS.mono ?_
  intro e w1 hpost
  clear cS
  have start : ∀ (x : Int) (o : List Nd) (F0 : List Nat) (code : Int) (bad j : Nat), SRd w1 p s PA pc j code bad d o F0 → Keep (p :: F) w w1 → (∀ b ∈ F0, b ∈ F ∨ b ∈ ([] : List Nat) ∨ w.heap.size ≤ b) →
      SRd (w1.alloc (.cells #[.int .i64 x] 3)) p s PA pc j code bad d o F0 ∧ Keep (p :: F) w (w1.alloc (.cells #[.int .i64 x] 3)) ∧ RowI (w1.alloc (.cells #[.int .i64 x] 3)) (p + 1) (.slice (some ⟨w1.heap.size, 0, none⟩) 1 1) [x] ∧
      (∀ b, Value.ownBlock (.slice (some ⟨w1.heap.size, 0, none⟩) 1 1) = some b → w.heap.size ≤ b ∧ b ∉ F0) ∧ (∀ b ∈ F0, b ∈ F ∨ w.heap.size ≤ b) := fun x o F0 code bad j h1 h2 h3 => by
    have hAl : Keep [] w1 (w1.alloc (.cells #[.int .i64 x] 3)) := (Keep.refl [] w1).alloc _
    refine ⟨h1.keep0 hAl, h2.tr hAl.nil, row_low (new_ints w1 [x] (by simp [maxLen])) (show p + 1 ≤ w1.heap.size from h1.lt), fun b hb => ?_, fun b hb => ?_⟩
    · simp [Value.ownBlock] at hb
      subst hb
      exact ⟨h2.size, fun hm => by have := (h1.range _ hm).2; omega⟩
    · rcases h3 b hb with h | h | h
      · exact .inl h
      · cases h
      · exact .inr h
  have START := Lib.hid start
  clear start
  have go : ∃ x : Int, e = .returned (.int .i64 x) ∧ Hid (SKidRel CC M2 GG s r w p PA pc d F (.slice (some ⟨w1.heap.size, 0, none⟩) 1 1) (w1.alloc (.cells #[.int .i64 x] 3))) := by
    cases hA : rowS s top (innerS s n) i out with
    | err cc q =>
      rw [hA] at hpost
      obtain ⟨hcc, ⟨x, rfl⟩, j, o, F0, hM0, r1, k1, s1⟩ := hpost
      have e0 : r = .err cc q := by rw [← hr.out]; unfold altsS; rw [hA]
      obtain ⟨t1, t2, t3, t4, t5⟩ := START.out x o F0 cc q j r1 k1 s1
      exact ⟨x, rfl, [x], o, F0, t3, t4, t2, t5, .inr ⟨cc, q, j, e0, hcc, t1, hM0, by simp, by simp⟩⟩
    | ok x j o =>
      rw [hA] at hpost
      obtain ⟨rfl, F0, r1, k1, s1⟩ := hpost
      have hfar := HFar0.out x j o hA
      have e0 : GG (s.length + 1) j o [x] = r := by rw [← HGG.out, ← hr.out]; unfold altsS; rw [hA]
      obtain ⟨t1, t2, t3, t4, t5⟩ := START.out x o F0 0 0 j r1 k1 s1
      exact ⟨x, rfl, [x], o, F0, t3, t4, t2, t5, .inl ⟨j, s.length + 1, t1, e0, by omega, hfar.2.1, by simp, by omega⟩⟩
  obtain ⟨x0, rfl, H0⟩ := go
  clear hpost START HFar0 hr
  go_wp2
  go_loopw [3] (SKidRel CC M2 GG s r w p PA pc d F) (fun _ wr => leftS s p wr)
  case atStart => exact H0.out
  case round =>
    obtain ⟨kids, o, F1, hrow, hv, hk, hF, hst⟩ := hrel
    obtain ⟨A, c, rfl⟩ := own_form hrow
    have HV := Lib.hid hv
    have S1 := Lib.hid hF
    have K1 := Lib.hid hk
    have WR1 := Lib.hid hrow
    clear hrow hv hk hF H0
    rcases hst with ⟨a, f, hrd, hG, hf, hal, hkl, hol⟩ | ⟨cc, q, j, hre, hcc, hrd, hoM, hkn, hkl⟩
    · obtain ⟨f, rfl⟩ : ∃ g, f = g + 1 := ⟨f - 1, by omega⟩
      have HL : Hid (leftS s p wr = s.length + 2 - a) := by show leftS s p wr = _; rw [hrd.left, if_pos rfl]
      have HG := Lib.hid hG
      have R1 := Lib.hid hrd
      obtain ⟨nv, hR, hb⟩ := hrd.rs
      have RS := Lib.hid hR
      have HB := Lib.hid hb
      obtain ⟨c0, c1, c2, c3, c4, c5⟩ := hR.cell
      obtain ⟨x, hx⟩ : ∃ x, pk s a = x := ⟨_, rfl⟩
      have HX := Lib.hid hx
      clear hrd hG hR hb hx
      go_wp2_with fail
      refine (peek_any wr p s PA pc a 0 0 d nv RS.out hs (by omega)).mono ?_
      rintro e w3 ⟨rfl, k3, r3⟩
      rw [HX.out]
      have K3 := Lib.hid (K1.out.tr k3.nil)
      have R3 := Lib.hid (R1.out.keep0 k3)
      have WR3 := Lib.hid (k3.row WR1.out (fun b hb => by simp))
      have RS3 := Lib.hid r3
      have HB3 : Hid (∀ w' i' code' bad' d', Ss w' p s PA pc i' code' bad' d' nv → Keep [p] w3 w' → SRd w' p s PA pc i' code' bad' d' o F1) := fun w' i' code' bad' d' q1 q2 => HB.out w' i' code' bad' d' q1 (k3.nil.tr q2)
      clear k3 r3 c0 c1 c2 c3 c4 c5 RS R1 WR1 K1 HB
      by_cases h124 : x = 124
      · have hxb : (x == 124) = true := by simp [h124]
        have hal2 : a < s.length := lt_of_pk (by rw [HX.out, h124]; decide)
        obtain ⟨c0, c1, c2, c3, c4, c5⟩ := RS3.out.cell
        have f1 := RS3.out.frozen 1
        obtain ⟨m, hm⟩ : ∃ m, a + 1 = m := ⟨_, rfl⟩
        have hzm : (a : Int) + 1 = (m : Int) := by omega
        have kS := RS3.out.keepSet 1 (.int .i64 (m : Int))
        have RB := Lib.hid (HB3.out _ _ _ _ _ (RS3.out.set1 m) kS)
        have KB := Lib.hid (K3.out.tr (kp kS))
        have WB := Lib.hid (kS.row WR3.out (fun b hb => by have := (World.ownsRow.lt WR3.out b hb).1; simp; omega))
        have HG2 : Hid (r = match rowS s top (innerS s n) m o with | .err c p => .err c p | .ok n' j o => GG f j o (kids ++ [n'])) := by
          show r = _
          rw [← HG.out, ← HGG.out, altS, if_pos (by rw [HX.out]; exact h124), ← hm]
          cases rowS s top (innerS s n) (a + 1) o <;> rfl
        have HFar := Lib.hid (rowS_far hP n top (out := o) (show m ≤ s.length by omega))
        have cP := srow_any n hn _ p s HI.out PA pc m d o F1 RB.out hs HD.out (by omega) hP (by omega) top HTOP.out _ (show Hid (_ = _) from rfl) M2 HM2.out.symm
        have hma : m = a + 1 := hm.symm
        have HMA := Lib.hid hma
        have hma1 : a < m := by omega
        have hma2 : m ≤ a + 1 := by omega
        clear hm kS K3 WR3 R3 RS3 HB3 hma
        go_wp2_with fail
        refine cP.mono ?_
        intro e w5 hpost
        clear cP c0 c1 c2 c3 c4 c5 f1
        cases hA : rowS s top (innerS s n) m o with
        | err cc q =>
          rw [hA] at hpost
          obtain ⟨hcc, ⟨x, rfl⟩, j, o2, F2, hM2, r5, k5, s5⟩ := hpost
          have HRE : Hid (r = .err cc q) := by show r = _; rw [HG2.out, hA]
          have HEND : Hid (∀ wX, SRd wX p s PA pc j cc q d o2 F2 → ((∃ a f, SRd wX p s PA pc a 0 0 d o2 F2 ∧ GG f a o2 (kids ++ [x]) = r ∧ s.length < a + f ∧ a ≤ s.length ∧ (kids ++ [x]).length ≤ a + 1 ∧ o2.length + 2 * (s.length - a) ≤ CC) ∨ (∃ cc q j, r = .err cc q ∧ 1 ≤ cc ∧ SRd wX p s PA pc j cc q d o2 F2 ∧ o2.length ≤ M2 ∧ kids ++ [x] ≠ [] ∧ (kids ++ [x]).length ≤ 1002))) :=
            fun wX hX => .inr ⟨cc, q, j, HRE.out, hcc, hX, by omega, by simp, by simp; omega⟩
          have HLT : Hid (∀ wX, SRd wX p s PA pc j cc q d o2 F2 → leftS s p wX < leftS s p wr) := fun wX hX => by rw [hX.left, HL.out, if_neg (by omega)]; omega
          clear HRE hA
          have hz4 := RB.out.range
          have W5 := Lib.hid (k5.row WB.out (fun b hb hm => by
            rcases List.mem_cons.1 hm with h | h
            · have := (World.ownsRow.lt WB.out b hb).1; omega
            · exact (HV.out b hb).2 h))
          have HV5 : Hid (∀ b, Value.ownBlock (.slice A kids.length c) = some b → w.heap.size ≤ b ∧ b ∉ F2) := fun b hb => ⟨(HV.out b hb).1, fun hm => by
            rcases s5 b hm with h | h | h
            · exact (HV.out b hb).2 h
            · cases h
            · have := (World.ownsRow.lt WB.out b hb).2; omega⟩
          have S5 : Hid (∀ b ∈ F2, b ∈ F ∨ w.heap.size ≤ b) := fun b hb => by
            rcases s5 b hb with h | h | h
            · exact S1.out b h
            · cases h
            · exact .inr (Nat.le_trans KB.out.size h)
          have K5 := Lib.hid (KB.out.trans k5 (fun b hb => by
            rcases List.mem_cons.1 hb with rfl | hb
            · exact .inl (by simp)
            · rcases S1.out b hb with h | h
              · exact .inl (List.mem_cons_of_mem _ h)
              · exact .inr h))
          have R5 := Lib.hid r5
          have z5 : p + 1 ≤ w5.heap.size := r5.lt
          clear r5 k5 s5 hz4
          go_wp2_with (at_builtin; refine list_append_own rfl _ _ 45 rfl (p + 1) 3 i0 (.int .i64 0) 1 8 Tryz.underlying45 hi0 hz0 hz1 hz2 rfl (by decide) (.slice A kids.length c) kids.length (kids.map (Value.int .i64)) rfl (W5.out.alloc _) ⟨w5.heap.size, 0, none⟩ 1 1 [.int .i64 x] rfl rfl (new_one_int w5 x 3) (fun u hu => by simp at hu; subst hu; rfl) (by unfold maxLen; omega) (by omega) (by rw [alloc_size1]; omega) ?_; intro v6 w6 hown6 hgrow6 hblk6; obtain ⟨A6, c6, rfl⟩ := own_form hown6)
          have H6 := Lib.hid (skid_more hp0 R5.out K5.out S5.out HV5.out hown6 hgrow6 hblk6)
          clear hown6 hgrow6 hblk6
          go_roundw
          case rel => exact ⟨kids ++ [x], o2, F2, H6.out.1, H6.out.2.1, H6.out.2.2.2, S5.out, HEND.out _ H6.out.2.2.1⟩
          case measure => exact HLT.out _ H6.out.2.2.1
        | ok x j o2 =>
          rw [hA] at hpost
          obtain ⟨rfl, F2, r5, k5, s5⟩ := hpost
          have hfar := HFar.out x j o2 hA
          have hj0 := hfar.1
          have hj1 := hfar.2.1
          have hj2 := hfar.2.2.1
          have HG3 : Hid (r = GG f j o2 (kids ++ [x])) := by show r = _; rw [HG2.out, hA]
          have HEND : Hid (∀ wX, SRd wX p s PA pc j 0 0 d o2 F2 → ((∃ a f, SRd wX p s PA pc a 0 0 d o2 F2 ∧ GG f a o2 (kids ++ [x]) = r ∧ s.length < a + f ∧ a ≤ s.length ∧ (kids ++ [x]).length ≤ a + 1 ∧ o2.length + 2 * (s.length - a) ≤ CC) ∨ (∃ cc q j, r = .err cc q ∧ 1 ≤ cc ∧ SRd wX p s PA pc j cc q d o2 F2 ∧ o2.length ≤ M2 ∧ kids ++ [x] ≠ [] ∧ (kids ++ [x]).length ≤ 1002))) :=
            fun wX hX => .inl ⟨j, f, hX, HG3.out.symm, by omega, hj1, by simp; omega, by omega⟩
          have HLT : Hid (∀ wX, SRd wX p s PA pc j 0 0 d o2 F2 → leftS s p wX < leftS s p wr) := fun wX hX => by rw [hX.left, HL.out, if_pos rfl]; omega
          clear HG3 hA hfar
          have hz4 := RB.out.range
          have W5 := Lib.hid (k5.row WB.out (fun b hb hm => by
            rcases List.mem_cons.1 hm with h | h
            · have := (World.ownsRow.lt WB.out b hb).1; omega
            · exact (HV.out b hb).2 h))
          have HV5 : Hid (∀ b, Value.ownBlock (.slice A kids.length c) = some b → w.heap.size ≤ b ∧ b ∉ F2) := fun b hb => ⟨(HV.out b hb).1, fun hm => by
            rcases s5 b hm with h | h | h
            · exact (HV.out b hb).2 h
            · cases h
            · have := (World.ownsRow.lt WB.out b hb).2; omega⟩
          have S5 : Hid (∀ b ∈ F2, b ∈ F ∨ w.heap.size ≤ b) := fun b hb => by
            rcases s5 b hb with h | h | h
            · exact S1.out b h
            · cases h
            · exact .inr (Nat.le_trans KB.out.size h)
          have K5 := Lib.hid (KB.out.trans k5 (fun b hb => by
            rcases List.mem_cons.1 hb with rfl | hb
            · exact .inl (by simp)
            · rcases S1.out b hb with h | h
              · exact .inl (List.mem_cons_of_mem _ h)
              · exact .inr h))
          have R5 := Lib.hid r5
          have z5 : p + 1 ≤ w5.heap.size := r5.lt
          clear r5 k5 s5 hz4
          go_wp2_with (at_builtin; refine list_append_own rfl _ _ 45 rfl (p + 1) 3 i0 (.int .i64 0) 1 8 Tryz.underlying45 hi0 hz0 hz1 hz2 rfl (by decide) (.slice A kids.length c) kids.length (kids.map (Value.int .i64)) rfl (W5.out.alloc _) ⟨w5.heap.size, 0, none⟩ 1 1 [.int .i64 x] rfl rfl (new_one_int w5 x 3) (fun u hu => by simp at hu; subst hu; rfl) (by unfold maxLen; omega) (by omega) (by rw [alloc_size1]; omega) ?_; intro v6 w6 hown6 hgrow6 hblk6; obtain ⟨A6, c6, rfl⟩ := own_form hown6)
          have H6 := Lib.hid (skid_more hp0 R5.out K5.out S5.out HV5.out hown6 hgrow6 hblk6)
          clear hown6 hgrow6 hblk6
          go_roundw
          case rel => exact ⟨kids ++ [x], o2, F2, H6.out.1, H6.out.2.1, H6.out.2.2.2, S5.out, HEND.out _ H6.out.2.2.1⟩
          case measure => exact HLT.out _ H6.out.2.2.1
      · have hxb : (x == 124) = false := beq_eq_false_iff_ne.2 h124
        have E0 : Hid (r = joinR 8 kids a o) := by show r = _; rw [← HG.out, ← HGG.out, altS, if_neg (by rw [HX.out]; exact h124)]
        clear HB3 RS3
        by_cases h1 : kids.length = 1
        · obtain ⟨x1, rfl⟩ : ∃ x, kids = [x] := List.length_eq_one_iff.1 h1
          have e : Hid (r = .ok x1 a o) := by show r = _; rw [E0.out]; rfl
          obtain ⟨b1, o1, rfl, hb1, hc1⟩ := Nums.own WR3.out 0 (by simp)
          simp at hc1
          go_wp2
          go_ret
          rw [e.out]
          exact ⟨rfl, F1, R3.out, K3.out, fun b hb => by
            rcases S1.out b hb with h | h
            · exact .inl h
            · exact .inr (.inr h)⟩
        have e : Hid (r = .ok o.length a (o ++ [manyNode 8 kids])) := by
          show r = _
          rw [E0.out]
          unfold joinR
          split
          · next n => exact absurd rfl h1
          · rfl
        have hz1 : ¬ (kids.length : Int) = 1 := by omega
        have cB := put_post M (manyNode 8 kids) (.slice A kids.length c) _ p s PA pc a d o F1 R3.out (by omega) rfl WR3.out (fun b hb => (HV.out b hb).2)
        simp only [manyNode] at cB
        go_wp2_with fail
        refine cB.mono ?_
        intro e3 w9 hpost
        have hpost := SPost.pre K3.out S1.out (fun b hb => (HV.out b (by simpa using hb)).1) hpost
        obtain ⟨rfl, hrest⟩ := hpost
        have H2 := Lib.hid hrest
        clear hrest cB
        go_wp2
        go_ret
        rw [e.out]
        exact ⟨rfl, H2.out⟩
    · have HRE := Lib.hid hre
      have hccb : (cc == 0) = false := beq_eq_false_iff_ne.2 (by omega)
      have hccn : ¬ cc = 0 := by omega
      obtain ⟨nv, hR, hb⟩ := hrd.rs
      obtain ⟨c0, c1, c2, c3, c4, c5⟩ := hR.cell
      have R3 := Lib.hid hrd
      have K3 := K1
      have WR3 := WR1
      clear hre hrd hR hb
      by_cases h1 : kids.length = 1
      · obtain ⟨x1, rfl⟩ : ∃ x, kids = [x] := List.length_eq_one_iff.1 h1
        obtain ⟨b1, o1, rfl, hb1, hc1⟩ := Nums.own WR3.out 0 (by simp)
        simp at hc1
        go_wp2
        go_ret
        rw [HRE.out]
        exact ⟨hcc, ⟨_, rfl⟩, j, o, F1, by omega, R3.out, K3.out, fun b hb => by
          rcases S1.out b hb with h | h
          · exact .inl h
          · exact .inr (.inr h)⟩
      have hz1 : ¬ (kids.length : Int) = 1 := by omega
      have hz0 : ¬ (kids.length : Int) = 0 := by have := List.length_pos_iff.2 hkn; omega
      have cB := put_any (manyNode 8 kids) (.slice none 0 0) (.slice A kids.length c) _ p s PA pc j cc q d o F1 R3.out (by omega) (row_nilS _ _) WR3.out (fun b hb => by cases hb) (fun b hb => (HV.out b hb).2) (fun b hb => by cases hb)
      simp only [manyNode] at cB
      go_wp2_with fail
      refine cB.mono ?_
      rintro e3 w9 ⟨rfl, F9, h2, h3, h4⟩
      have H2 := Lib.hid h2
      have H3 := Lib.hid h3
      have H4 := Lib.hid h4
      clear h2 h3 h4 cB
      go_wp2
      go_ret
      rw [HRE.out]
      refine ⟨hcc, ⟨_, rfl⟩, j, _, F9, by rw [List.length_append]; simp; omega, H2.out, K3.out.trans H3.out (fun b hb => ?_), fun b hb => ?_⟩
      · rcases List.mem_cons.1 hb with rfl | hb
        · exact .inl (by simp)
        · rcases S1.out b hb with h | h
          · exact .inl (List.mem_cons_of_mem _ h)
          · exact .inr h
      · rcases H4.out b hb with h | h | h | h
        · rcases S1.out b h with h | h
          · exact .inl h
          · exact .inr (.inr h)
        · cases h
        · exact .inr (.inr (HV.out b h).1)
        · exact .inr (.inr (Nat.le_trans K3.out.size h))

theorem salts_all (s : List Int) (hs : s.length ≤ 1000) (hP : Pos s) : ∀ n, n ≤ 6 → SAltsC s n := by
  intro n
  induction n with
  | zero => intro hn w p PA pc i out F h hi ho; exact salts_any 0 hn w p s (fun m hm => by omega) PA pc i _ out F h hs rfl hi hP ho _ rfl _ rfl _ rfl
  | succ n ih =>
    intro hn w p PA pc i out F h hi ho
    exact salts_any (n + 1) hn w p s (fun m hm => by
      have e : n = m := by omega
      subst e
      exact ih (by omega)) PA pc i _ out F h hs rfl hi hP ho _ rfl _ rfl _ rfl

end Go.Proofs.YtdkjfppjbkdelaaGreatDoor
