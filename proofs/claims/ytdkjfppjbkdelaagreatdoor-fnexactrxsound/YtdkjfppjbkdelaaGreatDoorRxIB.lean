/- The program's reader of patterns: group, atom, piece. Conditions: at most 1000 code points. -/
import Derived.Test.YtdkjfppjbkdelaaGreatDoorRxIC
import Derived.Test.YtdkjfppjbkdelaaGreatDoorRxIA
namespace Go.Proofs.YtdkjfppjbkdelaaGreatDoor
set_option linter.unusedVariables false
open Go.RowKit

theorem Post.pre {w w1 : World} {p : Nat} {s : List Int} {PA : Option Addr} {pc d : Nat} {F F1 X X' : List Nat} {r : Rd} {e : Ending} {w' : World} (hk : Keep (p :: F) w w1) (hF : ∀ b ∈ F1, b ∈ F ∨ w.heap.size ≤ b) (hX : ∀ b ∈ X, b ∈ F ∨ b ∈ X' ∨ w.heap.size ≤ b) (h : Post w1 p s PA pc d F1 X r e w') : Post w p s PA pc d F X' r e w' := by
  have hG : ∀ b ∈ p :: F1, b ∈ p :: F ∨ w.heap.size ≤ b := fun b hb => by
    rcases List.mem_cons.1 hb with rfl | hb
    · exact .inl (by simp)
    · rcases hF b hb with h | h
      · exact .inl (List.mem_cons_of_mem _ h)
      · exact .inr h
  cases r with
  | err c q => exact ⟨h.1, hk.trans h.2 hG⟩
  | ok n j o =>
    obtain ⟨h1, F', h2, h3, h4⟩ := h
    refine ⟨h1, F', h2, hk.trans h3 hG, fun b hb => ?_⟩
    rcases h4 b hb with h | h | h
    · rcases hF b h with h | h
      · exact .inl h
      · exact .inr (.inr h)
    · exact hX b h
    · exact .inr (.inr (Nat.le_trans hk.size h))

section
variable {w : World} {p : Nat} {s : List Int} {PA : Option Addr} {pc i d : Nat} {out : List Nd} {F : List Nat}
theorem rd_ahead0 (h : Rdr w p s PA pc i d out F) (hs : s.length ≤ 1000) (hi : i ≤ 1005) :
    Calls Tryz.prog 140 #[.pointer (some ⟨p, 0, none⟩), .int .i64 0] w fun e w' => e = .returned (.int .i64 (pk s i)) ∧ Keep [] w w' ∧ Rdr w' p s PA pc i d out F := by
  obtain ⟨nv, hR, hb⟩ := h.rs
  exact (ahead0 w p s PA pc i d nv hR hs hi).mono fun e w' ⟨h1, h2, h3⟩ => ⟨h1, h2, h.keep0 h2⟩
theorem rd_take_yes (c : Int) (h : Rdr w p s PA pc i d out F) (hs : s.length ≤ 1000) (hi : i ≤ 1005) (hc : pk s i = c) :
    Calls Tryz.prog 171 #[.pointer (some ⟨p, 0, none⟩), .int .i64 c] w fun e w' => e = .returned (.bool true) ∧ Keep [p] w w' ∧ Rdr w' p s PA pc (i + 1) d out F := by
  obtain ⟨nv, hR, hb⟩ := h.rs
  exact (take_yes c w p s PA pc i d nv hR hs hi hc).mono fun e w' ⟨h1, h2, h3⟩ => ⟨h1, h2, hb _ _ _ h3 h2⟩
theorem rd_take_no (c : Int) (h : Rdr w p s PA pc i d out F) (hs : s.length ≤ 1000) (hi : i ≤ 1005) (hc : pk s i ≠ c) :
    Calls Tryz.prog 171 #[.pointer (some ⟨p, 0, none⟩), .int .i64 c] w fun e w' => e = .returned (.bool false) ∧ Keep [] w w' ∧ Rdr w' p s PA pc i d out F := by
  obtain ⟨nv, hR, hb⟩ := h.rs
  exact (take_no c w p s PA pc i d nv hR hs hi hc).mono fun e w' ⟨h1, h2, h3⟩ => ⟨h1, h2, h.keep0 h2⟩
end

/-- What is asked of alternatives inside of which n more groups may be nested. -/
def AltsC (s : List Int) (n : Nat) : Prop := ∀ (w : World) (p : Nat) (PA : Option Addr) (pc i : Nat) (out : List Nd) (F : List Nat), Rdr w p s PA pc i (6 - n) out F → i ≤ s.length → out.length + 2 * (s.length - i) ≤ 10000 →
  Calls Tryz.prog 139 #[.pointer (some ⟨p, 0, none⟩)] w (Post w p s PA pc (6 - n) F [] (altsD s n i out))

theorem kp {G : List Nat} {w w1 : World} {p : Nat} (h : Keep [p] w w1) : Keep (p :: G) w w1 := h.mono fun b hb => by simp at hb; simp [hb]

set_option maxHeartbeats 4000000 in
set_option maxRecDepth 100000 in
theorem group_any (n : Nat) (hn : n ≤ 6) (w : World) (p : Nat) (s : List Int) (ih : ∀ m, n = m + 1 → AltsC s m) (PA : Option Addr) (pc i d : Nat) (out : List Nd) (F : List Nat) (h : Rdr w p s PA pc i d out F) (hs : s.length ≤ 1000) (hd : d = 6 - n) (hi : i < s.length) (hP : Pos s) (ho : out.length + 2 * (s.length - i) ≤ 10000) (r : Rd) (hr : Hid (groupR s (innerD s n) i out = r)) :
    Calls Tryz.prog 209 #[.pointer (some ⟨p, 0, none⟩)] w (Post w p s PA pc d F [] r) := by
  obtain ⟨nv, hR, hback⟩ := h.rs
  obtain ⟨c0, c1, c2, c3⟩ := hR.cell
  cases n with
  | zero =>
    have hd6 : d = 6 := by omega
    clear hd
    subst hd6
    have e : Hid (r = .err 3 i) := by show r = _; rw [← hr.out]; rfl
    clear hR hback h ih
    go_enter Tryz.func209, Tryz.ntmps209
    go_wp2
    exact ⟨rfl, by rw [e.out]; exact ⟨rfl, Keep.refl _ _⟩⟩
  | succ n =>
    have hdz : ¬ (d : Int) = 6 := by omega
    have f1 := hR.frozen 1
    have f2 := hR.frozen 2
    have R1 := hR.set2 (d + 1)
    have R2 := R1.set1 (i + 1)
    have K1 := hR.keepSet 2 (.int .i64 ((d + 1 : Nat) : Int))
    have K2 := Lib.hid (K1.tr (R1.keepSet 1 (.int .i64 ((i + 1 : Nat) : Int))))
    have RD2 := Lib.hid (hback _ _ _ R2 K2.out)
    have hzd : (d : Int) + 1 = ((d + 1 : Nat) : Int) := by omega
    have hzi : (i : Int) + 1 = ((i + 1 : Nat) : Int) := by omega
    obtain ⟨m, hm⟩ : ∃ m, i + 1 = m := ⟨_, rfl⟩
    obtain ⟨d1, hd1⟩ : ∃ d1, d + 1 = d1 := ⟨_, rfl⟩
    rw [hm] at hzi K2 RD2
    rw [hd1] at hzd K2 RD2
    have hd2 : d1 = 6 - n := by omega
    have hd7 : d1 ≤ 7 := by omega
    have hd8 : d ≤ 7 := by omega
    have hml : m ≤ s.length := by omega
    have cA := ih n rfl _ p PA pc m out F (by rw [← hd2]; exact RD2.out) hml (by omega)
    rw [← hd2] at cA
    have hfar := innerD_far s (n + 1) (altsD s n) rfl m out hml
    have HFar := Lib.hid hfar
    have HM := Lib.hid hm
    have HD1 := Lib.hid hd1
    have HG : Hid (groupR s (innerD s (n + 1)) i out = match altsD s n m out with | .err c p => .err c p | .ok n j o => if pk s j = 41 then .ok n (j + 1) o else .err 2 j) := by
      show groupR s (innerD s (n + 1)) i out = _
      unfold groupR
      rw [← HM.out]
      rfl
    clear hR hback ih R1 R2 K1 hm hd1 hfar hd hd2
    go_enter Tryz.func209, Tryz.ntmps209
    go_wp2_with fail
    refine cA.mono ?_
    intro e w2 hpost
    clear cA c0 c1 c2 c3 f1 f2
    cases hA : altsD s n m out with
    | err cc q =>
      rw [hA] at hpost
      obtain ⟨rfl, k⟩ := hpost
      have e : Hid (r = .err cc q) := by show r = _; rw [← hr.out, HG.out, hA]
      have K3 := Lib.hid ((kp K2.out).tr k)
      clear k hA HG
      go_wp2
      exact ⟨rfl, by rw [e.out]; exact ⟨rfl, K3.out⟩⟩
    | ok x j o =>
      rw [hA] at hpost
      obtain ⟨rfl, F2, r2, k2, s2⟩ := hpost
      have hfar := HFar.out x j o hA
      have hjl := hfar.2.1
      have K3 := Lib.hid ((kp K2.out).tr k2)
      have R3 := Lib.hid r2
      have S3 : Hid (∀ b ∈ F2, b ∈ F ∨ w.heap.size ≤ b) := fun b hb => by
        rcases s2 b hb with h | h | h
        · exact .inl h
        · cases h
        · exact .inr (Nat.le_trans K2.out.size h)
      have e0 : Hid (r = if pk s j = 41 then .ok x (j + 1) o else .err 2 j) := by show r = _; rw [← hr.out, HG.out, hA]
      clear k2 r2 s2 hA HG hfar
      by_cases h41 : pk s j = 41
      · have e1 : Hid (r = .ok x (j + 1) o) := by show r = _; rw [e0.out, if_pos h41]
        go_wp2_with fail
        refine (rd_take_yes 41 R3.out hs (by omega) h41).mono ?_
        rintro e w3 ⟨rfl, k4, r4⟩
        obtain ⟨nv4, hR4, hb4⟩ := r4.rs
        obtain ⟨c0, c1, c2, c3⟩ := hR4.cell
        have f2 := hR4.frozen 2
        have K4 := Lib.hid ((K3.out.tr (kp k4)).tr (kp (hR4.keepSet 2 (.int .i64 (d : Int)))))
        have R5 := Lib.hid (hb4 _ _ _ (hR4.set2 d) (hR4.keepSet 2 (.int .i64 (d : Int))))
        have hzd2 : (d1 : Int) - 1 = (d : Int) := by have := HD1.out; omega
        clear k4 r4 hR4 hb4 e0 h41
        go_wp2
        go_ret
        rw [e1.out]
        refine ⟨rfl, F2, R5.out, K4.out, fun b hb => ?_⟩
        rcases S3.out b hb with h | h
        · exact .inl h
        · exact .inr (.inr h)
      · have e1 : Hid (r = .err 2 j) := by show r = _; rw [e0.out, if_neg h41]
        go_wp2_with fail
        refine (rd_take_no 41 R3.out hs (by omega) h41).mono ?_
        rintro e w3 ⟨rfl, k4, r4⟩
        obtain ⟨nv4, hR4, hb4⟩ := r4.rs
        obtain ⟨c0, c1, c2, c3⟩ := hR4.cell
        have K4 := Lib.hid (K3.out.tr k4.nil)
        clear k4 r4 hR4 hb4 e0 h41
        go_wp2
        exact ⟨rfl, by rw [e1.out]; exact ⟨rfl, K4.out⟩⟩

end Go.Proofs.YtdkjfppjbkdelaaGreatDoor

/- The program's reader of patterns: atom, piece. Conditions: at most 1000 code points. -/
namespace Go.Proofs.YtdkjfppjbkdelaaGreatDoor
set_option linter.unusedVariables false
open Go.RowKit

section
variable {s : List Int} {inner : Option (Nat → List Nd → Rd)} {i : Nat} {out : List Nd} {x : Int}
theorem at_rep (h : pk s i = x) (hx : isRep x = true) : atomR s inner i out = .err 5 i := by unfold atomR; rw [h, if_pos hx]
theorem at_group (h : pk s i = 40) : atomR s inner i out = groupR s inner i out := by unfold atomR; rw [h]; simp [isRep]
theorem at_br (h : pk s i = 91) : atomR s inner i out = bracketR s i out := by unfold atomR; rw [h]; simp [isRep]
theorem at_any (h : pk s i = 46) : atomR s inner i out = .ok out.length (i + 1) (out ++ [plainNode 3]) := by unfold atomR; rw [h]; simp [isRep]
theorem at_beg (h : pk s i = 94) : atomR s inner i out = .ok out.length (i + 1) (out ++ [plainNode 5]) := by unfold atomR; rw [h]; simp [isRep]
theorem at_end (h : pk s i = 36) : atomR s inner i out = .ok out.length (i + 1) (out ++ [plainNode 6]) := by unfold atomR; rw [h]; simp [isRep]
theorem at_point (h : pk s i = x) (h0 : isRep x = false) (h1 : ¬ x = 40) (h2 : ¬ x = 91) (h3 : ¬ x = 46) (h4 : ¬ x = 94) (h5 : ¬ x = 36) : atomR s inner i out = match pointR s i with | none => .err 6 i | some (c, j) => .ok out.length j (out ++ [charNode c]) := by
  unfold atomR
  rw [h, if_neg (by rw [h0]; simp), if_neg h1, if_neg h2, if_neg h3, if_neg h4, if_neg h5]
  cases pointR s i <;> rfl
end

set_option maxHeartbeats 4000000 in
set_option maxRecDepth 100000 in
theorem atom_any (n : Nat) (hn : n ≤ 6) (w : World) (p : Nat) (s : List Int) (ih : ∀ m, n = m + 1 → AltsC s m) (PA : Option Addr) (pc i d : Nat) (out : List Nd) (F : List Nat) (h : Rdr w p s PA pc i d out F) (hs : s.length ≤ 1000) (hd : d = 6 - n) (hi : i < s.length) (hP : Pos s) (ho : out.length + 2 * (s.length - i) ≤ 10000) (r : Rd) (hr : Hid (atomR s (innerD s n) i out = r)) :
    Calls Tryz.prog 200 #[.pointer (some ⟨p, 0, none⟩)] w (Post w p s PA pc d F [] r) := by
  obtain ⟨x, hx⟩ : ∃ x, pk s i = x := ⟨_, rfl⟩
  have HX := Lib.hid hx
  have HI := Lib.hid ih
  have HD := Lib.hid hd
  have HH := Lib.hid h
  have cA := rd_ahead0 h hs (by omega)
  rw [hx] at cA
  clear hx ih hd h
  go_enter Tryz.func200, Tryz.ntmps200
  go_wp2_with fail
  refine cA.mono ?_
  rintro e w1 ⟨rfl, k1, r1⟩
  have K1 := Lib.hid (k1.nil (G := p :: F))
  have R1 := Lib.hid r1
  obtain ⟨nv, hR, hb⟩ := r1.rs
  obtain ⟨c0, c1, c2, c3⟩ := hR.cell
  clear k1 r1 cA hR hb
  by_cases h42 : x = 42
  · subst h42
    have e : Hid (r = .err 5 i) := by show r = _; rw [← hr.out]; exact at_rep HX.out (by decide)
    go_wp2
    exact ⟨rfl, by rw [e.out]; exact ⟨rfl, K1.out⟩⟩
  by_cases h43 : x = 43
  · subst h43
    have e : Hid (r = .err 5 i) := by show r = _; rw [← hr.out]; exact at_rep HX.out (by decide)
    go_wp2
    exact ⟨rfl, by rw [e.out]; exact ⟨rfl, K1.out⟩⟩
  by_cases h63 : x = 63
  · subst h63
    have e : Hid (r = .err 5 i) := by show r = _; rw [← hr.out]; exact at_rep HX.out (by decide)
    go_wp2
    exact ⟨rfl, by rw [e.out]; exact ⟨rfl, K1.out⟩⟩
  by_cases h123 : x = 123
  · subst h123
    have e : Hid (r = .err 5 i) := by show r = _; rw [← hr.out]; exact at_rep HX.out (by decide)
    go_wp2
    exact ⟨rfl, by rw [e.out]; exact ⟨rfl, K1.out⟩⟩
  have HREP : Hid (isRep x = false) := by show isRep x = false; simp [isRep, h42, h43, h63, h123]
  by_cases h40 : x = 40
  · subst h40
    have cG := group_any n hn w1 p s HI.out PA pc i d out F R1.out hs HD.out hi hP ho r (by show groupR _ _ _ _ = r; rw [← hr.out]; exact (at_group HX.out).symm)
    clear c0 c1 c2 c3
    go_wp2_with fail
    refine cG.mono ?_
    intro e w2 hpost
    have hpost := Post.pre K1.out (fun b hb => .inl hb) (X' := []) (fun b hb => by cases hb) hpost
    clear cG
    cases r with
    | err cc q =>
      obtain ⟨rfl, k⟩ := hpost
      have K2 := Lib.hid k
      clear k
      go_wp2
      exact ⟨rfl, rfl, K2.out⟩
    | ok x j o =>
      obtain ⟨rfl, F2, hrest⟩ := hpost
      have H2 := Lib.hid hrest
      clear hrest
      go_wp2
      go_ret
      exact ⟨rfl, F2, H2.out⟩
  by_cases h91 : x = 91
  · subst h91
    have cG := bracket_any w1 p s PA pc i d out F R1.out hs (by omega) hi hP
    have e0 : Hid (bracketR s i out = r) := by show _ = r; rw [← hr.out]; exact (at_br HX.out).symm
    rw [e0.out] at cG
    clear c0 c1 c2 c3
    go_wp2_with fail
    refine cG.mono ?_
    intro e w2 hpost
    have hpost := Post.pre K1.out (fun b hb => .inl hb) (X' := []) (fun b hb => by cases hb) hpost
    clear cG
    cases r with
    | err cc q =>
      obtain ⟨rfl, k⟩ := hpost
      have K2 := Lib.hid k
      clear k
      go_wp2
      exact ⟨rfl, rfl, K2.out⟩
    | ok x j o =>
      obtain ⟨rfl, F2, hrest⟩ := hpost
      have H2 := Lib.hid hrest
      clear hrest
      go_wp2
      go_ret
      exact ⟨rfl, F2, H2.out⟩
  by_cases h46 : x = 46
  · subst h46
    have e : Hid (r = .ok out.length (i + 1) (out ++ [plainNode 3])) := by show r = _; rw [← hr.out]; exact at_any HX.out
    have cG := symbol_any 3 w1 p s PA pc i d out F R1.out (by omega) (by omega)
    clear c0 c1 c2 c3
    go_wp2_with fail
    refine cG.mono ?_
    rintro e2 w2 hpost
    have hpost := Post.pre K1.out (fun b hb => .inl hb) (X' := []) (fun b hb => by cases hb) hpost
    obtain ⟨rfl, F2, hrest⟩ := hpost
    have H2 := Lib.hid hrest
    clear hrest cG
    go_wp2
    go_ret
    rw [e.out]
    exact ⟨rfl, F2, H2.out⟩
  by_cases h94 : x = 94
  · subst h94
    have e : Hid (r = .ok out.length (i + 1) (out ++ [plainNode 5])) := by show r = _; rw [← hr.out]; exact at_beg HX.out
    have cG := symbol_any 5 w1 p s PA pc i d out F R1.out (by omega) (by omega)
    clear c0 c1 c2 c3
    go_wp2_with fail
    refine cG.mono ?_
    rintro e2 w2 hpost
    have hpost := Post.pre K1.out (fun b hb => .inl hb) (X' := []) (fun b hb => by cases hb) hpost
    obtain ⟨rfl, F2, hrest⟩ := hpost
    have H2 := Lib.hid hrest
    clear hrest cG
    go_wp2
    go_ret
    rw [e.out]
    exact ⟨rfl, F2, H2.out⟩
  by_cases h36 : x = 36
  · subst h36
    have e : Hid (r = .ok out.length (i + 1) (out ++ [plainNode 6])) := by show r = _; rw [← hr.out]; exact at_end HX.out
    have cG := symbol_any 6 w1 p s PA pc i d out F R1.out (by omega) (by omega)
    clear c0 c1 c2 c3
    go_wp2_with fail
    refine cG.mono ?_
    rintro e2 w2 hpost
    have hpost := Post.pre K1.out (fun b hb => .inl hb) (X' := []) (fun b hb => by cases hb) hpost
    obtain ⟨rfl, F2, hrest⟩ := hpost
    have H2 := Lib.hid hrest
    clear hrest cG
    go_wp2
    go_ret
    rw [e.out]
    exact ⟨rfl, F2, H2.out⟩
  have HPT := Lib.hid (at_point (inner := innerD s n) (out := out) HX.out HREP.out h40 h91 h46 h94 h36)
  obtain ⟨nv, hR, hb⟩ := R1.out.rs
  cases hp : pointR s i with
  | none =>
    have e : Hid (r = .err 6 i) := by show r = _; rw [← hr.out, HPT.out, hp]
    have cG := point_err w1 p s PA pc i d nv hR hs (by omega) hp
    clear c0 c1 c2 c3 hR hb hp
    go_wp2_with fail
    refine cG.mono ?_
    rintro e2 w2 ⟨rfl, k⟩
    have K2 := Lib.hid (K1.out.tr (kp k))
    clear k cG
    go_wp2
    exact ⟨rfl, by rw [e.out]; exact ⟨rfl, K2.out⟩⟩
  | some cj =>
    obtain ⟨cc, j⟩ := cj
    have e : Hid (r = .ok out.length j (out ++ [charNode cc])) := by show r = _; rw [← hr.out, HPT.out, hp]
    have cG := point_ok cc j w1 p s PA pc i d nv hR hs (by omega) hp
    have HB := Lib.hid hb
    clear c0 c1 c2 c3 hR hb hp
    go_wp2_with fail
    refine cG.mono ?_
    rintro e2 w2 ⟨rfl, k, r2⟩
    have K2 := Lib.hid (K1.out.tr (kp k))
    have RD2 := HB.out _ _ _ r2 k
    have cB := add_post (charNode cc) (.slice none 0 0) w2 p s PA pc j d out F RD2 (by omega) rfl (row_nil _ _) (fun b hb => by cases hb)
    simp only [charNode] at cB
    clear k r2 cG RD2
    go_wp2_with fail
    refine cB.mono ?_
    rintro e3 w3 hpost
    have hpost := Post.pre K2.out (fun b hb => .inl hb) (X' := []) (fun b hb => by cases hb) hpost
    obtain ⟨rfl, F2, hrest⟩ := hpost
    have H2 := Lib.hid hrest
    clear hrest cB
    go_wp2
    go_ret
    rw [e.out]
    exact ⟨rfl, F2, H2.out⟩

theorem pieceR_eq {s : List Int} {inner : Option (Nat → List Nd → Rd)} {i : Nat} {out : List Nd} {kid : Int} {j : Nat} {o : List Nd} (h : atomR s inner i out = .ok kid j o) : pieceR s inner i out = match repR s j with | .no => .ok kid j o | .bad => .err 5 j | .yes lo hi k => .ok o.length k (o ++ [repNode lo hi kid]) := by
  unfold pieceR
  rw [h]
  simp only
  cases repR s j <;> rfl

set_option maxHeartbeats 4000000 in
set_option maxRecDepth 100000 in
theorem piece_any (n : Nat) (hn : n ≤ 6) (w : World) (p : Nat) (s : List Int) (ih : ∀ m, n = m + 1 → AltsC s m) (PA : Option Addr) (pc i d : Nat) (out : List Nd) (F : List Nat) (h : Rdr w p s PA pc i d out F) (hs : s.length ≤ 1000) (hd : d = 6 - n) (hi : i < s.length) (hP : Pos s) (ho : out.length + 2 * (s.length - i) ≤ 10000) (r : Rd) (hr : Hid (pieceR s (innerD s n) i out = r)) :
    Calls Tryz.prog 189 #[.pointer (some ⟨p, 0, none⟩)] w (Post w p s PA pc d F [] r) := by
  have cA := atom_any n hn w p s ih PA pc i d out F h hs hd hi hP ho _ (show Hid (_ = _) from rfl)
  have HFar := Lib.hid (atomR_far (innerD_far s n) (out := out) hi)
  clear ih hd h
  go_enter Tryz.func189, Tryz.ntmps189
  go_wp2_with fail
  refine cA.mono ?_
  intro e w1 hpost
  clear cA
  cases hA : atomR s (innerD s n) i out with
  | err cc q =>
    rw [hA] at hpost
    obtain ⟨rfl, k⟩ := hpost
    have e : Hid (r = .err cc q) := by show r = _; rw [← hr.out]; unfold pieceR; rw [hA]
    have K2 := Lib.hid k
    clear k hA
    go_wp2
    exact ⟨rfl, by rw [e.out]; exact ⟨rfl, K2.out⟩⟩
  | ok kid j o =>
    rw [hA] at hpost
    obtain ⟨rfl, F1, r1, k1, s1⟩ := hpost
    have hfar := HFar.out kid j o hA
    have hjl := hfar.2.1
    have hol := hfar.2.2.1
    have HE := Lib.hid (pieceR_eq hA)
    have K1 := Lib.hid k1
    have R1 := Lib.hid r1
    have S1 : Hid (∀ b ∈ F1, b ∈ F ∨ w.heap.size ≤ b) := fun b hb => by
      rcases s1 b hb with h | h | h
      · exact .inl h
      · cases h
      · exact .inr h
    have HRG := Lib.hid r1.range
    obtain ⟨nv, hR, hb⟩ := r1.rs
    have HB := Lib.hid hb
    have cR := repetition_any w1 p s PA pc j d nv hR hs hjl hP
    clear k1 r1 s1 hA hfar hR hb
    go_wp2_with fail
    refine cR.mono ?_
    intro e w2 hrep
    unfold RepIs at hrep
    clear cR
    cases hQ : repR s j with
    | no =>
      rw [hQ] at hrep
      obtain ⟨rfl, k2, r2⟩ := hrep
      have e : Hid (r = .ok kid j o) := by show r = _; rw [← hr.out, HE.out, hQ]
      have RD2 := Lib.hid (HB.out _ _ _ r2 k2)
      have K2 := Lib.hid (K1.out.tr (kp k2))
      clear k2 r2 hQ
      go_wp2
      go_ret
      rw [e.out]
      exact ⟨rfl, F1, RD2.out, K2.out, fun b hb => by rcases S1.out b hb with h | h; exact .inl h; exact .inr (.inr h)⟩
    | bad =>
      rw [hQ] at hrep
      obtain ⟨rfl, k2⟩ := hrep
      have e : Hid (r = .err 5 j) := by show r = _; rw [← hr.out, HE.out, hQ]
      have K2 := Lib.hid (K1.out.tr (kp k2))
      clear k2 hQ
      go_wp2
      exact ⟨rfl, by rw [e.out]; exact ⟨rfl, K2.out⟩⟩
    | yes lo hi2 k =>
      rw [hQ] at hrep
      obtain ⟨rfl, k2, r2⟩ := hrep
      have e : Hid (r = .ok o.length k (o ++ [repNode lo hi2 kid])) := by show r = _; rw [← hr.out, HE.out, hQ]
      have RD2 := HB.out _ _ _ r2 k2
      have K2 := Lib.hid (K1.out.tr (kp k2))
      have hA : Keep [] w2 (w2.alloc (.cells #[.int .i64 kid] 3)) := (Keep.refl [] w2).alloc _
      have hrow := row_low (new_ints w2 [kid] (by simp [maxLen])) (show p + 1 ≤ w2.heap.size from RD2.lt)
      have hsz := k2.size
      have cB := add_post (repNode lo hi2 kid) (.slice (some ⟨w2.heap.size, 0, none⟩) 1 1) (w2.alloc (.cells #[.int .i64 kid] 3)) p s PA pc k d o F1 (RD2.keep0 hA) (by omega) rfl hrow (fun b hb hm => by
        simp [Value.ownBlock] at hb
        have := (HRG.out b hm).2
        omega)
      simp only [repNode] at cB
      have K3 := Lib.hid (K2.out.tr hA.nil)
      have z2 := K2.out.size
      clear k2 r2 hQ RD2 hA hrow hsz
      go_wp2_with fail
      refine cB.mono ?_
      rintro e3 w3 hpost
      have hpost := Post.pre K3.out S1.out (X' := []) (fun b hb => .inr (.inr (by simp [Value.ownBlock] at hb; omega))) hpost
      obtain ⟨rfl, F2, hrest⟩ := hpost
      have H2 := Lib.hid hrest
      clear hrest cB
      go_wp2
      go_ret
      rw [e.out]
      exact ⟨rfl, F2, H2.out⟩

end Go.Proofs.YtdkjfppjbkdelaaGreatDoor
