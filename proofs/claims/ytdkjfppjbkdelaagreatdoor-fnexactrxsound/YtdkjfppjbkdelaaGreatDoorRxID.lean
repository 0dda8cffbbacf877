/- The program's reader of patterns: sequence, alternatives. Conditions: at most 1000 code points. -/
import Derived.Test.YtdkjfppjbkdelaaGreatDoorRxIB
namespace Go.Proofs.YtdkjfppjbkdelaaGreatDoor
set_option linter.unusedVariables false
open Go.RowKit

theorem Rdr.atOf {w : World} {p : Nat} {s : List Int} {PA : Option Addr} {pc i d : Nat} {out : List Nd} {F : List Nat} (h : Rdr w p s PA pc i d out F) : atOf p w = i := by
  obtain ⟨nv, xs, h1, _, _⟩ := h
  exact h1.atOf

/-- A round of a loop that collects kids. -/
def KidRel (C : Nat) (G : Nat → Nat → List Nd → List Int → Rd) (s : List Int) (r : Rd) (w : World) (p : Nat) (PA : Option Addr) (pc d : Nat) (F : List Nat) (v : Value) (wr : World) : Prop :=
  ∃ (kids : List Int) (a f : Nat) (o : List Nd) (F' : List Nat), RowI wr (p + 1) v kids ∧ (∀ b, v.ownBlock = some b → w.heap.size ≤ b ∧ b ∉ F') ∧ Rdr wr p s PA pc a d o F' ∧ Keep (p :: F) w wr ∧ (∀ b ∈ F', b ∈ F ∨ w.heap.size ≤ b) ∧
    G f a o kids = r ∧ s.length < a + f ∧ a ≤ s.length ∧ kids.length ≤ a + 1 ∧ o.length + 2 * (s.length - a) ≤ C

theorem new_one_int (w : World) (x : Int) (e : TypeId) : ∀ j u, ([.int .i64 x] : List Value)[j]? = some u → (w.alloc (.cells #[.int .i64 x] e)).cell? ((⟨w.heap.size, 0, none⟩ : Addr).add j) = some u := by
  intro j u hu
  rw [Addr.add_lit, Nat.zero_add, cell_of_row _ w.heap.size j _ e (0, 0) (heap_alloc_new w _)]
  rw [show (#[.int .i64 x] : Array Value) = ([.int .i64 x] : List Value).toArray from rfl, List.getElem?_toArray]
  exact hu

/-- Behind the append of a kid: all that the next round wants. -/
theorem kid_more {w w2 w3 : World} {p : Nat} {s : List Int} {PA : Option Addr} {pc a d : Nat} {F F2 : List Nat} {kids : List Int} {x : Int} {v v' : Value} {o : List Nd} (hp0 : p < w.heap.size)
    (hr : Rdr w2 p s PA pc a d o F2) (hk : Keep (p :: F) w w2) (hF : ∀ b ∈ F2, b ∈ F ∨ w.heap.size ≤ b) (hv : ∀ b, v.ownBlock = some b → w.heap.size ≤ b ∧ b ∉ F2)
    (hown : w3.ownsRow (p + 1) 3 1 v' (kids.length + 1) (kids.map (Value.int .i64) ++ [.int .i64 x])) (hg : (w2.alloc (.cells #[.int .i64 x] 3)).grownBy w3 v.ownBlock) (hb : ∀ b, v'.ownBlock = some b → v.ownBlock = some b ∨ (w2.alloc (.cells #[.int .i64 x] 3)).heap.size ≤ b) :
    RowI w3 (p + 1) v' (kids ++ [x]) ∧ (∀ b, v'.ownBlock = some b → w.heap.size ≤ b ∧ b ∉ F2) ∧ Rdr w3 p s PA pc a d o F2 ∧ Keep (p :: F) w w3 := by
  have hA : Keep [] w2 (w2.alloc (.cells #[.int .i64 x] 3)) := (Keep.refl [] w2).alloc _
  have hG : Keep v.ownBlock.toList w2 w3 := hA.nil.tr (Keep.ofGrown hg)
  have hp := hr.lt
  refine ⟨by unfold RowI; rw [List.length_append, List.map_append]; exact hown, fun b hb' => ?_, hr.keep hG (fun b hb' => ?_), hk.trans hG (fun b hb' => .inr (hv b (by simpa using hb')).1)⟩
  · rcases hb b hb' with h | h
    · exact hv b h
    · rw [alloc_size1] at h
      exact ⟨by have := hk.size; omega, fun hm => by have := (hr.range b hm).2; omega⟩
  · have h1 := hv b (by simpa using hb')
    refine ⟨?_, h1.2⟩
    omega

set_option maxHeartbeats 8000000 in
set_option maxRecDepth 100000 in
theorem sequence_any (n : Nat) (hn : n ≤ 6) (w : World) (p : Nat) (s : List Int) (ih : ∀ m, n = m + 1 → AltsC s m) (PA : Option Addr) (pc i d : Nat) (out : List Nd) (F : List Nat) (h : Rdr w p s PA pc i d out F) (hs : s.length ≤ 1000) (hd : d = 6 - n) (hi : i ≤ s.length) (hP : Pos s) (ho : out.length + 2 * (s.length - i) ≤ 10000) (r : Rd) (hr : Hid (rowR s (innerD s n) i out = r)) :
    Calls Tryz.prog 170 #[.pointer (some ⟨p, 0, none⟩)] w (Post w p s PA pc d F [] r) := by
  obtain ⟨i0, hi0, hz0, hz1, hz2⟩ := info_parts Tryz.infoInt
  have HI := Lib.hid ih
  have HD := Lib.hid hd
  have HH := Lib.hid h
  have hp0 := h.lt
  clear ih hd h
  go_enter Tryz.func170, Tryz.ntmps170
  go_wp2
  go_loopw [3] (KidRel 10000 (seqR s (innerD s n)) s r w p PA pc d F) (fun _ wr => s.length + 1 - atOf p wr)
  case atStart => exact ⟨[], i, s.length + 1, out, F, row_nil _ _, (fun b hb => by cases hb), HH.out, Keep.refl _ _, (fun b hb => .inl hb), hr.out, by omega, hi, by simp, by omega⟩
  case round =>
    obtain ⟨kids, a, f, o, F1, hrow, hv, hrd, hk, hF, hG, hf, hal, hkl, hol⟩ := hrel
    obtain ⟨f, rfl⟩ : ∃ g, f = g + 1 := ⟨f - 1, by omega⟩
    obtain ⟨A, c, rfl⟩ := own_form hrow
    have HA := Lib.hid hrd.atOf
    have HV := Lib.hid hv
    have S1 := Lib.hid hF
    have HG := Lib.hid hG
    have K1 := Lib.hid hk
    have R1 := Lib.hid hrd
    have WR1 := Lib.hid hrow
    obtain ⟨x, hx⟩ : ∃ x, pk s a = x := ⟨_, rfl⟩
    have HX := Lib.hid hx
    clear hrow hv hrd hk hF hG hx HH
    go_wp2_with fail
    refine (rd_ahead0 R1.out hs (by omega)).mono ?_
    rintro e w2 ⟨rfl, k, rr⟩
    rw [HX.out]
    have K2 := Lib.hid (K1.out.tr k.nil)
    have R2 := Lib.hid rr
    have WR2 := Lib.hid (k.row WR1.out (fun b hb => by simp))
    clear k rr
    by_cases h0 : x = 0
    · have HE : Hid (ends (pk s a) = true) := by show ends _ = true; rw [HX.out, h0]; decide
      subst h0
      by_cases hk0 : kids = []
      · have e : Hid (r = .ok o.length a (o ++ [plainNode 1])) := by show r = _; rw [← HG.out, seqR, if_pos HE.out, if_pos hk0]
        subst hk0
        have cB := add_post (plainNode 1) (.slice none 0 0) _ p s PA pc a d o F1 R2.out (by omega) rfl (row_nil _ _) (fun b hb => by cases hb)
        simp only [plainNode] at cB
        go_wp2_with fail
        refine cB.mono ?_
        rintro e3 w9 hpost
        have hpost := Post.pre K2.out S1.out (X' := []) (fun b hb => by cases hb) hpost
        obtain ⟨rfl, F2, hrest⟩ := hpost
        have H2 := Lib.hid hrest
        clear hrest cB
        go_wp2
        go_ret
        rw [e.out]
        exact ⟨rfl, F2, H2.out⟩
      · have e : Hid (r = joinR 7 kids a o) := by show r = _; rw [← HG.out, seqR, if_pos HE.out, if_neg hk0]
        have hkl : ¬ (kids.length : Int) = 0 := by have := List.length_pos_iff.2 hk0; omega
        have cB := joined_any 7 kids (.slice A kids.length c) _ p s PA pc a d o F1 R2.out (by omega) (by omega) WR2.out (fun b hb => (HV.out b hb).2)
        rw [← e.out] at cB
        go_wp2_with fail
        refine cB.mono ?_
        intro e3 w9 hpost
        have hpost := Post.pre K2.out S1.out (X' := []) (fun b hb => .inr (.inr (HV.out b (by simpa using hb)).1)) hpost
        clear cB
        cases r with
        | err cc q =>
          obtain ⟨rfl, k⟩ := hpost
          have K9 := Lib.hid k
          clear k
          go_wp2
          exact ⟨rfl, rfl, K9.out⟩
        | ok x9 j9 o9 =>
          obtain ⟨rfl, F2, hrest⟩ := hpost
          have H2 := Lib.hid hrest
          clear hrest
          go_wp2
          go_ret
          exact ⟨rfl, F2, H2.out⟩
    go_wp2_with fail
    refine (rd_ahead0 R2.out hs (by omega)).mono ?_
    rintro e w3 ⟨rfl, k, rr⟩
    rw [HX.out]
    have K3 := Lib.hid (K2.out.tr k.nil)
    have R3 := Lib.hid rr
    have WR3 := Lib.hid (k.row WR2.out (fun b hb => by simp))
    clear k rr
    by_cases h124 : x = 124
    · have HE : Hid (ends (pk s a) = true) := by show ends _ = true; rw [HX.out, h124]; decide
      subst h124
      by_cases hk0 : kids = []
      · have e : Hid (r = .ok o.length a (o ++ [plainNode 1])) := by show r = _; rw [← HG.out, seqR, if_pos HE.out, if_pos hk0]
        subst hk0
        have cB := add_post (plainNode 1) (.slice none 0 0) _ p s PA pc a d o F1 R3.out (by omega) rfl (row_nil _ _) (fun b hb => by cases hb)
        simp only [plainNode] at cB
        go_wp2_with fail
        refine cB.mono ?_
        rintro e3 w9 hpost
        have hpost := Post.pre K3.out S1.out (X' := []) (fun b hb => by cases hb) hpost
        obtain ⟨rfl, F2, hrest⟩ := hpost
        have H2 := Lib.hid hrest
        clear hrest cB
        go_wp2
        go_ret
        rw [e.out]
        exact ⟨rfl, F2, H2.out⟩
      · have e : Hid (r = joinR 7 kids a o) := by show r = _; rw [← HG.out, seqR, if_pos HE.out, if_neg hk0]
        have hkl : ¬ (kids.length : Int) = 0 := by have := List.length_pos_iff.2 hk0; omega
        have cB := joined_any 7 kids (.slice A kids.length c) _ p s PA pc a d o F1 R3.out (by omega) (by omega) WR3.out (fun b hb => (HV.out b hb).2)
        rw [← e.out] at cB
        go_wp2_with fail
        refine cB.mono ?_
        intro e3 w9 hpost
        have hpost := Post.pre K3.out S1.out (X' := []) (fun b hb => .inr (.inr (HV.out b (by simpa using hb)).1)) hpost
        clear cB
        cases r with
        | err cc q =>
          obtain ⟨rfl, k⟩ := hpost
          have K9 := Lib.hid k
          clear k
          go_wp2
          exact ⟨rfl, rfl, K9.out⟩
        | ok x9 j9 o9 =>
          obtain ⟨rfl, F2, hrest⟩ := hpost
          have H2 := Lib.hid hrest
          clear hrest
          go_wp2
          go_ret
          exact ⟨rfl, F2, H2.out⟩
    have h0b : (x == 0) = false := beq_eq_false_iff_ne.2 h0
    have h0c : (x != 0) = true := by simp [bne, h0b]
    go_wp2_with fail
    refine (rd_ahead0 R3.out hs (by omega)).mono ?_
    rintro e w4 ⟨rfl, k, rr⟩
    rw [HX.out]
    have K4 := Lib.hid (K3.out.tr k.nil)
    have R4 := Lib.hid rr
    have WR4 := Lib.hid (k.row WR3.out (fun b hb => by simp))
    clear k rr
    by_cases h41 : x = 41
    · have HE : Hid (ends (pk s a) = true) := by show ends _ = true; rw [HX.out, h41]; decide
      subst h41
      by_cases hk0 : kids = []
      · have e : Hid (r = .ok o.length a (o ++ [plainNode 1])) := by show r = _; rw [← HG.out, seqR, if_pos HE.out, if_pos hk0]
        subst hk0
        have cB := add_post (plainNode 1) (.slice none 0 0) _ p s PA pc a d o F1 R4.out (by omega) rfl (row_nil _ _) (fun b hb => by cases hb)
        simp only [plainNode] at cB
        go_wp2_with fail
        refine cB.mono ?_
        rintro e3 w9 hpost
        have hpost := Post.pre K4.out S1.out (X' := []) (fun b hb => by cases hb) hpost
        obtain ⟨rfl, F2, hrest⟩ := hpost
        have H2 := Lib.hid hrest
        clear hrest cB
        go_wp2
        go_ret
        rw [e.out]
        exact ⟨rfl, F2, H2.out⟩
      · have e : Hid (r = joinR 7 kids a o) := by show r = _; rw [← HG.out, seqR, if_pos HE.out, if_neg hk0]
        have hkl : ¬ (kids.length : Int) = 0 := by have := List.length_pos_iff.2 hk0; omega
        have cB := joined_any 7 kids (.slice A kids.length c) _ p s PA pc a d o F1 R4.out (by omega) (by omega) WR4.out (fun b hb => (HV.out b hb).2)
        rw [← e.out] at cB
        go_wp2_with fail
        refine cB.mono ?_
        intro e3 w9 hpost
        have hpost := Post.pre K4.out S1.out (X' := []) (fun b hb => .inr (.inr (HV.out b (by simpa using hb)).1)) hpost
        clear cB
        cases r with
        | err cc q =>
          obtain ⟨rfl, k⟩ := hpost
          have K9 := Lib.hid k
          clear k
          go_wp2
          exact ⟨rfl, rfl, K9.out⟩
        | ok x9 j9 o9 =>
          obtain ⟨rfl, F2, hrest⟩ := hpost
          have H2 := Lib.hid hrest
          clear hrest
          go_wp2
          go_ret
          exact ⟨rfl, F2, H2.out⟩
    have HNE : Hid (¬ ends (pk s a) = true) := by show ¬ _; rw [HX.out]; simp [ends, h0, h124, h41]
    have hal2 : a < s.length := lt_of_pk (by rw [HX.out]; exact h0)
    have HFar := Lib.hid (pieceR_far (innerD_far s n) (out := o) hal2)
    have hG2 : r = match pieceR s (innerD s n) a o with | .err c p => .err c p | .ok n' j o => seqR s (innerD s n) f j o (kids ++ [n']) := by
      rw [← HG.out, seqR, if_neg HNE.out]
      cases pieceR s (innerD s n) a o <;> rfl
    have HG2 := Lib.hid hG2
    clear hG2
    have cP := piece_any n hn w4 p s HI.out PA pc a d o F1 R4.out hs HD.out hal2 hP (by omega) _ (show Hid (_ = _) from rfl)
    have h41b : (x == 41) = false := beq_eq_false_iff_ne.2 h41
    have h41c : (x != 41) = true := by simp [bne, h41b]
    go_wp2_with fail
    refine cP.mono ?_
    intro e w5 hpost
    clear cP
    cases hA : pieceR s (innerD s n) a o with
    | err cc q =>
      rw [hA] at hpost
      have hpost := Post.pre K4.out S1.out (X' := []) (fun b hb => by cases hb) hpost
      obtain ⟨rfl, k⟩ := hpost
      have e : Hid (r = .err cc q) := by show r = _; rw [HG2.out, hA]
      have K5 := Lib.hid k
      clear k hA
      go_wp2
      exact ⟨rfl, by rw [e.out]; exact ⟨rfl, K5.out⟩⟩
    | ok kid j o2 =>
      rw [hA] at hpost
      obtain ⟨rfl, F2, r5, k5, s5⟩ := hpost
      have hfar := HFar.out kid j o2 hA
      have hj0 := hfar.1
      have hj1 := hfar.2.1
      have hj2 := hfar.2.2.1
      have HG3 : Hid (r = seqR s (innerD s n) f j o2 (kids ++ [kid])) := by show r = _; rw [HG2.out, hA]
      have hz4 := R4.out.range
      have W5 := Lib.hid (k5.row WR4.out (fun b hb hm => by
        rcases List.mem_cons.1 hm with h | h
        · have := (World.ownsRow.lt WR4.out b hb).1; omega
        · exact (HV.out b hb).2 h))
      have HV5 : Hid (∀ b, Value.ownBlock (.slice A kids.length c) = some b → w.heap.size ≤ b ∧ b ∉ F2) := fun b hb => ⟨(HV.out b hb).1, fun hm => by
        rcases s5 b hm with h | h | h
        · exact (HV.out b hb).2 h
        · cases h
        · have := (World.ownsRow.lt WR4.out b hb).2; omega⟩
      have S5 : Hid (∀ b ∈ F2, b ∈ F ∨ w.heap.size ≤ b) := fun b hb => by
        rcases s5 b hb with h | h | h
        · exact S1.out b h
        · cases h
        · exact .inr (Nat.le_trans K4.out.size h)
      have K5 := Lib.hid (K4.out.trans k5 (fun b hb => by
        rcases List.mem_cons.1 hb with rfl | hb
        · exact .inl (by simp)
        · rcases S1.out b hb with h | h
          · exact .inl (List.mem_cons_of_mem _ h)
          · exact .inr h))
      have R5 := Lib.hid r5
      have z5 : p + 1 ≤ w5.heap.size := r5.lt
      clear r5 k5 s5 hA hfar hz4
      go_wp2_with (at_builtin; refine list_append_own rfl _ _ 45 rfl (p + 1) 3 i0 (.int .i64 0) 1 8 Tryz.underlying45 hi0 hz0 hz1 hz2 rfl (by decide) (.slice A kids.length c) kids.length (kids.map (Value.int .i64)) rfl (W5.out.alloc _) ⟨w5.heap.size, 0, none⟩ 1 1 [.int .i64 kid] rfl rfl (new_one_int w5 kid 3) (fun u hu => by simp at hu; subst hu; rfl) (by unfold maxLen; omega) (by omega) (by rw [alloc_size1]; omega) ?_; intro v6 w6 hown6 hgrow6 hblk6; obtain ⟨A6, c6, rfl⟩ := own_form hown6)
      have H6 := Lib.hid (kid_more hp0 R5.out K5.out S5.out HV5.out hown6 hgrow6 hblk6)
      clear hown6 hgrow6 hblk6
      go_roundw
      case rel => exact ⟨kids ++ [kid], j, f, o2, F2, H6.out.1, H6.out.2.1, H6.out.2.2.1, H6.out.2.2.2, S5.out, HG3.out.symm, by omega, hj1, by simp; omega, by omega⟩
      case measure => rw [H6.out.2.2.1.atOf, HA.out]; omega

end Go.Proofs.YtdkjfppjbkdelaaGreatDoor

/- The program's reader of patterns: alternatives. Conditions: at most 1000 code points. -/
namespace Go.Proofs.YtdkjfppjbkdelaaGreatDoor
set_option linter.unusedVariables false
open Go.RowKit

set_option maxHeartbeats 8000000 in
set_option maxRecDepth 100000 in
theorem alternatives_any (n : Nat) (hn : n ≤ 6) (w : World) (p : Nat) (s : List Int) (ih : ∀ m, n = m + 1 → AltsC s m) (PA : Option Addr) (pc i d : Nat) (out : List Nd) (F : List Nat) (h : Rdr w p s PA pc i d out F) (hs : s.length ≤ 1000) (hd : d = 6 - n) (hi : i ≤ s.length) (hP : Pos s) (ho : out.length + 2 * (s.length - i) ≤ 10000) (r : Rd) (hr : Hid (altsR s (innerD s n) i out = r)) :
    Calls Tryz.prog 139 #[.pointer (some ⟨p, 0, none⟩)] w (Post w p s PA pc d F [] r) := by
  obtain ⟨i0, hi0, hz0, hz1, hz2⟩ := info_parts Tryz.infoInt
  have cS := sequence_any n hn w p s ih PA pc i d out F h hs hd hi hP ho _ (show Hid (_ = _) from rfl)
  have HFar := Lib.hid (rowR_far (innerD_far s n) (out := out) hi)
  have HI := Lib.hid ih
  have HD := Lib.hid hd
  have hp0 := h.lt
  clear ih hd h
  go_enter Tryz.func139, Tryz.ntmps139
  go_wp2_with fail
  refine cS.mono ?_
  intro e w1 hpost
  clear cS
  cases hA : rowR s (innerD s n) i out with
  | err cc q =>
    rw [hA] at hpost
    obtain ⟨rfl, k⟩ := hpost
    have e : Hid (r = .err cc q) := by show r = _; rw [← hr.out]; unfold altsR; rw [hA]
    have K2 := Lib.hid k
    clear k hA
    go_wp2
    exact ⟨rfl, by rw [e.out]; exact ⟨rfl, K2.out⟩⟩
  | ok n1 j1 o1 =>
    rw [hA] at hpost
    obtain ⟨rfl, F0, r1, k1, s1⟩ := hpost
    have hfar := HFar.out n1 j1 o1 hA
    have hj1 := hfar.2.1
    have hj2 := hfar.2.2.1
    have hj0 := hfar.1
    have HG0 : Hid (altR s (innerD s n) (s.length + 1) j1 o1 [n1] = r) := by show _ = r; rw [← hr.out]; unfold altsR; rw [hA]
    have hAl : Keep [] w1 (w1.alloc (.cells #[.int .i64 n1] 3)) := (Keep.refl [] w1).alloc _
    have R1 := Lib.hid (r1.keep0 hAl)
    have K1 := Lib.hid (k1.tr hAl.nil)
    have W1 := Lib.hid (row_low (new_ints w1 [n1] (by simp [maxLen])) (show p + 1 ≤ w1.heap.size from r1.lt))
    have V1 : Hid (∀ b, Value.ownBlock (.slice (some ⟨w1.heap.size, 0, none⟩) 1 1) = some b → w.heap.size ≤ b ∧ b ∉ F0) := fun b hb => by
      simp [Value.ownBlock] at hb
      subst hb
      exact ⟨k1.size, fun hm => by have := (r1.range _ hm).2; omega⟩
    have S1 : Hid (∀ b ∈ F0, b ∈ F ∨ w.heap.size ≤ b) := fun b hb => by
      rcases s1 b hb with h | h | h
      · exact .inl h
      · cases h
      · exact .inr h
    clear r1 k1 s1 hA hfar hAl
    go_wp2
    go_loopw [3] (KidRel 10001 (altR s (innerD s n)) s r w p PA pc d F) (fun _ wr => s.length + 1 - atOf p wr)
    case atStart => exact ⟨[n1], j1, s.length + 1, o1, F0, W1.out, V1.out, R1.out, K1.out, S1.out, HG0.out, by omega, hj1, by simp, by omega⟩
    case round =>
      obtain ⟨kids, a, f, o, F1, hrow, hv, hrd, hk, hF, hG, hf, hal, hkl, hol⟩ := hrel
      obtain ⟨f, rfl⟩ : ∃ g, f = g + 1 := ⟨f - 1, by omega⟩
      clear R1 K1 W1 V1 S1 HG0
      obtain ⟨A, c, rfl⟩ := own_form hrow
      have HA := Lib.hid hrd.atOf
      have HV := Lib.hid hv
      have S1 := Lib.hid hF
      have HG := Lib.hid hG
      have K1 := Lib.hid hk
      have R1 := Lib.hid hrd
      have WR1 := Lib.hid hrow
      clear hrow hv hrd hk hF hG
      by_cases h124 : pk s a = 124
      · have hal2 : a < s.length := lt_of_pk (by omega)
        have H124 := Lib.hid h124
        clear h124
        go_wp2_with fail
        refine (rd_take_yes 124 R1.out hs (by omega) H124.out).mono ?_
        rintro e w2 ⟨rfl, k2, r2⟩
        have K2 := Lib.hid (K1.out.tr (kp k2))
        have R2 := Lib.hid r2
        have W2 := Lib.hid (k2.row WR1.out (fun b hb => by have := (World.ownsRow.lt WR1.out b hb).1; simp; omega))
        have HFar2 := Lib.hid (rowR_far (innerD_far s n) (i := a + 1) (out := o) (by omega))
        have hG2 : r = match rowR s (innerD s n) (a + 1) o with | .err c p => .err c p | .ok n' j o => altR s (innerD s n) f j o (kids ++ [n']) := by
          rw [← HG.out, altR, if_pos H124.out]
          cases rowR s (innerD s n) (a + 1) o <;> rfl
        have HG2 := Lib.hid hG2
        have cP := sequence_any n hn w2 p s HI.out PA pc (a + 1) d o F1 r2 hs HD.out (by omega) hP (by omega) _ (show Hid (_ = _) from rfl)
        clear k2 r2 hG2
        go_wp2_with fail
        refine cP.mono ?_
        intro e w5 hpost
        clear cP
        cases hA : rowR s (innerD s n) (a + 1) o with
        | err cc q =>
          rw [hA] at hpost
          have hpost := Post.pre K2.out S1.out (X' := []) (fun b hb => by cases hb) hpost
          obtain ⟨rfl, k⟩ := hpost
          have e : Hid (r = .err cc q) := by show r = _; rw [HG2.out, hA]
          have K5 := Lib.hid k
          clear k hA
          go_wp2
          exact ⟨rfl, by rw [e.out]; exact ⟨rfl, K5.out⟩⟩
        | ok kid j o2 =>
          rw [hA] at hpost
          obtain ⟨rfl, F2, r5, k5, s5⟩ := hpost
          have hfar := HFar2.out kid j o2 hA
          have hj0' := hfar.1
          have hj1' := hfar.2.1
          have hj2' := hfar.2.2.1
          have HG3 : Hid (r = altR s (innerD s n) f j o2 (kids ++ [kid])) := by show r = _; rw [HG2.out, hA]
          have W5 := Lib.hid (k5.row W2.out (fun b hb hm => by
            rcases List.mem_cons.1 hm with h | h
            · have := (World.ownsRow.lt WR1.out b hb).1; omega
            · exact (HV.out b hb).2 h))
          have HV5 : Hid (∀ b, Value.ownBlock (.slice A kids.length c) = some b → w.heap.size ≤ b ∧ b ∉ F2) := fun b hb => ⟨(HV.out b hb).1, fun hm => by
            rcases s5 b hm with h | h | h
            · exact (HV.out b hb).2 h
            · cases h
            · have := (World.ownsRow.lt W2.out b hb).2; omega⟩
          have S5 : Hid (∀ b ∈ F2, b ∈ F ∨ w.heap.size ≤ b) := fun b hb => by
            rcases s5 b hb with h | h | h
            · exact S1.out b h
            · cases h
            · exact .inr (Nat.le_trans K2.out.size h)
          have K5 := Lib.hid (K2.out.trans k5 (fun b hb => by
            rcases List.mem_cons.1 hb with rfl | hb
            · exact .inl (by simp)
            · rcases S1.out b hb with h | h
              · exact .inl (List.mem_cons_of_mem _ h)
              · exact .inr h))
          have R5 := Lib.hid r5
          have z5 : p + 1 ≤ w5.heap.size := r5.lt
          clear r5 k5 s5 hA hfar
          go_wp2_with (at_builtin; refine list_append_own rfl _ _ 45 rfl (p + 1) 3 i0 (.int .i64 0) 1 8 Tryz.underlying45 hi0 hz0 hz1 hz2 rfl (by decide) (.slice A kids.length c) kids.length (kids.map (Value.int .i64)) rfl (W5.out.alloc _) ⟨w5.heap.size, 0, none⟩ 1 1 [.int .i64 kid] rfl rfl (new_one_int w5 kid 3) (fun u hu => by simp at hu; subst hu; rfl) (by unfold maxLen; omega) (by omega) (by rw [alloc_size1]; omega) ?_; intro v6 w6 hown6 hgrow6 hblk6; obtain ⟨A6, c6, rfl⟩ := own_form hown6)
          have H6 := Lib.hid (kid_more hp0 R5.out K5.out S5.out HV5.out hown6 hgrow6 hblk6)
          clear hown6 hgrow6 hblk6
          go_roundw
          case rel => exact ⟨kids ++ [kid], j, f, o2, F2, H6.out.1, H6.out.2.1, H6.out.2.2.1, H6.out.2.2.2, S5.out, HG3.out.symm, by omega, hj1', by simp; omega, by omega⟩
          case measure => rw [H6.out.2.2.1.atOf, HA.out]; omega
      · have H124 := Lib.hid h124
        have e : Hid (r = joinR 8 kids a o) := by show r = _; rw [← HG.out, altR, if_neg h124]
        clear h124
        go_wp2_with fail
        refine (rd_take_no 124 R1.out hs (by omega) H124.out).mono ?_
        rintro e w2 ⟨rfl, k2, r2⟩
        have K2 := Lib.hid (K1.out.tr k2.nil)
        have R2 := Lib.hid r2
        have W2 := Lib.hid (k2.row WR1.out (fun b hb => by simp))
        clear k2 r2
        have cB := joined_any 8 kids (.slice A kids.length c) _ p s PA pc a d o F1 R2.out (by omega) (by omega) W2.out (fun b hb => (HV.out b hb).2)
        rw [← e.out] at cB
        go_wp2_with fail
        refine cB.mono ?_
        intro e3 w9 hpost
        have hpost := Post.pre K2.out S1.out (X' := []) (fun b hb => .inr (.inr (HV.out b (by simpa using hb)).1)) hpost
        clear cB
        cases r with
        | err cc q =>
          obtain ⟨rfl, k⟩ := hpost
          have K9 := Lib.hid k
          clear k
          go_wp2
          exact ⟨rfl, rfl, K9.out⟩
        | ok x9 j9 o9 =>
          obtain ⟨rfl, F2, hrest⟩ := hpost
          have H2 := Lib.hid hrest
          clear hrest
          go_wp2
          go_ret
          exact ⟨rfl, F2, H2.out⟩

theorem alts_all (s : List Int) (hs : s.length ≤ 1000) (hP : Pos s) : ∀ n, n ≤ 6 → AltsC s n := by
  intro n
  induction n with
  | zero => intro hn w p PA pc i out F h hi ho; rw [altsD_eq]; exact alternatives_any 0 hn w p s (fun m hm => by omega) PA pc i _ out F h hs rfl hi hP ho _ rfl
  | succ n ih =>
    intro hn w p PA pc i out F h hi ho
    rw [altsD_eq]
    exact alternatives_any (n + 1) hn w p s (fun m hm => by
      have e : n = m := by omega
      subst e
      exact ih (by omega)) PA pc i _ out F h hs rfl hi hP ho _ rfl

end Go.Proofs.YtdkjfppjbkdelaaGreatDoor
