/- The program's reader of patterns: alternatives. Conditions: at most 1000 code points. -/
import Derived.Test.YtimmbllhjmponaaDoorRxI12
namespace Go.Proofs.YtimmbllhjmponaaDoor
set_option linter.unusedVariables false
open Go.RowKit

set_option maxHeartbeats 8000000 in
set_option maxRecDepth 100000 in
theorem alternatives_any (n : Nat) (hn : n ≤ 6) (w : World) (p : Nat) (s : List Int) (ih : ∀ m, n = m + 1 → AltsC s m) (PA : Option Addr) (pc i d : Nat) (out : List Nd) (F : List Nat) (h : Rdr w p s PA pc i d out F) (hs : s.length ≤ 1000) (hd : d = 6 - n) (hi : i ≤ s.length) (hP : Pos s) (ho : out.length + 2 * (s.length - i) ≤ 10000) (r : Rd) (hr : Hid (altsR s (innerD s n) i out = r)) :
    Calls Tryd.prog 31 #[.pointer (some ⟨p, 0, none⟩)] w (Post w p s PA pc d F [] r) := by
  obtain ⟨i0, hi0, hz0, hz1, hz2⟩ := info_parts Tryd.infoInt
  have cS := sequence_any n hn w p s ih PA pc i d out F h hs hd hi hP ho _ (show Hid (_ = _) from rfl)
  have HFar := Lib.hid (rowR_far (innerD_far s n) (out := out) hi)
  have HI := Lib.hid ih
  have HD := Lib.hid hd
  have hp0 := h.lt
  clear ih hd h
  go_enter Tryd.func31, Tryd.ntmps31
  go_wp2_with fail
  refine cS.mono ?_
  intro e w1 hpost
  clear cS
  cases hA : rowR s (innerD s n) i out with
  | err cc q =>
    rw [hA] at hpost
    obtain ⟨rfl, k⟩ := hpost
    have e : Hid (r = .err cc q) := by show r = _; rw [← hr.out]; unfold altsR; rw [hA]
    have K2 := Lib.hid k
    clear k hA
    go_wp2
    exact ⟨rfl, by rw [e.out]; exact ⟨rfl, K2.out⟩⟩
  | ok n1 j1 o1 =>
    rw [hA] at hpost
    obtain ⟨rfl, F0, r1, k1, s1⟩ := hpost
    have hfar := HFar.out n1 j1 o1 hA
    have hj1 := hfar.2.1
    have hj2 := hfar.2.2.1
    have hj0 := hfar.1
    have HG0 : Hid (altR s (innerD s n) (s.length + 1) j1 o1 [n1] = r) := by show _ = r; rw [← hr.out]; unfold altsR; rw [hA]
    have hAl : Keep [] w1 (w1.alloc (.cells #[.int .i64 n1] 3)) := (Keep.refl [] w1).alloc _
    have R1 := Lib.hid (r1.keep0 hAl)
    have K1 := Lib.hid (k1.tr hAl.nil)
    have W1 := Lib.hid (row_low (new_ints w1 [n1] (by simp [maxLen])) (show p + 1 ≤ w1.heap.size from r1.lt))
    have V1 : Hid (∀ b, Value.ownBlock (.slice (some ⟨w1.heap.size, 0, none⟩) 1 1) = some b → w.heap.size ≤ b ∧ b ∉ F0) := fun b hb => by
      simp [Value.ownBlock] at hb
      subst hb
      exact ⟨k1.size, fun hm => by have := (r1.range _ hm).2; omega⟩
    have S1 : Hid (∀ b ∈ F0, b ∈ F ∨ w.heap.size ≤ b) := fun b hb => by
      rcases s1 b hb with h | h | h
      · exact .inl h
      · cases h
      · exact .inr h
    clear r1 k1 s1 hA hfar hAl
    go_wp2
    go_loopw [3] (KidRel 10001 (altR s (innerD s n)) s r w p PA pc d F) (fun _ wr => s.length + 1 - atOf p wr)
    case atStart => exact ⟨[n1], j1, s.length + 1, o1, F0, W1.out, V1.out, R1.out, K1.out, S1.out, HG0.out, by omega, hj1, by simp, by omega⟩
    case round =>
      obtain ⟨kids, a, f, o, F1, hrow, hv, hrd, hk, hF, hG, hf, hal, hkl, hol⟩ := hrel
      obtain ⟨f, rfl⟩ : ∃ g, f = g + 1 := ⟨f - 1, by omega⟩
      clear R1 K1 W1 V1 S1 HG0
      obtain ⟨A, c, rfl⟩ := own_form hrow
      have HA := Lib.hid hrd.atOf
      have HV := Lib.hid hv
      have S1 := Lib.hid hF
      have HG := Lib.hid hG
      have K1 := Lib.hid hk
      have R1 := Lib.hid hrd
      have WR1 := Lib.hid hrow
      clear hrow hv hrd hk hF hG
      by_cases h124 : pk s a = 124
      · have hal2 : a < s.length := lt_of_pk (by omega)
        have H124 := Lib.hid h124
        clear h124
        go_wp2_with fail
        refine (rd_take_yes 124 R1.out hs (by omega) H124.out).mono ?_
        rintro e w2 ⟨rfl, k2, r2⟩
        have K2 := Lib.hid (K1.out.tr (kp k2))
        have R2 := Lib.hid r2
        have W2 := Lib.hid (k2.row WR1.out (fun b hb => by have := (World.ownsRow.lt WR1.out b hb).1; simp; omega))
        have HFar2 := Lib.hid (rowR_far (innerD_far s n) (i := a + 1) (out := o) (by omega))
        have hG2 : r = match rowR s (innerD s n) (a + 1) o with | .err c p => .err c p | .ok n' j o => altR s (innerD s n) f j o (kids ++ [n']) := by
          rw [← HG.out, altR, if_pos H124.out]
          cases rowR s (innerD s n) (a + 1) o <;> rfl
        have HG2 := Lib.hid hG2
        have cP := sequence_any n hn w2 p s HI.out PA pc (a + 1) d o F1 r2 hs HD.out (by omega) hP (by omega) _ (show Hid (_ = _) from rfl)
        clear k2 r2 hG2
        go_wp2_with fail
        refine cP.mono ?_
        intro e w5 hpost
        clear cP
        cases hA : rowR s (innerD s n) (a + 1) o with
        | err cc q =>
          rw [hA] at hpost
          have hpost := Post.pre K2.out S1.out (X' := []) (fun b hb => by cases hb) hpost
          obtain ⟨rfl, k⟩ := hpost
          have e : Hid (r = .err cc q) := by show r = _; rw [HG2.out, hA]
          have K5 := Lib.hid k
          clear k hA
          go_wp2
          exact ⟨rfl, by rw [e.out]; exact ⟨rfl, K5.out⟩⟩
        | ok kid j o2 =>
          rw [hA] at hpost
          obtain ⟨rfl, F2, r5, k5, s5⟩ := hpost
          have hfar := HFar2.out kid j o2 hA
          have hj0' := hfar.1
          have hj1' := hfar.2.1
          have hj2' := hfar.2.2.1
          have HG3 : Hid (r = altR s (innerD s n) f j o2 (kids ++ [kid])) := by show r = _; rw [HG2.out, hA]
          have W5 := Lib.hid (k5.row W2.out (fun b hb hm => by
            rcases List.mem_cons.1 hm with h | h
            · have := (World.ownsRow.lt WR1.out b hb).1; omega
            · exact (HV.out b hb).2 h))
          have HV5 : Hid (∀ b, Value.ownBlock (.slice A kids.length c) = some b → w.heap.size ≤ b ∧ b ∉ F2) := fun b hb => ⟨(HV.out b hb).1, fun hm => by
            rcases s5 b hm with h | h | h
            · exact (HV.out b hb).2 h
            · cases h
            · have := (World.ownsRow.lt W2.out b hb).2; omega⟩
          have S5 : Hid (∀ b ∈ F2, b ∈ F ∨ w.heap.size ≤ b) := fun b hb => by
            rcases s5 b hb with h | h | h
            · exact S1.out b h
            · cases h
            · exact .inr (Nat.le_trans K2.out.size h)
          have K5 := Lib.hid (K2.out.trans k5 (fun b hb => by
            rcases List.mem_cons.1 hb with rfl | hb
            · exact .inl (by simp)
            · rcases S1.out b hb with h | h
              · exact .inl (List.mem_cons_of_mem _ h)
              · exact .inr h))
          have R5 := Lib.hid r5
          have z5 : p + 1 ≤ w5.heap.size := r5.lt
          clear r5 k5 s5 hA hfar
          go_wp2_with (at_builtin; refine list_append_own rfl _ _ 31 rfl (p + 1) 3 i0 (.int .i64 0) 1 8 Tryd.underlying31 hi0 hz0 hz1 hz2 rfl (by decide) (.slice A kids.length c) kids.length (kids.map (Value.int .i64)) rfl (W5.out.alloc _) ⟨w5.heap.size, 0, none⟩ 1 1 [.int .i64 kid] rfl rfl (new_one_int w5 kid 3) (fun u hu => by simp at hu; subst hu; rfl) (by unfold maxLen; omega) (by omega) (by rw [alloc_size1]; omega) ?_; intro v6 w6 hown6 hgrow6 hblk6; obtain ⟨A6, c6, rfl⟩ := own_form hown6)
          have H6 := Lib.hid (kid_more hp0 R5.out K5.out S5.out HV5.out hown6 hgrow6 hblk6)
          clear hown6 hgrow6 hblk6
          go_roundw
          case rel => exact ⟨kids ++ [kid], j, f, o2, F2, H6.out.1, H6.out.2.1, H6.out.2.2.1, H6.out.2.2.2, S5.out, HG3.out.symm, by omega, hj1', by simp; omega, by omega⟩
          case measure => rw [H6.out.2.2.1.atOf, HA.out]; omega
      · have H124 := Lib.hid h124
        have e : Hid (r = joinR 8 kids a o) := by show r = _; rw [← HG.out, altR, if_neg h124]
        clear h124
        go_wp2_with fail
        refine (rd_take_no 124 R1.out hs (by omega) H124.out).mono ?_
        rintro e w2 ⟨rfl, k2, r2⟩
        have K2 := Lib.hid (K1.out.tr k2.nil)
        have R2 := Lib.hid r2
        have W2 := Lib.hid (k2.row WR1.out (fun b hb => by simp))
        clear k2 r2
        have cB := joined_any 8 kids (.slice A kids.length c) _ p s PA pc a d o F1 R2.out (by omega) (by omega) W2.out (fun b hb => (HV.out b hb).2)
        rw [← e.out] at cB
        go_wp2_with fail
        refine cB.mono ?_
        intro e3 w9 hpost
        have hpost := Post.pre K2.out S1.out (X' := []) (fun b hb => .inr (.inr (HV.out b (by simpa using hb)).1)) hpost
        clear cB
        cases r with
        | err cc q =>
          obtain ⟨rfl, k⟩ := hpost
          have K9 := Lib.hid k
          clear k
          go_wp2
          exact ⟨rfl, rfl, K9.out⟩
        | ok x9 j9 o9 =>
          obtain ⟨rfl, F2, hrest⟩ := hpost
          have H2 := Lib.hid hrest
          clear hrest
          go_wp2
          go_ret
          exact ⟨rfl, F2, H2.out⟩

theorem alts_all (s : List Int) (hs : s.length ≤ 1000) (hP : Pos s) : ∀ n, n ≤ 6 → AltsC s n := by
  intro n
  induction n with
  | zero => intro hn w p PA pc i out F h hi ho; rw [altsD_eq]; exact alternatives_any 0 hn w p s (fun m hm => by omega) PA pc i _ out F h hs rfl hi hP ho _ rfl
  | succ n ih =>
    intro hn w p PA pc i out F h hi ho
    rw [altsD_eq]
    exact alternatives_any (n + 1) hn w p s (fun m hm => by
      have e : n = m := by omega
      subst e
      exact ih (by omega)) PA pc i _ out F h hs rfl hi hP ho _ rfl

end Go.Proofs.YtimmbllhjmponaaDoor
