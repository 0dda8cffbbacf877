/- The specification's reader of patterns: bracket. Conditions: at most 1000 code points. -/
import Derived.Test.YtimmbllhjmponaaDoorRxS9f
namespace Go.Proofs.YtimmbllhjmponaaDoor
set_option linter.unusedVariables false
open Go.RowKit

def SBrRel (s : List Int) (T : It) (neg : Bool) (q : Nat) (w : World) (p : Nat) (PA : Option Addr) (pc d : Nat) (nv : Value) (v5 : Value) (wr : World) : Prop :=
  ∃ (first : Bool) (a f : Nat) (set : List Int) (v : Value), v5 = .bool first ∧ BrSt w p q s PA pc d nv neg a set v wr ∧ itemsR s f a first set = T ∧ s.length < a + f ∧ a ≤ s.length ∧ set.length ≤ 8 * a

set_option maxHeartbeats 8000000 in
set_option maxRecDepth 100000 in
theorem sbracket_any (M : Nat) (w : World) (p : Nat) (s : List Int) (PA : Option Addr) (pc i d : Nat) (out : List Nd) (F : List Nat) (h : SRd w p s PA pc i 0 0 d out F) (hs : s.length ≤ 1000) (ho : out.length ≤ 10000) (hM : out.length ≤ M) (hi : i < s.length) (hP : Pos s) (r : Rd) (hr : Hid (bracketR s i out = r)) :
    Calls Tryd.prog 51 #[.pointer (some ⟨p, 0, none⟩)] w (SPost M w p s PA pc d F [] r) := by
  obtain ⟨i0, hi0, hz0, hz1, hz2⟩ := info_parts Tryd.infoInt
  obtain ⟨nv, hR, hback⟩ := h.rs
  have HF := Lib.hid h.range
  have HB := Lib.hid hback
  obtain ⟨c0, c1, c2, c3, c4, c5⟩ := hR.cell
  have f1 := hR.frozen 1
  have hp := hR.lt
  obtain ⟨m, hm⟩ : ∃ m, i + 1 = m := ⟨_, rfl⟩
  have hzi : (i : Int) + 1 = (m : Int) := by omega
  have hml : m ≤ s.length := by omega
  have hsz : (w.setCell ⟨p, 1, none⟩ (.int .i64 (m : Int))).heap.size = w.heap.size := setCell_size' _ _ _
  have hA : Keep [] (w.setCell ⟨p, 1, none⟩ (.int .i64 (m : Int))) ((w.setCell ⟨p, 1, none⟩ (.int .i64 (m : Int))).alloc (.cells #[.int .i64 4, .int .i64 0, .int .i64 0, .bool false, .slice none 0 0, .slice none 0 0] 49)) := (Keep.refl [] _).alloc _
  have K1 := Lib.hid ((hR.keepSet 1 (.int .i64 (m : Int))).tr hA.nil)
  have R1 := Lib.hid ((hR.set1 m).keep0 hA)
  have S1 : Hid (Six ((w.setCell ⟨p, 1, none⟩ (.int .i64 (m : Int))).alloc (.cells #[.int .i64 4, .int .i64 0, .int .i64 0, .bool false, .slice none 0 0, .slice none 0 0] 49)) w.heap.size 49 (.int .i64 4) (.int .i64 0) (.int .i64 0) (.bool false) (.slice none 0 0) (.slice none 0 0)) := by rw [← hsz]; exact heap_alloc_new _ _
  obtain ⟨T, hT⟩ : ∃ T, itemsR s (s.length + 1) (if pk s m = 94 then i + 2 else m) true [] = T := ⟨_, rfl⟩
  have er : Hid (r = brPost out i (decide (pk s m = 94)) T) := by
    show r = _
    rw [← hr.out, ← hT]
    unfold bracketR
    rw [hm]
    cases itemsR s (s.length + 1) (if pk s m = 94 then i + 2 else m) true [] <;> rfl
  have HM := Lib.hid hm
  have HT0 := Lib.hid hT
  clear hR hback h hA hm hT
  go_enter Tryd.func51, Tryd.ntmps51
  go_wp2_with fail
  refine (peek_any _ p s PA pc m 0 0 d nv R1.out hs (by omega)).mono ?_
  rintro e w2 ⟨rfl, k2, r2⟩
  have K2 := Lib.hid (K1.out.tr k2.nil)
  have R2 := Lib.hid r2
  have S2 := Lib.hid (S1.out.keep k2 (by simp))
  obtain ⟨q, hq⟩ : ∃ q, w.heap.size = q := ⟨_, rfl⟩
  have hqw : w.heap.size ≤ q := by omega
  have hpq : p < q := by omega
  rw [hq] at S2 ⊢
  obtain ⟨x, hx⟩ : ∃ x, pk s m = x := ⟨_, rfl⟩
  rw [hx] at er HT0 ⊢
  have HX := Lib.hid hx
  have Q0 := Lib.hid hq
  clear k2 r2 c0 c1 c2 c3 c4 c5 f1 K1 R1 S1 hsz hq hx
  go_upto_if 25 with fail
  go_cut [] (fun wx => Keep [p] w wx ∧ Six wx q 49 (.int .i64 4) (.int .i64 0) (.int .i64 0) (.bool (decide (x = 94))) (.slice none 0 0) (.slice none 0 0) ∧ Ss wx p s PA pc (if x = 94 then i + 2 else m) 0 0 d nv)
  case first =>
    by_cases h94 : x = 94
    · obtain ⟨c0, c1, c2, c3, c4, c5⟩ := R2.out.cell
      have f1 := R2.out.frozen 1
      have g3 := S2.out.frozen 3
      obtain ⟨u0, u1, u2, u3, u4, u5⟩ := S2.out.cells
      obtain ⟨m2, hm2⟩ : ∃ m2, m + 1 = m2 := ⟨_, rfl⟩
      have hzm : (m : Int) + 1 = (m2 : Int) := by omega
      have hm3 : i + 2 = m2 := by have := HM.out; omega
      have kq : Keep [q] w2 (w2.setCell ⟨q, 3, none⟩ (.bool true)) := (Keep.refl [q] w2).setCell (.inl (by simp)) _
      have R3 := R2.out.keep kq (fun b hb => by simp at hb; omega)
      have kS := R3.keepSet 1 (.int .i64 (m2 : Int))
      have H : Hid (Keep [p] w ((w2.setCell ⟨q, 3, none⟩ (.bool true)).setCell ⟨p, 1, none⟩ (.int .i64 (m2 : Int))) ∧ Six ((w2.setCell ⟨q, 3, none⟩ (.bool true)).setCell ⟨p, 1, none⟩ (.int .i64 (m2 : Int))) q 49 (.int .i64 4) (.int .i64 0) (.int .i64 0) (.bool true) (.slice none 0 0) (.slice none 0 0) ∧ Ss ((w2.setCell ⟨q, 3, none⟩ (.bool true)).setCell ⟨p, 1, none⟩ (.int .i64 (m2 : Int))) p s PA pc m2 0 0 d nv) :=
        ⟨(K2.out.trans kq (fun b hb => by simp at hb; exact .inr (by omega))).tr kS, (S2.out.set3 _).keep kS (by simp; omega), R3.set1 m2⟩
      have HM3 := Lib.hid hm3
      clear hm2 hm3 kq R3 kS
      subst h94
      go_wp2_with fail
      go_meet
      case rel =>
        refine ⟨H.out.1, H.out.2.1, ?_⟩
        rw [if_pos rfl, HM3.out]
        exact H.out.2.2
    · go_wp2_with fail
      go_meet
      case rel =>
        refine ⟨K2.out, ?_, ?_⟩
        · rw [decide_eq_false h94]; exact S2.out
        · rw [if_neg h94]; exact R2.out
  case rest =>
    obtain ⟨k3, s3, r3⟩ := hcut
    obtain ⟨neg, hneg⟩ : ∃ neg, decide (x = 94) = neg := ⟨_, rfl⟩
    obtain ⟨a0, ha0⟩ : ∃ a0, (if x = 94 then i + 2 else m) = a0 := ⟨_, rfl⟩
    rw [hneg] at er s3
    rw [ha0] at HT0 r3
    have hal0 : a0 ≤ s.length := by
      rw [← ha0]
      split
      · have := lt_of_pk (s := s) (i := m) (by have := HX.out; omega); have := HM.out; omega
      · exact hml
    have K3 := Lib.hid k3
    have S3 := Lib.hid s3
    have R3 := Lib.hid r3
    clear k3 s3 r3 hneg ha0 K2 S2 R2 HX
    go_wp2
    go_loopw [5] (SBrRel s T neg q w p PA pc d nv) (fun _ wr => s.length + 1 - atOfS p wr)
    case atStart => exact ⟨true, a0, s.length + 1, [], _, rfl, ⟨S3.out, row_nilS _ _, (fun b hb => by cases hb), K3.out, R3.out⟩, HT0.out, by omega, hal0, by simp⟩
    case round =>
      obtain ⟨first, a, f, set, v, rfl, hst, hit, hf, hal, hsl⟩ := hrel
      obtain ⟨f, rfl⟩ : ∃ g, f = g + 1 := ⟨f - 1, by omega⟩
      have HA := Lib.hid hst.ss.atOf
      have ST := Lib.hid hst
      have HT := Lib.hid hit
      clear S3 K3 R3 hst hit
      cases first with
      | true =>
        have HNE : Hid (¬ (true = false ∧ pk s a = 93)) := by show ¬ (_ ∧ _); simp
        have hi8 := items_on (s := s) (f := f) (a := a) (b := true) (set := set) HNE.out
        rw [HT.out] at hi8
        have HI := Lib.hid hi8
        clear hi8
        go_upto_region 999 with (first | with_reducible refine stopAt 10 ?_ | with_reducible refine stopAt2 10 ?_)
        change Code.wp _ _ _ _ _
        refine br10 hp hqw hs hi hP hM HB er ST.out HI hal hsl ?_ ?_ ?_
        · refine Lib.hid (fun _ _ _ _ _ _ _ _ _ _ _ _ _ _ _ _ _ _ _ _ _ _ _ _ _ _ _ _ _ _ _ _ _ _ _ _ _ _ _ _ _ _ _ _ _ _ _ _ _ _ _ _ _ _ _ _ _ _ _ _ _ _ _ _ _ _ _ _ _ _ _ _ _ _ _ _ _ _ _ _ _ _ _ _ _ _ _ _ _ _ _ _ _ _ _ _ _ _ _ _ _ _ _ _ _ _ _ _ _ _ _ _ _ _ _ _ _ _ _ _ _ _ _ _ _ _ _ _ _ _ _ _ _ _ _ _ _ _ _ _ _ _ _ _ _ _ _ _ _ _ _ _ _ _ _ _ _ _ _ _ _ _ _ _ _ _ _ _ _ _ _ _ _ _ _ _ _ _ _ _ _ _ _ _ _ _ _ _ _ _ _ _ _ _ _ _ _ _ _ _ _ _ _ _ _ _ _ _ _ _ _ w9 h9 => ?_)
          obtain ⟨j, set', v', st, hT', haj, hjl, hsl'⟩ := h9
          have HS := Lib.hid st
          have HT9 := Lib.hid hT'
          clear st hT'
          try dsimp only
          go_wp2
          go_roundw
          case rel => exact ⟨false, j, f, set', v', rfl, HS.out, HT9.out.symm, by omega, hjl, hsl'⟩
          case measure => rw [HS.out.ss.atOf, HA.out]; omega
        · refine Lib.hid (fun _ _ _ _ _ _ _ _ _ _ _ _ _ _ _ _ _ _ _ _ _ _ _ _ _ _ _ _ _ _ _ _ _ _ _ _ _ _ _ _ _ _ _ _ _ _ _ _ _ _ _ _ _ _ _ _ _ _ _ _ _ _ _ _ _ _ _ _ _ _ _ _ _ _ _ _ _ _ _ _ _ _ _ _ _ _ _ _ _ _ _ _ _ _ _ _ _ _ _ _ _ _ _ _ _ _ _ _ _ _ _ _ _ _ _ _ _ _ _ _ _ _ _ _ _ _ _ _ _ _ _ _ _ _ _ _ _ _ _ _ _ _ _ _ _ _ _ _ _ _ _ _ _ _ _ _ _ _ _ _ _ _ _ _ _ _ _ _ _ _ _ _ _ _ _ _ _ _ _ _ _ _ _ _ _ _ _ _ _ _ _ _ _ _ _ _ _ _ _ _ _ _ _ _ _ _ _ _ _ _ _ w9 h9 => ?_)
          obtain ⟨j, set', v', st, hT', haj, hjl, hsl'⟩ := h9
          have HS := Lib.hid st
          have HT9 := Lib.hid hT'
          clear st hT'
          try dsimp only
          go_wp2
          go_roundw
          case rel => exact ⟨false, j, f, set', v', rfl, HS.out, HT9.out.symm, by omega, hjl, hsl'⟩
          case measure => rw [HS.out.ss.atOf, HA.out]; omega
        · refine Lib.hid (fun _ _ _ _ _ _ _ _ _ _ _ _ _ _ _ _ _ _ _ _ _ _ _ _ _ _ _ _ _ _ _ _ _ _ _ _ _ _ _ _ _ _ _ _ _ _ _ _ _ _ _ _ _ _ _ _ _ _ _ _ _ _ _ _ _ _ _ _ _ _ _ _ _ _ _ _ _ _ _ _ _ _ _ _ _ _ _ _ _ _ _ _ _ _ _ _ _ _ _ _ _ _ _ _ _ _ _ _ _ _ _ _ _ _ _ _ _ _ _ _ _ _ _ _ _ _ _ _ _ _ _ _ _ _ _ _ _ _ _ _ _ _ _ _ _ _ _ _ _ _ _ _ _ _ _ _ _ _ _ _ _ _ _ _ _ _ _ _ _ _ _ _ _ _ _ _ _ _ _ _ _ _ _ _ _ _ _ _ _ _ _ _ _ _ _ _ _ _ _ _ _ _ _ _ _ _ _ _ _ _ _ w9 h9 => ?_)
          try dsimp only
          go_wp2
          go_ret
          exact h9
      | false =>
        obtain ⟨y, hy⟩ : ∃ y, pk s a = y := ⟨_, rfl⟩
        have HY := Lib.hid hy
        clear hy
        go_wp2_with fail
        refine (peek_any _ p s PA pc a 0 0 d nv ST.out.ss hs (by omega)).mono ?_
        rintro e w2b ⟨rfl, k2, r2⟩
        rw [HY.out]
        have SB := Lib.hid (ST.out.go k2)
        clear k2 r2
        by_cases h93 : y = 93
        · subst h93
          have HTE : Hid (T = .ok set (a + 1)) := by show T = _; rw [← HT.out]; exact items_end HY.out
          obtain ⟨m2, hm2⟩ : ∃ m2, a + 1 = m2 := ⟨_, rfl⟩
          rw [hm2] at HTE
          have hzm : (a : Int) + 1 = (m2 : Int) := by omega
          obtain ⟨A, c, rfl⟩ := own_form SB.out.row
          obtain ⟨c0, c1, c2, c3, c4, c5⟩ := SB.out.ss.cell
          have f1 := SB.out.ss.frozen 1
          have H := Lib.hid (SB.out.at hp hqw (SB.out.ss.keepSet 1 (.int .i64 (m2 : Int))) (SB.out.ss.set1 m2))
          obtain ⟨e0, e1, e2, e3, e4, e5⟩ := H.out.six.cells
          have cA := put_any (setNode neg set) (.slice A set.length c) (.slice none 0 0) _ p s PA pc m2 0 0 d out F (HB.out _ _ _ _ _ H.out.ss H.out.keep) (by omega) H.out.row (row_nilS _ _) (fun b hb hm => by have := (H.out.own b hb).1; have := (HF.out b hm).2; omega) (fun b hb => by cases hb) (fun b hb => by simp [Value.ownBlock])
          simp only [setNode] at cA
          clear hm2
          go_wp2_with fail
          refine cA.mono ?_
          rintro e w4 ⟨rfl, F', g2, g3, g4⟩
          have G := Lib.hid (And.intro g2 (And.intro g3 g4))
          clear g2 g3 g4 cA c0 c1 c2 c3 c4 c5 e0 e1 e2 e3 e4 e5 f1
          go_wp2
          go_ret
          obtain ⟨g2, g3, g4⟩ := G.out
          rw [er.out, HTE.out]
          refine ⟨rfl, F', g2, (H.out.keep.mono fun b hb => by simp at hb; simp [hb]).tr g3, fun b hb => ?_⟩
          rcases g4 b hb with g | g | g | g
          · exact .inl g
          · exact .inr (.inr (H.out.own b g).1)
          · cases g
          · exact .inr (.inr (Nat.le_trans H.out.keep.size g))
        · have HNE : Hid (¬ (false = false ∧ pk s a = 93)) := by show ¬ (_ ∧ _); rw [HY.out]; exact fun h => h93 h.2
          have hi8 := items_on (s := s) (f := f) (a := a) (b := false) (set := set) HNE.out
          rw [HT.out] at hi8
          have HI := Lib.hid hi8
          clear hi8
          go_upto_region 999 with (first | with_reducible refine stopAt 10 ?_ | with_reducible refine stopAt2 10 ?_)
          change Code.wp _ _ _ _ _
          refine br10 hp hqw hs hi hP hM HB er SB.out HI hal hsl ?_ ?_ ?_
          · refine Lib.hid (fun _ _ _ _ _ _ _ _ _ _ _ _ _ _ _ _ _ _ _ _ _ _ _ _ _ _ _ _ _ _ _ _ _ _ _ _ _ _ _ _ _ _ _ _ _ _ _ _ _ _ _ _ _ _ _ _ _ _ _ _ _ _ _ _ _ _ _ _ _ _ _ _ _ _ _ _ _ _ _ _ _ _ _ _ _ _ _ _ _ _ _ _ _ _ _ _ _ _ _ _ _ _ _ _ _ _ _ _ _ _ _ _ _ _ _ _ _ _ _ _ _ _ _ _ _ _ _ _ _ _ _ _ _ _ _ _ _ _ _ _ _ _ _ _ _ _ _ _ _ _ _ _ _ _ _ _ _ _ _ _ _ _ _ _ _ _ _ _ _ _ _ _ _ _ _ _ _ _ _ _ _ _ _ _ _ _ _ _ _ _ _ _ _ _ _ _ _ _ _ _ _ _ _ _ _ _ _ _ _ _ _ w9 h9 => ?_)
            obtain ⟨j, set', v', st, hT', haj, hjl, hsl'⟩ := h9
            have HS := Lib.hid st
            have HT9 := Lib.hid hT'
            clear st hT'
            try dsimp only
            go_wp2
            go_roundw
            case rel => exact ⟨false, j, f, set', v', rfl, HS.out, HT9.out.symm, by omega, hjl, hsl'⟩
            case measure => rw [HS.out.ss.atOf, HA.out]; omega
          · refine Lib.hid (fun _ _ _ _ _ _ _ _ _ _ _ _ _ _ _ _ _ _ _ _ _ _ _ _ _ _ _ _ _ _ _ _ _ _ _ _ _ _ _ _ _ _ _ _ _ _ _ _ _ _ _ _ _ _ _ _ _ _ _ _ _ _ _ _ _ _ _ _ _ _ _ _ _ _ _ _ _ _ _ _ _ _ _ _ _ _ _ _ _ _ _ _ _ _ _ _ _ _ _ _ _ _ _ _ _ _ _ _ _ _ _ _ _ _ _ _ _ _ _ _ _ _ _ _ _ _ _ _ _ _ _ _ _ _ _ _ _ _ _ _ _ _ _ _ _ _ _ _ _ _ _ _ _ _ _ _ _ _ _ _ _ _ _ _ _ _ _ _ _ _ _ _ _ _ _ _ _ _ _ _ _ _ _ _ _ _ _ _ _ _ _ _ _ _ _ _ _ _ _ _ _ _ _ _ _ _ _ _ _ _ _ w9 h9 => ?_)
            obtain ⟨j, set', v', st, hT', haj, hjl, hsl'⟩ := h9
            have HS := Lib.hid st
            have HT9 := Lib.hid hT'
            clear st hT'
            try dsimp only
            go_wp2
            go_roundw
            case rel => exact ⟨false, j, f, set', v', rfl, HS.out, HT9.out.symm, by omega, hjl, hsl'⟩
            case measure => rw [HS.out.ss.atOf, HA.out]; omega
          · refine Lib.hid (fun _ _ _ _ _ _ _ _ _ _ _ _ _ _ _ _ _ _ _ _ _ _ _ _ _ _ _ _ _ _ _ _ _ _ _ _ _ _ _ _ _ _ _ _ _ _ _ _ _ _ _ _ _ _ _ _ _ _ _ _ _ _ _ _ _ _ _ _ _ _ _ _ _ _ _ _ _ _ _ _ _ _ _ _ _ _ _ _ _ _ _ _ _ _ _ _ _ _ _ _ _ _ _ _ _ _ _ _ _ _ _ _ _ _ _ _ _ _ _ _ _ _ _ _ _ _ _ _ _ _ _ _ _ _ _ _ _ _ _ _ _ _ _ _ _ _ _ _ _ _ _ _ _ _ _ _ _ _ _ _ _ _ _ _ _ _ _ _ _ _ _ _ _ _ _ _ _ _ _ _ _ _ _ _ _ _ _ _ _ _ _ _ _ _ _ _ _ _ _ _ _ _ _ _ _ _ _ _ _ _ _ w9 h9 => ?_)
            try dsimp only
            go_wp2
            go_ret
            exact h9

end Go.Proofs.YtimmbllhjmponaaDoor
