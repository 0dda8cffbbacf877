/- spec.l05Read, spec.RxRead read a pattern. Conditions: at most 1048576 bytes. -/
import Derived.Test.YtdkjfppjbkdelaaGreatDoorRxSJ
import Derived.Test.YtdkjfppjbkdelaaGreatDoorRxIF
import Derived.Test.YtdkjfppjbkdelaaGreatDoorSpecRunesA
import Derived.Test.YtdkjfppjbkdelaaGreatDoorRxSizeA
import Derived.StillTailTactics
import Derived.Deep.RegionHeld3
namespace Go.Proofs.YtdkjfppjbkdelaaGreatDoor
set_option linter.unusedVariables false
set_option linter.unusedSimpArgs false
open Go.RowKit

theorem wholeS_at {s : List Int} (hP : Pos s) {n : Int} {j : Nat} {o : List Nd} (h : altsS s true (innerS s 6) 0 [] = .ok n j o) : j = s.length ∧ altsD s 6 0 [] = .ok n j o := by
  rw [altsS_eq hP (innerD_far s 6) (innerS_ag hP 6) true (Nat.zero_le _), ← altsD_eq] at h
  cases ha : altsD s 6 0 [] with
  | err c p => rw [ha] at h; cases h
  | ok n2 j2 o2 =>
    rw [ha] at h
    unfold upT at h
    simp only at h
    split at h
    · cases h
    · next hne =>
      cases h
      refine ⟨?_, rfl⟩
      have hb : pk s j ≠ 124 := by rw [altsD_eq] at ha; exact altsR_bar ha
      have hf := innerD_far s 7 _ rfl 0 [] (Nat.zero_le _) n j o ha
      have he : pk s j = 0 ∨ pk s j = 124 ∨ pk s j = 41 := by simpa [ends] using hf.2.2.2.2.2.2
      have h0 : pk s j = 0 := by
        rcases he with h | h | h
        · exact h
        · exact absurd h hb
        · exact (hne (by simp [h])).elim
      have := hP.zero.1 h0
      omega

theorem ReadIs.no {c : Int} {q : Nat} {w w' : World} (hk : Keep [] w w') : ReadIs (.err c q) w (.returned (.tuple #[.agg #[.slice none 0 0], .int .i64 q, .int .i64 c])) w' := ⟨rfl, hk⟩
theorem ReadIs.sp {r : Rd} {w w' : World} {e : Ending} (h : ReadIs r w e w') : SpIs r w e w' := by
  obtain ⟨nv, xs, h1, h2, h3⟩ := h.one
  obtain ⟨A, c, rfl, N⟩ := h2.nodes
  exact ⟨A, c, h1, N, h3⟩

set_option maxHeartbeats 8000000 in
set_option maxRecDepth 100000 in
theorem sread_any (t : ByteArray) (most : Nat) (w : World) (ht : t.size ≤ 1048576) (hmost : most ≤ 100000) (r : Rd) (hr : Hid (rxR t most = r)) :
    Calls Tryz.prog 56 #[.string t, .int .i64 most] w (ReadIs r w) := by
  have hA : Keep [] w (w.alloc (.cells #[.slice none 0 0] 27)) := (Keep.refl [] w).alloc _
  have cR := specRunes t (w.alloc (.cells #[.slice none 0 0] 27)) ht
  have x0 := heap_alloc_new w (.cells #[.slice none 0 0] 27)
  cases hl : runesOf t with
  | none =>
    rw [hl] at cR
    have e : Hid (r = .err 1 0) := by show r = _; rw [← hr.out]; unfold rxR; rw [hl]
    go_enter Tryz.func56, Tryz.ntmps56
    go_wp2_with fail
    refine cR.mono ?_
    rintro e w1 ⟨v, rfl, hown, hb⟩
    have y0 : w1.heap[w.heap.size]? = _ := (hb.block w.heap.size (by rw [alloc_size1]; omega)).trans x0
    have d0 : w1.cell? ⟨w.heap.size, 0, none⟩ = some (.slice none 0 0) := by rw [cell_of_row _ _ _ _ _ _ y0]; rfl
    have e0 := frozen_of_row w1 _ 0 _ _ y0
    have K1 := Lib.hid (hA.tr (Keep.ofBelow hb))
    simp only [Option.isSome]
    clear cR hA x0 hown hb hl
    go_wp2
    refine bodyPost_ret (v := .tuple #[.agg #[.slice none 0 0], .int .i64 0, .int .i64 1]) (by simp [results, Tryz.results56, go_sem, d0]) rfl ?_
    rw [e.out]
    exact ReadIs.no (K1.out.setCell (.inr (Nat.le_refl _)) _)
  | some l =>
    rw [hl] at cR
    obtain ⟨hP, hl1⟩ := runes_small hl
    have er : Hid (r = if most < l.length then .err 1 0 else wholeS l) := by show r = _; rw [← hr.out, wholeS_eq hP]; unfold rxR; rw [hl]
    go_enter Tryz.func56, Tryz.ntmps56
    go_wp2_with fail
    refine cR.mono ?_
    rintro e w1 ⟨v, rfl, hown, hb⟩
    have hown' : RowI w1 (w.alloc (.cells #[.slice none 0 0] 27)).heap.size v l := hown
    obtain ⟨A, c, rfl⟩ := own_form hown'
    have y0 : w1.heap[w.heap.size]? = _ := (hb.block w.heap.size (by rw [alloc_size1]; omega)).trans x0
    have d0 : w1.cell? ⟨w.heap.size, 0, none⟩ = some (.slice none 0 0) := by rw [cell_of_row _ _ _ _ _ _ y0]; rfl
    have e0 := frozen_of_row w1 _ 0 _ _ y0
    have K1 := Lib.hid (hA.tr (Keep.ofBelow hb))
    have HN := Lib.hid (Nums.own hown')
    have HY := Lib.hid y0
    have hsz : w.heap.size + 1 ≤ w1.heap.size := by have := hb.size; rw [alloc_size1] at this; exact this
    simp only [Option.isSome]
    clear cR hA x0 hown hb hl hown' y0
    by_cases h2 : most < l.length
    · have e : Hid (r = .err 1 0) := by show r = _; rw [er.out, if_pos h2]
      have h2z : (most : Int) < (l.length : Int) := by omega
      have h2b : decide (most < l.length) = true := decide_eq_true h2
      clear er
      go_wp2
      refine bodyPost_ret (v := .tuple #[.agg #[.slice none 0 0], .int .i64 0, .int .i64 1]) (by simp [results, Tryz.results56, go_sem, d0]) rfl ?_
      rw [e.out]
      exact ReadIs.no (K1.out.setCell (.inr (Nat.le_refl _)) _)
    · have e : Hid (r = wholeS l) := by show r = _; rw [er.out, if_neg h2]
      have h2z : ¬ (most : Int) < (l.length : Int) := by omega
      have h2b : decide (most < l.length) = false := decide_eq_false h2
      clear er
      obtain ⟨p, hp⟩ : ∃ p, w1.heap.size = p := ⟨_, rfl⟩
      have kB : Keep [] w1 (w1.alloc (.cells #[.slice A l.length c, .int .i64 0, .int .i64 0, .int .i64 0, .int .i64 0, .slice none 0 0] 146)) := (Keep.refl [] w1).alloc _
      have hS : SRd (w1.alloc (.cells #[.slice A l.length c, .int .i64 0, .int .i64 0, .int .i64 0, .int .i64 0, .slice none 0 0] 146)) p l A c 0 0 0 0 [] (foot (.slice none 0 0) []) :=
        ⟨.slice none 0 0, [], ⟨by rw [← hp]; exact heap_alloc_new w1 _, by rw [← hp]; exact kB.nums HN.out (Nat.le_refl _) (fun b hb => by cases hb)⟩, Own6.nil _ _, rfl⟩
      have K2 := Lib.hid (K1.out.tr kB)
      have cA := salts_all l hl1 hP 6 (Nat.le_refl _) _ p A c 0 [] _ hS (Nat.zero_le _) (by simp; omega)
      have h66 : decide ((6 : Nat) = 6) = true := rfl
      rw [h66] at cA
      have hpw : w.heap.size + 1 ≤ p := by omega
      have HPz := Lib.hid hp
      have HKB := Lib.hid kB
      clear h66 kB hS hp
      go_wp2_with fail
      rw [HPz.out]
      refine cA.mono ?_
      intro e2 w2 hpost
      clear cA
      have hft : foot (.slice none 0 0) ([] : List (Value × Value)) = [] := rfl
      rw [hft] at hpost
      have Y2 : ∀ w3 : World, Keep [p] (w1.alloc (.cells #[.slice A l.length c, .int .i64 0, .int .i64 0, .int .i64 0, .int .i64 0, .slice none 0 0] 146)) w3 → w3.heap[w.heap.size]? = some (.cells #[.slice none 0 0] 27 (0, 0)) ∧ Keep [] w w3 := fun w3 k3 => by
        have h1 := (HKB.out.block w.heap.size (by omega) (by simp)).trans HY.out
        refine ⟨(k3.block w.heap.size (by have := HKB.out.size; omega) (by simp; omega)).trans h1, K2.out.trans k3 (fun b hb => ?_)⟩
        simp at hb
        subst hb
        exact .inr (by omega)
      have HY2 := Lib.hid Y2
      clear Y2
      cases ha : altsS l true (innerS l 6) 0 [] with
      | err cc q =>
        rw [ha] at hpost
        obtain ⟨hcc, ⟨v, rfl⟩, j, o, F2, hM2, r2, k2, s2⟩ := hpost
        obtain ⟨y2, kk⟩ := HY2.out w2 k2
        have er2 : Hid (r = .err cc q) := by show r = _; rw [e.out]; unfold wholeS; rw [ha]
        have K3 := Lib.hid kk
        obtain ⟨nv, hR, hb⟩ := r2.rs
        obtain ⟨c0, c1, c2, c3, c4, c5⟩ := hR.cell
        have d0 : w2.cell? ⟨w.heap.size, 0, none⟩ = some (.slice none 0 0) := by rw [cell_of_row _ _ _ _ _ _ y2]; rfl
        have e0 := frozen_of_row w2 _ 0 _ _ y2
        have hccb : (cc == 0) = false := beq_eq_false_iff_ne.2 (by omega)
        have hccn : ¬ cc = 0 := by omega
        clear r2 k2 s2 kk y2 hR hb ha HY2
        go_wp2
        have hne : ¬ w.heap.size = p := by omega
        go_region_held3 (fun w' => w'.cell? ⟨p, 3, none⟩ = some (.int .i64 q) ∧ w'.cell? ⟨p, 2, none⟩ = some (.int .i64 cc)) (go_keep) (fail)
        have K4 := Lib.hid (K3.out.drew)
        go_wp2
        refine bodyPost_ret (v := .tuple #[.agg #[.slice none 0 0], .int .i64 q, .int .i64 cc]) (by simp [results, Tryz.results56, go_sem, d0]) rfl ?_
        rw [er2.out]
        exact ReadIs.no (K4.out.setCell (.inr (Nat.le_refl _)) _)
      | ok x j o =>
        rw [ha] at hpost
        obtain ⟨rfl, F2, r2, k2, s2⟩ := hpost
        obtain ⟨y2, kk⟩ := HY2.out w2 k2
        obtain ⟨hj, hD⟩ := wholeS_at hP ha
        subst hj
        have hbk := altsD_bulk hl1 hD
        have er2 : Hid (r = if 400 < o.length ∨ 1000 < sizeR o then .err 7 l.length else .ok x l.length o) := by show r = _; rw [e.out]; unfold wholeS; rw [ha]
        have K3 := Lib.hid kk
        have Y3 := Lib.hid y2
        obtain ⟨nv, xs, hR, hO, hFe⟩ := r2
        obtain ⟨A2, c2, rfl⟩ := own_form hO.row
        obtain ⟨b0, b1, b2, b3, b4, b5⟩ := hR.cell
        have HO := Lib.hid hO
        have d0 : w2.cell? ⟨w.heap.size, 0, none⟩ = some (.slice none 0 0) := by rw [cell_of_row _ _ _ _ _ _ y2]; rfl
        have e0 := frozen_of_row w2 _ 0 _ _ y2
        have hp2 : p < w2.heap.size := hR.lt
        clear k2 s2 kk y2 hR hO hFe ha hD HY2
        have hne2 : ¬ w.heap.size = w2.heap.size := by omega
        have hne3 : ¬ w2.heap.size = w.heap.size := by omega
        have kC : Keep [] w2 (w2.alloc (.cells #[.slice A2 o.length c2] 27)) := (Keep.refl [] w2).alloc _
        by_cases h4 : 400 < o.length
        · have e4 : Hid (r = .err 7 l.length) := by show r = _; rw [er2.out, if_pos (.inl h4)]
          have h4z : (400 : Int) < (o.length : Int) := by omega
          have h4b : decide (400 < o.length) = true := decide_eq_true h4
          have K4 := Lib.hid (K3.out.tr kC)
          have y4 : (w2.alloc (.cells #[.slice A2 o.length c2] 27)).heap[w.heap.size]? = _ := (kC.block w.heap.size (by omega) (by simp)).trans Y3.out
          have d4 : (w2.alloc (.cells #[.slice A2 o.length c2] 27)).cell? ⟨w.heap.size, 0, none⟩ = some (.slice none 0 0) := by rw [cell_of_row _ _ _ _ _ _ y4]; rfl
          have e5 := frozen_of_row (w2.alloc (.cells #[.slice A2 o.length c2] 27)) _ 0 _ _ y4
          clear er2 kC y4
          go_wp2
          refine bodyPost_ret (v := .tuple #[.agg #[.slice none 0 0], .int .i64 l.length, .int .i64 7]) (by simp [results, Tryz.results56, go_sem, d4]) rfl ?_
          rw [e4.out]
          exact ReadIs.no (K4.out.setCell (.inr (Nat.le_refl _)) _)
        · have h4z : ¬ (400 : Int) < (o.length : Int) := by omega
          have h4b : decide (400 < o.length) = false := decide_eq_false h4
          have N4 := HO.out.at
          have cZ := specSize A2 c2 o (w2.alloc (.cells #[.slice A2 o.length c2] 27)) (by omega) ((N4.below kC.low).up kC.size)
          have xr := heap_alloc_new w2 (.cells #[.slice A2 o.length c2] 27)
          have HX := Lib.hid xr
          have HKC := Lib.hid kC
          clear N4 kC xr
          go_wp2_with fail
          refine cZ.mono ?_
          rintro e w5 ⟨rfl, b5'⟩
          have k5 := Keep.ofBelow b5'
          have y5 : w5.heap[w.heap.size]? = _ := (k5.block w.heap.size (by have := HKC.out.size; omega) (by simp)).trans ((HKC.out.block w.heap.size (by omega) (by simp)).trans Y3.out)
          have x5 : w5.heap[w2.heap.size]? = _ := (k5.block w2.heap.size (by rw [alloc_size1]; omega) (by simp)).trans HX.out
          have d5 : w5.cell? ⟨w.heap.size, 0, none⟩ = some (.slice none 0 0) := by rw [cell_of_row _ _ _ _ _ _ y5]; rfl
          have e5 := frozen_of_row w5 _ 0 _ _ y5
          have u5 : w5.cell? ⟨w2.heap.size, 0, none⟩ = some (.slice A2 o.length c2) := by rw [cell_of_row _ _ _ _ _ _ x5]; rfl
          have K5 := Lib.hid ((K3.out.tr HKC.out).tr k5)
          have O5 := Lib.hid ((HO.out.keep HKC.out (fun b hb => by cases hb)).keep k5 (fun b hb => by cases hb))
          clear cZ b5' k5 y5 x5 d0 e0 b0 b1 b2 b3 b4 b5
          by_cases h1 : 1000 < sizeR o
          · have e4 : Hid (r = .err 7 l.length) := by show r = _; rw [er2.out, if_pos (.inr h1)]
            clear er2
            go_wp2
            refine bodyPost_ret (v := .tuple #[.agg #[.slice none 0 0], .int .i64 l.length, .int .i64 7]) (by simp [results, Tryz.results56, go_sem, d5]) rfl ?_
            rw [e4.out]
            exact ReadIs.no (K5.out.setCell (.inr (Nat.le_refl _)) _)
          · have e4 : Hid (r = .ok x l.length o) := by show r = _; rw [er2.out, if_neg (by omega)]
            have kS : Keep [w.heap.size] w5 (w5.setCell ⟨w.heap.size, 0, none⟩ (.slice A2 o.length c2)) := (Keep.refl _ w5).setCell (.inl (by simp)) _
            have O6 := Lib.hid (O5.out.keep kS (fun b hb hm => by have := (O5.out.range b hm).1; simp at hb; omega))
            clear er2 kS
            go_wp2
            refine bodyPost_ret (v := .tuple #[.agg #[.slice A2 o.length c2], .int .i64 0, .int .i64 0]) (by simp [results, Tryz.results56, go_sem, d5]) rfl ?_
            rw [e4.out]
            exact ⟨_, xs, rfl, O6.out.low (by omega), K5.out.setCell (.inr (Nat.le_refl _)) _⟩

set_option maxHeartbeats 4000000 in
set_option maxRecDepth 100000 in
theorem specRxRead (t : ByteArray) (w : World) (ht : t.size ≤ 1048576) (r : Rd) (hr : Hid (rxR t 200 = r)) :
    Calls Tryz.prog 15 #[.string t] w (ReadIs r w) := by
  have hA : Keep [] w (w.alloc (.cells #[.slice none 0 0] 27)) := (Keep.refl [] w).alloc _
  have x0 := heap_alloc_new w (.cells #[.slice none 0 0] 27)
  have cR := sread_any t 200 (w.alloc (.cells #[.slice none 0 0] 27)) ht (by omega) r hr
  go_enter Tryz.func15, Tryz.ntmps15
  go_wp2_with fail
  refine cR.mono ?_
  intro e w1 hpost
  obtain ⟨nv, xs, rfl, hO, k⟩ := hpost.one
  obtain ⟨A, c, rfl⟩ := own_form hO.row
  have y0 : w1.heap[w.heap.size]? = _ := (k.block w.heap.size (by rw [alloc_size1]; omega) (by simp)).trans x0
  have d0 : w1.cell? ⟨w.heap.size, 0, none⟩ = some (.slice none 0 0) := by rw [cell_of_row _ _ _ _ _ _ y0]; rfl
  have e0 := frozen_of_row w1 _ 0 _ _ y0
  have K1 := Lib.hid (hA.tr k)
  have HO := Lib.hid hO
  have HR := Lib.hid hpost
  obtain ⟨n, hn⟩ : ∃ n, (rxNs r).length = n := ⟨_, rfl⟩
  obtain ⟨q, hq⟩ : ∃ q, rxAt r = q := ⟨_, rfl⟩
  obtain ⟨cc, hc⟩ : ∃ cc, rxCode r = cc := ⟨_, rfl⟩
  have kS : Keep [w.heap.size] w1 (w1.setCell ⟨w.heap.size, 0, none⟩ (.slice A (rxNs r).length c)) := (Keep.refl _ w1).setCell (.inl (by simp)) _
  have O1 := Lib.hid ((hO.keep kS (fun b hb hm => by have := (hO.range b hm).1; rw [alloc_size1] at this; simp at hb; omega)).low (show w.heap.size ≤ _ by rw [alloc_size1]; omega))
  have H3 := Lib.hid (And.intro hn (And.intro hq hc))
  rw [hn, hq, hc]
  rw [hn] at O1
  clear hA x0 cR hO k y0 hn hq hc hpost kS
  go_wp2
  refine bodyPost_ret (v := .tuple #[.agg #[.slice A n c], .int .i64 q, .int .i64 cc]) (by simp [results, Tryz.results15, go_sem, d0]) rfl ?_
  obtain ⟨h1, h2, h3⟩ := H3.out
  cases r with
  | ok x j o =>
    have h2' : q = 0 := h2.symm
    have h3' : cc = 0 := h3.symm
    subst h2' h3'
    exact ⟨_, xs, rfl, O1.out, K1.out.setCell (.inr (Nat.le_refl _)) _⟩
  | err ce qe =>
    have h2' : q = (qe : Int) := h2.symm
    have h3' : cc = ce := h3.symm
    subst h2' h3'
    have hn0 : n = 0 := h1.symm
    subst hn0
    have hsl : Value.slice A 0 c = .slice none 0 0 := by
      have := HR.out.1
      simp [rxNs, rxAt, rxCode] at this
      obtain ⟨rfl, rfl⟩ := this
      rfl
    rw [hsl]
    exact ⟨rfl, K1.out.setCell (.inr (Nat.le_refl _)) _⟩

end Go.Proofs.YtdkjfppjbkdelaaGreatDoor
