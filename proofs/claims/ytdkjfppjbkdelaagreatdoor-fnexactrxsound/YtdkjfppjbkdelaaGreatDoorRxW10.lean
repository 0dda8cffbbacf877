/- impl.RxSound answers as the plain function. Conditions: at most 1048576 elements in all; numbers are ints; the tables of utf8 and strconv lie. -/
import Derived.Test.YtdkjfppjbkdelaaGreatDoorRxW9
import Derived.Test.YtdkjfppjbkdelaaGreatDoorRxIF
namespace Go.Proofs.YtdkjfppjbkdelaaGreatDoor
set_option linter.unusedVariables false
open Go.RowKit

/-- Is it sound? -/
noncomputable def soundB (ns : List Nd) : Bool := @decide (soundP ns) (Classical.propDecidable _)
theorem soundB_iff (ns : List Nd) : soundB ns = true ↔ soundP ns := @decide_eq_true_iff (soundP ns) (Classical.propDecidable _)
theorem soundB_not {ns : List Nd} (h : ¬ soundP ns) : soundB ns = false := by
  cases hq : soundB ns with
  | false => rfl
  | true => exact absurd ((soundB_iff ns).1 hq) h
def ptsT (ns : List Nd) : List Int := (runesOf (bytesT (textI ns))).getD []
theorem soundB_big {ns : List Nd} (h : 400 < ns.length) : soundB ns = false := soundB_not fun hp => by have := hp.1; omega
theorem soundB_err {ns : List Nd} {c : Int} {q : Nat} (h : wholeR (ptsT ns) = .err c q) : soundB ns = false := soundB_not (by
  rintro ⟨_, n, j, e⟩
  have e2 := h.symm.trans e
  cases e2)
theorem soundB_ok {ns o : List Nd} {n : Int} {j : Nat} (hl : ns.length ≤ 400) (h : wholeR (ptsT ns) = .ok n j o) : soundB ns = eqNs o ns := by
  rw [Bool.eq_iff_iff, soundB_iff, eqNs_iff]
  constructor
  · rintro ⟨_, n', j', e⟩
    have e2 := h.symm.trans e
    cases e2
    rfl
  · rintro rfl
    exact ⟨hl, n, j, h⟩
theorem err_not_empty {ns : List Nd} {c : Int} {q : Nat} (h : wholeR (ptsT ns) = .err c q) : 0 < ns.length := by
  rcases Nat.eq_zero_or_pos ns.length with h0 | h0
  · have : ns = [] := List.eq_nil_of_length_eq_zero h0
    subst this
    have e1 : ptsT [] = [] := by decide
    rw [e1] at h
    obtain ⟨n, j, e⟩ := whole_nil
    have e2 := h.symm.trans e
    cases e2
  · exact h0
theorem textI_len (ns : List Nd) : (textI ns).length ≤ 1000 := by
  unfold textI
  split
  · cases hq : W ((textsO ns ns []).getD (ns.length - 1) none) (some []) with
    | none => simp
    | some o => exact W_len hq
  · simp
theorem ptsT_pos (ns : List Nd) : Pos (ptsT ns) ∧ (ptsT ns).length ≤ 1000 := by
  unfold ptsT
  cases h : runesOf (bytesT (textI ns)) with
  | none => exact ⟨fun x hx => (by cases hx), by simp⟩
  | some l => exact runes_small h

theorem rx_bulk {s : List Int} (hs : s.length ≤ 1000) {n : Int} {j : Nat} {o : List Nd} (h : wholeR s = .ok n j o) : o.length + bulks o ≤ 20000 := by
  unfold wholeR at h
  split at h
  · cases h
  · next n' j' o' ha =>
    have hb := altsD_bulk hs ha
    split at h
    · cases h
    · split at h
      · cases h
      · cases h; exact hb
theorem drewB {B : Nat} {w w1 : World} (h : Below B w w1) : Below B w w1.drew := ⟨h.os, h.tape, h.output, h.size, h.block⟩

def SNRel (o ns : List Nd) (R : Bool) (w0 : World) (i : Value) (wr : World) : Prop :=
  ∃ k : Nat, k ≤ o.length ∧ i = .int .i64 k ∧ eqNs (o.drop k) (ns.drop k) = R ∧ Below w0.heap.size w0 wr

set_option maxHeartbeats 8000000 in
set_option maxRecDepth 100000 in
theorem implSoundC (A : Option Addr) (c : Nat) (ns : List Nd) (w : World) (hlen : ns.length + bulks ns ≤ 1048576) (hN : Nodes w w.heap.size A ns) (hB : ∀ n ∈ ns, I64 n.lo ∧ I64 n.hi) (hTab : TabLow w w.heap.size) (hT : Tabs w) :
    Calls Tryz.prog 17 #[.agg #[.slice A ns.length c]] w fun e w' => e = .returned (.bool (soundB ns)) ∧ Below w.heap.size w w' := by
  obtain ⟨w0, hw0⟩ : ∃ w0, w.alloc (.cells #[.slice A ns.length c] 27) = w0 := ⟨_, rfl⟩
  have b0 : Below w.heap.size w w0 := by rw [← hw0]; exact (Below.refl _ _).alloc (Nat.le_refl _) _
  have hz0 : w0.heap.size = w.heap.size + 1 := by rw [← hw0, alloc_size1]
  have x0 : w0.cell? ⟨w.heap.size, 0, none⟩ = some (.slice A ns.length c) := by rw [← hw0, cell_of_row _ _ _ _ _ _ (heap_alloc_new w _)]; rfl
  have box : ∀ W, Below w0.heap.size w0 W → W.cell? ⟨w.heap.size, 0, none⟩ = some (.slice A ns.length c) ∧ Below w.heap.size w W := fun W h => ⟨(h.cell (p := ⟨w.heap.size, 0, none⟩) (by show w.heap.size < _; omega)).trans x0, b0.trans (h.mono (by omega))⟩
  have cX := implText A c ns w0 hlen ((hN.below b0).up (by omega)) hB ⟨(hTab.below b0).1, by have := hTab.2; omega⟩
  have BX := Lib.hid box
  have HN := Lib.hid hN
  have HT := Lib.hid hT
  have HB0 := Lib.hid b0
  by_cases h400 : ns.length ≤ 400
  · have hz4 : ¬ (400 : Int) < (ns.length : Int) := by omega
    clear hN hB hTab hT box b0 hz0
    go_enter Tryz.func17, Tryz.ntmps17
    go_wp2_with fail
    refine cX.mono ?_
    rintro e w1 ⟨rfl, b1⟩
    obtain ⟨x1, B1⟩ := BX.out _ b1
    clear cX x0
    have cR := implRunes (bytesT (textI ns)) w1 (by have := textI_len ns; show (textI ns).toArray.size ≤ _; rw [List.size_toArray]; omega) (HT.out.below B1)
    go_wp2_with fail
    refine cR.mono ?_
    rintro e w2 ⟨v, rfl, hrow, b2⟩
    clear cR
    have b12 := b1.trans (b2.mono b1.size)
    obtain ⟨x2, B2⟩ := BX.out _ b12
    obtain ⟨l, hl⟩ : ∃ l, (runesOf (bytesT (textI ns))).getD [] = l := ⟨_, rfl⟩
    rw [hl] at hrow
    obtain ⟨PA, pc, rfl⟩ := own_form hrow
    have hpos := ptsT_pos ns
    unfold ptsT at hpos
    rw [hl] at hpos
    obtain ⟨r, hr⟩ : ∃ r, wholeR l = r := ⟨_, rfl⟩
    have hrr : Hid (wholeR (ptsT ns) = r) := by show _ = _; unfold ptsT; rw [hl]; exact hr
    have cP := readPattern_any w2 l PA pc (Nums.own hrow) hpos.2 hpos.1 r (Lib.hid hr)
    have HB12 := Lib.hid b12
    clear hpos hr hl hrow b1 b2 b12 x1 B1
    go_wp2_with fail
    refine cP.mono ?_
    intro e w3 hpost
    clear cP
    cases r with
    | err cc q =>
      obtain ⟨rfl, k3⟩ := hpost
      have hS : Hid (soundB ns = false) := soundB_err hrr.out
      have hpos := err_not_empty hrr.out
      have hB3 : Hid (Below w0.heap.size w0 (w3.alloc (.cells #[.slice none 0 0] 27))) := (HB12.out.trans (k3.low.mono HB12.out.size)).alloc (by have := HB12.out.size; have := k3.size; omega) _
      have hx3 := (BX.out _ hB3.out).1
      have hne : ((0 : Int) == (ns.length : Int)) = false := by rw [beq_eq_false_iff_ne]; omega
      have hB4 : Hid (Below w.heap.size w (w3.alloc (.cells #[.slice none 0 0] 27))) := (BX.out _ hB3.out).2
      clear k3 hrr hpos
      go_wp2
      all_goals (go_ret; exact ⟨by rw [hS.out]; rfl, hB4.out⟩)
    | ok n j o =>
      obtain ⟨nv, xs, rfl, hown, k3⟩ := hpost
      have hS := soundB_ok h400 hrr.out
      obtain ⟨A3, c3, rfl⟩ := own_form hown.row
      have hNo := hown.at
      have hko : o.length + bulks o ≤ 1048576 := by have := rx_bulk (ptsT_pos ns).2 hrr.out; omega
      have HS := Lib.hid hS
      have b3 := k3.low
      have b03 := HB12.out.trans (b3.mono HB12.out.size)
      have b4 := (Below.refl w3.heap.size w3).alloc (Nat.le_refl _) (.cells #[.slice A3 o.length c3] 27)
      have b04 := b03.trans (b4.mono b03.size)
      have HN4 := Lib.hid ((hNo.below b4).up b4.size)
      have hx4 := (BX.out _ b04).1
      have HB4 := Lib.hid b04
      have hB4 : Hid (Below w.heap.size w (w3.alloc (.cells #[.slice A3 o.length c3] 27))) := (BX.out _ b04).2
      clear hS hown hNo k3 b3 b03 b4 b04 hrr x2 B2
      by_cases hlo : o.length = ns.length
      · have hloz : ((o.length : Int) == (ns.length : Int)) = true := by simp; omega
        have HL := Lib.hid hlo
        have hneq : ((o.length : Int) != (ns.length : Int)) = false := by simp; omega
        clear hlo
        go_wp2
        clear hloz hneq
        go_loopw [40] (SNRel o ns (soundB ns) (w3.alloc (.cells #[.slice A3 o.length c3] 27))) (fun i _ => o.length - (intOf i).toNat)
        case atStart => exact ⟨0, Nat.zero_le _, rfl, HS.out.symm, Below.refl _ _⟩
        case round =>
          clear hx4
          obtain ⟨k, hk, rfl, heq, hbel⟩ := hrel
          have hbelw : Below w0.heap.size w0 wr := HB4.out.trans (hbel.mono HB4.out.size)
          obtain ⟨xr, Br⟩ := BX.out _ hbelw
          by_cases hlt : k < o.length
          · have hlt2 : k < ns.length := by have := HL.out; omega
            obtain ⟨b, o1, sa, sc, ka, kc, rfl, hbb, hs, hn1, hn2⟩ := HN4.out k hlt
            obtain ⟨b', o1', sa', sc', ka', kc', rfl, hbb', hs', hn1', hn2'⟩ := HN.out k hlt2
            obtain ⟨c0, c1, c2, c3', c4, c5⟩ := hs.move (w' := wr) fun i => hbel.cell (p := ⟨b, i, none⟩) hbb
            have hbk : bulkOf o[k] ≤ bulks o := by have h1 := bulks_take hlt; have h2 := bulks_le o (k + 1); omega
            have hbk' : bulkOf ns[k] ≤ bulks ns := by have h1 := bulks_take hlt2; have h2 := bulks_le ns (k + 1); omega
            unfold bulkOf at hbk hbk'
            rw [eqNs_step hlt hlt2] at heq
            obtain ⟨nd, hnd⟩ : ∃ nd, o[k] = nd := ⟨_, rfl⟩
            obtain ⟨md, hmd⟩ : ∃ md, ns[k] = md := ⟨_, rfl⟩
            rw [hnd] at c0 c1 c2 c3' c4 c5 hbk heq hn1 hn2
            rw [hmd] at hs' hbk' heq hn1' hn2'
            obtain ⟨w5, hw5⟩ : ∃ w5, wr.alloc (.cells #[.int .i64 nd.kind, .int .i64 nd.lo, .int .i64 nd.hi, .bool nd.neg, .slice sa nd.set.length sc, .slice ka nd.kids.length kc] 47) = w5 := ⟨_, rfl⟩
            have b5 : Below wr.heap.size wr w5 := by rw [← hw5]; exact (Below.refl _ _).alloc (Nat.le_refl _) _
            have X5 : Six w5 wr.heap.size 47 (.int .i64 nd.kind) (.int .i64 nd.lo) (.int .i64 nd.hi) (.bool nd.neg) (.slice sa nd.set.length sc) (.slice ka nd.kids.length kc) := by rw [← hw5]; exact heap_alloc_new wr _
            have b5w : Below w.heap.size w w5 := Br.trans (b5.mono Br.size)
            have b54 := hbel.trans (b5.mono hbel.size)
            have b5x : Below w0.heap.size w0 w5 := hbelw.trans (b5.mono hbelw.size)
            have xr5 := (BX.out _ b5x).1
            obtain ⟨d0, d1, d2, d3, d4, d5⟩ := hs'.move (w' := w5) fun i => b5w.cell (p := ⟨b', i, none⟩) hbb'
            obtain ⟨e0, e1, e2, e3, e4, e5⟩ := X5.cells
            have cE := equals_any nd md sa sa' sc sc' ka ka' kc kc' w5.drew (by omega) (by omega) (by omega) (by omega) (((hn1.below (drewB b54)).up (drewB b54).size)) (((hn2.below (drewB b54)).up (drewB b54).size)) (((hn1'.below (drewB b5w)).up (drewB b5w).size)) (((hn2'.below (drewB b5w)).up (drewB b5w).size))
            unfold ndv at cE
            have HEQ := Lib.hid heq
            have HB5 := Lib.hid (drewB b54)
            have HBx := Lib.hid (drewB b5x)
            have hk2 : (k : Int) < (ns.length : Int) := by omega
            rw [← hw5] at e0 e1 e2 e3 e4 e5 d0 d1 d2 d3 d4 d5 cE xr5
            have HW5 := Lib.hid hw5
            clear hs hs' hn1 hn2 hn1' hn2' hbk hbk' hnd hmd heq b5 X5 b5w b54 b5x hw5 hbel hbelw
            cases hq : eqN nd md with
            | true =>
              rw [hq] at cE HEQ
              have HE2 : Hid (eqNs (o.drop (k + 1)) (ns.drop (k + 1)) = soundB ns) := by have := HEQ.out; rw [Bool.true_and] at this; exact this
              clear hq HEQ
              go_wp2
              go_region_with (go_at_call 60; with_reducible refine cE.mono ?_; rintro e w6 ⟨rfl, b6⟩)
              all_goals
                have B6 : Hid (Below (w3.alloc (.cells #[.slice (some ⟨b, o1, none⟩) o.length c3] 27)).heap.size (w3.alloc (.cells #[.slice (some ⟨b, o1, none⟩) o.length c3] 27)) w6) := by rw [HW5.out] at b6; exact HB5.out.trans (b6.mono HB5.out.size)
                clear b6
                go_wp2
                go_roundw
                case rel => exact ⟨k + 1, hlt, by go_num, HE2.out, B6.out⟩
                case measure => simp [intOf]; omega
            | false =>
              rw [hq] at cE HEQ
              have HE2 : Hid (false = soundB ns) := by have := HEQ.out; rw [Bool.false_and] at this; exact this
              clear hq HEQ
              go_wp2
              go_region_with (go_at_call 60; with_reducible refine cE.mono ?_; rintro e w6 ⟨rfl, b6⟩)
              all_goals
                have B6 : Hid (Below w.heap.size w w6) := by rw [HW5.out] at b6; exact (BX.out _ (HBx.out.trans (b6.mono HBx.out.size))).2
                clear b6
                go_wp2
                go_ret
                exact ⟨by rw [← HE2.out]; rfl, B6.out⟩
          · have hdn : eqNs (o.drop k) (ns.drop k) = true := by rw [List.drop_eq_nil_of_le (by omega), List.drop_eq_nil_of_le (by have := HL.out; omega)]; rfl
            have HE2 : Hid (true = soundB ns) := by show _ = _; rw [← heq, hdn]
            clear heq hdn
            go_wp2
            go_ret
            exact ⟨by rw [← HE2.out]; rfl, Br⟩
      · have hloz : ((o.length : Int) == (ns.length : Int)) = false := by simp; omega
        have hR : Hid (soundB ns = false) := by show _ = _; rw [HS.out]; exact eqNs_len hlo
        clear hlo
        go_wp2
        all_goals (go_ret; exact ⟨by rw [hR.out]; rfl, hB4.out⟩)
  · have hz4 : (400 : Int) < (ns.length : Int) := by omega
    have hS : Hid (soundB ns = false) := soundB_big (by omega)
    rw [← hw0] at x0
    have HW := Lib.hid hw0
    clear hN hB hTab hT box b0 hz0 cX BX hw0
    go_enter Tryz.func17, Tryz.ntmps17
    go_wp2
    go_ret
    exact ⟨by rw [hS.out]; rfl, by rw [HW.out]; exact HB0.out⟩

end Go.Proofs.YtdkjfppjbkdelaaGreatDoor
