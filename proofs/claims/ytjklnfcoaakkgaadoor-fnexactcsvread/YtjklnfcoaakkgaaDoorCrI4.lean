/- The program's reader of rows with commas: a cell that does not begin with a quotation mark, and one that does. Conditions: at most 4000 bytes. -/
import Derived.Test.YtjklnfcoaakkgaaDoorCrI3
namespace Go.Proofs.YtjklnfcoaakkgaaDoor
set_option linter.unusedVariables false
open Go.RowKit
open Go.Lib (byteCells)

theorem ext_list (x : ByteArray) : (⟨([] ++ x.data.toList).toArray⟩ : ByteArray) = x := by rw [List.nil_append]
theorem scan_idx {p : UInt8 → Bool} {chars : List UInt8} (hp : ∀ b, chars.contains b = p b) (s : ByteArray) (i : Nat) (hi : i ≤ s.size) :
    (Lib.indexAny (s.extract i s.size).data.toList chars = -1 ∧ scanTo p s i = s.size) ∨ Lib.indexAny (s.extract i s.size).data.toList chars = ((scanTo p s i - i : Nat) : Int) := by
  rw [extract_drop s i hi]
  rcases idx_scan hp s s.size i (by omega) hi with h | h
  · exact .inl h
  · exact .inr h.1

theorem new_u8g (w : World) (z : Int) (e : TypeId) (g : Nat) (hg : g = w.heap.size) : ∀ (j : Nat) (u : Value), [Value.int .u8 z][j]? = some u → (w.alloc (.cells #[.int .u8 z] e)).cell? ((⟨g, 0, none⟩ : Addr).add j) = some u := by
  subst hg; exact new_u8 w z e
theorem byte_row {w : World} {B : Nat} {v : Value} {t : List UInt8} {x : UInt8} {z : Int} (h : w.ownsRow B 5 1 v (t.length + 1) (byteCells t ++ [.int .u8 z])) (hz : z = (x.toNat : Int) := by rfl) : BytesR w B v (t ++ [x]) := by
  subst hz
  unfold BytesR
  rw [cells_join, List.length_append]
  exact h

set_option maxHeartbeats 2000000 in
set_option maxRecDepth 100000 in
theorem stepPlain (s : ByteArray) (R : RowsRes) (p : Nat) (w : World) (i f : Nat) (rs : List (List ByteArray)) (xs : List Value) (nv u : Value) (cs : List ByteArray) (v : Value) (h : Rdr w p s i nv rs xs u cs u i v [] 0 0) (hs : s.size ≤ 4000) (hi : i ≤ s.size) (hf : s.size ≤ i + f) (hl : rs.length + f ≤ s.size) (hc : cs.length ≤ 99)
    (hR : contC s f i rs cs (plainR s i) = R) : Calls Tryd.prog 70 #[.pointer (some ⟨p, 0, none⟩)] w (StepIs s R p (8 * (s.size - i) + 5) w) := by
  have hij : i ≤ plainEnd s i := scan_ge hi
  have hjs : plainEnd s i ≤ s.size := scan_le hi
  have cT := csvTake stopS _ (plainEnd s i) w p s i nv rs xs u cs u i v [] 0 0 h hs hi (by simp) hij hjs (fun W => indexAny_any _ stopS W asc_stop (by rw [ByteArray.size_extract]; omega)) (scan_idx stop_in s i hi)
  unfold stopS at cT
  obtain ⟨e, he⟩ : ∃ e, plainEnd s i = e := ⟨_, rfl⟩
  rw [he] at cT hij hjs
  obtain ⟨x, hx⟩ : ∃ x, s.extract i e = x := ⟨_, rfl⟩
  rw [hx] at cT
  have hxz : ([] ++ x.data.toList).length ≤ e := by rw [List.nil_append, list_size, ← hx, ByteArray.size_extract]; omega
  have hlt := h.lt
  have hb44 := bt s e
  have HE1 : Hid (cellEndB s e = true → contC s f i rs cs (.ok (⟨([] ++ x.data.toList).toArray⟩, e)) = R) := fun hce => by rw [← hR, plain_yes he hce, hx, ext_list]
  have HE2 : Hid (cellEndB s e = false → bt s e = 34 → (rs, e, 2) = R) := fun hce hq => by rw [← hR, plain_quote he hce hq, contC_err]
  have HE3 : Hid (cellEndB s e = false → bt s e ≠ 34 → (rs, e, 4) = R) := fun hce hq => by rw [← hR, plain_end he hce hq, contC_err]
  generalize ([] : List UInt8) ++ x.data.toList = acc at cT hxz HE1
  have cE : ∀ W v', Rdr W p s e nv rs xs u cs u i v' acc 0 0 → Calls Tryd.prog 86 #[.pointer (some ⟨p, 0, none⟩)] W fun r w' => r = .returned (.bool (cellEndB s e)) ∧ Keep [] W w' := fun W v' hh => csvCellEnds W p s e nv u i v' 0 0 hh.r8 hs hjs
  have cA : ∀ W v', Rdr W p s e nv rs xs u cs u i v' acc 0 0 → Calls Tryd.prog 69 #[.pointer (some ⟨p, 0, none⟩)] W fun r w' => r = .returned (.int .u8 (bt s e).toNat) ∧ Keep [] W w' := fun W v' hh => csvAhead W p s e nv u i v' 0 0 hh.r8 hs
  obtain ⟨y, hy⟩ : ∃ y, bt s e = y := ⟨_, rfl⟩
  rw [hy] at HE2 HE3 cA
  have hyl := y.toNat_lt
  clear h hR hx he hy hb44
  cases hce : cellEndB s e with
  | true =>
    have HK := Lib.hid (HE1.out hce)
    have HC := Lib.hid hce
    rw [hce] at cE
    clear HE1 HE2 HE3 hce cA
    go_enter Tryd.func70, Tryd.ntmps70
    go_wp2_with (first
      | (go_at_call 85; refine cT.mono ?_; rintro r w1 ⟨rfl, ⟨v1, h1⟩, b1⟩; have H1 := Lib.hid h1; have HB1 := Lib.hid b1; have cE1 := cE w1 v1 h1; clear h1 b1)
      | (go_at_call 86; refine cE1.mono ?_; rintro r w2 ⟨rfl, k2⟩; have H2 := Lib.hid (H1.out.keep0 k2); have HB2 := Lib.hid (HB1.out.trans (keepBelow k2 (Nat.le_of_lt H1.out.lt))); clear k2))
    go_ret
    exact ⟨_, _, rfl, .complete e f i rs xs nv u cs v1 acc H2.out hjs hij hxz hf hl hc HC.out HK.out, by omega, HB2.out⟩
  | false =>
    rw [hce] at cE
    by_cases h34 : y = 34
    · have HK := Lib.hid (HE2.out hce h34)
      subst h34
      clear HE1 HE2 HE3 hce
      go_enter Tryd.func70, Tryd.ntmps70
      go_wp2_with (first
        | (go_at_call 85; refine cT.mono ?_; rintro r w1 ⟨rfl, ⟨v1, h1⟩, b1⟩; have H1 := Lib.hid h1; have HB1 := Lib.hid b1; have cE1 := cE w1 v1 h1; clear h1 b1)
        | (go_at_call 86; refine cE1.mono ?_; rintro r w2 ⟨rfl, k2⟩; have H2 := Lib.hid (H1.out.keep0 k2); have HB2 := Lib.hid (HB1.out.trans (keepBelow k2 (Nat.le_of_lt H1.out.lt))); have cA2 := cA w2 v1 H2.out; clear k2)
        | (go_at_call 69; refine cA2.mono ?_; rintro r w3 ⟨rfl, k3⟩; have H3 := Lib.hid (H2.out.keep0 k3); have HB3 := Lib.hid (HB2.out.trans (keepBelow k3 (Nat.le_of_lt H2.out.lt))); obtain ⟨d0, d1, d2, d3, d4, d5, d6, d7⟩ := H3.out.r8.cell; have cF := failStep (M := 8 * (s.size - i) + 5) H3.out HK.out (by omega); clear k3)
        | (go_at_call 68; refine cF.mono ?_; rintro r w4 ⟨sv, M', rfl, hcf, hM, hb4⟩; have HX : Hid (StepIs s R p (8 * (s.size - i) + 5) w (.returned sv) w4) := ⟨sv, M', rfl, hcf, hM, HB3.out.trans hb4⟩; clear hcf hM hb4))
      go_ret
      exact HX.out
    · have h34z : ((y.toNat : Int) == 34) = false := by have := u8_ne 34 h34; rw [beq_eq_false_iff_ne]; omega
      have HK := Lib.hid (HE3.out hce h34)
      clear HE1 HE2 HE3 hce h34
      go_enter Tryd.func70, Tryd.ntmps70
      go_wp2_with (first
        | (go_at_call 85; refine cT.mono ?_; rintro r w1 ⟨rfl, ⟨v1, h1⟩, b1⟩; have H1 := Lib.hid h1; have HB1 := Lib.hid b1; have cE1 := cE w1 v1 h1; clear h1 b1)
        | (go_at_call 86; refine cE1.mono ?_; rintro r w2 ⟨rfl, k2⟩; have H2 := Lib.hid (H1.out.keep0 k2); have HB2 := Lib.hid (HB1.out.trans (keepBelow k2 (Nat.le_of_lt H1.out.lt))); have cA2 := cA w2 v1 H2.out; clear k2)
        | (go_at_call 69; refine cA2.mono ?_; rintro r w3 ⟨rfl, k3⟩; have H3 := Lib.hid (H2.out.keep0 k3); have HB3 := Lib.hid (HB2.out.trans (keepBelow k3 (Nat.le_of_lt H2.out.lt))); obtain ⟨d0, d1, d2, d3, d4, d5, d6, d7⟩ := H3.out.r8.cell; have cF := failStep (M := 8 * (s.size - i) + 5) H3.out HK.out (by omega); clear k3)
        | (go_at_call 68; refine cF.mono ?_; rintro r w4 ⟨sv, M', rfl, hcf, hM, hb4⟩; have HX : Hid (StepIs s R p (8 * (s.size - i) + 5) w (.returned sv) w4) := ⟨sv, M', rfl, hcf, hM, HB3.out.trans hb4⟩; clear hcf hM hb4))
      go_ret
      exact HX.out

set_option maxHeartbeats 4000000 in
set_option maxRecDepth 100000 in
theorem stepQuoted (s : ByteArray) (R : RowsRes) (p : Nat) (w : World) (i f b : Nat) (rs : List (List ByteArray)) (xs : List Value) (nv u : Value) (cs : List ByteArray) (v : Value) (acc : List UInt8) (h : Rdr w p s i nv rs xs u cs u b v acc 0 0) (hs : s.size ≤ 4000) (hi : i ≤ s.size) (hb : b < i) (ha : acc.length ≤ i) (hf : s.size ≤ b + f) (hl : rs.length + f ≤ s.size) (hc : cs.length ≤ 99)
    (hR : contC s f b rs cs (quotedCell s i acc) = R) : Calls Tryd.prog 71 #[.pointer (some ⟨p, 0, none⟩)] w (StepIs s R p (8 * (s.size - i) + 5) w) := by
  obtain ⟨i0, hi0, hz0, hz1, hz2⟩ := info_parts Tryd.infoByte
  have hij : i ≤ scanTo quoteB s i := scan_ge hi
  have hjs : scanTo quoteB s i ≤ s.size := scan_le hi
  have hqc : ∀ b : UInt8, ([34] : List UInt8).contains b = quoteB b := fun b => by unfold quoteB; simp only [List.contains_cons, List.contains_nil, Bool.or_false]
  have cT := csvTake ⟨#[34]⟩ _ (scanTo quoteB s i) w p s i nv rs xs u cs u b v acc 0 0 h hs hi (by omega) hij hjs
    (fun W => (Tryd.strings_IndexAny_one (s.extract i s.size) ⟨#[34]⟩ W rfl (fun j q hq => by
      have : q = 34 := by
        have := List.mem_of_getElem? hq
        simpa using this
      rw [this]; decide)).mono fun r w' hh => ⟨hh.1, by rw [hh.2]; exact Below.refl _ _⟩) (scan_idx hqc s i hi)
  have hjump := quoted_jump s s.size i acc (by omega) hi
  have hhit : scanTo quoteB s i < s.size → bt s (scanTo quoteB s i) = 34 := fun q => quote_hit (scan_hits q)
  obtain ⟨e, he⟩ : ∃ e, scanTo quoteB s i = e := ⟨_, rfl⟩
  rw [he] at cT hij hjs hjump hhit
  have hal : (acc ++ (s.extract i e).data.toList).length ≤ e := by rw [List.length_append, list_size, ByteArray.size_extract]; omega
  obtain ⟨t, ht⟩ : ∃ t, acc ++ (s.extract i e).data.toList = t := ⟨_, rfl⟩
  rw [ht] at cT hjump hal
  have hlt := h.lt
  have hQ : quotedCell s i acc = quotedCell s e t := by unfold quotedCell; rw [hjump]
  rw [hQ] at hR
  clear h ht hjump hQ he
  by_cases hes : e < s.size
  · have hb34 := hhit hes
    have hne : ((e : Int) == (s.size : Int)) = false := by rw [beq_eq_false_iff_ne]; omega
    obtain ⟨j, hj⟩ : ∃ j, e + 1 = j := ⟨_, rfl⟩
    have hjz : (e : Int) + 1 = (j : Int) := by omega
    have hjl : j ≤ s.size := by omega
    have hej : e < j := by omega
    have cA : ∀ W v', Rdr W p s j nv rs xs u cs u b v' t 0 0 → Calls Tryd.prog 69 #[.pointer (some ⟨p, 0, none⟩)] W fun r w' => r = .returned (.int .u8 (bt s j).toNat) ∧ Keep [] W w' := fun W v' hh => csvAhead W p s j nv u b v' 0 0 hh.r8 hs
    have HE1 : Hid (bt s j ≠ 34 → contC s f b rs cs (closedR s t j) = R) := fun hq => by rw [← hR, ← hj, quotedCell_some (quoted_end hes hb34 (by rw [hj]; exact hq))]
    have HE2 : Hid (bt s j = 34 → contC s f b rs cs (quotedCell s (j + 1) (t ++ [34])) = R) := fun hq => by rw [← hR]; unfold quotedCell; rw [quoted_pair hes hb34 (by rw [hj]; exact hq), ← hj]
    have HP : Hid (bt s j = 34 → j + 1 ≤ s.size) := fun hq => by rw [← hj] at hq ⊢; exact pair_in hq
    obtain ⟨y, hy⟩ : ∃ y, bt s j = y := ⟨_, rfl⟩
    rw [hy] at HE1 HE2 cA HP
    have hyl := y.toNat_lt
    clear hR hb34 hhit hy hj
    by_cases h34 : y = 34
    · have HK := Lib.hid (HE2.out h34)
      have hj2s := HP.out h34
      obtain ⟨j2, hj2⟩ : ∃ j2, j + 1 = j2 := ⟨_, rfl⟩
      have hj2z : (j : Int) + 1 = (j2 : Int) := by omega
      rw [hj2] at HK hj2s
      have hjj2 : j < j2 := by omega
      subst h34
      clear HE1 HE2 HP hj2
      go_enter Tryd.func71, Tryd.ntmps71
      go_wp2_with (go_at_call 85; refine cT.mono ?_; rintro r w1 ⟨rfl, ⟨v1, h1⟩, b1⟩; have H1 := Lib.hid h1; have HB1 := Lib.hid b1; obtain ⟨d0, d1, d2, d3, d4, d5, d6, d7⟩ := h1.r8.cell; clear h1 b1)
      go_quiet (fail)
      have H2 := Lib.hid (H1.out.keep0 ((Keep.refl [] w1).drewN nq))
      have HB2 := Lib.hid (HB1.out.trans (keepBelow ((Keep.refl [] w1).drewN nq) (Nat.le_of_lt H1.out.lt)))
      generalize w1.drewN nq = w2 at H2 HB2 ⊢
      clear d0 d1 d2 d3 d4 d5 d6 d7
      obtain ⟨d0, d1, d2, d3, d4, d5, d6, d7⟩ := H2.out.r8.cell
      have g1 := H2.out.r8.frozen 1
      have kj := Lib.hid (keepSetP w2 p 1 (.int .i64 j))
      have H3 : Hid (Rdr (w2.setCell ⟨p, 1, none⟩ (.int .i64 j)) p s j nv rs xs u cs u b v1 t 0 0) := ⟨H2.out.r8.set1 j, (H2.out.inP kj.out).1, (H2.out.inP kj.out).2, H2.out.apart⟩
      have HB3 : Hid (Below p w (w2.setCell ⟨p, 1, none⟩ (.int .i64 j))) := belowP HB2.out
      have cA3 := cA _ v1 H3.out
      go_wp2_with (first
        | (go_at_call 69; refine cA3.mono ?_; rintro r w4 ⟨rfl, k4⟩; have H4 := Lib.hid (H3.out.keep0 k4); have HB4 := Lib.hid (HB3.out.trans (keepBelow k4 (Nat.le_of_lt H3.out.lt))); obtain ⟨e0, e1, e2, e3, e4, e5, e6, e7⟩ := H4.out.r8.cell; have x1 := H4.out.r8.frozen 1; have kk := Lib.hid (keepSetP w4 p 1 (.int .i64 j2)); have H5 : Hid (Rdr (w4.setCell ⟨p, 1, none⟩ (.int .i64 j2)) p s j2 nv rs xs u cs u b v1 t 0 0) := ⟨H4.out.r8.set1 j2, (H4.out.inP kk.out).1, (H4.out.inP kk.out).2, H4.out.apart⟩; have HB5 : Hid (Below p w (w4.setCell ⟨p, 1, none⟩ (.int .i64 j2))) := belowP HB4.out; have HZ5 := Lib.hid H5.out.lt; clear k4)
        | (at_builtin; refine list_append_own rfl _ _ 22 rfl (p + 1) 5 i0 (.int .u8 0) 1 1 Tryd.underlying22 hi0 hz0 hz1 hz2 rfl (by decide) v1 t.length (byteCells t) rfl (World.ownsRow.alloc H5.out.bytes _) ⟨w4.heap.size, 0, none⟩ 1 1 [.int .u8 34] rfl rfl (new_u8g _ 34 _ _ (size_setCell _ _ _).symm) (one_u8 34) (by unfold maxLen; omega) (by omega) (by have := HZ5.out; rw [size_alloc1]; omega) ?_; intro v' w6 ho hg hn; obtain ⟨A', c', rfl⟩ := own_form ho; have hr' : BytesR w6 (p + 1) (.slice A' (t.length + 1) c') (t ++ [34]) := byte_row ho; have HG := Lib.hid ((H5.out.keep0 ((Keep.refl [] _).alloc (.cells #[.int .u8 34] 5))).grow hg hr' hn); have HRB := Lib.hid hr'; obtain ⟨y0, y1, y2, y3, y4, y5, y6, y7⟩ := HG.out.1.cell; have x5 := HG.out.1.frozen 5; have HB6 := Lib.hid (HB5.out.trans ((keepBelow ((Keep.refl [] _).alloc (.cells #[.int .u8 34] 5)) (Nat.le_of_lt HZ5.out)).trans HG.out.2.2.2)); clear ho hg hn hr'))
      go_ret
      have k6 := keepSetP w6 p 5 (.slice A' (t.length + 1) c')
      exact ⟨_, _, rfl, .quoted j2 f b rs xs nv u cs (.slice A' (t.length + 1) c') (t ++ [34]) ⟨HG.out.1.set5 _, HG.out.2.1.keepS k6 (fun q hq hm => by have := (HG.out.2.1.range q hm).1; rw [List.mem_singleton.1 hq] at this; omega), k6.row HRB.out (fun q hq hm => by have := (World.ownsRow.lt HRB.out q hq).1; rw [List.mem_singleton.1 hm] at this; omega), HG.out.2.2.1⟩ hj2s (by omega) (by simp; omega) hf hl hc HK.out, by omega, belowP HB6.out⟩
    · have h34z : ((y.toNat : Int) == 34) = false := by have := u8_ne 34 h34; rw [beq_eq_false_iff_ne]; omega
      have h34y : ((y.toNat : Int) != 34) = true := by rw [bne, h34z]; rfl
      have HK := Lib.hid (HE1.out h34)
      clear HE1 HE2 HP h34
      go_enter Tryd.func71, Tryd.ntmps71
      go_wp2_with (go_at_call 85; refine cT.mono ?_; rintro r w1 ⟨rfl, ⟨v1, h1⟩, b1⟩; have H1 := Lib.hid h1; have HB1 := Lib.hid b1; obtain ⟨d0, d1, d2, d3, d4, d5, d6, d7⟩ := h1.r8.cell; clear h1 b1)
      go_quiet (fail)
      have H2 := Lib.hid (H1.out.keep0 ((Keep.refl [] w1).drewN nq))
      have HB2 := Lib.hid (HB1.out.trans (keepBelow ((Keep.refl [] w1).drewN nq) (Nat.le_of_lt H1.out.lt)))
      generalize w1.drewN nq = w2 at H2 HB2 ⊢
      clear d0 d1 d2 d3 d4 d5 d6 d7
      obtain ⟨d0, d1, d2, d3, d4, d5, d6, d7⟩ := H2.out.r8.cell
      have g1 := H2.out.r8.frozen 1
      have kj := Lib.hid (keepSetP w2 p 1 (.int .i64 j))
      have H3 : Hid (Rdr (w2.setCell ⟨p, 1, none⟩ (.int .i64 j)) p s j nv rs xs u cs u b v1 t 0 0) := ⟨H2.out.r8.set1 j, (H2.out.inP kj.out).1, (H2.out.inP kj.out).2, H2.out.apart⟩
      have HB3 : Hid (Below p w (w2.setCell ⟨p, 1, none⟩ (.int .i64 j))) := belowP HB2.out
      have cA3 := cA _ v1 H3.out
      go_wp2_with (go_at_call 69; refine cA3.mono ?_; rintro r w4 ⟨rfl, k4⟩; have H4 := Lib.hid (H3.out.keep0 k4); have HB4 := Lib.hid (HB3.out.trans (keepBelow k4 (Nat.le_of_lt H3.out.lt))); clear k4)
      go_ret
      exact ⟨_, _, rfl, .closed j f b rs xs nv u cs v1 t H4.out hjl (by omega) (by omega) hf hl hc HK.out, by omega, HB4.out⟩
  · obtain rfl : e = s.size := by omega
    have hne : ((s.size : Int) == (s.size : Int)) = true := by simp
    have HK := Lib.hid (show (rs, s.size, 3) = R by rw [← hR, quotedCell_none (quoted_out hes), contC_err])
    clear hR hhit hes
    go_enter Tryd.func71, Tryd.ntmps71
    go_wp2_with (go_at_call 85; refine cT.mono ?_; rintro r w1 ⟨rfl, ⟨v1, h1⟩, b1⟩; have H1 := Lib.hid h1; have HB1 := Lib.hid b1; obtain ⟨d0, d1, d2, d3, d4, d5, d6, d7⟩ := h1.r8.cell; clear h1 b1)
    go_quiet (fail)
    have H2 := Lib.hid (H1.out.keep0 ((Keep.refl [] w1).drewN nq))
    have HB2 := Lib.hid (HB1.out.trans (keepBelow ((Keep.refl [] w1).drewN nq) (Nat.le_of_lt H1.out.lt)))
    generalize w1.drewN nq = w2 at H2 HB2 ⊢
    clear d0 d1 d2 d3 d4 d5 d6 d7
    obtain ⟨d0, d1, d2, d3, d4, d5, d6, d7⟩ := H2.out.r8.cell
    have cF := failStep (M := 8 * (s.size - i) + 5) H2.out HK.out (by omega)
    go_wp2_with (go_at_call 68; refine cF.mono ?_; rintro r w4 ⟨sv, M', rfl, hcf, hM, hb4⟩; have HX : Hid (StepIs s R p (8 * (s.size - i) + 5) w (.returned sv) w4) := ⟨sv, M', rfl, hcf, hM, HB2.out.trans hb4⟩; clear hcf hM hb4)
    go_ret
    exact HX.out

end Go.Proofs.YtjklnfcoaakkgaaDoor
