/- spec.CsvRead reads a file as rows of cells. Condition: at most 1048576 bytes. -/
import Derived.Test.YtjklnfcoaakkgaaDoorAppRows
import Derived.Test.YtjklnfcoaakkgaaDoorFileOk
namespace Go.Proofs.YtjklnfcoaakkgaaDoor
set_option linter.unusedVariables false
open Go.RowKit

/-- Rows that are owned, a place and a code. -/
def CsvIs (R : RowsRes) (w : World) (e : Ending) (w' : World) : Prop :=
  ∃ nv xs, e = .returned (.tuple #[nv, .int .i64 R.2.1, .int .i64 R.2.2]) ∧ OwnR w' w.heap.size nv R.1 xs ∧ Below w.heap.size w w'
theorem CsvIs.mk {R : RowsRes} {w w' : World} {nv : Value} {rs : List (List ByteArray)} {xs : List Value} {p c : Nat} (h : (rs, p, c) = R) (ho : OwnR w' w.heap.size nv rs xs) (hb : Below w.heap.size w w') : CsvIs R w (.returned (.tuple #[nv, .int .i64 p, .int .i64 c])) w' := by
  subst h; exact ⟨nv, xs, rfl, ho, hb⟩
/-- How a file reads, whatever it is. -/
def csvFileR (s : ByteArray) : RowsRes := if fileB s = true then csvR s else ([], 0, 1)
theorem csvFile_no {s : ByteArray} (h : fileB s = false) : csvFileR s = ([], 0, 1) := by unfold csvFileR; rw [if_neg (by rw [h]; simp)]
theorem csvFile_yes {s : ByteArray} (h : fileB s = true) : csvFileR s = csvB s (s.size + 1) 0 [] := by unfold csvFileR; rw [if_pos h]; rfl
theorem file_size {s : ByteArray} (h : fileB s = true) : s.size ≤ 4000 := by
  by_cases q : s.size ≤ 4000
  · exact q
  · rw [fileB_big q] at h; cases h

def SOut (s : ByteArray) (R : RowsRes) (w : World) (v i : Value) (wr : World) : Prop :=
  ∃ (k f : Nat) (rs : List (List ByteArray)) (xs : List Value), k ≤ s.size ∧ i = .int .i64 k ∧ (k < s.size → s.size < k + f) ∧ rs.length + f ≤ s.size + 1 ∧ OwnR wr w.heap.size v rs xs ∧ Hid (csvB s f k rs = R) ∧ Below w.heap.size w wr
def SIn (s : ByteArray) (R : RowsRes) (w : World) (k0 h : Nat) (nv : Value) (rs : List (List ByteArray)) (xs : List Value) (i : Value) (wr : World) : Prop :=
  ∃ (k f : Nat) (cs : List ByteArray) (u : Value), k ≤ s.size ∧ i = .int .i64 k ∧ s.size < k + f ∧ rs.length + f ≤ s.size + 1 ∧ k0 ≤ k ∧ (k < s.size ∨ k0 < k) ∧ cs.length ≤ 100 ∧ RowsSt wr w.heap.size nv rs xs u cs ∧
    wr.heap[h]? = some (.cells #[u] 46 (0, 0)) ∧ h ∉ footS nv xs u ∧ Hid (csvC s f k rs cs = R) ∧ Below w.heap.size w wr
theorem end_none {s : ByteArray} {i : Nat} (h : i < s.size) (hr : rowEndR s i = none) : endN s i = 0 := by rw [endN_in h, hr]; rfl
theorem end_some {s : ByteArray} {i n : Nat} (h : i < s.size) (hr : rowEndR s i = some n) : endN s i = n ∧ 1 ≤ n ∧ i + n ≤ s.size := by
  have := rowEnd_le hr (Nat.le_of_lt h)
  exact ⟨by rw [endN_in h, hr]; rfl, this.2 h, this.1⟩
theorem cellEnd_none {s : ByteArray} {i : Nat} (h : cellEndB s i = true) (hr : rowEndR s i = none) : bt s i = 44 := by
  unfold cellEndB at h
  rw [hr] at h
  simpa using h
theorem nf_step {nv u u' : Value} {xs : List Value} {h n : Nat} (hn : h ∉ footS nv xs u) (hb : ∀ b, u'.ownBlock = some b → u.ownBlock = some b ∨ n < b) (hl : h < n) : h ∉ footS nv xs u' := fun hm => by
  rcases footS_mem.1 hm with hm | hm
  · exact hn (footS_mem.2 (.inl hm))
  · rcases hb h hm with e | e
    · exact hn (footS_mem.2 (.inr e))
    · omega
theorem below_step {w wr w3 : World} {nv u v : Value} {rs : List (List ByteArray)} {xs : List Value} {cs : List ByteArray} {o : Obj} {h : Nat} (hb : Below w.heap.size w wr) (hz : w.heap.size ≤ wr.heap.size) (hS : RowsSt wr w.heap.size nv rs xs u cs) (hk : Keep u.ownBlock.toList (wr.alloc o) w3) (hh : w.heap.size ≤ h) :
    Below w.heap.size w (w3.setCell ⟨h, 0, none⟩ v) := by
  have z : (wr.alloc o).heap.size = wr.heap.size + 1 := size_alloc1 _ _
  exact ((hb.alloc hz _).trans (hk.below (by omega) fun b hm => by have := (hS.range b (footS_mem.2 (.inr (by simpa using hm)))).1; omega)).setCell (p := ⟨h, 0, none⟩) hh _
theorem rowEnd_two {s : ByteArray} {i n : Nat} (hr : rowEndR s i = some n) : n ≤ 2 := by
  unfold rowEndR at hr
  split at hr
  · split at hr
    · injection hr with q; omega
    · split at hr
      · injection hr with q; omega
      · cases hr
  · injection hr with q; omega
theorem cellEnd_stop {s : ByteArray} {i : Nat} (h : cellEndB s i = true) : scanTo stopB s i = i := by
  by_cases hi : i < s.size
  · refine scan_hit hi ?_
    cases hr : rowEndR s i with
    | none => rw [cellEnd_none h hr]; rfl
    | some n =>
      unfold rowEndR at hr
      rw [if_pos hi] at hr
      split at hr
      · rename_i h10; rw [h10]; rfl
      · split at hr
        · rename_i h13; rw [h13.1]; rfl
        · cases hr
  · exact scan_out hi
theorem rowEnd_lt {s : ByteArray} {i : Nat} (hr : rowEndR s i = none) : i < s.size := by
  by_cases q : i < s.size
  · exact q
  · rw [rowEnd_out q] at hr; cases hr

set_option maxHeartbeats 8000000 in
set_option maxRecDepth 100000 in
theorem specCsvRead (s : ByteArray) (w : World) (hs : s.size ≤ 1048576) : Calls Tryd.prog 15 #[.string s] w (CsvIs (csvFileR s) w) := by
  have cF : ∀ W, Calls Tryd.prog 32 #[.string s] W (BoolIs (fileB s) W) := fun W => specFileOk s W hs
  have B0 : Below w.heap.size w (w.alloc (.cells #[] 46)) := (Below.refl _ _).alloc (Nat.le_refl _) _
  have O0 : OwnR (w.alloc (.cells #[] 46)) w.heap.size (.slice (some ⟨w.heap.size, 0, none⟩) 0 0) [] [] := ⟨rfl, own_empty w w _ (Nat.le_refl _), fun j hj => absurd hj (by simp), by simp [footR, Value.ownBlock]⟩
  have HB0 := Lib.hid B0
  have HO0 := Lib.hid O0
  clear B0 O0
  cases hok : fileB s with
  | false =>
    rw [hok] at cF
    have HE := Lib.hid (csvFile_no hok).symm
    obtain ⟨R, hR⟩ : ∃ R, csvFileR s = R := ⟨_, rfl⟩
    rw [hR] at HE ⊢
    clear hok hR
    go_enter Tryd.func15, Tryd.ntmps15
    go_wp2_with (go_at_call 32; refine (cF _).mono ?_; rintro e w1 ⟨rfl, b1⟩)
    refine bodyPost_ret (v := .tuple #[.slice (some ⟨w.heap.size, 0, none⟩) 0 0, .int .i64 0, .int .i64 1]) (by simp [results, Tryd.results15, go_sem]) rfl ?_
    exact CsvIs.mk HE.out (HO0.out.keep (Keep.ofBelow b1) (by simp)) (HB0.out.trans (b1.mono HB0.out.size))
  | true =>
    rw [hok] at cF
    have hs4 := file_size hok
    obtain ⟨R, hR⟩ : ∃ R, csvFileR s = R := ⟨_, rfl⟩
    have HR0 : Hid (csvB s (s.size + 1) 0 [] = R) := by show _ = _; rw [← hR, csvFile_yes hok]
    rw [hR]
    clear hok hR
    have cE : ∀ (i : Nat) W, i ≤ s.size → Calls Tryd.prog 34 #[.string s, .int .i64 i] W fun e w' => e = .returned (.int .i64 (endN s i)) ∧ W = w' := fun i W hi => specEnd s i W hs hi
    have HCE := Lib.hid cE
    clear cE
    go_enter Tryd.func15, Tryd.ntmps15
    go_wp2_with (go_at_call 32; refine (cF _).mono ?_; rintro e w1 ⟨rfl, b1⟩)
    have HO1 := Lib.hid (HO0.out.keep (Keep.ofBelow b1) (by simp))
    have HB1 := Lib.hid (HB0.out.trans (b1.mono HB0.out.size))
    clear cF b1 HO0 HB0
    go_loopw [5, 6] (fun v i wr => SOut s R w v i wr) (fun _ i _ => s.size - (intOf i).toNat)
    case atStart => exact ⟨0, s.size + 1, [], [], Nat.zero_le _, rfl, fun _ => by omega, by simp, HO1.out, HR0, HB1.out⟩
    case round =>
      clear HR0 HO1 HB1
      obtain ⟨k0, f0, rs, xs, hk0, rfl, hf0, hrf, hown, hgo, hbel⟩ := hrel
      have HOwn := Lib.hid hown
      have HBel := Lib.hid hbel
      obtain ⟨A1, c1, rfl⟩ := own_form hown.row
      by_cases hlt0 : k0 < s.size
      · have hf0 := hf0 hlt0
        have hk0z : (k0 : Int) < (s.size : Int) := by omega
        have HG0 : Hid (csvC s f0 k0 rs [] = R) := by show _ = _; rw [← hgo.out]; unfold csvB; rw [if_pos hlt0]
        obtain ⟨h, hh⟩ : ∃ h, wr.heap.size = h := ⟨_, rfl⟩
        have hwz := hbel.size
        have S0 : RowsSt (wr.alloc (.cells #[.slice none 0 0] 46)) w.heap.size (.slice A1 rs.length c1) rs xs (.slice none 0 0) [] := (RowsSt.freshOf hown).keep ((Keep.refl [] wr).alloc _) (by simp)
        have H0 : (wr.alloc (.cells #[.slice none 0 0] 46)).heap[h]? = some (.cells #[.slice none 0 0] 46 (0, 0)) := by rw [← hh]; exact heap_alloc_new wr _
        have N0 : h ∉ footS (.slice A1 rs.length c1) xs (.slice none 0 0) := fun hm => by
          have := ((RowsSt.freshOf hown).range h hm).2
          omega
        have B0 : Below w.heap.size w (wr.alloc (.cells #[.slice none 0 0] 46)) := hbel.alloc hwz _
        have HS0 := Lib.hid S0
        have HH0 := Lib.hid H0
        have HN0 := Lib.hid N0
        have HBB := Lib.hid B0
        have hhw : w.heap.size ≤ h := by omega
        clear hgo hbel hown S0 H0 N0 B0
        go_wp2

        clear hh
        go_loopw [6] (fun i wq => SIn s R w k0 h (.slice A1 rs.length c1) rs xs i wq) (fun i _ => s.size + 1 - (intOf i).toNat)
        case atStart => exact ⟨k0, f0, [], .slice none 0 0, hk0, rfl, hf0, hrf, Nat.le_refl _, .inl hlt0, by simp, HS0.out, HH0.out, HN0.out, HG0, HBB.out⟩
        case round =>
          clear HS0 HH0 HN0 HBB HG0 HBel HOwn hwz
          obtain ⟨i, f, cs, u, hi, rfl, hf, hrf2, hki, hprog, hcl, hst, hrow, hnf, hgo, hbel⟩ := hrel
          have HSt := Lib.hid hst
          have HRow := Lib.hid hrow
          have HNf := Lib.hid hnf
          have HBel := Lib.hid hbel
          have hwz := hbel.size
          obtain ⟨A2, c2, rfl⟩ := own_form hst.cells
          have hc0 : wr.cell? ⟨h, 0, none⟩ = some (.slice A2 cs.length c2) := by rw [cell_of_row _ _ _ _ _ _ hrow]; rfl
          have hhl : h < wr.heap.size := (Array.getElem?_eq_some_iff.1 hrow).1
          clear hst hrow hnf hbel
          by_cases h100 : cs.length = 100
          · have h100z : ((cs.length : Int) == 100) = true := by rw [h100]; rfl
            obtain ⟨f', rfl⟩ : ∃ f', f = f' + 1 := ⟨f - 1, by omega⟩
            have HE := Lib.hid ((csvC_many h100).symm.trans hgo.out)
            clear hgo h100
            go_wp2
            refine bodyPost_ret (v := .tuple #[.slice A1 rs.length c1, .int .i64 i, .int .i64 5]) (by simp [results, Tryd.results15, go_sem]) rfl ?_
            exact CsvIs.mk HE.out HSt.out.own HBel.out
          · have h100z : ((cs.length : Int) == 100) = false := by rw [beq_eq_false_iff_ne]; omega
            obtain ⟨f', hf'⟩ : ∃ f', f = f' + 1 := ⟨f - 1, by omega⟩
            have HC : Hid (contC s f' i rs cs (cellR s i) = R) := by show _ = _; rw [← hgo.out, hf', csvC_cell h100]
            have hff : s.size ≤ i + f' := by omega
            have hrf3 : rs.length + f' + 1 ≤ s.size + 1 := by omega
            have hcl2 : cs.length + 1 ≤ 100 := by omega
            clear hgo h100 hf' hf hrf2 hcl
            by_cases hq : i < s.size ∧ bt s i = 34
            · obtain ⟨hil, hb34⟩ := hq
              obtain ⟨x0, hx0⟩ : ∃ x, s[i] = x := ⟨_, rfl⟩
              have hx34 : x0 = 34 := by rw [← hx0, bt_in hil]; exact hb34
              have hilz : (i : Int) < (s.size : Int) := by omega
              obtain ⟨j, hj⟩ : ∃ j, i + 1 = j := ⟨_, rfl⟩
              have hjz : (i : Int) + 1 = (j : Int) := by omega
              have hjs : j ≤ s.size := by omega
              have cQ : ∀ W, Calls Tryd.prog 33 #[.string s, .int .i64 j] W fun e w' => e = .returned (quotedV s (quotedR s j [])) ∧ W = w' := fun W => specQuoted s j W (by omega) hjs
              have HC2 : Hid (contC s f' i rs cs (quotedCell s j []) = R) := by show _ = _; rw [← HC.out, cell_quoted hb34, hj]
              subst hx34
              clear HC hb34
              cases hqr : quotedR s j [] with
              | none =>
                rw [hqr] at cQ
                have HE : Hid ((rs, s.size, 3) = R) := by show _ = _; rw [← HC2.out, quotedCell_none hqr, contC_err]
                unfold quotedV at cQ
                clear hqr HC2
                go_wp2_with (go_at_call 33; refine (cQ _).mono ?_; rintro e w2 ⟨rfl, rfl⟩)
                refine bodyPost_ret (v := .tuple #[.slice A1 rs.length c1, .int .i64 s.size, .int .i64 3]) (by simp [results, Tryd.results15, go_sem]) rfl ?_
                exact CsvIs.mk HE.out HSt.out.own HBel.out
              | some oe =>
                obtain ⟨o, e⟩ := oe
                rw [hqr] at cQ
                unfold quotedV at cQ
                have hfar := quoted_far s s.size j [] o e (by omega) hqr
                have hje : j < e := hfar.1
                have hes : e ≤ s.size := hfar.2.1
                have hie : i < e := by omega
                obtain ⟨x, hx⟩ : ∃ x : ByteArray, ⟨o.toArray⟩ = x := ⟨_, rfl⟩
                have HC3 : Hid (contC s f' i rs cs (closedR s o e) = R) := by show _ = _; rw [← HC2.out, quotedCell_some hqr]
                simp only [hx] at cQ
                have hesz : (e : Int) ≤ (s.size : Int) := by omega
                have cEe := fun W => HCE.out e W hes
                clear hqr HC2 hfar
                cases hce : cellEndB s e with
                | false =>
                  have HE : Hid ((rs, e, 2) = R) := by show _ = _; rw [← HC3.out, closed_no hce, contC_err]
                  have hrn : rowEndR s e = none := by unfold cellEndB at hce; cases hq : rowEndR s e <;> simp [hq] at hce ⊢
                  have hel := rowEnd_lt hrn
                  have hb44 : bt s e ≠ 44 := by unfold cellEndB at hce; simp at hce; exact hce.2
                  obtain ⟨y, hy⟩ : ∃ y, s[e] = y := ⟨_, rfl⟩
                  have hyl := y.toNat_lt
                  have hy44 : ((y.toNat : Int) == 44) = false := by have := u8_ne 44 (x := y) (by rw [← hy, bt_in hel]; exact hb44); rw [beq_eq_false_iff_ne]; omega
                  have hy44b : ((y.toNat : Int) != 44) = true := by rw [bne, hy44]; rfl
                  rw [end_none hel hrn] at cEe
                  have helz : (e : Int) < (s.size : Int) := by omega
                  clear hce HC3 hrn hb44
                  go_wp2_with (first | (go_at_call 33; refine (cQ _).mono ?_; rintro e w2 ⟨rfl, rfl⟩) | (go_at_call 34; refine (cEe _).mono ?_; rintro e2 w2 ⟨rfl, rfl⟩))
                  refine bodyPost_ret (v := .tuple #[.slice A1 rs.length c1, .int .i64 e, .int .i64 2]) (by simp [results, Tryd.results15, go_sem]) rfl ?_
                  exact CsvIs.mk HE.out HSt.out.own HBel.out
                | true =>
                  have HK : Hid (contC s f' i rs cs (.ok (x, e)) = R) := by show _ = _; rw [← HC3.out, closed_yes hce, hx]
                  have hie2 : i ≤ e := by omega
                  clear HC3 hx
                  cases hrn : rowEndR s e with
                  | none =>
                    have hel := rowEnd_lt hrn
                    have hb44 := cellEnd_none hce hrn
                    have h44y : s[e] = 44 := by rw [bt_in hel]; exact hb44
                    have helz : (e : Int) < (s.size : Int) := by omega
                    rw [end_none hel hrn] at cEe
                    clear hb44 hce
                    by_cases hxl : 1000 < x.size
                    · have hxlz : (1000 : Int) < (x.size : Int) := by omega
                      have HE := Lib.hid ((contC_long hxl).symm.trans HK.out)
                      clear HK
                      go_wp2_with (first | (go_at_call 33; refine (cQ _).mono ?_; rintro e0 w2 ⟨rfl, rfl⟩) | (go_at_call 34; refine (cEe _).mono ?_; rintro e2 w2 ⟨rfl, rfl⟩))
                      refine bodyPost_ret (v := .tuple #[.slice A1 rs.length c1, .int .i64 i, .int .i64 6]) (by simp [results, Tryd.results15, go_sem]) rfl ?_
                      exact CsvIs.mk HE.out HSt.out.own HBel.out
                    · have hxlz : ¬ (1000 : Int) < (x.size : Int) := by omega
                      have HN := Lib.hid ((contC_next hxl hrn).symm.trans HK.out)
                      obtain ⟨e1, he1⟩ : ∃ e1, e + 1 = e1 := ⟨_, rfl⟩
                      have he1z : (e : Int) + 1 = (e1 : Int) := by omega
                      have he1s : e1 ≤ s.size := by omega
                      have hie1 : i < e1 := by omega
                      have hfe1 : s.size < e1 + f' := by omega
                      rw [he1] at HN
                      clear HK hrn he1
                      go_wp2_with (first | (go_at_call 33; refine (cQ _).mono ?_; rintro e0 w2 ⟨rfl, rfl⟩) | (go_at_call 34; refine (cEe _).mono ?_; rintro e2 w2 ⟨rfl, rfl⟩) | (at_builtin; refine app_cellR HSt.out hwz rfl rfl rfl (by omega) ?_; intro A3 c3 w3 S3 K3 N3; have hr3 : w3.heap[h]? = some (.cells #[.slice A2 cs.length c2] 46 (0, 0)) := ((K3.block h (by simp; omega) (fun hm => by exact HNf.out (footS_mem.2 (.inr (by simpa using hm))))).trans ((Below.heap_alloc _ _ _ hhl).trans HRow.out)); have d3 : w3.cell? ⟨h, 0, none⟩ = some (.slice A2 cs.length c2) := (by rw [cell_of_row _ _ _ _ _ _ hr3]; rfl); have f3 : w3.frozen? ⟨h, 0, none⟩ = false := frozen_of_row w3 h 0 _ _ hr3))
                      have HS3 := Lib.hid S3
                      have HK3 := Lib.hid K3
                      have HN3 := Lib.hid N3
                      have HR3 := Lib.hid hr3
                      clear S3 K3 N3 hr3 d3 f3 hc0
                      go_roundw
                      case rel =>
                        have hnf3 := nf_step HNf.out HN3.out hhl
                        exact ⟨e1, f', cs ++ [x], .slice A3 (cs.length + 1) c3, he1s, rfl, hfe1, by omega, by omega, .inr (by omega), by simp; omega, HS3.out.keepS ((Keep.refl [h] w3).setCell (.inl (by simp)) _) (fun b hb => by rw [List.mem_singleton.1 hb]; exact hnf3), heap_setCell_same _ _ _ _ _ _ HR3.out, hnf3, HN, below_step HBel.out hwz HSt.out HK3.out hhw⟩
                      case measure => simp [intOf]; omega
                  | some n =>
                    have hen : 1 ≤ endN s e := by
                      by_cases hel : e < s.size
                      · have := end_some hel hrn; omega
                      · rw [endN_out hel]; omega
                    obtain ⟨m, hm⟩ : ∃ m, endN s e = m := ⟨_, rfl⟩
                    have hmz : ((m : Int) == 0) = false := by rw [beq_eq_false_iff_ne]; omega
                    have hmz2 : ((m : Int) != 0) = true := by rw [bne, hmz]; rfl
                    rw [hm] at cEe
                    clear hce
                    by_cases hxl : 1000 < x.size
                    · have hxlz : (1000 : Int) < (x.size : Int) := by omega
                      have HE := Lib.hid ((contC_long hxl).symm.trans HK.out)
                      clear HK hm
                      go_wp2_with (first | (go_at_call 33; refine (cQ _).mono ?_; rintro e0 w2 ⟨rfl, rfl⟩) | (go_at_call 34; refine (cEe _).mono ?_; rintro e2 w2 ⟨rfl, rfl⟩))
                      refine bodyPost_ret (v := .tuple #[.slice A1 rs.length c1, .int .i64 i, .int .i64 6]) (by simp [results, Tryd.results15, go_sem]) rfl ?_
                      exact CsvIs.mk HE.out HSt.out.own HBel.out
                    · have hxlz : ¬ (1000 : Int) < (x.size : Int) := by omega
                      have HN := Lib.hid ((contC_row hxl hrn).symm.trans HK.out)
                      have hnl := rowEnd_le hrn hes
                      obtain ⟨e1, he1⟩ : ∃ e1, e + n = e1 := ⟨_, rfl⟩
                      have he1s : e1 ≤ s.size := by omega
                      have HMin : Hid (min (s.size : Int) ((e : Int) + (m : Int)) = (e1 : Int)) := by
                        show _ = _
                        by_cases hel : e < s.size
                        · have := end_some hel hrn
                          omega
                        · rw [endN_out hel] at hm
                          omega
                      have hke1 : k0 < e1 := by
                        by_cases hel : e < s.size
                        · have := hnl.2 hel; omega
                        · rcases hprog with q | q <;> omega
                      have hm9 : m ≤ 9 := by
                        by_cases hel : e < s.size
                        · have h2 := end_some hel hrn
                          have h3 := rowEnd_two hrn
                          omega
                        · rw [endN_out hel] at hm; omega
                      have hfe1 : s.size < e1 + f' := by
                        by_cases hel : e < s.size
                        · have := hnl.2 hel; omega
                        · rcases hprog with q | q <;> omega
                      rw [he1] at HN
                      clear HK hrn he1 hm hnl
                      go_upto_region 30 with (first | (go_at_call 33; refine (cQ _).mono ?_; rintro e0 w2 ⟨rfl, rfl⟩) | (go_at_call 34; refine (cEe _).mono ?_; rintro e2 w2 ⟨rfl, rfl⟩) | (at_builtin; refine app_cellR HSt.out hwz rfl rfl rfl (by omega) ?_; intro A3 c3 w3 S3 K3 N3; have hr3 : w3.heap[h]? = some (.cells #[.slice A2 cs.length c2] 46 (0, 0)) := ((K3.block h (by simp; omega) (fun hm => by exact HNf.out (footS_mem.2 (.inr (by simpa using hm))))).trans ((Below.heap_alloc _ _ _ hhl).trans HRow.out)); have d3 : w3.cell? ⟨h, 0, none⟩ = some (.slice A2 cs.length c2) := (by rw [cell_of_row _ _ _ _ _ _ hr3]; rfl); have f3 : w3.frozen? ⟨h, 0, none⟩ = false := frozen_of_row w3 h 0 _ _ hr3))
                      have HR3 := Lib.hid hr3
                      have HN4 := Lib.hid (nf_step HNf.out N3 hhl)
                      have HS4 := Lib.hid (S3.keepS ((Keep.refl [h] w3).setCell (p := h) (j := 0) (.inl (by simp)) (.slice A3 (cs.length + 1) c3)) (fun b hb => by rw [List.mem_singleton.1 hb]; exact HN4.out))
                      have H4 := heap_setCell_same w3 h 0 _ _ (.slice A3 (cs.length + 1) c3) HR3.out
                      have HB4 := Lib.hid (below_step HBel.out hwz HSt.out K3 hhw (v := .slice A3 (cs.length + 1) c3))
                      have d4 : (w3.setCell ⟨h, 0, none⟩ (.slice A3 (cs.length + 1) c3)).cell? ⟨h, 0, none⟩ = some (.slice A3 (cs.length + 1) c3) := by rw [cell_of_row _ _ _ _ _ _ H4]; rfl
                      clear S3 K3 N3 hr3 d3 f3 hc0 H4
                      have z4 := HB4.out.size
                      go_wp2_with (first | (go_at_call 34; refine (cEe _).mono ?_; rintro e2 w2 ⟨rfl, rfl⟩) | (at_builtin; refine app_rowR HS4.out rfl rfl z4 rfl rfl (size_setCell _ _ _).symm (by omega) ?_; intro A5 c5 w5 O5 K5))
                      have HO5 := Lib.hid O5
                      have HB5 := Lib.hid (HB4.out.trans (((Keep.refl [] _).alloc _ |>.nil.trans K5 (fun b hb => .inl hb)).below z4 (fun b hb => by have := (HS4.out.own.range b (footR_mem.2 (.inl (by simpa using hb)))).1; omega)))
                      clear O5 K5 d4
                      go_roundw
                      case rel => exact ⟨e1, f', rs ++ [cs ++ [x]], xs ++ [.slice A3 (cs.length + 1) c3], he1s, by rw [HMin.out], fun _ => hfe1, by simp; omega, HO5.out, HN, HB5.out⟩
                      case measure => have h9 := HMin.out; simp [intOf]; omega
            · have hb34 : bt s i ≠ 34 := fun e => hq ⟨by
                by_cases q : i < s.size
                · exact q
                · rw [bt_out q] at e; exact absurd e (by decide), e⟩
              have HP : Hid (contC s f' i rs cs (plainR s i) = R) := by show _ = _; rw [← HC.out, cell_plain hb34]
              clear HC hq
              by_cases hil : i < s.size
              · obtain ⟨x0, hx0⟩ : ∃ x, s[i] = x := ⟨_, rfl⟩
                have hx34 : ((x0.toNat : Int) == 34) = false := by have := u8_ne 34 (x := x0) (by rw [← hx0, bt_in hil]; exact hb34); rw [beq_eq_false_iff_ne]; omega
                have hilz : (i : Int) < (s.size : Int) := by omega
                clear hb34
                go_wp2
                clear hx34 hx0 hilz
                go_loop [6] (fun v => ∃ p : Nat, i ≤ p ∧ p ≤ s.size ∧ v = .int .i64 p ∧ Hid (scanTo stopB s p = plainEnd s i)) (fun v => s.size - (intOf v).toNat)
                case atStart => exact ⟨i, Nat.le_refl _, hi, rfl, rfl⟩
                case round =>
                  obtain ⟨e, hie2, hes, rfl, hsc⟩ := hrel
                  have cEe := fun W => HCE.out e W hes
                  have hesz : (e : Int) ≤ (s.size : Int) := by omega
                  have hiez : (i : Int) ≤ (e : Int) := by omega
                  cases hce : cellEndB s e with
                  | false =>
                    have hrn : rowEndR s e = none := by unfold cellEndB at hce; cases hq : rowEndR s e <;> simp [hq] at hce ⊢
                    have hel := rowEnd_lt hrn
                    have hb44 : bt s e ≠ 44 := by unfold cellEndB at hce; simp at hce; exact hce.2
                    obtain ⟨y, hy⟩ : ∃ y, s[e] = y := ⟨_, rfl⟩
                    have hby : bt s e = y := by rw [← bt_in hel]; exact hy
                    have hyl := y.toNat_lt
                    rw [hby] at hb44
                    have hy44 : ((y.toNat : Int) == 44) = false := by have := u8_ne 44 hb44; rw [beq_eq_false_iff_ne]; omega
                    have hy44b : ((y.toNat : Int) != 44) = true := by rw [bne, hy44]; rfl
                    rw [end_none hel hrn] at cEe
                    have helz : (e : Int) < (s.size : Int) := by omega
                    by_cases h34 : y = 34
                    · have hE : plainEnd s i = e := by rw [← hsc.out]; exact scan_hit hel (by rw [hby, h34]; rfl)
                      have HE : Hid ((rs, e, 2) = R) := by show _ = _; rw [← HP.out, plain_quote hE hce (by rw [hby]; exact h34), contC_err]
                      have hy34 : ((y.toNat : Int) == 34) = true := by rw [h34]; rfl
                      clear hce hrn hb44 hby h34 hE hsc HP
                      go_wp2_with (first | (go_at_call 34; refine (cEe _).mono ?_; rintro e2 w2 ⟨rfl, rfl⟩))
                      refine bodyPost_ret (v := .tuple #[.slice A1 rs.length c1, .int .i64 e, .int .i64 2]) (by simp [results, Tryd.results15, go_sem]) rfl ?_
                      exact CsvIs.mk HE.out HSt.out.own HBel.out
                    · have hy34 : ((y.toNat : Int) == 34) = false := by have := u8_ne 34 h34; rw [beq_eq_false_iff_ne]; omega
                      by_cases h13 : y = 13
                      · have hE : plainEnd s i = e := by rw [← hsc.out]; exact scan_hit hel (by rw [hby, h13]; rfl)
                        have HE : Hid ((rs, e, 4) = R) := by show _ = _; rw [← HP.out, plain_end hE hce (by rw [hby]; exact h34), contC_err]
                        have hy13 : ((y.toNat : Int) == 13) = true := by rw [h13]; rfl
                        clear hce hrn hb44 hby h34 h13 hE hsc HP
                        go_wp2_with (first | (go_at_call 34; refine (cEe _).mono ?_; rintro e2 w2 ⟨rfl, rfl⟩))
                        refine bodyPost_ret (v := .tuple #[.slice A1 rs.length c1, .int .i64 e, .int .i64 4]) (by simp [results, Tryd.results15, go_sem]) rfl ?_
                        exact CsvIs.mk HE.out HSt.out.own HBel.out
                      · have hy13 : ((y.toNat : Int) == 13) = false := by have := u8_ne 13 h13; rw [beq_eq_false_iff_ne]; omega
                        have h10 : y ≠ 10 := fun e10 => by rw [rowEnd_10 hel (by rw [hby]; exact e10)] at hrn; cases hrn
                        have hst : stopB (bt s e) = false := by rw [hby]; unfold stopB; simp [hb44, h34, h10, h13]
                        have HS2 : Hid (scanTo stopB s (e + 1) = plainEnd s i) := by show _ = _; rw [← hsc.out, scan_on hel hst]
                        clear hce hrn hb44 hby h34 h13 h10 hst hsc
                        go_wp2_with (first | (go_at_call 34; refine (cEe _).mono ?_; rintro e2 w2 ⟨rfl, rfl⟩))
                        go_round
                        case rel => exact ⟨e + 1, by omega, hel, by go_num, HS2⟩
                        case measure => simp [intOf]; omega
                  | true =>
                    have hE : plainEnd s i = e := by rw [← hsc.out]; exact cellEnd_stop hce
                    obtain ⟨x, hx⟩ : ∃ x : ByteArray, s.extract i e = x := ⟨_, rfl⟩
                    have HK : Hid (contC s f' i rs cs (.ok (x, e)) = R) := by show _ = _; rw [← HP.out, plain_yes hE hce, hx]
                    have hxz : x.size ≤ 4000 := by rw [← hx, ByteArray.size_extract]; omega
                    clear hE hsc HP
                    cases hrn : rowEndR s e with
                    | none =>
                      have hel := rowEnd_lt hrn
                      have hb44 := cellEnd_none hce hrn
                      have h44y : s[e] = 44 := by rw [bt_in hel]; exact hb44
                      have helz : (e : Int) < (s.size : Int) := by omega
                      rw [end_none hel hrn] at cEe
                      clear hb44 hce
                      by_cases hxl : 1000 < x.size
                      · have hxlz : (1000 : Int) < (x.size : Int) := by omega
                        have HE := Lib.hid ((contC_long hxl).symm.trans HK.out)
                        clear HK
                        go_wp2_with (first | (go_at_call 34; refine (cEe _).mono ?_; rintro e2 w2 ⟨rfl, rfl⟩))
                        refine bodyPost_ret (v := .tuple #[.slice A1 rs.length c1, .int .i64 i, .int .i64 6]) (by simp [results, Tryd.results15, go_sem]) rfl ?_
                        exact CsvIs.mk HE.out HSt.out.own HBel.out
                      · have hxlz : ¬ (1000 : Int) < (x.size : Int) := by omega
                        have HN := Lib.hid ((contC_next hxl hrn).symm.trans HK.out)
                        obtain ⟨e1, he1⟩ : ∃ e1, e + 1 = e1 := ⟨_, rfl⟩
                        have he1z : (e : Int) + 1 = (e1 : Int) := by omega
                        have he1s : e1 ≤ s.size := by omega
                        have hie1 : i < e1 := by omega
                        have hfe1 : s.size < e1 + f' := by omega
                        rw [he1] at HN
                        clear HK hrn he1
                        go_wp2_with (first | (go_at_call 34; refine (cEe _).mono ?_; rintro e2 w2 ⟨rfl, rfl⟩) | (at_builtin; refine app_cellR HSt.out hwz rfl rfl rfl (by omega) ?_; intro A3 c3 w3 S3 K3 N3; have hr3 : w3.heap[h]? = some (.cells #[.slice A2 cs.length c2] 46 (0, 0)) := ((K3.block h (by simp; omega) (fun hm => by exact HNf.out (footS_mem.2 (.inr (by simpa using hm))))).trans ((Below.heap_alloc _ _ _ hhl).trans HRow.out)); have d3 : w3.cell? ⟨h, 0, none⟩ = some (.slice A2 cs.length c2) := (by rw [cell_of_row _ _ _ _ _ _ hr3]; rfl); have f3 : w3.frozen? ⟨h, 0, none⟩ = false := frozen_of_row w3 h 0 _ _ hr3))
                        have HS3 := Lib.hid S3
                        have HK3 := Lib.hid K3
                        have HN3 := Lib.hid N3
                        have HR3 := Lib.hid hr3
                        clear S3 K3 N3 hr3 d3 f3 hc0
                        go_roundw
                        case rel =>
                          have hnf3 := nf_step HNf.out HN3.out hhl
                          exact ⟨e1, f', cs ++ [x], .slice A3 (cs.length + 1) c3, he1s, rfl, hfe1, by omega, by omega, .inr (by omega), by simp; omega, HS3.out.keepS ((Keep.refl [h] w3).setCell (.inl (by simp)) _) (fun b hb => by rw [List.mem_singleton.1 hb]; exact hnf3), heap_setCell_same _ _ _ _ _ _ HR3.out, hnf3, HN, below_step HBel.out hwz HSt.out HK3.out hhw⟩
                        case measure => simp [intOf]; omega
                    | some n =>
                      have hen : 1 ≤ endN s e := by
                        by_cases hel : e < s.size
                        · have := end_some hel hrn; omega
                        · rw [endN_out hel]; omega
                      obtain ⟨m, hm⟩ : ∃ m, endN s e = m := ⟨_, rfl⟩
                      have hmz : ((m : Int) == 0) = false := by rw [beq_eq_false_iff_ne]; omega
                      have hmz2 : ((m : Int) != 0) = true := by rw [bne, hmz]; rfl
                      rw [hm] at cEe
                      clear hce
                      by_cases hxl : 1000 < x.size
                      · have hxlz : (1000 : Int) < (x.size : Int) := by omega
                        have HE := Lib.hid ((contC_long hxl).symm.trans HK.out)
                        clear HK hm
                        go_wp2_with (first | (go_at_call 34; refine (cEe _).mono ?_; rintro e2 w2 ⟨rfl, rfl⟩))
                        refine bodyPost_ret (v := .tuple #[.slice A1 rs.length c1, .int .i64 i, .int .i64 6]) (by simp [results, Tryd.results15, go_sem]) rfl ?_
                        exact CsvIs.mk HE.out HSt.out.own HBel.out
                      · have hxlz : ¬ (1000 : Int) < (x.size : Int) := by omega
                        have HN := Lib.hid ((contC_row hxl hrn).symm.trans HK.out)
                        have hnl := rowEnd_le hrn hes
                        obtain ⟨e1, he1⟩ : ∃ e1, e + n = e1 := ⟨_, rfl⟩
                        have he1s : e1 ≤ s.size := by omega
                        have HMin : Hid (min (s.size : Int) ((e : Int) + (m : Int)) = (e1 : Int)) := by
                          show _ = _
                          by_cases hel : e < s.size
                          · have := end_some hel hrn
                            omega
                          · rw [endN_out hel] at hm
                            omega
                        have hke1 : k0 < e1 := by
                          by_cases hel : e < s.size
                          · have := hnl.2 hel; omega
                          · rcases hprog with q | q <;> omega
                        have hm9 : m ≤ 9 := by
                          by_cases hel : e < s.size
                          · have h2 := end_some hel hrn
                            have h3 := rowEnd_two hrn
                            omega
                          · rw [endN_out hel] at hm; omega
                        have hfe1 : s.size < e1 + f' := by
                          by_cases hel : e < s.size
                          · have := hnl.2 hel; omega
                          · rcases hprog with q | q <;> omega
                        rw [he1] at HN
                        clear HK hrn he1 hm hnl
                        go_upto_region 30 with (first | (go_at_call 34; refine (cEe _).mono ?_; rintro e2 w2 ⟨rfl, rfl⟩) | (at_builtin; refine app_cellR HSt.out hwz rfl rfl rfl (by omega) ?_; intro A3 c3 w3 S3 K3 N3; have hr3 : w3.heap[h]? = some (.cells #[.slice A2 cs.length c2] 46 (0, 0)) := ((K3.block h (by simp; omega) (fun hm => by exact HNf.out (footS_mem.2 (.inr (by simpa using hm))))).trans ((Below.heap_alloc _ _ _ hhl).trans HRow.out)); have d3 : w3.cell? ⟨h, 0, none⟩ = some (.slice A2 cs.length c2) := (by rw [cell_of_row _ _ _ _ _ _ hr3]; rfl); have f3 : w3.frozen? ⟨h, 0, none⟩ = false := frozen_of_row w3 h 0 _ _ hr3))
                        have HR3 := Lib.hid hr3
                        have HN4 := Lib.hid (nf_step HNf.out N3 hhl)
                        have HS4 := Lib.hid (S3.keepS ((Keep.refl [h] w3).setCell (p := h) (j := 0) (.inl (by simp)) (.slice A3 (cs.length + 1) c3)) (fun b hb => by rw [List.mem_singleton.1 hb]; exact HN4.out))
                        have H4 := heap_setCell_same w3 h 0 _ _ (.slice A3 (cs.length + 1) c3) HR3.out
                        have HB4 := Lib.hid (below_step HBel.out hwz HSt.out K3 hhw (v := .slice A3 (cs.length + 1) c3))
                        have d4 : (w3.setCell ⟨h, 0, none⟩ (.slice A3 (cs.length + 1) c3)).cell? ⟨h, 0, none⟩ = some (.slice A3 (cs.length + 1) c3) := by rw [cell_of_row _ _ _ _ _ _ H4]; rfl
                        clear S3 K3 N3 hr3 d3 f3 hc0 H4
                        have z4 := HB4.out.size
                        go_wp2_with (first | (go_at_call 34; refine (cEe _).mono ?_; rintro e2 w2 ⟨rfl, rfl⟩) | (at_builtin; refine app_rowR HS4.out rfl rfl z4 rfl rfl (size_setCell _ _ _).symm (by omega) ?_; intro A5 c5 w5 O5 K5))
                        have HO5 := Lib.hid O5
                        have HB5 := Lib.hid (HB4.out.trans (((Keep.refl [] _).alloc _ |>.nil.trans K5 (fun b hb => .inl hb)).below z4 (fun b hb => by have := (HS4.out.own.range b (footR_mem.2 (.inl (by simpa using hb)))).1; omega)))
                        clear O5 K5 d4
                        go_roundw
                        case rel => exact ⟨e1, f', rs ++ [cs ++ [x]], xs ++ [.slice A3 (cs.length + 1) c3], he1s, by rw [HMin.out], fun _ => hfe1, by simp; omega, HO5.out, HN, HB5.out⟩
                        case measure => have h9 := HMin.out; simp [intOf]; omega
              · obtain rfl : i = s.size := by omega
                have hilz : ¬ (s.size : Int) < (s.size : Int) := by omega
                have hrn : rowEndR s s.size = some 0 := rowEnd_out (by omega)
                have hce : cellEndB s s.size = true := by unfold cellEndB; rw [hrn]; rfl
                have hx : s.extract s.size s.size = ByteArray.empty := by apply ByteArray.ext; rw [ByteArray.data_extract]; simp
                have HN : Hid (csvB s f' (s.size + 0) (rs ++ [cs ++ [ByteArray.empty]]) = R) := by
                  show _ = _
                  rw [← HP.out, plain_yes (e := s.size) (scan_out (by omega)) hce, hx, contC_row (x := ByteArray.empty) (by decide) hrn]
                have cEe : ∀ W, Calls Tryd.prog 34 #[.string s, .int .i64 s.size] W fun e w' => e = .returned (.int .i64 9) ∧ W = w' := fun W => by
                  have h0 := HCE.out s.size W (Nat.le_refl _)
                  rw [endN_out (by omega)] at h0
                  exact h0
                have HMin : Hid (min (s.size : Int) ((s.size : Int) + 9) = (s.size : Int)) := by show _ = _; omega
                clear hb34 HP hrn hce hx
                go_wp2
                go_loop [6] (fun v => v = .int .i64 s.size) (fun _ => 0)
                case atStart => rfl
                case round =>
                  obtain rfl := hrel
                  go_upto_region 30 with (first | (go_at_call 34; refine (cEe _).mono ?_; rintro e2 w2 ⟨rfl, rfl⟩) | (at_builtin; refine app_cellR HSt.out hwz rfl rfl rfl (by omega) ?_; intro A3 c3 w3 S3 K3 N3; have hr3 : w3.heap[h]? = some (.cells #[.slice A2 cs.length c2] 46 (0, 0)) := ((K3.block h (by simp; omega) (fun hm => by exact HNf.out (footS_mem.2 (.inr (by simpa using hm))))).trans ((Below.heap_alloc _ _ _ hhl).trans HRow.out)); have d3 : w3.cell? ⟨h, 0, none⟩ = some (.slice A2 cs.length c2) := (by rw [cell_of_row _ _ _ _ _ _ hr3]; rfl); have f3 : w3.frozen? ⟨h, 0, none⟩ = false := frozen_of_row w3 h 0 _ _ hr3))
                  have HR3 := Lib.hid hr3
                  have HN4 := Lib.hid (nf_step HNf.out N3 hhl)
                  have HS4 := Lib.hid (S3.keepS ((Keep.refl [h] w3).setCell (p := h) (j := 0) (.inl (by simp)) (.slice A3 (cs.length + 1) c3)) (fun b hb => by rw [List.mem_singleton.1 hb]; exact HN4.out))
                  have H4 := heap_setCell_same w3 h 0 _ _ (.slice A3 (cs.length + 1) c3) HR3.out
                  have HB4 := Lib.hid (below_step HBel.out hwz HSt.out K3 hhw (v := .slice A3 (cs.length + 1) c3))
                  have d4 : (w3.setCell ⟨h, 0, none⟩ (.slice A3 (cs.length + 1) c3)).cell? ⟨h, 0, none⟩ = some (.slice A3 (cs.length + 1) c3) := by rw [cell_of_row _ _ _ _ _ _ H4]; rfl
                  clear S3 K3 N3 hr3 d3 f3 hc0 H4
                  have z4 := HB4.out.size
                  go_wp2_with (first | (go_at_call 34; refine (cEe _).mono ?_; rintro e2 w2 ⟨rfl, rfl⟩) | (at_builtin; refine app_rowR HS4.out rfl rfl z4 rfl rfl (size_setCell _ _ _).symm (by omega) ?_; intro A5 c5 w5 O5 K5))
                  have HO5 := Lib.hid O5
                  have HB5 := Lib.hid (HB4.out.trans (((Keep.refl [] _).alloc _ |>.nil.trans K5 (fun b hb => .inl hb)).below z4 (fun b hb => by have := (HS4.out.own.range b (footR_mem.2 (.inl (by simpa using hb)))).1; omega)))
                  clear O5 K5 d4
                  go_roundw
                  case rel => exact ⟨s.size, f', rs ++ [cs ++ [ByteArray.empty]], xs ++ [.slice A3 (cs.length + 1) c3], Nat.le_refl _, by first | rw [HMin.out] | rfl, fun h => absurd h (by omega), by simp; omega, HO5.out, HN, HB5.out⟩
                  case measure => have h9 := HMin.out; simp [intOf]; omega
      · have hk0z : ¬ (k0 : Int) < (s.size : Int) := by omega
        have HE : Hid ((rs, 0, 0) = R) := by show _ = _; rw [← hgo.out]; unfold csvB; rw [if_neg hlt0]
        clear hgo hbel hown
        go_wp2
        refine bodyPost_ret (v := .tuple #[.slice A1 rs.length c1, .int .i64 0, .int .i64 0]) (by simp [results, Tryd.results15, go_sem]) rfl ?_
        exact CsvIs.mk HE.out HOwn.out HBel.out

end Go.Proofs.YtjklnfcoaakkgaaDoor
