/- impl.RxText answers as the plain function. Conditions: at most 1048576 elements in all; numbers are ints; strconv's table lies. -/
import Derived.Test.YtdkjfppjbkdelaaGreatDoorRxWC
import Derived.Test.YtdkjfppjbkdelaaGreatDoorRxTree
namespace Go.Proofs.YtdkjfppjbkdelaaGreatDoor
set_option linter.unusedVariables false
open Go.RowKit
open Go.Lib (byteCells)

set_option maxHeartbeats 4000000 in
set_option maxRecDepth 100000 in
theorem hasText_any (nd : Nd) (sa : Option Addr) (sc : Nat) (ka : Option Addr) (kc : Nat) (w : World) (h1 : nd.set.length ≤ 1048576) (h2 : nd.kids.length ≤ 1048576) :
    Calls Tryz.prog 58 #[ndv nd sa sc ka kc] w fun e w' => e = .returned (.bool (hasT nd)) ∧ Below w.heap.size w w' := by
  unfold ndv
  have b0 : Below w.heap.size w (w.alloc (.cells #[.int .i64 nd.kind, .int .i64 nd.lo, .int .i64 nd.hi, .bool nd.neg, .slice sa nd.set.length sc, .slice ka nd.kids.length kc] 47)) := (Below.refl _ _).alloc (Nat.le_refl _) _
  obtain ⟨kd, lo, hi, neg, set, kids⟩ := nd
  simp only at *
  by_cases q1 : 1 ≤ kd
  · by_cases q2 : kd ≤ 9
    · by_cases hev : set.length % 2 = 0
      · have hm : Int.tmod (set.length : Int) 2 = 0 := by rw [Int.tmod_eq_emod_of_nonneg (by omega)]; omega
        by_cases q9 : kd = 9
        · subst q9
          by_cases hk : kids.length = 1
          · have hkz : ((kids.length : Int) == 1) = true := by simp; omega
            have hR := Lib.hid (show true = hasT ⟨9, lo, hi, neg, set, kids⟩ by simp [hasT, hev, hk])
            clear hk hev
            go_enter Tryz.func58, Tryz.ntmps58
            go_wp2
            go_ret
            exact ⟨ret_bool hR.out, b0⟩
          · have hkz : ((kids.length : Int) == 1) = false := by simp; omega
            have hR := Lib.hid (show false = hasT ⟨9, lo, hi, neg, set, kids⟩ by simp [hasT, hev, hk])
            clear hk hev
            go_enter Tryz.func58, Tryz.ntmps58
            go_wp2
            go_ret
            exact ⟨ret_bool hR.out, b0⟩
        · have hb9 : (kd == 9) = false := by simpa using q9
          have hR := Lib.hid (show true = hasT ⟨kd, lo, hi, neg, set, kids⟩ by simp [hasT, hev, q1, q2, q9])
          clear hev
          go_enter Tryz.func58, Tryz.ntmps58
          go_wp2
          go_ret
          exact ⟨ret_bool hR.out, b0⟩
      · have hm : Int.tmod (set.length : Int) 2 = 1 := by rw [Int.tmod_eq_emod_of_nonneg (by omega)]; omega
        have hR := Lib.hid (show false = hasT ⟨kd, lo, hi, neg, set, kids⟩ by simp [hasT]; omega)
        clear hev
        go_enter Tryz.func58, Tryz.ntmps58
        go_wp2
        go_ret
        exact ⟨ret_bool hR.out, b0⟩
    · have hR := Lib.hid (show false = hasT ⟨kd, lo, hi, neg, set, kids⟩ by simp [hasT]; omega)
      go_enter Tryz.func58, Tryz.ntmps58
      go_wp2
      go_ret
      exact ⟨ret_bool hR.out, b0⟩
  · have hR := Lib.hid (show false = hasT ⟨kd, lo, hi, neg, set, kids⟩ by simp [hasT]; omega)
    go_enter Tryz.func58, Tryz.ntmps58
    go_wp2
    go_ret
    exact ⟨ret_bool hR.out, b0⟩

def HTRel (ns : List Nd) (w0 : World) (i : Value) (wr : World) : Prop :=
  ∃ k : Nat, k ≤ ns.length ∧ i = .int .i64 k ∧ (ns.drop k).all hasT = ns.all hasT ∧ Below w0.heap.size w0 wr

/-- strconv's table lies below a block. -/
def TabLow (w : World) (B : Nat) : Prop := Lib.TabIs Tryz.prog w "internal/strconv.uint64pow10" .u64 Lib.pow10Tab ∧ 3 < B
theorem TabLow.below {w w1 : World} {B : Nat} (h : TabLow w B) (hb : Below B w w1) : TabLow w1 B := ⟨var?_below hb (show Tryz.prog.globalNamed "internal/strconv.uint64pow10" = some 3 by kernel_rfl) h.2 h.1, h.2⟩

theorem all_drop {ns : List Nd} {k : Nat} (h : k < ns.length) : (ns.drop k).all hasT = (hasT ns[k] && (ns.drop (k + 1)).all hasT) := by
  rw [List.drop_eq_getElem_cons h, List.all_cons]

set_option maxHeartbeats 8000000 in
set_option maxRecDepth 100000 in
theorem implText (A : Option Addr) (c : Nat) (ns : List Nd) (w : World) (hlen : ns.length + bulks ns ≤ 1048576) (hN : Nodes w w.heap.size A ns) (hB : ∀ n ∈ ns, I64 n.lo ∧ I64 n.hi) (hTab : TabLow w w.heap.size) :
    Calls Tryz.prog 16 #[.agg #[.slice A ns.length c]] w fun e w' => e = .returned (.string (bytesT (textI ns))) ∧ Below w.heap.size w w' := by
  obtain ⟨w0, hw0⟩ : ∃ w0, w.alloc (.cells #[.slice A ns.length c] 27) = w0 := ⟨_, rfl⟩
  have b0 : Below w.heap.size w w0 := by rw [← hw0]; exact (Below.refl _ _).alloc (Nat.le_refl _) _
  have hz0 : w0.heap.size = w.heap.size + 1 := by rw [← hw0, alloc_size1]
  have x0 : w0.cell? ⟨w.heap.size, 0, none⟩ = some (.slice A ns.length c) := by rw [← hw0, cell_of_row _ _ _ _ _ _ (heap_alloc_new w _)]; rfl
  have cT := implTree A c ns w0 hlen ((hN.below b0).up (by omega))
  have box : ∀ W, Below w0.heap.size w0 W → W.cell? ⟨w.heap.size, 0, none⟩ = some (.slice A ns.length c) ∧ Below w.heap.size w W := fun W h => ⟨(h.cell (p := ⟨w.heap.size, 0, none⟩) (by show w.heap.size < _; omega)).trans x0, b0.trans (h.mono (by omega))⟩
  have BX := Lib.hid box
  have HN := Lib.hid hN
  have HB := Lib.hid hB
  have HTab := Lib.hid hTab
  have HZ := Lib.hid hz0
  clear hN box hB hTab hz0 b0
  go_enter Tryz.func16, Tryz.ntmps16
  go_wp2_with fail
  refine cT.mono ?_
  rintro e w1 ⟨rfl, b1⟩
  obtain ⟨x1, B1⟩ := BX.out _ b1
  clear cT x0
  cases ht : isTreeR ns with
  | false =>
    have hR : Hid (textI ns = []) := by show _ = _; unfold textI; rw [if_neg (by rw [ht]; simp)]
    clear ht
    go_wp2
    go_ret
    exact ⟨by rw [hR.out]; rfl, B1⟩
  | true =>
    have HTree := Lib.hid ht
    have hne : 0 < ns.length := List.length_pos_iff.2 (tree_kids ht).1
    clear ht
    go_wp2
    go_loopw [13] (HTRel ns w0) (fun i _ => ns.length - (intOf i).toNat)
    case atStart => exact ⟨0, Nat.zero_le _, rfl, rfl, b1⟩
    case round =>
      clear b1 x1 B1
      obtain ⟨k, hk, rfl, hall, hbel⟩ := hrel
      obtain ⟨xr, Br⟩ := BX.out _ hbel
      by_cases hlt : k < ns.length
      · obtain ⟨b, o, sa, sc, ka, kc, rfl, hbb, hs, hn1, hn2⟩ := HN.out k hlt
        obtain ⟨c0, c1, c2, c3, c4, c5⟩ := hs.move (w' := wr) fun i => Br.cell (p := ⟨b, i, none⟩) hbb
        have hbk : bulkOf ns[k] ≤ bulks ns := by have h1 := bulks_take hlt; have h2 := bulks_le ns (k + 1); omega
        unfold bulkOf at hbk
        rw [all_drop hlt] at hall
        obtain ⟨nd, hnd⟩ : ∃ nd, ns[k] = nd := ⟨_, rfl⟩
        rw [hnd] at c0 c1 c2 c3 c4 c5 hall hbk
        have hal := hbel.alloc hbel.size (.cells #[.int .i64 nd.kind, .int .i64 nd.lo, .int .i64 nd.hi, .bool nd.neg, .slice sa nd.set.length sc, .slice ka nd.kids.length kc] 47)
        have cH := hasText_any nd sa sc ka kc (wr.alloc (.cells #[.int .i64 nd.kind, .int .i64 nd.lo, .int .i64 nd.hi, .bool nd.neg, .slice sa nd.set.length sc, .slice ka nd.kids.length kc] 47)) (by omega) (by omega)
        unfold ndv at cH
        have HAL := Lib.hid hal
        have HAll := Lib.hid hall
        clear hs hn1 hn2 hbk hnd hal hall
        cases hh : hasT nd with
        | true =>
          rw [hh] at cH HAll
          have HA2 : Hid ((ns.drop (k + 1)).all hasT = ns.all hasT) := by have := HAll.out; rw [Bool.true_and] at this; exact this
          clear hh HAll
          go_wp2_with (go_at_call 58; refine cH.mono ?_; rintro e w3 ⟨rfl, b3⟩)
          go_roundw
          case rel => exact ⟨k + 1, hlt, by go_num, HA2.out, HAL.out.trans (b3.mono HAL.out.size)⟩
          case measure => simp [intOf]; omega
        | false =>
          rw [hh] at cH HAll
          have hR : Hid (textI ns = []) := by
            have := HAll.out
            rw [Bool.false_and] at this
            show _ = _
            unfold textI
            rw [if_neg (by rw [← this]; simp)]
          clear hh HAll
          go_wp2_with (go_at_call 58; refine cH.mono ?_; rintro e w3 ⟨rfl, b3⟩)
          go_ret
          exact ⟨by rw [hR.out]; rfl, (BX.out _ (HAL.out.trans (b3.mono HAL.out.size))).2⟩
      · rw [List.drop_eq_nil_of_le (by omega)] at hall
        have HAll : Hid (ns.all hasT = true) := hall.symm
        obtain ⟨m, hm⟩ : ∃ m, ns.length - 1 = m := ⟨_, rfl⟩
        have hmz : (ns.length : Int) - 1 = (m : Int) := by omega
        have hml : m < ns.length := by omega
        obtain ⟨W1, hW1⟩ : ∃ W1, wr.alloc (.cells #[.slice A ns.length c, .slice none 0 0, .bool false] 88) = W1 := ⟨_, rfl⟩
        have hkW : Keep [] wr W1 := by rw [← hW1]; exact (Keep.refl [] wr).alloc _
        have bW : Below wr.heap.size wr W1 := hkW.below (Nat.le_refl _) fun b hb => by cases hb
        have hpw : w.heap.size ≤ wr.heap.size := Br.size
        have hWt : Wt W1 wr.heap.size A c ns (some []) [] :=
          ⟨.slice none 0 0, false, [], by rw [← hW1]; exact heap_alloc_new wr _, World.ownsRow_nil _ _ _ _, by simp, rfl, rfl, ((HN.out.below Br).up hpw).below bW, ((HTab.out.below Br).below (bW.mono hpw)).1, Nat.lt_of_lt_of_le HTab.out.2 hpw⟩
        have cN := wnode_all wr.heap.size A c ns hlen (tree_kids HTree.out).2 (fun n hn => List.all_eq_true.1 HAll.out n hn) HB.out m hml W1 (some []) [] hWt
        rw [Int.toNat_natCast] at cN
        have hBW : Below w.heap.size w W1 := Br.trans (bW.mono hpw)
        have xW := (bW.cell (p := ⟨w.heap.size, 0, none⟩) (show w.heap.size < wr.heap.size by have := hbel.size; have := HZ.out; omega)).trans xr
        have HM := Lib.hid hm
        have HBW := Lib.hid hBW
        have HP := Lib.hid hpw
        have hzW : Hid (wr.heap.size ≤ W1.heap.size) := hkW.size
        have HW1 := Lib.hid hW1
        rw [← hW1] at cN xW
        clear hall hm hWt hBW hkW bW hpw hbel hW1
        go_wp2_with fail
        refine cN.mono ?_
        rintro e w3 ⟨rfl, hk3⟩
        have hB3 : Hid (Below w.heap.size w w3) := by
          have e := HW1.out
          subst e
          exact HBW.out.trans ((hk3.low hzW.out fun b hb => by cases hb).mono HP.out)
        obtain ⟨F1, ⟨v, fl, acc, h1, h2, h3, h4, h5, h6⟩, hkp, hF1⟩ := hk3
        obtain ⟨y0, y1, y2⟩ := h1.cell
        have hI : Hid (textI ns = ((if fl = true then none else some acc : Wr)).getD []) := by
          show _ = _
          unfold textI
          rw [if_pos ⟨HTree.out, HAll.out⟩, HM.out, h4]
        obtain ⟨RA, rc, rfl⟩ := own_form h2
        have hcv : (convert 22 9 (.slice RA acc.length rc)).run Tryz.prog w3 = .ok (.string ⟨acc.toArray⟩) w3 := conv_own Tryz.underlying22 Tryz.underlying5 Tryz.underlying9 h2
        clear h1 h2 h3 h4 h5 h6 hkp hF1 cN
        cases fl with
        | true =>
          go_wp2
          go_ret
          exact ⟨by rw [hI.out]; rfl, hB3.out⟩
        | false =>
          go_wp2
          go_ret
          exact ⟨by rw [hI.out]; rfl, hB3.out⟩

end Go.Proofs.YtdkjfppjbkdelaaGreatDoor
