/- spec.RxText answers as the plain function. Conditions: at most 1048576 elements in all; numbers are ints. -/
import Derived.Test.YtdkjfppjbkdelaaGreatDoorRxTB
namespace Go.Proofs.YtdkjfppjbkdelaaGreatDoor
set_option linter.unusedVariables false
open Go.RowKit

def BSRel (set : List Int) (neg : Bool) (w3 : World) (o i : Value) (wr : World) : Prop :=
  ∃ (j : Nat) (u : ByteArray), j ≤ set.length ∧ j % 2 = 0 ∧ o = .string u ∧ i = .int .i64 j ∧ Hid (u.data.toList ++ (pairsT (set.drop j) ++ [93]) = setT neg set) ∧ (∀ q (h : q < set.length), q < j → pt set[q] = true) ∧ u.size ≤ 1100 ∧ Below w3.heap.size w3 wr
theorem pairsT_step {l : List Int} {k : Nat} (h : k + 1 < l.length) : pairsT (l.drop k) = pairT l[k] l[k + 1] ++ pairsT (l.drop (k + 2)) := by
  rw [List.drop_eq_getElem_cons (by omega), List.drop_eq_getElem_cons h, pairsT]
def KSRel (ns : List Nd) (ys : List ByteArray) (pk : Int) (kids : List Int) (w3 : World) (T : List UInt8) (o i : Value) (wr : World) : Prop :=
  ∃ (j : Nat) (u : ByteArray), j ≤ kids.length ∧ o = .string u ∧ i = .int .i64 j ∧ Hid (u.data.toList ++ kidsT ns (bts ys) pk (decide (j = 0)) (kids.drop j) = T) ∧ u.size ≤ 1000 ∧ Below w3.heap.size w3 wr
theorem kidsT_step {ns : List Nd} {z : List (List UInt8)} {p : Int} {b : Bool} {ks : List Int} {j : Nat} (h : j < ks.length) :
    kidsT ns z p b (ks.drop j) = (sepT p b ++ par (encl p (kindAt ns ks[j])) (z.getD (ks[j]).toNat [])) ++ kidsT ns z p false (ks.drop (j + 1)) := by
  rw [List.drop_eq_getElem_cons h, kidsT]
theorem app4 (x y : ByteArray) (hx : x.size ≤ 5000) (hy : y.size ≤ 5000) : ∃ b : ByteArray, x ++ y = b ∧ b.data.toList = x.data.toList ++ y.data.toList ∧ b.size = x.size + y.size := ⟨_, rfl, str_app x y, ByteArray.size_append⟩
theorem oftenT_len (lo hi : Int) (hl : I64 lo) (hh : I64 hi) : (oftenT lo hi).length ≤ 100 := by
  have h1 := Lib.itoa_length_le lo hl.1 hl.2
  have h2 := Lib.itoa_length_le hi hh.1 hh.2
  unfold oftenT
  repeat' split
  all_goals simp
  all_goals omega
theorem pointT_len (esc : List Int) (c : Int) : (pointT esc c).length ≤ 5 := by
  have := (encodeRune_length c).2
  unfold pointT
  repeat' split
  all_goals simp
  all_goals omega

set_option maxHeartbeats 16000000 in
set_option maxRecDepth 100000 in
theorem specTextC (A : Option Addr) (c : Nat) (ns : List Nd) (w : World) (hlen : ns.length + bulks ns ≤ 1048576) (hN : Nodes w w.heap.size A ns) (hB : ∀ n ∈ ns, I64 n.lo ∧ I64 n.hi) :
    Calls Tryz.prog 22 #[.agg #[.slice A ns.length c]] w fun e w' => e = .returned (.string (bytesT (textS ns))) ∧ Below w.heap.size w w' := by
  obtain ⟨i0, hi, hz0, hz1, hz2⟩ := info_parts Tryz.infoStr
  obtain ⟨w0, hw0⟩ : ∃ w0, w.alloc (.cells #[.slice A ns.length c] 27) = w0 := ⟨_, rfl⟩
  have b0 : Below w.heap.size w w0 := by rw [← hw0]; exact (Below.refl _ _).alloc (Nat.le_refl _) _
  have hzz : w0.heap.size = w.heap.size + 1 := by rw [← hw0, alloc_size1]
  have x0 : w0.cell? ⟨w.heap.size, 0, none⟩ = some (.slice A ns.length c) := by rw [← hw0, cell_of_row _ _ _ _ _ _ (heap_alloc_new w _)]; rfl
  have cT := specTree A c ns w0 hlen ((hN.below b0).up (by omega))
  have HN := Lib.hid hN
  have HB := Lib.hid hB
  clear hN hB
  go_enter Tryz.func22, Tryz.ntmps22
  go_wp2_with fail
  refine cT.mono ?_
  rintro e w1 ⟨rfl, b1⟩
  have x1 := (b1.cell (p := ⟨w.heap.size, 0, none⟩) (by show w.heap.size < _; omega)).trans x0
  have B1 : Below w.heap.size w w1 := b0.trans (b1.mono (by omega))
  have z1 : w.heap.size < w1.heap.size := by have := b1.size; omega
  clear cT x0 b0 b1 hzz
  cases ht : isTreeR ns with
  | false =>
    have hR : Hid (textS ns = []) := by show _ = _; unfold textS; rw [if_neg (by rw [ht]; simp)]
    clear ht
    go_wp2
    go_ret
    exact ⟨by rw [hR.out]; rfl, B1⟩
  | true =>
    have HA := Lib.hid (textS_ans ht)
    have HKd := Lib.hid (tree_kids ht)
    have hne : 0 < ns.length := List.length_pos_iff.2 (tree_kids ht).1
    clear ht
    go_wp2_with (at_make; refine wpList_make_full _ rfl _ _ 49 rfl w1.heap.size 9 i0 _ 1 Tryz.underlying49 hi hz0 hz1 _ _ _ _ ns.length rfl rfl rfl rfl (by rw [hz2]; omega) (by unfold maxLen; omega) (Nat.le_refl _) ?_; intro w2 hown0 hgrow0)
    have b12 : Below w1.heap.size w1 w2 := (Below.refl _ _).grown hgrow0 (Nat.le_refl _) (fun k h => by cases h)
    have HF := Lib.hid (trow_made hown0)
    have x2 := (b12.cell (p := ⟨w.heap.size, 0, none⟩) z1).trans x1
    obtain ⟨g, hg⟩ : ∃ g, w1.heap.size = g := ⟨_, rfl⟩
    rw [hg] at HF b12 z1 ⊢
    have HB1 := Lib.hid B1
    have HX1 := Lib.hid x1
    clear hown0 hgrow0 x1 B1 hg
    go_wp2
    obtain ⟨O, hO⟩ : ∃ O, textsS ns ns [] = O := ⟨_, rfl⟩
    rw [hO] at HA
    go_loopw [4] (TXRel ns w1 g O) (fun i _ => ns.length - (intOf i).toNat)
    case atStart => exact ⟨0, [], Nat.zero_le _, rfl, rfl, HF.out, hO, (fun y hy => by cases hy), b12⟩
    case round =>
      clear x2 b12 HF hO
      obtain ⟨k, ys, hk, rfl, hyl, hrow, hto, hsm, hbel⟩ := hrel
      subst hyl
      have xr := (hbel.cell (p := ⟨w.heap.size, 0, none⟩) z1).trans HX1.out
      have Br : Below w.heap.size w wr := HB1.out.trans (hbel.mono (Nat.le_of_lt z1))
      by_cases hlt : ys.length < ns.length
      · obtain ⟨b, o, sa, sc, ka, kc, rfl, hbb, hs, hn1, hn2⟩ := HN.out ys.length hlt
        obtain ⟨c0, c1, c2, c3, c4, c5⟩ := hs.move (w' := wr) fun i => Br.cell (p := ⟨b, i, none⟩) hbb
        have hbk : bulkOf ns[ys.length] ≤ bulks ns := by have h1 := bulks_take hlt; have h2 := bulks_le ns (ys.length + 1); omega
        unfold bulkOf at hbk
        have hkd := HKd.out.2 ys.length hlt
        have hbnd := HB.out _ (List.getElem_mem hlt)
        have hnone : bodyS ns (bts ys) ns[ys.length] = none → textS ns = [] := fun h => by rw [HA.out, ← hto, texts_none hlt h]; rfl
        have hlong : ∀ t, bodyS ns (bts ys) ns[ys.length] = some t → 1000 < t.length → textS ns = [] := fun t h h2 => by rw [HA.out, ← hto, texts_long hlt h h2]; rfl
        have hnext : ∀ bb : ByteArray, bodyS ns (bts ys) ns[ys.length] = some bb.data.toList → ¬ 1000 < bb.size → textsS ns (ns.drop (ys.length + 1)) (bts (ys ++ [bb])) = O := fun bb h h2 => by rw [← texts_next hlt h h2]; exact hto
        obtain ⟨nd, hnd⟩ : ∃ nd, ns[ys.length] = nd := ⟨_, rfl⟩
        rw [hnd] at c0 c1 c2 c3 c4 c5 hbk hkd hbnd hnone hlong hnext hn1 hn2
        obtain ⟨w3, hw3⟩ : ∃ w3, wr.alloc (.cells #[.int .i64 nd.kind, .int .i64 nd.lo, .int .i64 nd.hi, .bool nd.neg, .slice sa nd.set.length sc, .slice ka nd.kids.length kc] 47) = w3 := ⟨_, rfl⟩
        have b3 : Below wr.heap.size wr w3 := by rw [← hw3]; exact (Below.refl _ _).alloc (Nat.le_refl _) _
        have X3 : Six w3 wr.heap.size 47 (.int .i64 nd.kind) (.int .i64 nd.lo) (.int .i64 nd.hi) (.bool nd.neg) (.slice sa nd.set.length sc) (.slice ka nd.kids.length kc) := by rw [← hw3]; exact heap_alloc_new wr _
        have z3 : w3.heap.size = wr.heap.size + 1 := by rw [← hw3, alloc_size1]
        have gl := hrow.lt
        have gz : g ≤ wr.heap.size := Nat.le_of_lt gl
        -- what holds behind all calls of the round
        have AT : Hid (∀ W, Below w3.heap.size w3 W → Six W wr.heap.size 47 (.int .i64 nd.kind) (.int .i64 nd.lo) (.int .i64 nd.hi) (.bool nd.neg) (.slice sa nd.set.length sc) (.slice ka nd.kids.length kc) ∧ TRow W g ns.length ys ∧ Below g w1 W ∧ Below w.heap.size w W ∧
            W.cell? ⟨w.heap.size, 0, none⟩ = some (.slice (some ⟨b, o, none⟩) ns.length c) ∧ Nums .i64 W w.heap.size sa nd.set ∧ Nums .i64 W w.heap.size ka nd.kids) := fun W h => by
          have h1 : Below wr.heap.size wr W := b3.trans (h.mono (by omega))
          have hbw := Br.trans (h1.mono Br.size)
          exact ⟨(h.block _ (by omega)).trans X3, hrow.below h1, hbel.trans (h1.mono gz), hbw, (h1.cell (p := ⟨w.heap.size, 0, none⟩) (by show w.heap.size < _; omega)).trans xr, hn1.below hbw, hn2.below hbw⟩
        have FIN : Hid (∀ (bb : ByteArray) W, Below w3.heap.size w3 W → bodyS ns (bts ys) nd = some bb.data.toList → ¬ 1000 < bb.size → TXRel ns w1 g O (.int .i64 ((ys.length + 1 : Nat) : Int)) (W.setCell ⟨g, ys.length, none⟩ (.string bb))) := fun bb W h h1 h2 => by
          obtain ⟨_, t1, t2, _⟩ := AT.out W h
          refine ⟨ys.length + 1, ys ++ [bb], hlt, rfl, by simp, t1.put hlt bb, hnext bb h1 h2, fun y hy => ?_, t2.setCell (p := ⟨g, ys.length, none⟩) (Nat.le_refl _) _⟩
          rcases List.mem_append.1 hy with hy | hy
          · exact hsm y hy
          · simp at hy; subst hy; omega
        obtain ⟨e0, e1, e2, e3, e4, e5⟩ := X3.cells
        have r0 := (AT.out w3 (Below.refl _ _)).2.1.cell0 hlt
        have r1 := (AT.out w3 (Below.refl _ _)).2.1.frozen ys.length
        have xw3 := (AT.out w3 (Below.refl _ _)).2.2.2.2.1
        have HNo := Lib.hid hnone
        have HLo := Lib.hid hlong
        have HSm := Lib.hid hsm
        have HKk := Lib.hid hkd
        have HBd := Lib.hid hbnd
        have HW3 := Lib.hid hw3
        have HZ3 := Lib.hid z3
        clear hs hn1 hn2 hnd hnone hlong hnext hkd hbnd hsm hto hrow hbel b3 X3 gl gz z3
        obtain ⟨kd, lo, hi', neg, set, kids⟩ := nd
        simp only at *
        by_cases q1 : kd = 1
        · as_aux_lemma =>
          subst q1
          have hb : Hid (bodyS ns (bts ys) ⟨1, lo, hi', neg, set, kids⟩ = some (⟨#[]⟩ : ByteArray).data.toList) := by show _ = _; unfold bodyS; rfl
          have FI := FIN.out (⟨#[]⟩ : ByteArray) w3 (Below.refl _ _) hb.out (by decide)
          have FF := Lib.hid FI
          clear FI
          go_wp2
          go_roundw
          case rel => exact FF.out
          case measure => simp [intOf]; omega
        by_cases q3 : kd = 3
        · as_aux_lemma =>
          subst q3
          have hb : Hid (bodyS ns (bts ys) ⟨3, lo, hi', neg, set, kids⟩ = some (⟨#[46]⟩ : ByteArray).data.toList) := by show _ = _; unfold bodyS; rfl
          have FI := FIN.out (⟨#[46]⟩ : ByteArray) w3 (Below.refl _ _) hb.out (by decide)
          have FF := Lib.hid FI
          clear FI
          go_wp2
          go_roundw
          case rel => exact FF.out
          case measure => simp [intOf]; omega
        by_cases q5 : kd = 5
        · as_aux_lemma =>
          subst q5
          have hb : Hid (bodyS ns (bts ys) ⟨5, lo, hi', neg, set, kids⟩ = some (⟨#[94]⟩ : ByteArray).data.toList) := by show _ = _; unfold bodyS; rfl
          have FI := FIN.out (⟨#[94]⟩ : ByteArray) w3 (Below.refl _ _) hb.out (by decide)
          have FF := Lib.hid FI
          clear FI
          go_wp2
          go_roundw
          case rel => exact FF.out
          case measure => simp [intOf]; omega
        by_cases q6 : kd = 6
        · as_aux_lemma =>
          subst q6
          have hb : Hid (bodyS ns (bts ys) ⟨6, lo, hi', neg, set, kids⟩ = some (⟨#[36]⟩ : ByteArray).data.toList) := by show _ = _; unfold bodyS; rfl
          have FI := FIN.out (⟨#[36]⟩ : ByteArray) w3 (Below.refl _ _) hb.out (by decide)
          have FF := Lib.hid FI
          clear FI
          go_wp2
          go_roundw
          case rel => exact FF.out
          case measure => simp [intOf]; omega
        by_cases q2 : kd = 2
        · as_aux_lemma =>
          subst q2
          have cP := point_any lo w3
          cases hp : pt lo with
          | false =>
            have hR : Hid (textS ns = []) := HNo.out (by unfold bodyS; simp [hp])
            rw [hp] at cP
            clear hp
            go_wp2_with (go_at_call 66; refine cP.mono ?_; rintro e w' ⟨rfl, rfl⟩)
            go_ret
            exact ⟨by rw [hR.out]; rfl, (AT.out w3 (Below.refl _ _)).2.2.2.1⟩
          | true =>
            obtain ⟨bb, hbb2⟩ : ∃ bb : ByteArray, (⟨(pointT escOut lo).toArray⟩ : ByteArray) = bb := ⟨_, rfl⟩
            have hbl : bb.data.toList = pointT escOut lo := by rw [← hbb2]
            have hb : Hid (bodyS ns (bts ys) ⟨2, lo, hi', neg, set, kids⟩ = some bb.data.toList) := by show _ = _; rw [hbl]; unfold bodyS; simp [hp]
            have hbz : bb.size ≤ 5 := by have := pointT_len escOut lo; rw [← hbl, Array.length_toList] at this; exact this
            have hbz2 : ¬ (1000 : Int) < (bb.size : Int) := by omega
            have cC := (char_any strOut escOut esc_out lo w3 hp).mono fun e w' h => StrIs.str h hbb2
            unfold strOut at cC
            have FF : Hid (∀ W, Below w3.heap.size w3 W → TXRel ns w1 g O (.int .i64 ((ys.length + 1 : Nat) : Int)) (W.setCell ⟨g, ys.length, none⟩ (.string bb))) := fun W h => FIN.out bb W h hb.out (by omega)
            rw [hp] at cP
            clear hp hbl hbb2 hbz
            go_wp2_with (first | (go_at_call 66; refine cP.mono ?_; rintro e w' ⟨rfl, rfl⟩) | (go_at_call 67; refine cC.mono ?_; rintro e w4 ⟨rfl, b4⟩; obtain ⟨_, t4, _⟩ := AT.out w4 b4; have s0 := t4.cell0 hlt; have s1 := t4.frozen ys.length; clear t4))
            go_roundw
            case rel => exact FF.out w4 b4
            case measure => simp [intOf]; omega
        by_cases q9 : kd = 9
        · as_aux_lemma =>
          subst q9
          by_cases hk1 : kids.length = 1
          · by_cases hl0 : lo < 0
            · have hR : Hid (textS ns = []) := HNo.out (by unfold bodyS; simp; omega)
              have hk1z : ((kids.length : Int) == 1) = true := by simp; omega
              clear hk1
              go_wp2
              all_goals (go_ret; exact ⟨by rw [hR.out]; rfl, (AT.out w3 (Below.refl _ _)).2.2.2.1⟩)
            · by_cases hh0 : hi' < -1
              · have hR : Hid (textS ns = []) := HNo.out (by unfold bodyS; simp; omega)
                have hk1z : ((kids.length : Int) == 1) = true := by simp; omega
                clear hk1
                go_wp2
                all_goals (go_ret; exact ⟨by rw [hR.out]; rfl, (AT.out w3 (Below.refl _ _)).2.2.2.1⟩)
              · obtain ⟨x, rfl⟩ : ∃ x, kids = [x] := by
                  match kids, hk1 with
                  | [x], _ => exact ⟨x, rfl⟩
                have hx := HKk.out x (by simp)
                obtain ⟨m, rfl⟩ : ∃ m : Nat, x = m := ⟨x.toNat, by omega⟩
                have hml : m < ys.length := by omega
                have hmn : m < ns.length := by omega
                obtain ⟨kb, ko, rfl, _, hkc⟩ := (AT.out w3 (Below.refl _ _)).2.2.2.2.2.2 0 (by simp)
                have hyc := (AT.out w3 (Below.refl _ _)).2.1.cell hml (by omega)
                have hys := HSm.out _ (List.getElem_mem hml)
                obtain ⟨bm, om, sam, scm, kam, kcm, hAm, hbm, ⟨cm, _, _, _, _, _⟩, _, _⟩ := HN.out m hmn
                cases hAm
                have cm3 := ((AT.out w3 (Below.refl _ _)).2.2.2.1.cell (p := ⟨b, o + m * 6, none⟩) hbb).trans cm
                obtain ⟨y, hy⟩ : ∃ y, ys[m] = y := ⟨_, rfl⟩
                obtain ⟨k2, hk2⟩ : ∃ k2, ns[m].kind = k2 := ⟨_, rfl⟩
                rw [hy] at hyc hys
                rw [hk2] at cm3
                simp at hkc
                have hbod : Hid (bodyS ns (bts ys) ⟨9, lo, hi', neg, set, [(m : Int)]⟩ = some (par (encl 9 k2) y.data.toList ++ oftenT lo hi')) := by
                  show _ = _
                  unfold bodyS
                  have e2 : kindAt ns (m : Int) = k2 := by unfold kindAt; rw [Int.toNat_natCast, List.getElem?_eq_getElem hmn, Option.map_some, Option.getD_some, hk2]
                  have e3 : kidsT ns (bts ys) 9 true [(m : Int)] = par (encl 9 k2) y.data.toList := by
                    simp only [kidsT, sepT, if_true, List.nil_append, List.append_nil, e2, Int.toNat_natCast]
                    rw [bts_get hml, hy]
                  rw [e3]
                  have h1 : (0 ≤ lo ∧ -1 ≤ hi') := by omega
                  simp [h1]
                clear hy hk2 cm
                simp only [List.length_singleton] at hw3 e5
                have hmz0 : (m : Int) < (ys.length : Int) := by omega
                have hmz1 : (m : Int) < (ns.length : Int) := by omega
                have main : ∀ (bb : ByteArray) (W : World), Below w3.heap.size w3 W → bb.data.toList = par (encl 9 k2) y.data.toList → bb.size ≤ 1002 → ∃ a : ByteArray, Hid (a.size ≤ 1200) ∧ Calls Tryz.prog 68 #[.int .i64 lo, .int .i64 hi'] W (fun e W' => e = .returned (.string a) ∧ Below W.heap.size W W') ∧
                    Hid ((bb ++ a).data.toList = par (encl 9 k2) y.data.toList ++ oftenT lo hi') ∧ a.size ≤ 100 := fun bb W hW hbb1 hbz => by
                  obtain ⟨a, ha⟩ : ∃ a : ByteArray, (⟨(oftenT lo hi').toArray⟩ : ByteArray) = a := ⟨_, rfl⟩
                  have hal : a.data.toList = oftenT lo hi' := by rw [← ha]
                  have haz : a.size ≤ 100 := by have := oftenT_len lo hi' HBd.out.1 HBd.out.2; rw [← hal, Array.length_toList] at this; exact this
                  refine ⟨a, by show _ ≤ _; omega, (often_any lo hi' HBd.out.1 HBd.out.2 W).mono fun e W' h => StrIs.str h ha, ?_, haz⟩
                  show _ = _
                  rw [str_app, hbb1, hal]
                have MA := Lib.hid main
                clear main
                go_wp2
                go_quiet (fail)
                have hb4 : Hid (Below w3.heap.size w3 (w3.drewN nq)) := belowN (Below.refl _ _) nq
                generalize w3.drewN nq = w4 at hb4 ⊢
                obtain ⟨X4, _, _, _, xw4, _, _⟩ := AT.out w4 hb4.out
                obtain ⟨p0, p1, p2, p3, p4, p5⟩ := X4.cells
                clear X4 e0 e1 e2 e3 e4 e5 r0 r1 xw3 hyc cm3 hkc c0 c1 c2 c3 c4 c5
                by_cases hen : k2 = 7 ∨ k2 = 8 ∨ k2 = 9 ∨ k2 = 1
                · obtain ⟨b1, hb1, hbl1, hbs1⟩ := app4 ⟨#[40]⟩ y (by decide) (by omega)
                  obtain ⟨b2, hb2, hbl2, hbs2⟩ := app4 b1 ⟨#[41]⟩ (by rw [hbs1]; show 1 + y.size ≤ _; omega) (by decide)
                  have hbz : b2.size ≤ 1002 := by rw [hbs2, hbs1]; show 1 + y.size + 1 ≤ _; omega
                  have hbb1 : b2.data.toList = par (encl 9 k2) y.data.toList := by
                    have : encl 9 k2 = true := by unfold encl; simp; omega
                    rw [this, hbl2, hbl1]; simp [par]
                  have hq1 : b1.size ≤ 1001 := by rw [hbs1]; show 1 + y.size ≤ _; omega
                  clear hbl1 hbl2 hbs1 hbs2
                  rcases hen with rfl | rfl | rfl | rfl
                  all_goals
                    obtain ⟨a, _, cO, hfa, haz⟩ := MA.out b2 w4 hb4.out hbb1 hbz
                    obtain ⟨f, hf⟩ : ∃ f, b2 ++ a = f := ⟨_, rfl⟩
                    have hfz : f.size ≤ 1200 := by rw [← hf, ByteArray.size_append]; omega
                    rw [hf] at hfa
                    clear hbb1
                    by_cases hlong : 1000 < f.size
                    · have hlz : (1000 : Int) < (f.size : Int) := by omega
                      have hR : Hid (textS ns = []) := HLo.out _ hbod.out (by rw [← hfa.out, Array.length_toList]; exact hlong)
                      clear hlong
                      go_wp2_with (go_at_call 68; refine cO.mono ?_; rintro e w5 ⟨rfl, b5⟩)
                      all_goals (go_ret; exact ⟨by rw [hR.out]; rfl, (AT.out w5 (hb4.out.trans (b5.mono hb4.out.size))).2.2.2.1⟩)
                    · have hlz : ¬ (1000 : Int) < (f.size : Int) := by omega
                      have FF : Hid (∀ W, Below w3.heap.size w3 W → TXRel ns w1 g O (.int .i64 ((ys.length + 1 : Nat) : Int)) (W.setCell ⟨g, ys.length, none⟩ (.string f))) := fun W h => FIN.out f W h (by rw [hfa.out]; exact hbod.out) hlong
                      clear hlong
                      go_wp2_with (go_at_call 68; refine cO.mono ?_; rintro e w5 ⟨rfl, b5⟩; obtain ⟨_, t5, _⟩ := AT.out w5 (hb4.out.trans (b5.mono hb4.out.size)); have s0 := t5.cell0 hlt; have s1 := t5.frozen ys.length; clear t5)
                      go_roundw
                      case rel => exact FF.out w5 (hb4.out.trans (b5.mono hb4.out.size))
                      case measure => simp [intOf]; omega
                · have hn7 : ¬ k2 = 7 := fun e => hen (.inl e)
                  have hn8 : ¬ k2 = 8 := fun e => hen (.inr (.inl e))
                  have hn9 : ¬ k2 = 9 := fun e => hen (.inr (.inr (.inl e)))
                  have hn1 : ¬ k2 = 1 := fun e => hen (.inr (.inr (.inr e)))
                  have hbz : y.size ≤ 1002 := by omega
                  have hbb1 : y.data.toList = par (encl 9 k2) y.data.toList := by
                    have : encl 9 k2 = false := by unfold encl; simp; omega
                    rw [this]; rfl
                  clear hen
                  obtain ⟨a, _, cO, hfa, haz⟩ := MA.out y w4 hb4.out hbb1 hbz
                  obtain ⟨f, hf⟩ : ∃ f, y ++ a = f := ⟨_, rfl⟩
                  have hfz : f.size ≤ 1200 := by rw [← hf, ByteArray.size_append]; omega
                  rw [hf] at hfa
                  clear hbb1
                  by_cases hlong : 1000 < f.size
                  · have hlz : (1000 : Int) < (f.size : Int) := by omega
                    have hR : Hid (textS ns = []) := HLo.out _ hbod.out (by rw [← hfa.out, Array.length_toList]; exact hlong)
                    clear hlong
                    go_wp2_with (go_at_call 68; refine cO.mono ?_; rintro e w5 ⟨rfl, b5⟩)
                    all_goals (go_ret; exact ⟨by rw [hR.out]; rfl, (AT.out w5 (hb4.out.trans (b5.mono hb4.out.size))).2.2.2.1⟩)
                  · have hlz : ¬ (1000 : Int) < (f.size : Int) := by omega
                    have FF : Hid (∀ W, Below w3.heap.size w3 W → TXRel ns w1 g O (.int .i64 ((ys.length + 1 : Nat) : Int)) (W.setCell ⟨g, ys.length, none⟩ (.string f))) := fun W h => FIN.out f W h (by rw [hfa.out]; exact hbod.out) hlong
                    clear hlong
                    go_wp2_with (go_at_call 68; refine cO.mono ?_; rintro e w5 ⟨rfl, b5⟩; obtain ⟨_, t5, _⟩ := AT.out w5 (hb4.out.trans (b5.mono hb4.out.size)); have s0 := t5.cell0 hlt; have s1 := t5.frozen ys.length; clear t5)
                    go_roundw
                    case rel => exact FF.out w5 (hb4.out.trans (b5.mono hb4.out.size))
                    case measure => simp [intOf]; omega
          · have hR : Hid (textS ns = []) := HNo.out (by unfold bodyS; simp [hk1])
            have hk1z : ((kids.length : Int) == 1) = false := by simp; omega
            have hk1n : ((kids.length : Int) != 1) = true := by simp; omega
            clear hk1
            go_wp2
            all_goals (go_ret; exact ⟨by rw [hR.out]; rfl, (AT.out w3 (Below.refl _ _)).2.2.2.1⟩)
        by_cases q4 : kd = 4
        · as_aux_lemma =>
          subst q4
          by_cases hev : set.length % 2 = 0
          · have hm2 : Int.tmod (set.length : Int) 2 = 0 := by rw [Int.tmod_eq_emod_of_nonneg (by omega)]; omega
            have hbad : ∀ j (h : j < set.length), pt set[j] = false → textS ns = [] := fun j h hp => HNo.out (by
              unfold bodyS
              have : set.all pt = false := by rw [List.all_eq_false]; exact ⟨set[j], List.getElem_mem h, by simp [hp]⟩
              simp [this])
            have HBad := Lib.hid hbad
            have hgood : (∀ j (h : j < set.length), pt set[j] = true) → bodyS ns (bts ys) ⟨4, lo, hi', neg, set, kids⟩ = some (setT neg set) := fun h => by
              unfold bodyS
              have : set.all pt = true := by rw [List.all_eq_true]; intro x hx; obtain ⟨j, hj, rfl⟩ := List.mem_iff_getElem.1 hx; exact h j hj
              simp only [hev, this]; simp
            have hmuch : ∀ u : List UInt8, 1000 < u.length → (∃ v, u ++ v = setT neg set) → textS ns = [] := fun u hu hv => by
              by_cases hall : ∀ j (h : j < set.length), pt set[j] = true
              · obtain ⟨v, hv⟩ := hv
                exact HLo.out _ (hgood hall) (by rw [← hv, List.length_append]; omega)
              · obtain ⟨j, hj⟩ := Classical.not_forall.1 hall
                obtain ⟨h, hj⟩ := Classical.not_forall.1 hj
                exact hbad j h (by simpa using hj)
            have HMuch := Lib.hid hmuch
            have HGood := Lib.hid hgood
            have HEv := Lib.hid hev
            have hcd : ∀ (z : Int) (W : World), pt z = true → ∃ u : ByteArray, Hid (u.data.toList = pointT escIn z) ∧ u.size ≤ 5 ∧ Calls Tryz.prog 67 #[.int .i64 z, .string ⟨#[92, 93, 91, 94, 45]⟩] W (fun e W' => e = .returned (.string u) ∧ Below W.heap.size W W') := fun z W hz => by
              obtain ⟨u, hu⟩ : ∃ u : ByteArray, (⟨(pointT escIn z).toArray⟩ : ByteArray) = u := ⟨_, rfl⟩
              have h1 : u.data.toList = pointT escIn z := by rw [← hu]
              have h2 := pointT_len escIn z
              rw [← h1, Array.length_toList] at h2
              exact ⟨u, h1, h2, (char_any strIn escIn esc_in z W hz).mono fun e w' h => StrIs.str h hu⟩
            have HCd := Lib.hid hcd
            clear hbad hgood hmuch hcd hev
            have start : ∀ (u : ByteArray), u.data.toList = 91 :: (if neg then [94] else []) → u.size ≤ 2 → BSRel set neg w3 (.string u) (.int .i64 0) w3 := fun u h1 h2 => ⟨0, u, Nat.zero_le _, rfl, rfl, rfl, by show _ = _; rw [h1]; unfold setT; simp, (fun j _ h => absurd h (by omega)), by omega, Below.refl _ _⟩
            have HSt := Lib.hid start
            clear start
            cases neg with
            | false =>
              have hB := HSt.out ⟨#[91]⟩ rfl (by decide)
              go_wp2
              go_loopw [6, 7] (BSRel set false w3) (fun _ i _ => set.length + 1 - (intOf i).toNat)
              case atStart => exact hB
              case round =>
                clear hB
                obtain ⟨j, u, hj, hj2, rfl, rfl, hcat, hpts, huz, hb4⟩ := hrel
                obtain ⟨X4, t4, _, hbW, xW, nS, _⟩ := AT.out _ hb4
                obtain ⟨p0, p1, p2, p3, p4, p5⟩ := X4.cells
                have HPts := Lib.hid hpts
                have HB4 := Lib.hid hb4
                clear X4 hpts e0 e1 e2 e3 e4 e5 r0 r1 xw3 hb4
                by_cases hjl : j < set.length
                · have hj1 : j + 1 < set.length := by have := HEv.out; omega
                  by_cases hbig : 1000 < u.size
                  · have hbz : (1000 : Int) < (u.size : Int) := by omega
                    have hR : Hid (textS ns = []) := HMuch.out u.data.toList (by rw [Array.length_toList]; exact hbig) ⟨_, hcat.out⟩
                    clear hbig
                    go_wp2
                    all_goals (go_ret; exact ⟨by rw [hR.out]; rfl, hbW⟩)
                  · have hbz : ¬ (1000 : Int) < (u.size : Int) := by omega
                    obtain ⟨sb, so, rfl, _, s0⟩ := nS j hjl
                    obtain ⟨_, _, hAA, _, s1⟩ := nS (j + 1) hj1
                    cases hAA
                    rw [pairsT_step hj1] at hcat
                    have hbx := HBad.out j hjl
                    have hby := HBad.out (j + 1) hj1
                    have hnx : ∀ q (h : q < set.length), pt set[j] = true → pt set[j + 1] = true → q < j + 2 → pt set[q] = true := fun q h h1 h2 h3 => by
                      by_cases e1 : q = j
                      · subst e1; exact h1
                      · by_cases e2 : q = j + 1
                        · subst e2; exact h2
                        · exact HPts.out q h (by omega)
                    obtain ⟨x, hx⟩ : ∃ x, set[j] = x := ⟨_, rfl⟩
                    obtain ⟨y, hy⟩ : ∃ y, set[j + 1] = y := ⟨_, rfl⟩
                    rw [hx] at s0 hbx hcat hnx
                    rw [hy] at s1 hby hcat hnx
                    obtain ⟨m, hm⟩ : ∃ m, j + 1 = m := ⟨_, rfl⟩
                    have hz1 : (j : Int) + 1 = (m : Int) := by omega
                    have hwm : IntKind.i64.wrap (m : Int) = (m : Int) := IntWalk.i64_in _ ⟨by omega, by omega⟩
                    have hml : m < set.length := by omega
                    have hmz : (m : Int) < (set.length : Int) := by omega
                    have hjz : (j : Int) < (set.length : Int) := by omega
                    rw [hm] at s1
                    have NX : Hid (∀ W, Below w3.heap.size w3 W → W.cell? ⟨sb, so + j, none⟩ = some (.int .i64 x) ∧ W.cell? ⟨sb, so + m, none⟩ = some (.int .i64 y)) := fun W h => by
                      obtain ⟨_, _, _, _, _, nS', _⟩ := AT.out W h
                      obtain ⟨_, _, hA1, _, c1⟩ := nS' j hjl
                      obtain ⟨_, _, hA2, _, c2⟩ := nS' (j + 1) hj1
                      cases hA1
                      cases hA2
                      rw [hx] at c1
                      rw [hy, hm] at c2
                      exact ⟨c1, c2⟩
                    have HNx := Lib.hid hnx
                    have cPx := fun W => point_any x W
                    have cPy := fun W => point_any y W
                    clear hx hy hm nS hnx hbig
                    cases hpx : pt x with
                    | false =>
                      have hR : Hid (textS ns = []) := hbx hpx
                      rw [hpx] at cPx
                      clear hpx hbx hby cPy
                      go_wp2_with (go_at_call 66; with_reducible refine (cPx _).mono ?_; rintro e w' ⟨rfl, rfl⟩)
                      all_goals (go_ret; exact ⟨by rw [hR.out]; rfl, hbW⟩)
                    | true =>
                      rw [hpx] at cPx
                      cases hpy : pt y with
                      | false =>
                        have hR : Hid (textS ns = []) := hby hpy
                        rw [hpy] at cPy
                        clear hpx hpy hbx hby
                        go_wp2_with (go_at_call 66; (first | with_reducible refine (cPx _).mono ?_ | with_reducible refine (cPy _).mono ?_); rintro e w' ⟨rfl, rfl⟩)
                        all_goals (go_ret; exact ⟨by rw [hR.out]; rfl, hbW⟩)
                      | true =>
                        rw [hpy] at cPy
                        obtain ⟨ux, hux, huxz, cX⟩ := HCd.out x wr hpx
                        obtain ⟨v, hv, hvl, hvz⟩ := app4 u ux (by omega) (by omega)
                        have hvs : v.size ≤ 1010 := by omega
                        have HVL := Lib.hid hvl
                        have HPP := Lib.hid (And.intro hpx hpy)
                        clear hvz hvl hpx hpy hbx hby
                        go_wp2_with (first | (go_at_call 66; (first | with_reducible refine (cPx _).mono ?_ | with_reducible refine (cPy _).mono ?_); rintro e w' ⟨rfl, rfl⟩) | (go_at_call 67; refine cX.mono ?_; rintro e w5 ⟨rfl, b5⟩; have hb5 := HB4.out.trans (b5.mono HB4.out.size); obtain ⟨X5, _, _, _, _, _, _⟩ := AT.out w5 hb5; obtain ⟨y0, y1, y2, y3, y4, y5⟩ := X5.cells; obtain ⟨z0, z1⟩ := NX.out w5 hb5))
                        go_quiet (fail)
                        have hb6 : Hid (Below w3.heap.size w3 (w5.drewN nq)) := belowN hb5 nq
                        clear X5 y0 y1 y2 y3 y4 y5 z0 z1 b5 hb5 p0 p1 p2 p3 p4 p5 s0 s1 cX cPx cPy
                        generalize w5.drewN nq = w6 at hb6 ⊢
                        obtain ⟨X6, _, _, _, xw6, _, _⟩ := AT.out w6 hb6.out
                        obtain ⟨p0, p1, p2, p3, p4, p5⟩ := X6.cells
                        obtain ⟨s0, s1⟩ := NX.out w6 hb6.out
                        clear X6
                        by_cases hxy : x = y
                        · subst hxy
                          have HC2 : Hid (v.data.toList ++ (pairsT (set.drop (j + 2)) ++ [93]) = setT false set) := by
                            show _ = _
                            rw [← hcat.out, HVL.out, hux.out]
                            simp [pairT]
                          have FR : Hid (BSRel set false w3 (.string v) (.int .i64 ((j + 2 : Nat) : Int)) w6) := ⟨j + 2, v, by omega, by omega, rfl, rfl, HC2, fun q h h3 => HNx.out q h HPP.out.1 HPP.out.2 h3, by omega, hb6.out⟩
                          clear hcat HC2
                          go_wp2
                          go_roundw
                          case rel => exact FR.out
                          case measure => simp [intOf]; omega
                        · have hbxy : (x == y) = false := by simpa using hxy
                          obtain ⟨uy, huy, huyz, cY⟩ := HCd.out y w6 HPP.out.2
                          obtain ⟨v2, hv2, hvl2, hvz2⟩ := app4 v ⟨#[45]⟩ (by omega) (by decide)
                          have hq2 : v2.size ≤ 1020 := by rw [hvz2]; show v.size + 1 ≤ _; omega
                          obtain ⟨v3, hv3, hvl3, hvz3⟩ := app4 v2 uy (by omega) (by omega)
                          have hq3 : v3.size ≤ 1100 := by omega
                          have HC2 : Hid (v3.data.toList ++ (pairsT (set.drop (j + 2)) ++ [93]) = setT false set) := by
                            show _ = _
                            rw [← hcat.out, hvl3, hvl2, HVL.out, hux.out, huy.out]
                            simp [pairT, hxy]
                          have FR : Hid (∀ W, Below w6.heap.size w6 W → BSRel set false w3 (.string v3) (.int .i64 ((j + 2 : Nat) : Int)) W) := fun W h => ⟨j + 2, v3, by omega, by omega, rfl, rfl, HC2, fun q h h3 => HNx.out q h HPP.out.1 HPP.out.2 h3, by omega, hb6.out.trans (h.mono hb6.out.size)⟩
                          clear hcat HC2 hxy hvl2 hvl3 hvz2 hvz3
                          go_wp2_with (go_at_call 67; refine cY.mono ?_; rintro e w7 ⟨rfl, b7⟩)
                          go_roundw
                          case rel => exact FR.out w7 b7
                          case measure => simp [intOf]; omega
                · have hjz : ¬ (j : Int) < (set.length : Int) := by omega
                  obtain ⟨f, hf, hfl, hfz⟩ := app4 u ⟨#[93]⟩ (by omega) (by decide)
                  have hfs : f.size ≤ 1200 := by rw [hfz]; show u.size + 1 ≤ _; omega
                  have hbod : bodyS ns (bts ys) ⟨4, lo, hi', false, set, kids⟩ = some f.data.toList := by
                    rw [HGood.out fun q h => HPts.out q h (by omega), ← hcat.out, hfl, List.drop_eq_nil_of_le (by omega)]
                    rfl
                  have s0 := t4.cell0 hlt
                  have s1 := t4.frozen ys.length
                  by_cases hlong : 1000 < f.size
                  · have hlz : (1000 : Int) < (f.size : Int) := by omega
                    have hR : Hid (textS ns = []) := HLo.out _ hbod (by rw [Array.length_toList]; exact hlong)
                    clear hlong hbod hfl hfz hcat
                    go_wp2
                    all_goals (go_ret; exact ⟨by rw [hR.out]; rfl, hbW⟩)
                  · have hlz : ¬ (1000 : Int) < (f.size : Int) := by omega
                    have FF := Lib.hid (FIN.out f _ HB4.out hbod hlong)
                    clear hlong hbod hfl hfz hcat
                    go_wp2
                    go_roundw
                    case rel => exact FF.out
                    case measure => simp [intOf]; omega
            | true =>
              have hB := HSt.out ⟨#[91, 94]⟩ rfl (by decide)
              go_wp2
              go_loopw [6, 7] (BSRel set true w3) (fun _ i _ => set.length + 1 - (intOf i).toNat)
              case atStart => exact hB
              case round =>
                clear hB
                obtain ⟨j, u, hj, hj2, rfl, rfl, hcat, hpts, huz, hb4⟩ := hrel
                obtain ⟨X4, t4, _, hbW, xW, nS, _⟩ := AT.out _ hb4
                obtain ⟨p0, p1, p2, p3, p4, p5⟩ := X4.cells
                have HPts := Lib.hid hpts
                have HB4 := Lib.hid hb4
                clear X4 hpts e0 e1 e2 e3 e4 e5 r0 r1 xw3 hb4
                by_cases hjl : j < set.length
                · have hj1 : j + 1 < set.length := by have := HEv.out; omega
                  by_cases hbig : 1000 < u.size
                  · have hbz : (1000 : Int) < (u.size : Int) := by omega
                    have hR : Hid (textS ns = []) := HMuch.out u.data.toList (by rw [Array.length_toList]; exact hbig) ⟨_, hcat.out⟩
                    clear hbig
                    go_wp2
                    all_goals (go_ret; exact ⟨by rw [hR.out]; rfl, hbW⟩)
                  · have hbz : ¬ (1000 : Int) < (u.size : Int) := by omega
                    obtain ⟨sb, so, rfl, _, s0⟩ := nS j hjl
                    obtain ⟨_, _, hAA, _, s1⟩ := nS (j + 1) hj1
                    cases hAA
                    rw [pairsT_step hj1] at hcat
                    have hbx := HBad.out j hjl
                    have hby := HBad.out (j + 1) hj1
                    have hnx : ∀ q (h : q < set.length), pt set[j] = true → pt set[j + 1] = true → q < j + 2 → pt set[q] = true := fun q h h1 h2 h3 => by
                      by_cases e1 : q = j
                      · subst e1; exact h1
                      · by_cases e2 : q = j + 1
                        · subst e2; exact h2
                        · exact HPts.out q h (by omega)
                    obtain ⟨x, hx⟩ : ∃ x, set[j] = x := ⟨_, rfl⟩
                    obtain ⟨y, hy⟩ : ∃ y, set[j + 1] = y := ⟨_, rfl⟩
                    rw [hx] at s0 hbx hcat hnx
                    rw [hy] at s1 hby hcat hnx
                    obtain ⟨m, hm⟩ : ∃ m, j + 1 = m := ⟨_, rfl⟩
                    have hz1 : (j : Int) + 1 = (m : Int) := by omega
                    have hwm : IntKind.i64.wrap (m : Int) = (m : Int) := IntWalk.i64_in _ ⟨by omega, by omega⟩
                    have hml : m < set.length := by omega
                    have hmz : (m : Int) < (set.length : Int) := by omega
                    have hjz : (j : Int) < (set.length : Int) := by omega
                    rw [hm] at s1
                    have NX : Hid (∀ W, Below w3.heap.size w3 W → W.cell? ⟨sb, so + j, none⟩ = some (.int .i64 x) ∧ W.cell? ⟨sb, so + m, none⟩ = some (.int .i64 y)) := fun W h => by
                      obtain ⟨_, _, _, _, _, nS', _⟩ := AT.out W h
                      obtain ⟨_, _, hA1, _, c1⟩ := nS' j hjl
                      obtain ⟨_, _, hA2, _, c2⟩ := nS' (j + 1) hj1
                      cases hA1
                      cases hA2
                      rw [hx] at c1
                      rw [hy, hm] at c2
                      exact ⟨c1, c2⟩
                    have HNx := Lib.hid hnx
                    have cPx := fun W => point_any x W
                    have cPy := fun W => point_any y W
                    clear hx hy hm nS hnx hbig
                    cases hpx : pt x with
                    | false =>
                      have hR : Hid (textS ns = []) := hbx hpx
                      rw [hpx] at cPx
                      clear hpx hbx hby cPy
                      go_wp2_with (go_at_call 66; with_reducible refine (cPx _).mono ?_; rintro e w' ⟨rfl, rfl⟩)
                      all_goals (go_ret; exact ⟨by rw [hR.out]; rfl, hbW⟩)
                    | true =>
                      rw [hpx] at cPx
                      cases hpy : pt y with
                      | false =>
                        have hR : Hid (textS ns = []) := hby hpy
                        rw [hpy] at cPy
                        clear hpx hpy hbx hby
                        go_wp2_with (go_at_call 66; (first | with_reducible refine (cPx _).mono ?_ | with_reducible refine (cPy _).mono ?_); rintro e w' ⟨rfl, rfl⟩)
                        all_goals (go_ret; exact ⟨by rw [hR.out]; rfl, hbW⟩)
                      | true =>
                        rw [hpy] at cPy
                        obtain ⟨ux, hux, huxz, cX⟩ := HCd.out x wr hpx
                        obtain ⟨v, hv, hvl, hvz⟩ := app4 u ux (by omega) (by omega)
                        have hvs : v.size ≤ 1010 := by omega
                        have HVL := Lib.hid hvl
                        have HPP := Lib.hid (And.intro hpx hpy)
                        clear hvz hvl hpx hpy hbx hby
                        go_wp2_with (first | (go_at_call 66; (first | with_reducible refine (cPx _).mono ?_ | with_reducible refine (cPy _).mono ?_); rintro e w' ⟨rfl, rfl⟩) | (go_at_call 67; refine cX.mono ?_; rintro e w5 ⟨rfl, b5⟩; have hb5 := HB4.out.trans (b5.mono HB4.out.size); obtain ⟨X5, _, _, _, _, _, _⟩ := AT.out w5 hb5; obtain ⟨y0, y1, y2, y3, y4, y5⟩ := X5.cells; obtain ⟨z0, z1⟩ := NX.out w5 hb5))
                        go_quiet (fail)
                        have hb6 : Hid (Below w3.heap.size w3 (w5.drewN nq)) := belowN hb5 nq
                        clear X5 y0 y1 y2 y3 y4 y5 z0 z1 b5 hb5 p0 p1 p2 p3 p4 p5 s0 s1 cX cPx cPy
                        generalize w5.drewN nq = w6 at hb6 ⊢
                        obtain ⟨X6, _, _, _, xw6, _, _⟩ := AT.out w6 hb6.out
                        obtain ⟨p0, p1, p2, p3, p4, p5⟩ := X6.cells
                        obtain ⟨s0, s1⟩ := NX.out w6 hb6.out
                        clear X6
                        by_cases hxy : x = y
                        · subst hxy
                          have HC2 : Hid (v.data.toList ++ (pairsT (set.drop (j + 2)) ++ [93]) = setT true set) := by
                            show _ = _
                            rw [← hcat.out, HVL.out, hux.out]
                            simp [pairT]
                          have FR : Hid (BSRel set true w3 (.string v) (.int .i64 ((j + 2 : Nat) : Int)) w6) := ⟨j + 2, v, by omega, by omega, rfl, rfl, HC2, fun q h h3 => HNx.out q h HPP.out.1 HPP.out.2 h3, by omega, hb6.out⟩
                          clear hcat HC2
                          go_wp2
                          go_roundw
                          case rel => exact FR.out
                          case measure => simp [intOf]; omega
                        · have hbxy : (x == y) = false := by simpa using hxy
                          obtain ⟨uy, huy, huyz, cY⟩ := HCd.out y w6 HPP.out.2
                          obtain ⟨v2, hv2, hvl2, hvz2⟩ := app4 v ⟨#[45]⟩ (by omega) (by decide)
                          have hq2 : v2.size ≤ 1020 := by rw [hvz2]; show v.size + 1 ≤ _; omega
                          obtain ⟨v3, hv3, hvl3, hvz3⟩ := app4 v2 uy (by omega) (by omega)
                          have hq3 : v3.size ≤ 1100 := by omega
                          have HC2 : Hid (v3.data.toList ++ (pairsT (set.drop (j + 2)) ++ [93]) = setT true set) := by
                            show _ = _
                            rw [← hcat.out, hvl3, hvl2, HVL.out, hux.out, huy.out]
                            simp [pairT, hxy]
                          have FR : Hid (∀ W, Below w6.heap.size w6 W → BSRel set true w3 (.string v3) (.int .i64 ((j + 2 : Nat) : Int)) W) := fun W h => ⟨j + 2, v3, by omega, by omega, rfl, rfl, HC2, fun q h h3 => HNx.out q h HPP.out.1 HPP.out.2 h3, by omega, hb6.out.trans (h.mono hb6.out.size)⟩
                          clear hcat HC2 hxy hvl2 hvl3 hvz2 hvz3
                          go_wp2_with (go_at_call 67; refine cY.mono ?_; rintro e w7 ⟨rfl, b7⟩)
                          go_roundw
                          case rel => exact FR.out w7 b7
                          case measure => simp [intOf]; omega
                · have hjz : ¬ (j : Int) < (set.length : Int) := by omega
                  obtain ⟨f, hf, hfl, hfz⟩ := app4 u ⟨#[93]⟩ (by omega) (by decide)
                  have hfs : f.size ≤ 1200 := by rw [hfz]; show u.size + 1 ≤ _; omega
                  have hbod : bodyS ns (bts ys) ⟨4, lo, hi', true, set, kids⟩ = some f.data.toList := by
                    rw [HGood.out fun q h => HPts.out q h (by omega), ← hcat.out, hfl, List.drop_eq_nil_of_le (by omega)]
                    rfl
                  have s0 := t4.cell0 hlt
                  have s1 := t4.frozen ys.length
                  by_cases hlong : 1000 < f.size
                  · have hlz : (1000 : Int) < (f.size : Int) := by omega
                    have hR : Hid (textS ns = []) := HLo.out _ hbod (by rw [Array.length_toList]; exact hlong)
                    clear hlong hbod hfl hfz hcat
                    go_wp2
                    all_goals (go_ret; exact ⟨by rw [hR.out]; rfl, hbW⟩)
                  · have hlz : ¬ (1000 : Int) < (f.size : Int) := by omega
                    have FF := Lib.hid (FIN.out f _ HB4.out hbod hlong)
                    clear hlong hbod hfl hfz hcat
                    go_wp2
                    go_roundw
                    case rel => exact FF.out
                    case measure => simp [intOf]; omega
          · have hm2 : Int.tmod (set.length : Int) 2 = 1 := by rw [Int.tmod_eq_emod_of_nonneg (by omega)]; omega
            have hR : Hid (textS ns = []) := HNo.out (by unfold bodyS; simp [hev])
            clear hev
            go_wp2
            all_goals (go_ret; exact ⟨by rw [hR.out]; rfl, (AT.out w3 (Below.refl _ _)).2.2.2.1⟩)
        by_cases q7 : kd = 7
        · as_aux_lemma =>
          subst q7
          obtain ⟨T, hT⟩ : ∃ T, kidsT ns (bts ys) 7 true kids = T := ⟨_, rfl⟩
          have HBod : Hid (bodyS ns (bts ys) ⟨7, lo, hi', neg, set, kids⟩ = some T) := by show _ = _; rw [← hT]; unfold bodyS; simp
          have HMuch : Hid (∀ u : List UInt8, 1000 < u.length → (∃ v, u ++ v = T) → textS ns = []) := fun u hu ⟨v, hv⟩ => HLo.out _ HBod.out (by rw [← hv, List.length_append]; omega)
          have hB : KSRel ns ys 7 kids w3 T (.string ⟨#[]⟩) (.int .i64 0) w3 := ⟨0, ⟨#[]⟩, Nat.zero_le _, rfl, rfl, by show _ = _; rw [← hT]; rfl, by decide, Below.refl _ _⟩
          clear hT
          go_wp2
          go_loopw [6, 8] (KSRel ns ys 7 kids w3 T) (fun _ i _ => kids.length - (intOf i).toNat)
          case atStart => exact hB
          case round =>
            clear hB
            obtain ⟨j, u, hj, rfl, rfl, hcat, huz, hb4⟩ := hrel
            obtain ⟨X4, t4, _, hbW, xW, _, nK⟩ := AT.out _ hb4
            obtain ⟨p0, p1, p2, p3, p4, p5⟩ := X4.cells
            have HB4 := Lib.hid hb4
            clear X4 e0 e1 e2 e3 e4 e5 r0 r1 xw3 hb4
            by_cases hjl : j < kids.length
            · have hx := HKk.out _ (List.getElem_mem hjl)
              obtain ⟨x, hxx⟩ : ∃ x, kids[j] = x := ⟨_, rfl⟩
              rw [hxx] at hx
              obtain ⟨m, rfl⟩ : ∃ m : Nat, x = m := ⟨x.toNat, by omega⟩
              have hml : m < ys.length := by omega
              have hmn : m < ns.length := by omega
              have hmz0 : (m : Int) < (ys.length : Int) := by omega
              have hmz1 : (m : Int) < (ns.length : Int) := by omega
              obtain ⟨kb, ko, rfl, _, _⟩ := nK j hjl
              have hys := HSm.out _ (List.getElem_mem hml)
              obtain ⟨y, hy⟩ : ∃ y, ys[m] = y := ⟨_, rfl⟩
              obtain ⟨k2, hk2⟩ : ∃ k2, ns[m].kind = k2 := ⟨_, rfl⟩
              rw [hy] at hys
              have NX : Hid (∀ W, Below w3.heap.size w3 W → W.cell? ⟨kb, ko + j, none⟩ = some (.int .i64 m) ∧ W.cell? ⟨g, m, none⟩ = some (.string y) ∧ W.cell? ⟨b, o + m * 6, none⟩ = some (.int .i64 k2)) := fun W h => by
                obtain ⟨_, t5, _, hbW5, _, _, nK5⟩ := AT.out W h
                obtain ⟨_, _, hA1, _, c1⟩ := nK5 j hjl
                cases hA1
                rw [hxx] at c1
                obtain ⟨bm, om, sam, scm, kam, kcm, hAm, hbm, ⟨cm, _, _, _, _, _⟩, _, _⟩ := HN.out m hmn
                cases hAm
                have c2 := t5.cell hml (by omega)
                rw [hy] at c2
                rw [← hk2]
                exact ⟨c1, c2, (hbW5.cell (p := ⟨b, o + m * 6, none⟩) hbb).trans cm⟩
              have HK2 : Hid (kindAt ns (m : Int) = k2 ∧ (bts ys).getD (m : Int).toNat [] = y.data.toList) := by
                refine ⟨?_, ?_⟩
                · unfold kindAt; rw [Int.toNat_natCast, List.getElem?_eq_getElem hmn, Option.map_some, Option.getD_some, hk2]
                · rw [Int.toNat_natCast, bts_get hml, hy]
              obtain ⟨s0, s1, s2⟩ := NX.out _ HB4.out
              have hjz : (j : Int) < (kids.length : Int) := by omega
              obtain ⟨PB, hPB⟩ : ∃ PB, par (encl 7 k2) y.data.toList = PB := ⟨_, rfl⟩
              have HST : Hid (kidsT ns (bts ys) 7 (decide (j = 0)) (kids.drop j) = (sepT 7 (decide (j = 0)) ++ PB) ++ kidsT ns (bts ys) 7 false (kids.drop (j + 1))) := by show _ = _; rw [kidsT_step hjl, hxx, HK2.out.1, HK2.out.2, hPB]
              have HPB := Lib.hid hPB
              clear hk2 hy nK t4 hPB
              go_wp2
              go_quiet (fail)
              have hb6 : Hid (Below w3.heap.size w3 (wr.drewN nq)) := belowN HB4.out nq
              clear p0 p1 p2 p3 p4 p5 s0 s1 s2 xW
              generalize wr.drewN nq = w6 at hb6 ⊢
              obtain ⟨X6, _, _, _, xw6, _, _⟩ := AT.out w6 hb6.out
              obtain ⟨p0, p1, p2, p3, p4, p5⟩ := X6.cells
              obtain ⟨s0, s1, s2⟩ := NX.out w6 hb6.out
              clear X6
              by_cases hen : k2 = 7 ∨ k2 = 8 ∨ k2 = 1
              · obtain ⟨b1, hb1, hbl1, hbs1⟩ := app4 ⟨#[40]⟩ y (by decide) (by omega)
                have hq1 : b1.size ≤ 1001 := by rw [hbs1]; show 1 + y.size ≤ _; omega
                obtain ⟨b2, hb2, hbl2, hbs2⟩ := app4 b1 ⟨#[41]⟩ (by omega) (by decide)
                have hq2 : b2.size ≤ 1002 := by rw [hbs2]; show b1.size + 1 ≤ _; omega
                have HQQ : Hid (b2.data.toList = PB) := by
                  show _ = _
                  have : encl 7 k2 = true := by unfold encl; simp; omega
                  rw [← HPB.out, this, hbl2, hbl1]; simp [par]
                clear hbl1 hbl2 hbs1 hbs2
                clear HK2 HPB
                rcases hen with rfl | rfl | rfl
                all_goals
                  have HVV : Hid (u.data.toList = u.data.toList ++ sepT 7 (decide (j = 0))) := by show _ = _; cases decide (j = 0) <;> simp [sepT]
                  obtain ⟨f, hf, hfl, hfz⟩ := app4 u b2 (by omega) (by omega)
                  have hfs : f.size ≤ 4000 := by omega
                  have HFL := Lib.hid (show f.data.toList = u.data.toList ++ (sepT 7 (decide (j = 0)) ++ PB) from hfl.trans ((congr (congrArg HAppend.hAppend HVV.out) HQQ.out).trans (List.append_assoc _ _ _)))
                  by_cases hlong : 1000 < f.size
                  · have hlz : (1000 : Int) < (f.size : Int) := by omega
                    have hR : Hid (textS ns = []) := HMuch.out f.data.toList (by rw [Array.length_toList]; exact hlong) ⟨kidsT ns (bts ys) 7 false (kids.drop (j + 1)), by rw [HFL.out, ← hcat.out, HST.out]; simp only [List.append_assoc]⟩
                    clear hlong hfl hfz hcat
                    go_wp2
                    all_goals (go_ret; exact ⟨by rw [hR.out]; rfl, (AT.out _ hb6.out).2.2.2.1⟩)
                  · have hlz : ¬ (1000 : Int) < (f.size : Int) := by omega
                    have FR : Hid (KSRel ns ys 7 kids w3 T (.string f) (.int .i64 ((j + 1 : Nat) : Int)) w6) := ⟨j + 1, f, by omega, rfl, rfl, by show f.data.toList ++ kidsT ns (bts ys) 7 (decide (j + 1 = 0)) (kids.drop (j + 1)) = T; rw [show decide (j + 1 = 0) = false from decide_eq_false (by omega), HFL.out, ← hcat.out, HST.out]; simp only [List.append_assoc], by omega, hb6.out⟩
                    clear hlong hfl hfz hcat
                    go_wp2
                    all_goals go_roundw
                    all_goals first | exact FR.out | (refine ⟨FR.out, ?_⟩; simp [intOf]; omega) | (simp [intOf]; omega)
              · have hn7 : ¬ k2 = 7 := fun e => hen (.inl e)
                have hn8 : ¬ k2 = 8 := fun e => hen (.inr (.inl e))
                have hn1 : ¬ k2 = 1 := fun e => hen (.inr (.inr e))
                have hm7 : (k2 == 7) = false := by simpa using hn7
                have hm8 : (k2 == 8) = false := by simpa using hn8
                have hm1 : (k2 == 1) = false := by simpa using hn1
                have HQQ : Hid (y.data.toList = PB) := by
                  show _ = _
                  have : encl 7 k2 = false := by unfold encl; simp; omega
                  rw [← HPB.out, this]; rfl
                clear hen
                have HVV : Hid (u.data.toList = u.data.toList ++ sepT 7 (decide (j = 0))) := by show _ = _; cases decide (j = 0) <;> simp [sepT]
                obtain ⟨f, hf, hfl, hfz⟩ := app4 u y (by omega) (by omega)
                have hfs : f.size ≤ 4000 := by omega
                have HFL := Lib.hid (show f.data.toList = u.data.toList ++ (sepT 7 (decide (j = 0)) ++ PB) from hfl.trans ((congr (congrArg HAppend.hAppend HVV.out) HQQ.out).trans (List.append_assoc _ _ _)))
                by_cases hlong : 1000 < f.size
                · have hlz : (1000 : Int) < (f.size : Int) := by omega
                  have hR : Hid (textS ns = []) := HMuch.out f.data.toList (by rw [Array.length_toList]; exact hlong) ⟨kidsT ns (bts ys) 7 false (kids.drop (j + 1)), by rw [HFL.out, ← hcat.out, HST.out]; simp only [List.append_assoc]⟩
                  clear hlong hfl hfz hcat
                  go_wp2
                  all_goals (go_ret; exact ⟨by rw [hR.out]; rfl, (AT.out _ hb6.out).2.2.2.1⟩)
                · have hlz : ¬ (1000 : Int) < (f.size : Int) := by omega
                  have FR : Hid (KSRel ns ys 7 kids w3 T (.string f) (.int .i64 ((j + 1 : Nat) : Int)) w6) := ⟨j + 1, f, by omega, rfl, rfl, by show f.data.toList ++ kidsT ns (bts ys) 7 (decide (j + 1 = 0)) (kids.drop (j + 1)) = T; rw [show decide (j + 1 = 0) = false from decide_eq_false (by omega), HFL.out, ← hcat.out, HST.out]; simp only [List.append_assoc], by omega, hb6.out⟩
                  clear hlong hfl hfz hcat
                  go_wp2
                  all_goals go_roundw
                  all_goals first | exact FR.out | (refine ⟨FR.out, ?_⟩; simp [intOf]; omega) | (simp [intOf]; omega)
            · have hjz : ¬ (j : Int) < (kids.length : Int) := by omega
              have hbod : bodyS ns (bts ys) ⟨7, lo, hi', neg, set, kids⟩ = some u.data.toList := by
                rw [HBod.out, ← hcat.out, List.drop_eq_nil_of_le (by omega)]
                simp [kidsT]
              have s0 := t4.cell0 hlt
              have s1 := t4.frozen ys.length
              have hlz : ¬ (1000 : Int) < (u.size : Int) := by omega
              have FF := Lib.hid (FIN.out u _ HB4.out hbod (by omega))
              clear hbod hcat
              go_wp2
              go_roundw
              case rel => exact FF.out
              case measure => simp [intOf]; omega
        by_cases q8 : kd = 8
        · as_aux_lemma =>
          subst q8
          obtain ⟨T, hT⟩ : ∃ T, kidsT ns (bts ys) 8 true kids = T := ⟨_, rfl⟩
          have HBod : Hid (bodyS ns (bts ys) ⟨8, lo, hi', neg, set, kids⟩ = some T) := by show _ = _; rw [← hT]; unfold bodyS; simp
          have HMuch : Hid (∀ u : List UInt8, 1000 < u.length → (∃ v, u ++ v = T) → textS ns = []) := fun u hu ⟨v, hv⟩ => HLo.out _ HBod.out (by rw [← hv, List.length_append]; omega)
          have hB : KSRel ns ys 8 kids w3 T (.string ⟨#[]⟩) (.int .i64 0) w3 := ⟨0, ⟨#[]⟩, Nat.zero_le _, rfl, rfl, by show _ = _; rw [← hT]; rfl, by decide, Below.refl _ _⟩
          clear hT
          go_wp2
          go_loopw [6, 8] (KSRel ns ys 8 kids w3 T) (fun _ i _ => kids.length - (intOf i).toNat)
          case atStart => exact hB
          case round =>
            clear hB
            obtain ⟨j, u, hj, rfl, rfl, hcat, huz, hb4⟩ := hrel
            obtain ⟨X4, t4, _, hbW, xW, _, nK⟩ := AT.out _ hb4
            obtain ⟨p0, p1, p2, p3, p4, p5⟩ := X4.cells
            have HB4 := Lib.hid hb4
            clear X4 e0 e1 e2 e3 e4 e5 r0 r1 xw3 hb4
            by_cases hjl : j < kids.length
            · have hx := HKk.out _ (List.getElem_mem hjl)
              obtain ⟨x, hxx⟩ : ∃ x, kids[j] = x := ⟨_, rfl⟩
              rw [hxx] at hx
              obtain ⟨m, rfl⟩ : ∃ m : Nat, x = m := ⟨x.toNat, by omega⟩
              have hml : m < ys.length := by omega
              have hmn : m < ns.length := by omega
              have hmz0 : (m : Int) < (ys.length : Int) := by omega
              have hmz1 : (m : Int) < (ns.length : Int) := by omega
              obtain ⟨kb, ko, rfl, _, _⟩ := nK j hjl
              have hys := HSm.out _ (List.getElem_mem hml)
              obtain ⟨y, hy⟩ : ∃ y, ys[m] = y := ⟨_, rfl⟩
              obtain ⟨k2, hk2⟩ : ∃ k2, ns[m].kind = k2 := ⟨_, rfl⟩
              rw [hy] at hys
              have NX : Hid (∀ W, Below w3.heap.size w3 W → W.cell? ⟨kb, ko + j, none⟩ = some (.int .i64 m) ∧ W.cell? ⟨g, m, none⟩ = some (.string y) ∧ W.cell? ⟨b, o + m * 6, none⟩ = some (.int .i64 k2)) := fun W h => by
                obtain ⟨_, t5, _, hbW5, _, _, nK5⟩ := AT.out W h
                obtain ⟨_, _, hA1, _, c1⟩ := nK5 j hjl
                cases hA1
                rw [hxx] at c1
                obtain ⟨bm, om, sam, scm, kam, kcm, hAm, hbm, ⟨cm, _, _, _, _, _⟩, _, _⟩ := HN.out m hmn
                cases hAm
                have c2 := t5.cell hml (by omega)
                rw [hy] at c2
                rw [← hk2]
                exact ⟨c1, c2, (hbW5.cell (p := ⟨b, o + m * 6, none⟩) hbb).trans cm⟩
              have HK2 : Hid (kindAt ns (m : Int) = k2 ∧ (bts ys).getD (m : Int).toNat [] = y.data.toList) := by
                refine ⟨?_, ?_⟩
                · unfold kindAt; rw [Int.toNat_natCast, List.getElem?_eq_getElem hmn, Option.map_some, Option.getD_some, hk2]
                · rw [Int.toNat_natCast, bts_get hml, hy]
              obtain ⟨s0, s1, s2⟩ := NX.out _ HB4.out
              have hjz : (j : Int) < (kids.length : Int) := by omega
              obtain ⟨PB, hPB⟩ : ∃ PB, par (encl 8 k2) y.data.toList = PB := ⟨_, rfl⟩
              have HST : Hid (kidsT ns (bts ys) 8 (decide (j = 0)) (kids.drop j) = (sepT 8 (decide (j = 0)) ++ PB) ++ kidsT ns (bts ys) 8 false (kids.drop (j + 1))) := by show _ = _; rw [kidsT_step hjl, hxx, HK2.out.1, HK2.out.2, hPB]
              have HPB := Lib.hid hPB
              clear hk2 hy nK t4 hPB
              go_wp2
              go_quiet (fail)
              have hb6 : Hid (Below w3.heap.size w3 (wr.drewN nq)) := belowN HB4.out nq
              clear p0 p1 p2 p3 p4 p5 s0 s1 s2 xW
              generalize wr.drewN nq = w6 at hb6 ⊢
              obtain ⟨X6, _, _, _, xw6, _, _⟩ := AT.out w6 hb6.out
              obtain ⟨p0, p1, p2, p3, p4, p5⟩ := X6.cells
              obtain ⟨s0, s1, s2⟩ := NX.out w6 hb6.out
              clear X6
              by_cases hen : k2 = 8
              · obtain ⟨b1, hb1, hbl1, hbs1⟩ := app4 ⟨#[40]⟩ y (by decide) (by omega)
                have hq1 : b1.size ≤ 1001 := by rw [hbs1]; show 1 + y.size ≤ _; omega
                obtain ⟨b2, hb2, hbl2, hbs2⟩ := app4 b1 ⟨#[41]⟩ (by omega) (by decide)
                have hq2 : b2.size ≤ 1002 := by rw [hbs2]; show b1.size + 1 ≤ _; omega
                have HQQ : Hid (b2.data.toList = PB) := by
                  show _ = _
                  have : encl 8 k2 = true := by unfold encl; simp; omega
                  rw [← HPB.out, this, hbl2, hbl1]; simp [par]
                clear hbl1 hbl2 hbs1 hbs2
                clear HK2 HPB
                rcases hen with rfl
                all_goals
                  by_cases hj0 : j = 0
                  · have HVV : Hid (u.data.toList = u.data.toList ++ sepT 8 (decide (j = 0))) := by show _ = _; simp [sepT, hj0]
                    have hjp : ¬ (0 : Int) < (j : Int) := by omega
                    clear hj0
                    obtain ⟨f, hf, hfl, hfz⟩ := app4 u b2 (by omega) (by omega)
                    have hfs : f.size ≤ 4000 := by omega
                    have HFL := Lib.hid (show f.data.toList = u.data.toList ++ (sepT 8 (decide (j = 0)) ++ PB) from hfl.trans ((congr (congrArg HAppend.hAppend HVV.out) HQQ.out).trans (List.append_assoc _ _ _)))
                    by_cases hlong : 1000 < f.size
                    · have hlz : (1000 : Int) < (f.size : Int) := by omega
                      have hR : Hid (textS ns = []) := HMuch.out f.data.toList (by rw [Array.length_toList]; exact hlong) ⟨kidsT ns (bts ys) 8 false (kids.drop (j + 1)), by rw [HFL.out, ← hcat.out, HST.out]; simp only [List.append_assoc]⟩
                      clear hlong hfl hfz hcat
                      go_wp2
                      all_goals (go_ret; exact ⟨by rw [hR.out]; rfl, (AT.out _ hb6.out).2.2.2.1⟩)
                    · have hlz : ¬ (1000 : Int) < (f.size : Int) := by omega
                      have FR : Hid (KSRel ns ys 8 kids w3 T (.string f) (.int .i64 ((j + 1 : Nat) : Int)) w6) := ⟨j + 1, f, by omega, rfl, rfl, by show f.data.toList ++ kidsT ns (bts ys) 8 (decide (j + 1 = 0)) (kids.drop (j + 1)) = T; rw [show decide (j + 1 = 0) = false from decide_eq_false (by omega), HFL.out, ← hcat.out, HST.out]; simp only [List.append_assoc], by omega, hb6.out⟩
                      clear hlong hfl hfz hcat
                      go_wp2
                      all_goals go_roundw
                      all_goals first | exact FR.out | (refine ⟨FR.out, ?_⟩; simp [intOf]; omega) | (simp [intOf]; omega)
                  · have hjp : (0 : Int) < (j : Int) := by omega
                    obtain ⟨v, hv, hvl, hvz⟩ := app4 u ⟨#[124]⟩ (by omega) (by decide)
                    have hvs : v.size ≤ 1001 := by rw [hvz]; show u.size + 1 ≤ _; omega
                    have HVV : Hid (v.data.toList = u.data.toList ++ sepT 8 (decide (j = 0))) := by show _ = _; rw [hvl]; simp [sepT, hj0]
                    clear hj0 hvl hvz
                    obtain ⟨f, hf, hfl, hfz⟩ := app4 v b2 (by omega) (by omega)
                    have hfs : f.size ≤ 4000 := by omega
                    have HFL := Lib.hid (show f.data.toList = u.data.toList ++ (sepT 8 (decide (j = 0)) ++ PB) from hfl.trans ((congr (congrArg HAppend.hAppend HVV.out) HQQ.out).trans (List.append_assoc _ _ _)))
                    by_cases hlong : 1000 < f.size
                    · have hlz : (1000 : Int) < (f.size : Int) := by omega
                      have hR : Hid (textS ns = []) := HMuch.out f.data.toList (by rw [Array.length_toList]; exact hlong) ⟨kidsT ns (bts ys) 8 false (kids.drop (j + 1)), by rw [HFL.out, ← hcat.out, HST.out]; simp only [List.append_assoc]⟩
                      clear hlong hfl hfz hcat
                      go_wp2
                      all_goals (go_ret; exact ⟨by rw [hR.out]; rfl, (AT.out _ hb6.out).2.2.2.1⟩)
                    · have hlz : ¬ (1000 : Int) < (f.size : Int) := by omega
                      have FR : Hid (KSRel ns ys 8 kids w3 T (.string f) (.int .i64 ((j + 1 : Nat) : Int)) w6) := ⟨j + 1, f, by omega, rfl, rfl, by show f.data.toList ++ kidsT ns (bts ys) 8 (decide (j + 1 = 0)) (kids.drop (j + 1)) = T; rw [show decide (j + 1 = 0) = false from decide_eq_false (by omega), HFL.out, ← hcat.out, HST.out]; simp only [List.append_assoc], by omega, hb6.out⟩
                      clear hlong hfl hfz hcat
                      go_wp2
                      all_goals go_roundw
                      all_goals first | exact FR.out | (refine ⟨FR.out, ?_⟩; simp [intOf]; omega) | (simp [intOf]; omega)
              · have hn8 : ¬ k2 = 8 := hen
                have hm8 : (k2 == 8) = false := by simpa using hn8
                have HQQ : Hid (y.data.toList = PB) := by
                  show _ = _
                  have : encl 8 k2 = false := by unfold encl; simp; omega
                  rw [← HPB.out, this]; rfl
                clear hen
                by_cases hj0 : j = 0
                · have HVV : Hid (u.data.toList = u.data.toList ++ sepT 8 (decide (j = 0))) := by show _ = _; simp [sepT, hj0]
                  have hjp : ¬ (0 : Int) < (j : Int) := by omega
                  clear hj0
                  obtain ⟨f, hf, hfl, hfz⟩ := app4 u y (by omega) (by omega)
                  have hfs : f.size ≤ 4000 := by omega
                  have HFL := Lib.hid (show f.data.toList = u.data.toList ++ (sepT 8 (decide (j = 0)) ++ PB) from hfl.trans ((congr (congrArg HAppend.hAppend HVV.out) HQQ.out).trans (List.append_assoc _ _ _)))
                  by_cases hlong : 1000 < f.size
                  · have hlz : (1000 : Int) < (f.size : Int) := by omega
                    have hR : Hid (textS ns = []) := HMuch.out f.data.toList (by rw [Array.length_toList]; exact hlong) ⟨kidsT ns (bts ys) 8 false (kids.drop (j + 1)), by rw [HFL.out, ← hcat.out, HST.out]; simp only [List.append_assoc]⟩
                    clear hlong hfl hfz hcat
                    go_wp2
                    all_goals (go_ret; exact ⟨by rw [hR.out]; rfl, (AT.out _ hb6.out).2.2.2.1⟩)
                  · have hlz : ¬ (1000 : Int) < (f.size : Int) := by omega
                    have FR : Hid (KSRel ns ys 8 kids w3 T (.string f) (.int .i64 ((j + 1 : Nat) : Int)) w6) := ⟨j + 1, f, by omega, rfl, rfl, by show f.data.toList ++ kidsT ns (bts ys) 8 (decide (j + 1 = 0)) (kids.drop (j + 1)) = T; rw [show decide (j + 1 = 0) = false from decide_eq_false (by omega), HFL.out, ← hcat.out, HST.out]; simp only [List.append_assoc], by omega, hb6.out⟩
                    clear hlong hfl hfz hcat
                    go_wp2
                    all_goals go_roundw
                    all_goals first | exact FR.out | (refine ⟨FR.out, ?_⟩; simp [intOf]; omega) | (simp [intOf]; omega)
                · have hjp : (0 : Int) < (j : Int) := by omega
                  obtain ⟨v, hv, hvl, hvz⟩ := app4 u ⟨#[124]⟩ (by omega) (by decide)
                  have hvs : v.size ≤ 1001 := by rw [hvz]; show u.size + 1 ≤ _; omega
                  have HVV : Hid (v.data.toList = u.data.toList ++ sepT 8 (decide (j = 0))) := by show _ = _; rw [hvl]; simp [sepT, hj0]
                  clear hj0 hvl hvz
                  obtain ⟨f, hf, hfl, hfz⟩ := app4 v y (by omega) (by omega)
                  have hfs : f.size ≤ 4000 := by omega
                  have HFL := Lib.hid (show f.data.toList = u.data.toList ++ (sepT 8 (decide (j = 0)) ++ PB) from hfl.trans ((congr (congrArg HAppend.hAppend HVV.out) HQQ.out).trans (List.append_assoc _ _ _)))
                  by_cases hlong : 1000 < f.size
                  · have hlz : (1000 : Int) < (f.size : Int) := by omega
                    have hR : Hid (textS ns = []) := HMuch.out f.data.toList (by rw [Array.length_toList]; exact hlong) ⟨kidsT ns (bts ys) 8 false (kids.drop (j + 1)), by rw [HFL.out, ← hcat.out, HST.out]; simp only [List.append_assoc]⟩
                    clear hlong hfl hfz hcat
                    go_wp2
                    all_goals (go_ret; exact ⟨by rw [hR.out]; rfl, (AT.out _ hb6.out).2.2.2.1⟩)
                  · have hlz : ¬ (1000 : Int) < (f.size : Int) := by omega
                    have FR : Hid (KSRel ns ys 8 kids w3 T (.string f) (.int .i64 ((j + 1 : Nat) : Int)) w6) := ⟨j + 1, f, by omega, rfl, rfl, by show f.data.toList ++ kidsT ns (bts ys) 8 (decide (j + 1 = 0)) (kids.drop (j + 1)) = T; rw [show decide (j + 1 = 0) = false from decide_eq_false (by omega), HFL.out, ← hcat.out, HST.out]; simp only [List.append_assoc], by omega, hb6.out⟩
                    clear hlong hfl hfz hcat
                    go_wp2
                    all_goals go_roundw
                    all_goals first | exact FR.out | (refine ⟨FR.out, ?_⟩; simp [intOf]; omega) | (simp [intOf]; omega)
            · have hjz : ¬ (j : Int) < (kids.length : Int) := by omega
              have hbod : bodyS ns (bts ys) ⟨8, lo, hi', neg, set, kids⟩ = some u.data.toList := by
                rw [HBod.out, ← hcat.out, List.drop_eq_nil_of_le (by omega)]
                simp [kidsT]
              have s0 := t4.cell0 hlt
              have s1 := t4.frozen ys.length
              have hlz : ¬ (1000 : Int) < (u.size : Int) := by omega
              have FF := Lib.hid (FIN.out u _ HB4.out hbod (by omega))
              clear hbod hcat
              go_wp2
              go_roundw
              case rel => exact FF.out
              case measure => simp [intOf]; omega
        have z1 : (kd == 1) = false := beq_eq_false_iff_ne.2 q1
        have z2 : (kd == 2) = false := beq_eq_false_iff_ne.2 q2
        have z3 : (kd == 3) = false := beq_eq_false_iff_ne.2 q3
        have z4 : (kd == 4) = false := beq_eq_false_iff_ne.2 q4
        have z5 : (kd == 5) = false := beq_eq_false_iff_ne.2 q5
        have z6 : (kd == 6) = false := beq_eq_false_iff_ne.2 q6
        have z7 : (kd == 7) = false := beq_eq_false_iff_ne.2 q7
        have z8 : (kd == 8) = false := beq_eq_false_iff_ne.2 q8
        have z9 : (kd == 9) = false := beq_eq_false_iff_ne.2 q9
        have hR : Hid (textS ns = []) := HNo.out (by unfold bodyS; simp [q1, q2, q3, q4, q5, q6, q7, q8, q9])
        have hbW := Lib.hid (AT.out w3 (Below.refl _ _)).2.2.2.1
        clear q1 q2 q3 q4 q5 q6 q7 q8 q9
        go_wp2
        all_goals (go_ret; exact ⟨by rw [hR.out]; rfl, hbW.out⟩)
      · have hO2 : O = some (bts ys) := by rw [← hto, List.drop_eq_nil_of_le (by omega), textsS]
        have hkn : ys.length = ns.length := by omega
        obtain ⟨m, hm⟩ : ∃ m, ns.length - 1 = m := ⟨_, rfl⟩
        have hmz : (ns.length : Int) - 1 = (m : Int) := by omega
        have hml : m < ys.length := by omega
        have hmn : m < ns.length := by omega
        have hc := hrow.cell hml (by omega)
        obtain ⟨y, hy⟩ : ∃ y, ys[m] = y := ⟨_, rfl⟩
        rw [hy] at hc
        have hR : Hid (bytesT (textS ns) = y) := by
          show _ = _
          rw [HA.out, hO2]
          unfold ansT bytesT
          rw [hm, Option.map_some, Option.getD_some, bts_get hml, hy]
        clear hto hrow hO2 hkn hy hm hsm
        go_wp2
        go_ret
        exact ⟨by rw [hR.out]; rfl, Br⟩

end Go.Proofs.YtdkjfppjbkdelaaGreatDoor
