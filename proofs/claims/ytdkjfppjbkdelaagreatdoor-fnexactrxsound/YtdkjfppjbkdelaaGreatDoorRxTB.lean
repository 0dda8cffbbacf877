/- The specification's comparing of nodes. Conditions: at most 1048576 elements in all. -/
import Derived.Test.YtdkjfppjbkdelaaGreatDoorRxTA
import Derived.Test.YtdkjfppjbkdelaaGreatDoorRxW9
import Derived.Test.YtdkjfppjbkdelaaGreatDoorRxOrdA
import Derived.Test.YtdkjfppjbkdelaaGreatDoorRxTree
namespace Go.Proofs.YtdkjfppjbkdelaaGreatDoor
set_option linter.unusedVariables false
open Go.RowKit

theorem belowRow {B g : Nat} {a w : World} (h : Below B a w) (hg : B ≤ g) (C : Array Value) : Below B a (w.setRow g C) :=
  ⟨h.os, h.tape, h.output, by simp [World.setRow]; exact h.size, fun k hk => (setRow_other w g k C (by omega)).trans (h.block k hk)⟩
def SmRel (xs ys : List Nd) (w0 : World) (i : Value) (wr : World) : Prop :=
  ∃ k : Nat, k ≤ xs.length ∧ i = .int .i64 k ∧ eqNs (xs.drop k) (ys.drop k) = eqNs xs ys ∧ Below w0.heap.size w0 wr

set_option maxHeartbeats 8000000 in
set_option maxRecDepth 100000 in
theorem same_any (A B : Option Addr) (c d : Nat) (xs ys : List Nd) (w : World) (hx : xs.length + bulks xs ≤ 1048576) (hy : ys.length + bulks ys ≤ 1048576) (hN : Nodes w w.heap.size A xs) (hM : Nodes w w.heap.size B ys) :
    Calls Tryz.prog 88 #[.agg #[.slice A xs.length c], .agg #[.slice B ys.length d]] w fun e w' => e = .returned (.bool (eqNs xs ys)) ∧ Below w.heap.size w w' := by
  obtain ⟨w0, hw0⟩ : ∃ w0, (w.alloc (.cells #[.slice A xs.length c] 27)).alloc (.cells #[.slice B ys.length d] 27) = w0 := ⟨_, rfl⟩
  have b0 : Below w.heap.size w w0 := by rw [← hw0]; exact ((Below.refl _ _).alloc (Nat.le_refl _) _).alloc (by simp) _
  have hz0 : w0.heap.size = w.heap.size + 2 := by rw [← hw0, alloc_size1, alloc_size1]
  have x0 : w0.cell? ⟨w.heap.size, 0, none⟩ = some (.slice A xs.length c) := by rw [← hw0, cell_of_row _ _ _ _ _ _ (heap_alloc2_old w _ _)]; rfl
  have y0 : w0.cell? ⟨w.heap.size + 1, 0, none⟩ = some (.slice B ys.length d) := by rw [← hw0, cell_of_row _ _ _ _ _ _ (heap_alloc2_new w _ _)]; rfl
  have box : ∀ W, Below w0.heap.size w0 W → W.cell? ⟨w.heap.size, 0, none⟩ = some (.slice A xs.length c) ∧ W.cell? ⟨w.heap.size + 1, 0, none⟩ = some (.slice B ys.length d) ∧ Below w.heap.size w W := fun W h =>
    ⟨(h.cell (p := ⟨w.heap.size, 0, none⟩) (by show w.heap.size < _; omega)).trans x0, (h.cell (p := ⟨w.heap.size + 1, 0, none⟩) (by show w.heap.size + 1 < _; omega)).trans y0, b0.trans (h.mono (by omega))⟩
  have BX := Lib.hid box
  have HN := Lib.hid hN
  have HM := Lib.hid hM
  have HB0 := Lib.hid b0
  have HZ := Lib.hid hz0
  rw [← hw0] at x0 y0
  have HW0 := Lib.hid hw0
  clear hN hM box b0 hz0 hw0
  by_cases hl : xs.length = ys.length
  · have hlz : ((xs.length : Int) == (ys.length : Int)) = true := by simp; omega
    have hln : ((xs.length : Int) != (ys.length : Int)) = false := by simp; omega
    have HL := Lib.hid hl
    clear hl
    go_enter Tryz.func88, Tryz.ntmps88
    go_wp2
    rw [HW0.out]
    clear hlz hln x0 y0
    go_loopw [5] (SmRel xs ys w0) (fun i _ => xs.length - (intOf i).toNat)
    case atStart => exact ⟨0, Nat.zero_le _, rfl, rfl, Below.refl _ _⟩
    case round =>
      obtain ⟨k, hk, rfl, heq, hbel⟩ := hrel
      obtain ⟨xr, yr, Br⟩ := BX.out _ hbel
      by_cases hlt : k < xs.length
      · have hlt2 : k < ys.length := by have := HL.out; omega
        obtain ⟨b, o1, sa, sc, ka, kc, rfl, hbb, hs, hn1, hn2⟩ := HN.out k hlt
        obtain ⟨b', o1', sa', sc', ka', kc', rfl, hbb', hs', hn1', hn2'⟩ := HM.out k hlt2
        obtain ⟨c0, c1, c2, c3, c4, c5⟩ := hs.move (w' := wr) fun i => Br.cell (p := ⟨b, i, none⟩) hbb
        obtain ⟨d0, d1, d2, d3, d4, d5⟩ := hs'.move (w' := wr) fun i => Br.cell (p := ⟨b', i, none⟩) hbb'
        have hbk : bulkOf xs[k] ≤ bulks xs := by have h1 := bulks_take hlt; have h2 := bulks_le xs (k + 1); omega
        have hbk' : bulkOf ys[k] ≤ bulks ys := by have h1 := bulks_take hlt2; have h2 := bulks_le ys (k + 1); omega
        unfold bulkOf at hbk hbk'
        rw [eqNs_step hlt hlt2] at heq
        obtain ⟨nd, hnd⟩ : ∃ nd, xs[k] = nd := ⟨_, rfl⟩
        obtain ⟨md, hmd⟩ : ∃ md, ys[k] = md := ⟨_, rfl⟩
        rw [hnd] at c0 c1 c2 c3 c4 c5 hbk heq hn1 hn2
        rw [hmd] at d0 d1 d2 d3 d4 d5 hbk' heq hn1' hn2'
        have hk2 : (k : Int) < (ys.length : Int) := by omega
        have FA : Hid (∀ W, Below wr.heap.size wr W → W.cell? ⟨w.heap.size, 0, none⟩ = some (.slice (some ⟨b, o1, none⟩) xs.length c) ∧ W.cell? ⟨w.heap.size + 1, 0, none⟩ = some (.slice (some ⟨b', o1', none⟩) ys.length d) ∧
            W.cell? ⟨b, o1 + k * 6, none⟩ = some (.int .i64 nd.kind) ∧ W.cell? ⟨b, o1 + k * 6 + 1, none⟩ = some (.int .i64 nd.lo) ∧ W.cell? ⟨b, o1 + k * 6 + 2, none⟩ = some (.int .i64 nd.hi) ∧ W.cell? ⟨b, o1 + k * 6 + 3, none⟩ = some (.bool nd.neg) ∧ W.cell? ⟨b, o1 + k * 6 + 4, none⟩ = some (.slice sa nd.set.length sc) ∧ W.cell? ⟨b, o1 + k * 6 + 5, none⟩ = some (.slice ka nd.kids.length kc) ∧
            W.cell? ⟨b', o1' + k * 6, none⟩ = some (.int .i64 md.kind) ∧ W.cell? ⟨b', o1' + k * 6 + 1, none⟩ = some (.int .i64 md.lo) ∧ W.cell? ⟨b', o1' + k * 6 + 2, none⟩ = some (.int .i64 md.hi) ∧ W.cell? ⟨b', o1' + k * 6 + 3, none⟩ = some (.bool md.neg) ∧ W.cell? ⟨b', o1' + k * 6 + 4, none⟩ = some (.slice sa' md.set.length sc') ∧ W.cell? ⟨b', o1' + k * 6 + 5, none⟩ = some (.slice ka' md.kids.length kc')) := fun W hW => by
          have hz := hbel.size
          have hz2 := HZ.out
          have m : ∀ q i, q < w0.heap.size → W.cell? ⟨q, i, none⟩ = wr.cell? ⟨q, i, none⟩ := fun q i hq => hW.cell (p := ⟨q, i, none⟩) (by show q < _; omega)
          exact ⟨(m _ _ (by omega)).trans xr, (m _ _ (by omega)).trans yr, (m _ _ (by omega)).trans c0, (m _ _ (by omega)).trans c1, (m _ _ (by omega)).trans c2, (m _ _ (by omega)).trans c3, (m _ _ (by omega)).trans c4, (m _ _ (by omega)).trans c5,
            (m _ _ (by omega)).trans d0, (m _ _ (by omega)).trans d1, (m _ _ (by omega)).trans d2, (m _ _ (by omega)).trans d3, (m _ _ (by omega)).trans d4, (m _ _ (by omega)).trans d5⟩
        have SST : Stable (fun W => Below wr.heap.size wr W) := fun w1 w2 h1 h2 => h1.trans (h2.mono h1.size)
        have HEQ := Lib.hid heq
        have HBel := Lib.hid hbel
        have IA : (ndC nd sa sc ka kc).size = 6 := rfl
        have IB : (ndC md sa' sc' ka' kc').size = 6 := rfl
        have OA := ndC_one nd sa sc ka kc
        have OB := ndC_one md sa' sc' ka' kc'
        have HNum : Hid (∀ W, Below wr.heap.size wr W → Nums .i64 W w.heap.size sa nd.set ∧ Nums .i64 W w.heap.size ka nd.kids ∧ Nums .i64 W w.heap.size sa' md.set ∧ Nums .i64 W w.heap.size ka' md.kids) := fun W hW => by
          have hb := Br.trans (hW.mono Br.size)
          exact ⟨hn1.below hb, hn2.below hb, hn1'.below hb, hn2'.below hb⟩
        have HBr := Lib.hid Br
        clear hs hs' hnd hmd hn1 hn2 hn1' hn2' heq hbel c0 c1 c2 c3 c4 c5 d0 d1 d2 d3 d4 d5 Br
        go_wp2_with fail
        clear xr yr
        refine wp_region_grows 10 (fun W => Below wr.heap.size wr W) (fun _ => True) SST (fun _ _ _ _ => trivial) (by kernel_rfl) (by kernel_rfl) (fun _ _ d _ _ h => by cases d <;> exact h) ((Below.refl _ wr).drew) trivial ?_
        simp only [List.take_succ_cons, List.take_zero]
        (refine grows_step (fun K hK => ?_); go_simp; refine ⟨_, fun W hW => .inl (by obtain ⟨f1, f2, g0, g1, g2, g3, g4, g5, h0, h1, h2, h3, h4, h5⟩ := FA.out W hW; first | (go_simp; exact rfl) | (go_simp; rw [if_neg (by omega)])), hK _ ?_⟩; clear hK K)
        (refine grows_step (fun K hK => ?_); go_simp; refine ⟨_, fun W hW => .inl (by obtain ⟨f1, f2, g0, g1, g2, g3, g4, g5, h0, h1, h2, h3, h4, h5⟩ := FA.out W hW; first | (go_simp; exact rfl) | (go_simp; rw [if_neg (by omega)])), hK _ ?_⟩; clear hK K)
        (refine grows_step (fun K hK => ?_); go_simp; refine ⟨_, fun W hW => .inl (by obtain ⟨f1, f2, g0, g1, g2, g3, g4, g5, h0, h1, h2, h3, h4, h5⟩ := FA.out W hW; first | (go_simp; exact rfl) | (go_simp; rw [if_neg (by omega)])), hK _ ?_⟩; clear hK K)
        (refine grows_step (fun K hK => ?_); go_simp; refine ⟨_, fun W hW => .inl (by obtain ⟨f1, f2, g0, g1, g2, g3, g4, g5, h0, h1, h2, h3, h4, h5⟩ := FA.out W hW; first | (go_simp; exact rfl) | (go_simp; rw [if_neg (by omega)])), hK _ ?_⟩; clear hK K)
        (refine grows_step (fun K hK => ?_); go_simp; refine ⟨_, fun W hW => .inl (by obtain ⟨f1, f2, g0, g1, g2, g3, g4, g5, h0, h1, h2, h3, h4, h5⟩ := FA.out W hW; first | (go_simp; exact rfl) | (go_simp; rw [if_neg (by omega)])), hK _ ?_⟩; clear hK K)
        (refine grows_step (fun K hK => ?_); go_simp; refine ⟨_, fun W hW => .inl (by obtain ⟨f1, f2, g0, g1, g2, g3, g4, g5, h0, h1, h2, h3, h4, h5⟩ := FA.out W hW; first | (go_simp; exact rfl) | (go_simp; rw [if_neg (by omega)])), hK _ ?_⟩; clear hK K)
        (refine grows_step (fun K hK => ?_); go_simp; refine ⟨_, fun W hW => .inl (by obtain ⟨f1, f2, g0, g1, g2, g3, g4, g5, h0, h1, h2, h3, h4, h5⟩ := FA.out W hW; first | (go_simp; exact rfl) | (go_simp; rw [if_neg (by omega)])), hK _ ?_⟩; clear hK K)
        (refine grows_step (fun K hK => ?_); go_simp; refine ⟨_, fun W hW => .inl (by obtain ⟨f1, f2, g0, g1, g2, g3, g4, g5, h0, h1, h2, h3, h4, h5⟩ := FA.out W hW; first | (go_simp; exact rfl) | (go_simp; rw [if_neg (by omega)])), hK _ ?_⟩; clear hK K)
        (refine grows_step (fun K hK => ?_); go_simp; refine ⟨_, fun W hW => .inl (by obtain ⟨f1, f2, g0, g1, g2, g3, g4, g5, h0, h1, h2, h3, h4, h5⟩ := FA.out W hW; first | (go_simp; exact rfl) | (go_simp; rw [if_neg (by omega)])), hK _ ?_⟩; clear hK K)
        (refine grows_step (fun K hK => ?_); go_simp; refine ⟨_, fun W hW => .inl (by obtain ⟨f1, f2, g0, g1, g2, g3, g4, g5, h0, h1, h2, h3, h4, h5⟩ := FA.out W hW; first | (go_simp; exact rfl) | (go_simp; rw [if_neg (by omega)])), hK _ ?_⟩; clear hK K)
        refine grows_nil ?_
        change Orders2 _ _ _ _ _ 4 _ _ _
        refine nd_two (C := ndC nd sa sc ka kc) (D := ndC md sa' sc' ka' kc') (ka := 10) (kb := 11) (kc := 12) (kd := 13) wr.heap.size _ SST (fun W s => s.size) (fun W g E hg s => belowRow s hg E) IA IB OA OB rfl rfl rfl rfl (by decide) (by kernel_rfl) (by kernel_rfl) (by kernel_rfl) (by kernel_rfl) (by kernel_rfl) (by kernel_rfl) (fun _ _ => rfl) (fun _ _ => rfl) (fun _ _ => rfl) (fun _ _ => rfl) (fun _ _ => rfl) (fun _ _ => rfl) ?_
        intro g h W hgh hg hh sW NA NB
        simp only [Act.put, List.setIfInBounds_toArray, List.set_cons_zero, List.set_cons_succ]
        have a0 := cell_of_row _ _ 0 _ _ _ NA
        have a1 := cell_of_row _ _ 1 _ _ _ NA
        have a2 := cell_of_row _ _ 2 _ _ _ NA
        have a3 := cell_of_row _ _ 3 _ _ _ NA
        have a4 := cell_of_row _ _ 4 _ _ _ NA
        have a5 := cell_of_row _ _ 5 _ _ _ NA
        have e0 := cell_of_row _ _ 0 _ _ _ NB
        have e1 := cell_of_row _ _ 1 _ _ _ NB
        have e2 := cell_of_row _ _ 2 _ _ _ NB
        have e3 := cell_of_row _ _ 3 _ _ _ NB
        have e4 := cell_of_row _ _ 4 _ _ _ NB
        have e5 := cell_of_row _ _ 5 _ _ _ NB
        unfold ndC at a0 a1 a2 a3 a4 a5 e0 e1 e2 e3 e4 e5
        simp only [List.getElem?_toArray, List.getElem?_cons_zero, List.getElem?_cons_succ] at a0 a1 a2 a3 a4 a5 e0 e1 e2 e3 e4 e5
        obtain ⟨n1, n2, n3, n4⟩ := HNum.out W sW
        have cS := ints_any sa sa' sc sc' nd.set md.set W w.heap.size w.heap.size (by omega) (by omega) n1 n3
        have cK : ∀ n, Calls Tryz.prog 129 #[.slice ka nd.kids.length kc, .slice ka' md.kids.length kc'] (W.drewN n) _ := fun n => ints_any ka ka' kc kc' nd.kids md.kids (W.drewN n) w.heap.size w.heap.size (by omega) (by omega) n2 n4
        have hBW : Hid (Below w0.heap.size w0 W) := HBel.out.trans (sW.mono HBel.out.size)
        have hBw : Hid (Below w.heap.size w W) := HBr.out.trans (sW.mono HBr.out.size)
        have xW := (FA.out W sW).1
        have yW := (FA.out W sW).2.1
        have hno : ∀ t : Bool, eqN nd md = t → Hid ((t && eqNs (xs.drop (k + 1)) (ys.drop (k + 1))) = eqNs xs ys) := fun t ht => by
          have := HEQ.out
          rw [ht] at this
          exact this
        have HNO := Lib.hid hno
        clear NA NB IA IB OA OB hno n1 n2 n3 n4 HEQ
        obtain ⟨m0, m1, m2, m3, ms, mk⟩ := nd
        obtain ⟨q0, q1, q2, q3, qs, qk⟩ := md
        simp only at *
        cases z0 : (m0 == q0) with
        | false =>
          have y0 : (m0 != q0) = true := by simp only [bne, z0]; rfl
          have hR := HNO.out false (by simp only [eqN, z0]; simp)
          clear cS cK
          go_wp2
          all_goals (go_ret; exact ⟨ret_bool (by simpa using hR.out), hBw.out⟩)
        | true =>
          have y0 : (m0 != q0) = false := by simp only [bne, z0]; rfl
          cases z1 : (m1 == q1) with
          | false =>
            have y1 : (m1 != q1) = true := by simp only [bne, z1]; rfl
            have hR := HNO.out false (by simp only [eqN, z0, z1]; simp)
            clear cS cK
            go_wp2
            all_goals (go_ret; exact ⟨ret_bool (by simpa using hR.out), hBw.out⟩)
          | true =>
            have y1 : (m1 != q1) = false := by simp only [bne, z1]; rfl
            cases z2 : (m2 == q2) with
            | false =>
              have y2 : (m2 != q2) = true := by simp only [bne, z2]; rfl
              have hR := HNO.out false (by simp only [eqN, z0, z1, z2]; simp)
              clear cS cK
              go_wp2
              all_goals (go_ret; exact ⟨ret_bool (by simpa using hR.out), hBw.out⟩)
            | true =>
              have y2 : (m2 != q2) = false := by simp only [bne, z2]; rfl
              cases z3 : (m3 == q3) with
              | false =>
                have y3 : (m3 != q3) = true := by simp only [bne, z3]; rfl
                have hR := HNO.out false (by simp only [eqN, z0, z1, z2, z3]; simp)
                clear cS cK
                go_wp2
                all_goals (go_ret; exact ⟨ret_bool (by simpa using hR.out), hBw.out⟩)
              | true =>
                have y3 : (m3 != q3) = false := by simp only [bne, z3]; rfl
                cases z4 : (ms == qs) with
                | false =>
                  have hR := HNO.out false (by simp only [eqN, z4]; simp)
                  rw [z4] at cS
                  clear cK z4
                  go_wp2_with (go_at_call 129; refine cS.mono ?_; rintro e W2 ⟨rfl, n5, rfl⟩)
                  all_goals (go_ret; exact ⟨ret_bool (by simpa using hR.out), belowN hBw.out _⟩)
                | true =>
                  rw [z4] at cS
                  cases z5 : (mk == qk) with
                  | false =>
                    have hR := HNO.out false (by simp only [eqN, z5]; simp)
                    rw [z5] at cK
                    clear z4 z5
                    go_wp2_with (first | (go_at_call 129; with_reducible refine cS.mono ?_; rintro e W2 ⟨rfl, n5, rfl⟩) | (go_at_call 129; refine (cK _).mono ?_; rintro e W3 ⟨rfl, n6, rfl⟩))
                    all_goals (go_ret; exact ⟨ret_bool (by simpa using hR.out), belowN hBw.out _⟩)
                  | true =>
                    have hR := HNO.out true (by simp only [eqN, z0, z1, z2, z3, z4, z5]; simp)
                    rw [z5] at cK
                    clear z4 z5
                    go_wp2_with (first | (go_at_call 129; with_reducible refine cS.mono ?_; rintro e W2 ⟨rfl, n5, rfl⟩) | (go_at_call 129; refine (cK _).mono ?_; rintro e W3 ⟨rfl, n6, rfl⟩))
                    go_roundw
                    case rel => exact ⟨k + 1, hlt, by go_num, by simpa using hR.out, belowN hBW.out _⟩
                    case measure => simp [intOf]; omega
      · have hE2 : Hid (true = eqNs xs ys) := by show _ = _; rw [← heq, List.drop_eq_nil_of_le (by omega), List.drop_eq_nil_of_le (by have := HL.out; omega)]; rfl
        clear heq
        go_wp2
        go_ret
        exact ⟨ret_bool hE2.out, Br⟩
  · have hlz : ((xs.length : Int) == (ys.length : Int)) = false := by simp; omega
    have hR : Hid (false = eqNs xs ys) := (eqNs_len hl).symm
    go_enter Tryz.func88, Tryz.ntmps88
    go_wp2
    all_goals (go_ret; exact ⟨ret_bool hR.out, by rw [HW0.out]; exact HB0.out⟩)

end Go.Proofs.YtdkjfppjbkdelaaGreatDoor

/- The specification's texts of nodes in memory; what one round of its loop makes. No condition beyond what each theorem states. -/
namespace Go.Proofs.YtdkjfppjbkdelaaGreatDoor
set_option linter.unusedVariables false
open Go.RowKit

theorem Tryz.infoStr : (Tryz.prog.info? 9).map (fun i => (i.zero, i.size, i.bytes)) = some (some (.string ⟨#[]⟩), 1, 16) := by kernel_rfl
/-- The texts so far lie in a row at block g, the others are empty. -/
def TRow (w : World) (g n : Nat) (ys : List ByteArray) : Prop := w.ownsRow g 9 1 (.slice (some ⟨g, 0, none⟩) n n) n ((ys ++ List.replicate (n - ys.length) (⟨#[]⟩ : ByteArray)).map Value.string)
theorem TRow.cell {w : World} {g n : Nat} {ys : List ByteArray} (h : TRow w g n ys) {k : Nat} (hk : k < ys.length) (hn : ys.length ≤ n) : w.cell? ⟨g, k, none⟩ = some (.string ys[k]) := by
  rw [World.ownsRow.cellAt h k (by omega)]
  rw [List.map_append, List.getElem?_append_left (by simpa using hk)]
  simp [hk]
theorem TRow.cell0 {w : World} {g n : Nat} {ys : List ByteArray} (h : TRow w g n ys) (hn : ys.length < n) : w.cell? ⟨g, ys.length, none⟩ = some (.string ⟨#[]⟩) := by
  rw [World.ownsRow.cellAt h ys.length (by omega)]
  simp [show 0 < n - ys.length by omega]
theorem TRow.frozen {w : World} {g n : Nat} {ys : List ByteArray} (h : TRow w g n ys) (k : Nat) : w.frozen? ⟨g, k, none⟩ = false := World.ownsRow.frozenAt h k
theorem TRow.put {w : World} {g n : Nat} {ys : List ByteArray} (h : TRow w g n ys) (hn : ys.length < n) (x : ByteArray) : TRow (w.setCell ⟨g, ys.length, none⟩ (.string x)) g n (ys ++ [x]) := by
  have := (World.ownsRow.stored h ys.length (.string x)).1
  unfold TRow
  have e : (ys ++ [x] ++ List.replicate (n - (ys ++ [x]).length) (⟨#[]⟩ : ByteArray)).map Value.string = ((ys ++ List.replicate (n - ys.length) (⟨#[]⟩ : ByteArray)).map Value.string).set ys.length (.string x) := by
    obtain ⟨m, hm⟩ : ∃ m, n - ys.length = m + 1 := ⟨n - ys.length - 1, by omega⟩
    rw [hm, show n - (ys ++ [x]).length = m by simp; omega]
    simp [List.replicate_succ]
  rw [e]
  exact this
theorem TRow.below {w w' : World} {g n : Nat} {ys : List ByteArray} (h : TRow w g n ys) (hb : Below w.heap.size w w') : TRow w' g n ys :=
  World.ownsRow.kept (row := none) h ⟨hb.os, hb.tape, hb.output, hb.size, fun k hk _ => hb.block k hk⟩ (by cases hv : Value.ownBlock _ <;> simp)
theorem trow_made {w0 : World} {g n : Nat} (h : w0.ownsRow g 9 1 (.slice (some ⟨g, 0, none⟩) n n) n (madeCells (Value.string ⟨#[]⟩).cells (n * 1)).toList) : TRow w0 g n [] := by
  have e : (madeCells (Value.string ⟨#[]⟩).cells (n * 1)).toList = (([] : List ByteArray) ++ List.replicate (n - 0) (⟨#[]⟩ : ByteArray)).map Value.string := by
    rw [Nat.mul_one]
    show (madeCells #[Value.string ⟨#[]⟩] n).toList = _
    rw [toList_madeCells_one]
    simp
  unfold TRow
  rw [List.length_nil, ← e]
  exact h
theorem TRow.lt {w : World} {g n : Nat} {ys : List ByteArray} (h : TRow w g n ys) : g < w.heap.size := (World.ownsRow.lt h g rfl).2

/-- The bytes of each. -/
def bts (ys : List ByteArray) : List (List UInt8) := ys.map fun b => b.data.toList
theorem bts_snoc (ys : List ByteArray) (b : ByteArray) : bts (ys ++ [b]) = bts ys ++ [b.data.toList] := by simp [bts]
theorem bts_length (ys : List ByteArray) : (bts ys).length = ys.length := by simp [bts]
theorem bts_get {ys : List ByteArray} {k : Nat} (h : k < ys.length) : (bts ys).getD k [] = (ys[k]).data.toList := by
  simp [bts, List.getD_eq_getElem?_getD, h]

/-- What is answered where the texts come out so. -/
def ansT (n : Nat) (o : Option (List (List UInt8))) : List UInt8 := (o.map fun z => z.getD (n - 1) []).getD []
theorem textS_ans {ns : List Nd} (h : isTreeR ns = true) : textS ns = ansT ns.length (textsS ns ns []) := by unfold textS; rw [if_pos h]; rfl
theorem texts_none {ns : List Nd} {k : Nat} {z : List (List UInt8)} (h : k < ns.length) (hb : bodyS ns z ns[k] = none) : textsS ns (ns.drop k) z = none := by
  rw [List.drop_eq_getElem_cons h, textsS, nodeS, hb]; rfl
theorem texts_long {ns : List Nd} {k : Nat} {z : List (List UInt8)} {t : List UInt8} (h : k < ns.length) (hb : bodyS ns z ns[k] = some t) (hl : 1000 < t.length) : textsS ns (ns.drop k) z = none := by
  rw [List.drop_eq_getElem_cons h, textsS, nodeS, hb, Option.bind_some, capT, if_pos hl]; rfl
theorem texts_next {ns : List Nd} {k : Nat} {ys : List ByteArray} {b : ByteArray} (h : k < ns.length) (hb : bodyS ns (bts ys) ns[k] = some b.data.toList) (hl : ¬ 1000 < b.size) : textsS ns (ns.drop k) (bts ys) = textsS ns (ns.drop (k + 1)) (bts (ys ++ [b])) := by
  rw [List.drop_eq_getElem_cons h, textsS, nodeS, hb, Option.bind_some, capT, if_neg (by rw [Array.length_toList]; exact hl), bts_snoc]; rfl

/-- Where the loop over the nodes stands. -/
def TXRel (ns : List Nd) (w1 : World) (g : Nat) (o : Option (List (List UInt8))) (i : Value) (wr : World) : Prop :=
  ∃ (k : Nat) (ys : List ByteArray), k ≤ ns.length ∧ i = .int .i64 k ∧ ys.length = k ∧ TRow wr g ns.length ys ∧ textsS ns (ns.drop k) (bts ys) = o ∧ (∀ y ∈ ys, y.size ≤ 1000) ∧ Below g w1 wr

end Go.Proofs.YtdkjfppjbkdelaaGreatDoor
