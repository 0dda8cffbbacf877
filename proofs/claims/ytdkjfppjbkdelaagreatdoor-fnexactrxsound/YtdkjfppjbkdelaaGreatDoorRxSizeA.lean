/- spec.RxSize and impl.RxSize answer the size of a tree. Conditions: at most 1048576 elements in all. -/
import Derived.Test.YtdkjfppjbkdelaaGreatDoorRxTree
namespace Go.Proofs.YtdkjfppjbkdelaaGreatDoor
set_option linter.unusedVariables false
open Go.RowKit

/-- The sizes so far lie in a row at block g, the others are 0. -/
def Sizes (w : World) (g n : Nat) (z : List Int) : Prop := w.ownsRow g 3 1 (.slice (some ⟨g, 0, none⟩) n n) n ((z ++ List.replicate (n - z.length) 0).map (Value.int .i64))
theorem Sizes.cell {w : World} {g n : Nat} {z : List Int} (h : Sizes w g n z) {k : Nat} (hk : k < z.length) (hn : z.length ≤ n) : w.cell? ⟨g, k, none⟩ = some (.int .i64 (z.getD k 0)) := by
  rw [World.ownsRow.cellAt h k (by omega)]
  rw [List.map_append, List.getElem?_append_left (by simpa using hk)]
  simp [List.getD_eq_getElem?_getD, hk]
theorem Sizes.cell0 {w : World} {g n : Nat} {z : List Int} (h : Sizes w g n z) (hn : z.length < n) : w.cell? ⟨g, z.length, none⟩ = some (.int .i64 0) := by
  rw [World.ownsRow.cellAt h z.length (by omega)]
  simp [show 0 < n - z.length by omega]
theorem Sizes.frozen {w : World} {g n : Nat} {z : List Int} (h : Sizes w g n z) (k : Nat) : w.frozen? ⟨g, k, none⟩ = false := World.ownsRow.frozenAt h k
theorem Sizes.put {w : World} {g n : Nat} {z : List Int} (h : Sizes w g n z) (hn : z.length < n) (x : Int) : Sizes (w.setCell ⟨g, z.length, none⟩ (.int .i64 x)) g n (z ++ [x]) := by
  have := (World.ownsRow.stored h z.length (.int .i64 x)).1
  unfold Sizes
  have e : (z ++ [x] ++ List.replicate (n - (z ++ [x]).length) 0).map (Value.int .i64) = ((z ++ List.replicate (n - z.length) 0).map (Value.int .i64)).set z.length (.int .i64 x) := by
    obtain ⟨m, hm⟩ : ∃ m, n - z.length = m + 1 := ⟨n - z.length - 1, by omega⟩
    rw [hm, show n - (z ++ [x]).length = m by simp; omega]
    simp [List.replicate_succ]
  rw [e]
  exact this
theorem Sizes.below {w w' : World} {g n : Nat} {z : List Int} (h : Sizes w g n z) (hb : Below w.heap.size w w') : Sizes w' g n z :=
  World.ownsRow.kept (row := none) h ⟨hb.os, hb.tape, hb.output, hb.size, fun k hk _ => hb.block k hk⟩ (by cases hv : Value.ownBlock _ <;> simp)
theorem sizes_made {w0 : World} {g n : Nat} (h : w0.ownsRow g 3 1 (.slice (some ⟨g, 0, none⟩) n n) n (madeCells (Value.int .i64 0).cells (n * 1)).toList) : Sizes w0 g n [] := by
  have e : (madeCells (Value.int .i64 0).cells (n * 1)).toList = (([] : List Int) ++ List.replicate (n - 0) 0).map (Value.int .i64) := by
    rw [Nat.mul_one]
    show (madeCells #[Value.int .i64 0] n).toList = _
    rw [toList_madeCells_one]
    simp
  unfold Sizes
  rw [List.length_nil, ← e]
  exact h

theorem size_step {ns : List Nd} {k : Nat} {z : List Int} (h : k < ns.length) : sizesR (ns.drop k) z = sizesR (ns.drop (k + 1)) (z ++ [szOf z ns[k]]) := by
  rw [drop_cons h, sizesR]
theorem size_last {ns : List Nd} (ht : isTreeR ns = true) : sizeR ns = (sizesR ns []).getD (ns.length - 1) 0 := by unfold sizeR; rw [if_pos ht]
theorem size_none {ns : List Nd} (ht : isTreeR ns = false) : sizeR ns = 0 := by unfold sizeR; rw [ht]; rfl

theorem sized_nil : Sized [] := fun x hx => by cases hx
theorem often_max (nd : Nd) : often nd = if nd.kind = 9 then (if (if 1 < nd.lo then nd.lo else 1) < nd.hi then nd.hi else (if 1 < nd.lo then nd.lo else 1)) else 1 := by
  unfold often
  split
  · omega
  · rfl

def SRel (ns : List Nd) (A : Option Addr) (c g : Nat) (w : World) (i : Value) (wr : World) : Prop :=
  ∃ (k : Nat) (z : List Int), k ≤ ns.length ∧ i = .int .i64 k ∧ z.length = k ∧ Sized z ∧ Sizes wr g ns.length z ∧ sizesR (ns.drop k) z = sizesR ns [] ∧
    wr.cell? ⟨w.heap.size, 0, none⟩ = some (.slice A ns.length c) ∧ Below w.heap.size w wr

set_option maxHeartbeats 4000000 in
set_option maxRecDepth 100000 in
theorem specSize (A : Option Addr) (c : Nat) (ns : List Nd) (w : World) (hlen : ns.length + bulks ns ≤ 1048576) (hN : Nodes w w.heap.size A ns) :
    Calls Tryz.prog 104 #[.agg #[.slice A ns.length c]] w fun e w' => e = .returned (.int .i64 (sizeR ns)) ∧ Below w.heap.size w w' := by
  obtain ⟨i0, hi, hz0, hz1, hz2⟩ := info_parts Tryz.infoInt
  have b0 : Below w.heap.size w (w.alloc (.cells #[.slice A ns.length c] 27)) := (Below.refl _ _).alloc (Nat.le_refl _) _
  have cT := specTree A c ns (w.alloc (.cells #[.slice A ns.length c] 27)) hlen ((hN.below b0).up b0.size)
  have HN := Lib.hid hN
  clear hN
  go_enter Tryz.func104, Tryz.ntmps104
  go_wp2_with fail
  refine cT.mono ?_
  rintro e w1 ⟨rfl, b1⟩
  clear cT
  have B1 : Below w.heap.size w w1 := b0.trans (b1.mono b0.size)
  have z1 := b1.size
  rw [alloc_size1] at z1
  have hc1 : w1.cell? ⟨w.heap.size, 0, none⟩ = some (.slice A ns.length c) := by
    have : w1.heap[w.heap.size]? = _ := (b1.block w.heap.size (by simp)).trans (heap_alloc_new w _)
    rw [cell_of_row _ _ _ _ _ _ this]; rfl
  clear b0 b1
  cases ht : isTreeR ns with
  | false =>
    have HT := Lib.hid (size_none ht)
    clear ht
    go_wp2
    go_ret
    exact ⟨by rw [HT.out]; rfl, B1⟩
  | true =>
    have HT := Lib.hid (size_last ht)
    have HKd := Lib.hid (tree_kids ht)
    clear ht
    go_wp2_with (at_make; refine wpList_make_full _ rfl _ _ 45 rfl w1.heap.size 3 i0 _ 1 Tryz.underlying45 hi hz0 hz1 _ _ _ _ ns.length rfl rfl rfl rfl (by rw [hz2]; omega) (by unfold maxLen; omega) (Nat.le_refl _) ?_; intro w0 hown0 hgrow0)
    have hb0 : Below w.heap.size w w0 := B1.grown hgrow0 (by omega) (fun k h => by cases h)
    have hc0 : w0.cell? ⟨w.heap.size, 0, none⟩ = some (.slice A ns.length c) := hgrow0.cell hc1 (by simp)
    have HF := Lib.hid (sizes_made hown0)
    have hg1 : w.heap.size < w1.heap.size := by omega
    obtain ⟨g, hg⟩ : ∃ g, w1.heap.size = g := ⟨_, rfl⟩
    rw [hg] at HF hg1 ⊢
    clear hown0 hgrow0 hc1 B1 z1 hg
    go_wp2
    go_loopw [4] (SRel ns A c g w) (fun i _ => ns.length - (intOf i).toNat)
    case atStart => exact ⟨0, [], Nat.zero_le _, rfl, rfl, sized_nil, HF.out, rfl, hc0, hb0⟩
    case round =>
      obtain ⟨k, z, hk, rfl, hzl, hsz, hfl, htr, hbx, hbel⟩ := hrel
      clear hc0 hb0 HF
      by_cases hlt : k < ns.length
      · obtain ⟨b, o, sa, sc, ka, kc, rfl, hbb, hs, hn1, hn2⟩ := HN.out k hlt
        obtain ⟨c0, c1, c2, c3, c4, c5⟩ := hs.move (w' := wr) fun i => hbel.cell (p := ⟨b, i, none⟩) hbb
        have hbk : bulkOf ns[k] ≤ bulks ns := by have h1 := bulks_take hlt; have h2 := bulks_le ns (k + 1); omega
        unfold bulkOf at hbk
        have hkd := HKd.out.2 k hlt
        rw [size_step hlt] at htr
        obtain ⟨nd, hnd⟩ : ∃ nd, ns[k] = nd := ⟨_, rfl⟩
        rw [hnd] at c0 c1 c2 c3 c4 c5 hn2 htr hbk hkd
        have hkl : nd.kids.length ≤ 1048576 := by omega
        have HK2 := Lib.hid hn2
        have HT2 := Lib.hid htr
        have HSz := Lib.hid hsz
        have HKK := Lib.hid hkd
        have HFl := Lib.hid hfl
        have HZ := Lib.hid hzl
        have hx0 : 0 < w.heap.size + 1 := by omega
        have ho := often_max nd
        have hop := often_pos nd
        clear hs hn1 hn2 hbk htr hnd hsz hkd hfl hzl
        have hbel2 : Below w.heap.size w (wr.alloc (.cells #[.int .i64 nd.kind, .int .i64 nd.lo, .int .i64 nd.hi, .bool nd.neg, .slice sa nd.set.length sc, .slice ka nd.kids.length kc] 47)) := hbel.alloc hbel.size _
        have hF2 := HFl.out.below ((Below.refl _ _).alloc (Nat.le_refl _) (.cells #[.int .i64 nd.kind, .int .i64 nd.lo, .int .i64 nd.hi, .bool nd.neg, .slice sa nd.set.length sc, .slice ka nd.kids.length kc] 47))
        have hbx2 : (wr.alloc (.cells #[.int .i64 nd.kind, .int .i64 nd.lo, .int .i64 nd.hi, .bool nd.neg, .slice sa nd.set.length sc, .slice ka nd.kids.length kc] 47)).cell? ⟨w.heap.size, 0, none⟩ = some (.slice (some ⟨b, o, none⟩) ns.length c) :=
          (World.cell?_alloc_lt wr _ ⟨w.heap.size, 0, none⟩ (World.block_lt_of_cell? wr _ hbx)).trans hbx
        have X := heap_alloc_new wr (.cells #[.int .i64 nd.kind, .int .i64 nd.lo, .int .i64 nd.hi, .bool nd.neg, .slice sa nd.set.length sc, .slice ka nd.kids.length kc] 47)
        have hp5 := cell_of_row _ _ 5 _ _ _ X
        have HB2 := Lib.hid hbel2
        have HF2 := Lib.hid hF2
        have HX2 := Lib.hid hbx2
        have HX5 := Lib.hid hp5
        clear hbel2 hF2 hbx2 X hp5
        have hmax : nd.kind = 9 → ∀ W : World, (Builtin.max_ #[3, 3, 3] 3 #[.int .i64 1, .int .i64 nd.lo, .int .i64 nd.hi]).run Tryz.prog W = .ok (.int .i64 (often nd)) W := fun h W => by
          rw [if_pos h] at ho
          rw [ho]
          simp [Builtin.max_, Builtin.max2]
        have h1 : ¬ nd.kind = 9 → often nd = 1 := fun h => by rw [if_neg h] at ho; exact ho
        clear ho
        obtain ⟨ofn, hofn⟩ : ∃ ofn, often nd = ofn := ⟨_, rfl⟩
        have HOF := Lib.hid hofn
        rw [hofn] at hmax h1 hop
        clear hofn
        obtain ⟨kd, hkd⟩ : ∃ kd, nd.kind = kd := ⟨_, rfl⟩
        rw [hkd] at c0 HB2 HF2 HX2 HX5 hmax h1
        clear hkd
        by_cases h9 : kd = 9
        · have hmx := hmax h9
          clear hmax h1
          subst h9
          obtain ⟨kd, hkd⟩ : ∃ kd : Int, kd = 9 := ⟨_, rfl⟩
          go_wp2
          go_loop [7, 8] (fun s i => ∃ (j : Nat) (x : Int), j ≤ nd.kids.length ∧ i = .int .i64 j ∧ s = .int .i64 x ∧ SumIs z nd j x) (fun _ i => nd.kids.length - (intOf i).toNat)
          case atStart => exact ⟨0, 1, Nat.zero_le _, rfl, rfl, SumIs.start z nd⟩
          case round =>
            obtain ⟨j, x, hj, rfl, rfl, hsum⟩ := hrel
            have p5 : (wr.alloc (.cells #[.int .i64 9, .int .i64 nd.lo, .int .i64 nd.hi, .bool nd.neg, .slice sa nd.set.length sc, .slice ka nd.kids.length kc] 47)).cell? ⟨wr.heap.size, 5, none⟩ = some (.slice ka nd.kids.length kc) := HX5.out
            by_cases hgo : j < nd.kids.length ∧ x < 100000
            · obtain ⟨hjl, hx⟩ := hgo
              obtain ⟨b', o', rfl, hb', hc'⟩ := HK2.out j hjl
              have hkd := HKK.out _ (List.getElem_mem hjl)
              obtain ⟨m, hm⟩ : ∃ m : Nat, nd.kids[j] = m := ⟨(nd.kids[j]).toNat, by omega⟩
              rw [hm] at hkd hc'
              have hmz : m < z.length := by rw [HZ.out]; omega
              have hcr : (wr.alloc (.cells #[.int .i64 9, .int .i64 nd.lo, .int .i64 nd.hi, .bool nd.neg, .slice sa nd.set.length sc, .slice (some ⟨b', o', none⟩) nd.kids.length kc] 47)).cell? ⟨b', o' + j, none⟩ = some (.int .i64 m) := (HB2.out.cell (p := ⟨b', o' + j, none⟩) hb').trans hc'
              have hzc := HF2.out.cell (k := m) hmz (by rw [HZ.out]; omega)
              have hzb := HSz.out.getD hmz
              have hmk : m < ns.length := by omega
              obtain ⟨y, hy⟩ : ∃ y, z.getD m 0 = y := ⟨_, rfl⟩
              rw [hy] at hzc hzb
              have hxm : z.getD (nd.kids[j]).toNat 0 = y := by rw [hm]; exact hy
              have y0 : ¬ y = 0 := by omega
              have y1 : 0 ≤ y := by omega
              have HXM := Lib.hid hxm
              have HY := Lib.hid hzb
              have hdiv : Int.tdiv 100000 y = 100000 / y := Int.tdiv_eq_ediv_of_nonneg (by omega)
              have hqn : 0 ≤ 100000 / y := Int.ediv_nonneg (by omega) (by omega)
              have hql : 100000 / y ≤ 100000 := Int.ediv_le_self _ (by omega)
              obtain ⟨q, hq⟩ : ∃ q, 100000 / y = q := ⟨_, rfl⟩
              rw [hq] at hdiv hqn hql
              have HQ := Lib.hid hq
              clear hq hy hm hc' hxm hzb hkd
              by_cases hgt : q < ofn
              · have hs2 := SumIs.full (s := x) HSz.out hjl HXM.out HY.out.1 (by rw [HQ.out, HOF.out]; exact hgt)
                have HS2 := Lib.hid hs2
                clear hs2 hsum
                go_wp2
                go_round
                case rel => exact ⟨j + 1, 100000, hjl, by go_num, rfl, HS2.out⟩
                case measure => simp [intOf]; omega
              · obtain ⟨hs2, hs3, hs4⟩ := hsum.more hx hjl HXM.out HY.out.1 HY.out.2 (by rw [HQ.out, HOF.out]; omega)
                rw [HOF.out] at hs2 hs3 hs4
                have HS2 := Lib.hid hs2
                have hx2 : -1000000 < x := by
                  rcases hsum with ⟨h, _⟩ | ⟨h, _⟩
                  · have h0 := kidSum_nonneg HSz.out (nd.kids.take j)
                    have h3 : 0 ≤ often nd * kidSum z (nd.kids.take j) := Int.mul_nonneg (by have := often_pos nd; omega) h0
                    omega
                  · omega
                obtain ⟨pr, hpr⟩ : ∃ pr, ofn * y = pr := ⟨_, rfl⟩
                rw [hpr] at hs3 hs4 HS2
                clear hs2 hsum
                go_wp2
                go_round
                case rel => exact ⟨j + 1, x + pr, hjl, by go_num, by go_num, HS2.out⟩
                case measure => simp [intOf]; omega
            · have hdone := SumIs.done HSz.out hsum (by omega)
              have hmin : (if (100000 : Int) < x then 100000 else x) = szOf z nd := by rw [← hdone]; omega
              have hc0 := HF2.out.cell0 (by rw [HZ.out]; exact hlt)
              have hf0 := HF2.out.frozen z.length
              rw [HZ.out] at hc0 hf0
              have hst := HF2.out.put (by rw [HZ.out]; exact hlt) (szOf z nd)
              rw [HZ.out] at hst
              have HST := Lib.hid hst
              obtain ⟨y, hy⟩ : ∃ y, szOf z nd = y := ⟨_, rfl⟩
              rw [hy] at hmin HST
              have HY := Lib.hid hy
              clear hst hdone hsum hy
              have hgo2 : (j < nd.kids.length → 100000 ≤ x) := fun h => by omega
              by_cases hjl : j < nd.kids.length
              · have hx : ¬ x < 100000 := by omega
                clear hgo hgo2
                go_wp2
                go_roundw
                case rel => 
                  refine ⟨k + 1, z ++ [y], hlt, by go_num, by rw [List.length_append, HZ.out]; rfl, by rw [← HY.out]; exact HSz.out.snoc nd, HST.out, by rw [← HY.out]; exact HT2.out, ?_, HB2.out.setCell (p := ⟨g, k, none⟩) (by show w.heap.size ≤ g; omega) _⟩
                  rw [World.cell?_of_block (Below.heap_setCell _ _ _ _ (by show w.heap.size ≠ g; omega))]
                  exact HX2.out
                case measure => simp [intOf]; omega
              · clear hgo hgo2
                go_wp2
                go_roundw
                case rel => 
                  refine ⟨k + 1, z ++ [y], hlt, by go_num, by rw [List.length_append, HZ.out]; rfl, by rw [← HY.out]; exact HSz.out.snoc nd, HST.out, by rw [← HY.out]; exact HT2.out, ?_, HB2.out.setCell (p := ⟨g, k, none⟩) (by show w.heap.size ≤ g; omega) _⟩
                  rw [World.cell?_of_block (Below.heap_setCell _ _ _ _ (by show w.heap.size ≠ g; omega))]
                  exact HX2.out
                case measure => simp [intOf]; omega
        · have h1' := h1 h9
          subst h1'
          clear hmax h1
          go_wp2
          go_loop [7, 8] (fun s i => ∃ (j : Nat) (x : Int), j ≤ nd.kids.length ∧ i = .int .i64 j ∧ s = .int .i64 x ∧ SumIs z nd j x) (fun _ i => nd.kids.length - (intOf i).toNat)
          case atStart => exact ⟨0, 1, Nat.zero_le _, rfl, rfl, SumIs.start z nd⟩
          case round =>
            obtain ⟨j, x, hj, rfl, rfl, hsum⟩ := hrel
            have p5 : (wr.alloc (.cells #[.int .i64 kd, .int .i64 nd.lo, .int .i64 nd.hi, .bool nd.neg, .slice sa nd.set.length sc, .slice ka nd.kids.length kc] 47)).cell? ⟨wr.heap.size, 5, none⟩ = some (.slice ka nd.kids.length kc) := HX5.out
            by_cases hgo : j < nd.kids.length ∧ x < 100000
            · obtain ⟨hjl, hx⟩ := hgo
              obtain ⟨b', o', rfl, hb', hc'⟩ := HK2.out j hjl
              have hkd := HKK.out _ (List.getElem_mem hjl)
              obtain ⟨m, hm⟩ : ∃ m : Nat, nd.kids[j] = m := ⟨(nd.kids[j]).toNat, by omega⟩
              rw [hm] at hkd hc'
              have hmz : m < z.length := by rw [HZ.out]; omega
              have hcr : (wr.alloc (.cells #[.int .i64 kd, .int .i64 nd.lo, .int .i64 nd.hi, .bool nd.neg, .slice sa nd.set.length sc, .slice (some ⟨b', o', none⟩) nd.kids.length kc] 47)).cell? ⟨b', o' + j, none⟩ = some (.int .i64 m) := (HB2.out.cell (p := ⟨b', o' + j, none⟩) hb').trans hc'
              have hzc := HF2.out.cell (k := m) hmz (by rw [HZ.out]; omega)
              have hzb := HSz.out.getD hmz
              have hmk : m < ns.length := by omega
              obtain ⟨y, hy⟩ : ∃ y, z.getD m 0 = y := ⟨_, rfl⟩
              rw [hy] at hzc hzb
              have hxm : z.getD (nd.kids[j]).toNat 0 = y := by rw [hm]; exact hy
              have y0 : ¬ y = 0 := by omega
              have y1 : 0 ≤ y := by omega
              have HXM := Lib.hid hxm
              have HY := Lib.hid hzb
              have hdiv : Int.tdiv 100000 y = 100000 / y := Int.tdiv_eq_ediv_of_nonneg (by omega)
              have hqn : 0 ≤ 100000 / y := Int.ediv_nonneg (by omega) (by omega)
              have hql : 100000 / y ≤ 100000 := Int.ediv_le_self _ (by omega)
              obtain ⟨q, hq⟩ : ∃ q, 100000 / y = q := ⟨_, rfl⟩
              rw [hq] at hdiv hqn hql
              have HQ := Lib.hid hq
              clear hq hy hm hc' hxm hzb hkd
              by_cases hgt : q < 1
              · have hs2 := SumIs.full (s := x) HSz.out hjl HXM.out HY.out.1 (by rw [HQ.out, HOF.out]; exact hgt)
                have HS2 := Lib.hid hs2
                clear hs2 hsum
                go_wp2
                go_round
                case rel => exact ⟨j + 1, 100000, hjl, by go_num, rfl, HS2.out⟩
                case measure => simp [intOf]; omega
              · obtain ⟨hs2, hs3, hs4⟩ := hsum.more hx hjl HXM.out HY.out.1 HY.out.2 (by rw [HQ.out, HOF.out]; omega)
                rw [HOF.out] at hs2 hs3 hs4
                have HS2 := Lib.hid hs2
                have hx2 : -1000000 < x := by
                  rcases hsum with ⟨h, _⟩ | ⟨h, _⟩
                  · have h0 := kidSum_nonneg HSz.out (nd.kids.take j)
                    have h3 : 0 ≤ often nd * kidSum z (nd.kids.take j) := Int.mul_nonneg (by have := often_pos nd; omega) h0
                    omega
                  · omega
                obtain ⟨pr, hpr⟩ : ∃ pr, 1 * y = pr := ⟨_, rfl⟩
                rw [hpr] at hs3 hs4 HS2
                clear hs2 hsum
                go_wp2
                go_round
                case rel => exact ⟨j + 1, x + pr, hjl, by go_num, by go_num, HS2.out⟩
                case measure => simp [intOf]; omega
            · have hdone := SumIs.done HSz.out hsum (by omega)
              have hmin : (if (100000 : Int) < x then 100000 else x) = szOf z nd := by rw [← hdone]; omega
              have hc0 := HF2.out.cell0 (by rw [HZ.out]; exact hlt)
              have hf0 := HF2.out.frozen z.length
              rw [HZ.out] at hc0 hf0
              have hst := HF2.out.put (by rw [HZ.out]; exact hlt) (szOf z nd)
              rw [HZ.out] at hst
              have HST := Lib.hid hst
              obtain ⟨y, hy⟩ : ∃ y, szOf z nd = y := ⟨_, rfl⟩
              rw [hy] at hmin HST
              have HY := Lib.hid hy
              clear hst hdone hsum hy
              have hgo2 : (j < nd.kids.length → 100000 ≤ x) := fun h => by omega
              by_cases hjl : j < nd.kids.length
              · have hx : ¬ x < 100000 := by omega
                clear hgo hgo2
                go_wp2
                go_roundw
                case rel => 
                  refine ⟨k + 1, z ++ [y], hlt, by go_num, by rw [List.length_append, HZ.out]; rfl, by rw [← HY.out]; exact HSz.out.snoc nd, HST.out, by rw [← HY.out]; exact HT2.out, ?_, HB2.out.setCell (p := ⟨g, k, none⟩) (by show w.heap.size ≤ g; omega) _⟩
                  rw [World.cell?_of_block (Below.heap_setCell _ _ _ _ (by show w.heap.size ≠ g; omega))]
                  exact HX2.out
                case measure => simp [intOf]; omega
              · clear hgo hgo2
                go_wp2
                go_roundw
                case rel => 
                  refine ⟨k + 1, z ++ [y], hlt, by go_num, by rw [List.length_append, HZ.out]; rfl, by rw [← HY.out]; exact HSz.out.snoc nd, HST.out, by rw [← HY.out]; exact HT2.out, ?_, HB2.out.setCell (p := ⟨g, k, none⟩) (by show w.heap.size ≤ g; omega) _⟩
                  rw [World.cell?_of_block (Below.heap_setCell _ _ _ _ (by show w.heap.size ≠ g; omega))]
                  exact HX2.out
                case measure => simp [intOf]; omega
      · have hkn : k = ns.length := by omega
        subst hkn
        rw [List.drop_length, sizesR] at htr
        have hl0 : 0 < ns.length := List.length_pos_iff.2 HKd.out.1
        have hzc := hfl.cell (k := ns.length - 1) (by omega) (by omega)
        obtain ⟨m, hm⟩ : ∃ m : Nat, ns.length - 1 = m := ⟨_, rfl⟩
        have hmz : ((ns.length : Nat) : Int) - 1 = (m : Int) := by omega
        have hml : m < ns.length := by omega
        rw [hm] at hzc
        have HA : Hid (sizeR ns = z.getD m 0) := by show sizeR ns = _; rw [HT.out, ← htr, hm]
        obtain ⟨y, hy⟩ : ∃ y, z.getD m 0 = y := ⟨_, rfl⟩
        rw [hy] at hzc HA
        clear hfl htr hsz hm hy hzl
        go_wp2
        go_ret
        exact ⟨by rw [HA.out]; rfl, hbel⟩

end Go.Proofs.YtdkjfppjbkdelaaGreatDoor

/- impl.RxSize answers the size of a tree. Conditions: at most 1048576 elements in all. -/
namespace Go.Proofs.YtdkjfppjbkdelaaGreatDoor
set_option linter.unusedVariables false
open Go.RowKit

def ISRel (ns : List Nd) (g : Nat) (w : World) (i : Value) (wr : World) : Prop :=
  ∃ (k : Nat) (z : List Int), k ≤ ns.length ∧ i = .int .i64 k ∧ z.length = k ∧ Sized z ∧ Sizes wr g ns.length z ∧ sizesR (ns.drop k) z = sizesR ns [] ∧ Below w.heap.size w wr

theorem min_if (a b : Int) : (if b < a then b else a) = min a b := by omega

set_option maxHeartbeats 4000000 in
set_option maxRecDepth 100000 in
theorem implSize (A : Option Addr) (c : Nat) (ns : List Nd) (w : World) (hlen : ns.length + bulks ns ≤ 1048576) (hN : Nodes w w.heap.size A ns) :
    Calls Tryz.prog 18 #[.agg #[.slice A ns.length c]] w fun e w' => e = .returned (.int .i64 (sizeR ns)) ∧ Below w.heap.size w w' := by
  obtain ⟨i0, hi, hz0, hz1, hz2⟩ := info_parts Tryz.infoInt
  have b0 : Below w.heap.size w (w.alloc (.cells #[.slice A ns.length c] 27)) := (Below.refl _ _).alloc (Nat.le_refl _) _
  have cT := implTree A c ns (w.alloc (.cells #[.slice A ns.length c] 27)) hlen ((hN.below b0).up b0.size)
  have HN := Lib.hid hN
  clear hN
  go_enter Tryz.func18, Tryz.ntmps18
  go_wp2_with fail
  refine cT.mono ?_
  rintro e w1 ⟨rfl, b1⟩
  clear cT
  have B1 : Below w.heap.size w w1 := b0.trans (b1.mono b0.size)
  have z1 := b1.size
  rw [alloc_size1] at z1
  have hc1 : w1.cell? ⟨w.heap.size, 0, none⟩ = some (.slice A ns.length c) := by
    have : w1.heap[w.heap.size]? = _ := (b1.block w.heap.size (by simp)).trans (heap_alloc_new w _)
    rw [cell_of_row _ _ _ _ _ _ this]; rfl
  clear b0 b1
  cases ht : isTreeR ns with
  | false =>
    have HT := Lib.hid (size_none ht)
    clear ht
    go_wp2
    go_ret
    exact ⟨by rw [HT.out]; rfl, B1⟩
  | true =>
    have HT := Lib.hid (size_last ht)
    have HKd := Lib.hid (tree_kids ht)
    clear ht
    go_wp2_with (at_make; refine wpList_make_full _ rfl _ _ 45 rfl w1.heap.size 3 i0 _ 1 Tryz.underlying45 hi hz0 hz1 _ _ _ _ ns.length rfl rfl rfl rfl (by rw [hz2]; omega) (by unfold maxLen; omega) (Nat.le_refl _) ?_; intro w0 hown0 hgrow0; have hc0 : w0.cell? ⟨w.heap.size, 0, none⟩ = some (.slice A ns.length c) := hgrow0.cell hc1 (by simp))
    have hb0 : Below w.heap.size w w0 := B1.grown hgrow0 (by omega) (fun k h => by cases h)
    have HF := Lib.hid (sizes_made hown0)
    have hg1 : w.heap.size < w1.heap.size := by omega
    obtain ⟨g, hg⟩ : ∃ g, w1.heap.size = g := ⟨_, rfl⟩
    rw [hg] at HF hg1 ⊢
    clear hown0 hgrow0 hc1 B1 z1 hg
    go_wp2
    go_loopw [20] (ISRel ns g w) (fun i _ => ns.length - (intOf i).toNat)
    case atStart => exact ⟨0, [], Nat.zero_le _, rfl, rfl, sized_nil, HF.out, rfl, hb0⟩
    case round =>
      obtain ⟨k, z, hk, rfl, hzl, hsz, hfl, htr, hbel⟩ := hrel
      clear hc0 hb0 HF
      by_cases hlt : k < ns.length
      · obtain ⟨b, o, sa, sc, ka, kc, rfl, hbb, hs, hn1, hn2⟩ := HN.out k hlt
        obtain ⟨c0, c1, c2, c3, c4, c5⟩ := hs.move (w' := wr) fun i => hbel.cell (p := ⟨b, i, none⟩) hbb
        have hbk : bulkOf ns[k] ≤ bulks ns := by have h1 := bulks_take hlt; have h2 := bulks_le ns (k + 1); omega
        unfold bulkOf at hbk
        have hkd := HKd.out.2 k hlt
        rw [size_step hlt] at htr
        obtain ⟨nd, hnd⟩ : ∃ nd, ns[k] = nd := ⟨_, rfl⟩
        rw [hnd] at c0 c1 c2 c3 c4 c5 hn2 htr hbk hkd
        have hkl : nd.kids.length ≤ 1048576 := by omega
        have HK2 := Lib.hid hn2
        have HT2 := Lib.hid htr
        have HSz := Lib.hid hsz
        have HKK := Lib.hid hkd
        have HFl := Lib.hid hfl
        have HZ := Lib.hid hzl
        have ho := often_max nd
        have hop := often_pos nd
        clear hs hn1 hn2 hbk htr hnd hsz hkd hfl hzl
        have hbel2 : Below w.heap.size w (wr.alloc (.cells #[.int .i64 nd.kind, .int .i64 nd.lo, .int .i64 nd.hi, .bool nd.neg, .slice sa nd.set.length sc, .slice ka nd.kids.length kc] 47)) := hbel.alloc hbel.size _
        have hF2 := HFl.out.below ((Below.refl _ _).alloc (Nat.le_refl _) (.cells #[.int .i64 nd.kind, .int .i64 nd.lo, .int .i64 nd.hi, .bool nd.neg, .slice sa nd.set.length sc, .slice ka nd.kids.length kc] 47))
        have X := heap_alloc_new wr (.cells #[.int .i64 nd.kind, .int .i64 nd.lo, .int .i64 nd.hi, .bool nd.neg, .slice sa nd.set.length sc, .slice ka nd.kids.length kc] 47)
        have HB2 := Lib.hid hbel2
        have HF2 := Lib.hid hF2
        have HX := Lib.hid X
        clear hbel2 hF2 X
        have hmax : nd.kind = 9 → ∀ W : World, (Builtin.max_ #[3, 3, 3] 3 #[.int .i64 1, .int .i64 nd.lo, .int .i64 nd.hi]).run Tryz.prog W = .ok (.int .i64 (often nd)) W := fun h W => by
          rw [if_pos h] at ho
          rw [ho]
          simp [Builtin.max_, Builtin.max2]
        have h1 : ¬ nd.kind = 9 → often nd = 1 := fun h => by rw [if_neg h] at ho; exact ho
        have HSI := Lib.hid (szOf_impl HSz.out nd)
        clear ho
        obtain ⟨ofn, hofn⟩ : ∃ ofn, often nd = ofn := ⟨_, rfl⟩
        rw [hofn] at hmax h1 hop HSI
        clear hofn
        obtain ⟨kd, hkd⟩ : ∃ kd, nd.kind = kd := ⟨_, rfl⟩
        rw [hkd] at c0 HB2 HF2 HX hmax h1
        clear hkd
        go_wp2
        go_loop [6, 28] (fun s i => ∃ (j : Nat) (x : Int), j ≤ nd.kids.length ∧ i = .int .i64 j ∧ s = .int .i64 x ∧ x = min (kidSum z (nd.kids.take j)) 100000) (fun _ i => nd.kids.length - (intOf i).toNat)
        case atStart => exact ⟨0, 0, Nat.zero_le _, rfl, rfl, by simp [kidSum]; omega⟩
        case round =>
          obtain ⟨j, x, hj, rfl, rfl, hsum⟩ := hrel
          have hx0 : 0 ≤ x ∧ x ≤ 100000 := by have := kidSum_nonneg HSz.out (nd.kids.take j); omega
          obtain ⟨x0, x1⟩ := hx0
          by_cases hjl : j < nd.kids.length
          · obtain ⟨b', o', rfl, hb', hc'⟩ := HK2.out j hjl
            have hkd := HKK.out _ (List.getElem_mem hjl)
            obtain ⟨m, hm⟩ : ∃ m : Nat, nd.kids[j] = m := ⟨(nd.kids[j]).toNat, by omega⟩
            rw [hm] at hkd hc'
            have hmz : m < z.length := by rw [HZ.out]; omega
            have hcr : (wr.alloc (.cells #[.int .i64 kd, .int .i64 nd.lo, .int .i64 nd.hi, .bool nd.neg, .slice sa nd.set.length sc, .slice (some ⟨b', o', none⟩) nd.kids.length kc] 47)).cell? ⟨b', o' + j, none⟩ = some (.int .i64 m) := (HB2.out.cell (p := ⟨b', o' + j, none⟩) hb').trans hc'
            have hzc := HF2.out.cell (k := m) hmz (by rw [HZ.out]; omega)
            have hzb := HSz.out.getD hmz
            have hmk : m < ns.length := by omega
            obtain ⟨y, hy⟩ : ∃ y, z.getD m 0 = y := ⟨_, rfl⟩
            rw [hy] at hzc hzb
            obtain ⟨y0, y1⟩ := hzb
            have hst := sum_step HSz.out hjl hsum (show z.getD (nd.kids[j]).toNat 0 = y by rw [hm]; exact hy) y0
            obtain ⟨x', hx'⟩ : ∃ x', min (x + y) 100000 = x' := ⟨_, rfl⟩
            have hmin : (if (100000 : Int) < x + y then 100000 else x + y) = x' := by rw [min_if]; exact hx'
            rw [hx'] at hst
            have HS2 := Lib.hid hst
            clear hst hsum hx' hy hm hc' hkd
            go_wp2
            go_round
            case rel => exact ⟨j + 1, x', hjl, by go_num, rfl, HS2.out⟩
            case measure => simp [intOf]; omega
          · have hsum' : x = min (kidSum z nd.kids) 100000 := by rw [hsum, List.take_of_length_le (by omega)]
            rw [← hsum'] at HSI
            have hc0 := HF2.out.cell0 (by rw [HZ.out]; exact hlt)
            have hf0 := HF2.out.frozen z.length
            rw [HZ.out] at hc0 hf0
            have hst := HF2.out.put (by rw [HZ.out]; exact hlt) (szOf z nd)
            rw [HZ.out] at hst
            have HST := Lib.hid hst
            obtain ⟨y, hy⟩ : ∃ y, szOf z nd = y := ⟨_, rfl⟩
            rw [hy] at HST HSI
            have HY := Lib.hid hy
            have d0 := cell_of_row _ _ 0 _ _ _ HX.out
            have d1 := cell_of_row _ _ 1 _ _ _ HX.out
            have d2 := cell_of_row _ _ 2 _ _ _ HX.out
            simp only [List.getElem?_toArray, List.getElem?_cons_zero, List.getElem?_cons_succ] at d0 d1 d2
            clear hst hsum hsum' hy
            by_cases h9 : kd = 9
            · have hmx := hmax h9
              clear hmax h1
              subst h9
              obtain ⟨mo, hmo⟩ : ∃ mo, min ofn 100000 = mo := ⟨_, rfl⟩
              have hm1 : (if (100000 : Int) < ofn then 100000 else ofn) = mo := by rw [min_if]; exact hmo
              have m0 : 0 ≤ mo := by omega
              have m1 : mo ≤ 100000 := by omega
              obtain ⟨pr, hpr⟩ : ∃ pr, x * mo = pr := ⟨_, rfl⟩
              have p0 : 0 ≤ pr := by rw [← hpr]; exact Int.mul_nonneg x0 m0
              have p1 : pr ≤ 10000000000 := by
                have := Int.mul_le_mul x1 m1 m0 (by omega)
                omega
              have hm2 : (if (100000 : Int) < 1 + pr then 100000 else 1 + pr) = y := by rw [min_if, ← HSI.out, hmo, hpr]
              clear hmo
              go_wp2
              go_roundw
              case rel => exact ⟨k + 1, z ++ [y], hlt, by go_num, by rw [List.length_append, HZ.out]; rfl, by rw [← HY.out]; exact HSz.out.snoc nd, HST.out, by rw [← HY.out]; exact HT2.out, HB2.out.setCell (p := ⟨g, k, none⟩) (by show w.heap.size ≤ g; omega) _⟩
              case measure => simp [intOf]; omega
            · have h1' := h1 h9
              subst h1'
              clear hmax h1
              have hm2 : (if (100000 : Int) < 1 + x then 100000 else 1 + x) = y := by
                have := HSI.out
                rw [show min (1 : Int) 100000 = 1 by omega, Int.mul_one] at this
                rw [min_if]; exact this
              go_wp2
              go_roundw
              case rel => exact ⟨k + 1, z ++ [y], hlt, by go_num, by rw [List.length_append, HZ.out]; rfl, by rw [← HY.out]; exact HSz.out.snoc nd, HST.out, by rw [← HY.out]; exact HT2.out, HB2.out.setCell (p := ⟨g, k, none⟩) (by show w.heap.size ≤ g; omega) _⟩
              case measure => simp [intOf]; omega
      · have hkn : k = ns.length := by omega
        subst hkn
        rw [List.drop_length, sizesR] at htr
        have hl0 : 0 < ns.length := List.length_pos_iff.2 HKd.out.1
        have hzc := hfl.cell (k := ns.length - 1) (by omega) (by omega)
        obtain ⟨m, hm⟩ : ∃ m : Nat, ns.length - 1 = m := ⟨_, rfl⟩
        have hmz : ((ns.length : Nat) : Int) - 1 = (m : Int) := by omega
        have hml : m < ns.length := by omega
        rw [hm] at hzc
        have HA : Hid (sizeR ns = z.getD m 0) := by show sizeR ns = _; rw [HT.out, ← htr, hm]
        obtain ⟨y, hy⟩ : ∃ y, z.getD m 0 = y := ⟨_, rfl⟩
        rw [hy] at hzc HA
        clear hfl htr hsz hm hy hzl
        go_wp2
        go_ret
        exact ⟨by rw [HA.out]; rfl, hbel⟩

end Go.Proofs.YtdkjfppjbkdelaaGreatDoor
