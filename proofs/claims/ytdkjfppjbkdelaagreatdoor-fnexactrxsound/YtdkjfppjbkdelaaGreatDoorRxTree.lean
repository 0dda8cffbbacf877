/- spec.l05Tree and impl.isTree tell whether nodes are a tree. Conditions: at most 1048576 elements in all. -/
import Derived.Test.YtdkjfppjbkdelaaGreatDoorRxTo
namespace Go.Proofs.YtdkjfppjbkdelaaGreatDoor
set_option linter.unusedVariables false
open Go.RowKit

theorem Tryz.infoBool : (Tryz.prog.info? 4).map (fun i => (i.zero, i.size, i.bytes)) = some (some (.bool false), 1, 1) := by kernel_rfl

/-- The flags of a tree lie in a row at block g. -/
def Flags (w : World) (g : Nat) (u : List Bool) : Prop := w.ownsRow g 4 1 (.slice (some ⟨g, 0, none⟩) u.length u.length) u.length (u.map Value.bool)
theorem Flags.cell {w : World} {g : Nat} {u : List Bool} (h : Flags w g u) {k : Nat} (hk : k < u.length) : w.cell? ⟨g, k, none⟩ = some (.bool (u.getD k false)) := by
  rw [World.ownsRow.cellAt h k (by omega)]
  simp [List.getD_eq_getElem?_getD, hk]
theorem Flags.frozen {w : World} {g : Nat} {u : List Bool} (h : Flags w g u) (k : Nat) : w.frozen? ⟨g, k, none⟩ = false := World.ownsRow.frozenAt h k
theorem Flags.set {w : World} {g : Nat} {u : List Bool} (h : Flags w g u) (k : Nat) (b : Bool) : Flags (w.setCell ⟨g, k, none⟩ (.bool b)) g (u.set k b) := by
  have := (World.ownsRow.stored h k (.bool b)).1
  unfold Flags
  rw [List.length_set, List.map_set]
  exact this
theorem Flags.below {w w' : World} {g : Nat} {u : List Bool} (h : Flags w g u) (hb : Below w.heap.size w w') : Flags w' g u :=
  World.ownsRow.kept (row := none) h ⟨hb.os, hb.tape, hb.output, hb.size, fun k hk _ => hb.block k hk⟩ (by cases hv : Value.ownBlock _ <;> simp)
theorem Flags.lt {w : World} {g : Nat} {u : List Bool} (h : Flags w g u) : g < w.heap.size := (World.ownsRow.lt h g rfl).2
theorem flags_made {w0 : World} {g n : Nat} (h : w0.ownsRow g 4 1 (.slice (some ⟨g, 0, none⟩) n n) n (madeCells (Value.bool false).cells (n * 1)).toList) : Flags w0 g (List.replicate n false) := by
  have e : (madeCells (Value.bool false).cells (n * 1)).toList = (List.replicate n false).map Value.bool := by
    rw [Nat.mul_one]
    show (madeCells #[Value.bool false] n).toList = _
    rw [toList_madeCells_one]
    simp
  unfold Flags
  rw [List.length_replicate, ← e]
  exact h

theorem all_succ {P : Nat → Prop} {j : Nat} (h : ∀ q, q < j → P q) (hj : P j) : ∀ q, q < j + 1 → P q := fun q hq => by
  by_cases e : q = j
  · rw [e]; exact hj
  · exact h q (by omega)

theorem drop_cons {α : Type} {l : List α} {k : Nat} (h : k < l.length) : l.drop k = l[k] :: l.drop (k + 1) := List.drop_eq_getElem_cons h
theorem tree_step {ns : List Nd} {k : Nat} {u : List Bool} (h : k < ns.length) : treeR k (ns.drop k) u = (kidsR k ns[k].kids u).bind (treeR (k + 1) (ns.drop (k + 1))) := by
  rw [drop_cons h, treeR]
theorem kid_step {ks : List Int} {i j : Nat} {u : List Bool} (h : j < ks.length) : kidsR i (ks.drop j) u = if ks[j] < 0 ∨ (i : Int) ≤ ks[j] ∨ u.getD (ks[j]).toNat false = true then none else kidsR i (ks.drop (j + 1)) (u.set (ks[j]).toNat true) := by
  rw [drop_cons h, kidsR]

def TRel (ns : List Nd) (A : Option Addr) (c : Nat) (w : World) (i : Value) (wr : World) : Prop :=
  ∃ (k : Nat) (u : List Bool), k ≤ ns.length ∧ i = .int .i64 k ∧ u.length = ns.length ∧ Flags wr (w.heap.size + 1) u ∧ treeR k (ns.drop k) u = treeR 0 ns (List.replicate ns.length false) ∧
    wr.cell? ⟨w.heap.size, 0, none⟩ = some (.slice A ns.length c) ∧ Below w.heap.size w wr
def KRel (ns : List Nd) (A : Option Addr) (c : Nat) (w : World) (k : Nat) (ks : List Int) (R : Option (List Bool)) (i : Value) (wr : World) : Prop :=
  ∃ (j : Nat) (u : List Bool), j ≤ ks.length ∧ i = .int .i64 j ∧ u.length = ns.length ∧ Flags wr (w.heap.size + 1) u ∧ kidsR k (ks.drop j) u = R ∧
    wr.cell? ⟨w.heap.size, 0, none⟩ = some (.slice A ns.length c) ∧ Below w.heap.size w wr

set_option maxHeartbeats 4000000 in
set_option maxRecDepth 100000 in
theorem specTree (A : Option Addr) (c : Nat) (ns : List Nd) (w : World) (hlen : ns.length + bulks ns ≤ 1048576) (hN : Nodes w w.heap.size A ns) :
    Calls Tryz.prog 65 #[.agg #[.slice A ns.length c]] w fun e w' => e = .returned (.bool (isTreeR ns)) ∧ Below w.heap.size w w' := by
  obtain ⟨i0, hi, hz0, hz1, hz2⟩ := info_parts Tryz.infoBool
  have b0 : Below w.heap.size w (w.alloc (.cells #[.slice A ns.length c] 27)) := (Below.refl _ _).alloc (Nat.le_refl _) _
  by_cases hne : ns.length = 0
  · have hnil : ns = [] := List.eq_nil_of_length_eq_zero hne
    subst hnil
    go_enter Tryz.func65, Tryz.ntmps65
    go_wp2
    go_ret
    exact ⟨rfl, b0⟩
  · have hnz : ¬ (ns.length : Int) = 0 := by omega
    have HN := Lib.hid hN
    clear hN
    go_enter Tryz.func65, Tryz.ntmps65
    go_wp2_with (at_make; refine wpList_make_full _ rfl _ _ 148 rfl (w.heap.size + 1) 4 i0 _ 1 Tryz.underlying148 hi hz0 hz1 _ _ _ _ ns.length rfl rfl rfl rfl (by rw [hz2]; omega) (by unfold maxLen; omega) (by simp) ?_; intro w0 hown0 hgrow0)
    have hb0 : Below w.heap.size w w0 := b0.grown hgrow0 (by simp) (fun k h => by cases h)
    have hc0 : w0.cell? ⟨w.heap.size, 0, none⟩ = some (.slice A ns.length c) := by
      have : w0.heap[w.heap.size]? = _ := (hgrow0.block w.heap.size (by simp) (by simp)).trans (heap_alloc_new w _)
      rw [cell_of_row _ _ _ _ _ _ this]; rfl
    have hF0 : Flags w0 (w.heap.size + 1) (List.replicate ns.length false) := flags_made (by rw [alloc_size1] at hown0; exact hown0)
    have HF := Lib.hid hF0
    clear hown0 hgrow0 hF0
    go_wp2
    go_loopw [4] (TRel ns A c w) (fun i _ => ns.length - (intOf i).toNat)
    case atStart => exact ⟨0, _, Nat.zero_le _, rfl, by simp, HF.out, rfl, hc0, hb0⟩
    case round =>
      obtain ⟨k, u, hk, rfl, hul, hfl, htr, hbx, hbel⟩ := hrel
      clear hc0 hb0 HF
      by_cases hlt : k < ns.length
      · obtain ⟨b, o, sa, sc, ka, kc, rfl, hbb, hs, hn1, hn2⟩ := HN.out k hlt
        have HC5 := Lib.hid hs.c5
        have hbk : bulkOf ns[k] ≤ bulks ns := by have h1 := bulks_take hlt; have h2 := bulks_le ns (k + 1); omega
        unfold bulkOf at hbk
        rw [tree_step hlt] at htr
        obtain ⟨ks, hks⟩ : ∃ ks, ns[k].kids = ks := ⟨_, rfl⟩
        rw [hks] at HC5 hn2 htr hbk
        have hkl : ks.length ≤ 1048576 := by omega
        have HK2 := Lib.hid hn2
        have HT := Lib.hid htr
        have HFl := Lib.hid hfl
        have c5 : wr.cell? ⟨b, o + k * 6 + 5, none⟩ = some (.slice ka ks.length kc) := (hbel.cell (p := ⟨b, o + k * 6 + 5, none⟩) hbb).trans HC5.out
        clear hs hn1 hn2 hbk htr hfl hks
        go_wp2
        go_loopw [5] (KRel ns (some ⟨b, o, none⟩) c w k ks (kidsR k ks u)) (fun i _ => ks.length - (intOf i).toNat)
        case atStart => exact ⟨0, u, Nat.zero_le _, rfl, hul, HFl.out, rfl, hbx, hbel⟩
        case round =>
          clear c5 hbx hbel HFl
          obtain ⟨j, v, hj, rfl, hvl, hfl, hkr, hbx, hbel⟩ := hrel
          have c5 : wr.cell? ⟨b, o + k * 6 + 5, none⟩ = some (.slice ka ks.length kc) := (hbel.cell (p := ⟨b, o + k * 6 + 5, none⟩) hbb).trans HC5.out
          by_cases hjl : j < ks.length
          · obtain ⟨b', o', rfl, hb', hc'⟩ := HK2.out j hjl
            have hcr : wr.cell? ⟨b', o' + j, none⟩ = some (.int .i64 ks[j]) := (hbel.cell (p := ⟨b', o' + j, none⟩) hb').trans hc'
            rw [kid_step hjl] at hkr
            obtain ⟨x, hx⟩ : ∃ x, ks[j] = x := ⟨_, rfl⟩
            rw [hx] at hcr hkr
            clear hx hc'
            by_cases q1 : x < 0
            · rw [if_pos (Or.inl q1)] at hkr
              have HKR := Lib.hid hkr
              clear hkr hfl
              go_wp2
              go_ret
              refine ⟨?_, hbel⟩
              have h1 := HT.out
              rw [← HKR.out] at h1
              unfold isTreeR
              rw [← h1]
              rfl
            · by_cases q2 : (k : Int) ≤ x
              · rw [if_pos (Or.inr (Or.inl q2))] at hkr
                have HKR := Lib.hid hkr
                clear hkr hfl
                go_wp2
                go_ret
                refine ⟨?_, hbel⟩
                have h1 := HT.out
                rw [← HKR.out] at h1
                unfold isTreeR
                rw [← h1]
                rfl
              · obtain ⟨m, rfl⟩ : ∃ m : Nat, x = m := ⟨x.toNat, by omega⟩
                simp only [Int.toNat_natCast] at hkr
                have hmk : m < ns.length := by omega
                have hcf := hfl.cell (k := m) (by omega)
                have hff := hfl.frozen m
                cases hq : v.getD m false with
                | true =>
                  rw [if_pos (Or.inr (Or.inr hq))] at hkr
                  rw [hq] at hcf
                  have HKR := Lib.hid hkr
                  clear hkr hfl hq
                  go_wp2
                  go_ret
                  refine ⟨?_, hbel⟩
                  have h1 := HT.out
                  rw [← HKR.out] at h1
                  unfold isTreeR
                  rw [← h1]
                  rfl
                | false =>
                  rw [if_neg (by rw [hq]; simp; omega)] at hkr
                  rw [hq] at hcf
                  have HFS := Lib.hid (hfl.set m true)
                  have HKR := Lib.hid hkr
                  clear hkr hfl hq
                  go_wp2
                  go_roundw
                  case rel =>
                    refine ⟨j + 1, v.set m true, hjl, by go_num, by simpa using hvl, HFS.out, HKR.out, ?_, hbel.setCell (p := ⟨w.heap.size + 1, m, none⟩) (by simp) _⟩
                    rw [World.cell?_of_block (Below.heap_setCell _ _ _ _ (by show w.heap.size ≠ w.heap.size + 1; omega))]
                    exact hbx
                  case measure => simp [intOf]; omega
          · have hkr' : kidsR k ks u = some v := by rw [← hkr, List.drop_eq_nil_of_le (by omega)]; rfl
            have HKR := Lib.hid hkr'
            have HFS := Lib.hid hfl
            clear hkr hkr' hfl
            go_wp2
            go_roundw
            case rel =>
              refine ⟨k + 1, v, hlt, by go_num, hvl, HFS.out, ?_, hbx, hbel⟩
              have h1 := HT.out
              rw [HKR.out] at h1
              exact h1
            case measure => simp [intOf]; omega
      · have htr' : treeR 0 ns (List.replicate ns.length false) = some u := by rw [← htr, List.drop_eq_nil_of_le (by omega)]; rfl
        have hit : isTreeR ns = (u.take (ns.length - 1)).all id := by
          unfold isTreeR
          rw [htr']
          have : ns.isEmpty = false := by cases ns <;> simp_all
          simp [this]
        have HI := Lib.hid hit
        have HFl := Lib.hid hfl
        clear htr htr' hit hfl
        go_wp2
        go_loopw [7] (fun i wr => ∃ j : Nat, j ≤ ns.length - 1 ∧ i = .int .i64 j ∧ (∀ q, q < j → u.getD q false = true) ∧ Flags wr (w.heap.size + 1) u ∧ wr.cell? ⟨w.heap.size, 0, none⟩ = some (.slice A ns.length c) ∧ Below w.heap.size w wr) (fun i _ => ns.length - (intOf i).toNat)
        case atStart => exact ⟨0, Nat.zero_le _, rfl, fun q hq => absurd hq (by omega), HFl.out, hbx, hbel⟩
        case round =>
          clear hbx hbel HFl
          obtain ⟨j, hj, rfl, hall, hfl, hbx, hbel⟩ := hrel
          by_cases hjl : j + 1 < ns.length
          · have hcf := hfl.cell (k := j) (by omega)
            have hjz : (j : Int) + 1 < ns.length := by omega
            have HFl := Lib.hid hfl
            have HA := Lib.hid hall
            clear hfl hall
            cases hq : u.getD j false with
            | true =>
              rw [hq] at hcf
              have HQ := Lib.hid hq
              clear hq
              go_wp2
              go_roundw
              case rel => exact ⟨j + 1, by omega, by go_num, all_succ HA.out HQ.out, HFl.out, hbx, hbel⟩
              case measure => simp [intOf]; omega
            | false =>
              rw [hq] at hcf
              have HQ := Lib.hid hq
              clear hq
              go_wp2
              go_ret
              refine ⟨?_, hbel⟩
              rw [HI.out]
              have : (u.take (ns.length - 1)).all id = false := by
                rw [List.all_eq_false]
                refine ⟨false, ?_, by simp⟩
                have h1 := HQ.out
                rw [List.getD_eq_getElem?_getD, List.getElem?_eq_getElem (by omega)] at h1
                rw [List.mem_iff_getElem?]
                refine ⟨j, ?_⟩
                rw [List.getElem?_take, if_pos (by omega), List.getElem?_eq_getElem (by omega)]
                simpa using h1
              rw [this]
              rfl
          · have hjz : ¬ (j : Int) + 1 < ns.length := by omega
            have HA := Lib.hid hall
            clear hall hfl
            go_wp2
            go_ret
            refine ⟨?_, hbel⟩
            rw [HI.out]
            have : (u.take (ns.length - 1)).all id = true := by
              rw [List.all_eq_true]
              intro x hx
              obtain ⟨q, hq⟩ := List.mem_iff_getElem?.1 hx
              rw [List.getElem?_take] at hq
              split at hq
              · have := HA.out q (by omega)
                rw [List.getD_eq_getElem?_getD, hq] at this
                simpa using this
              · cases hq
            rw [this]
            rfl

theorem kidsN_take {ns : List Nd} {k : Nat} (h : k < ns.length) : kidsN (ns.take (k + 1)) = kidsN (ns.take k) + ns[k].kids.length := by
  unfold kidsN
  rw [take_succ_get h, List.map_append, List.sum_append]
  simp only [List.map_cons, List.map_nil, List.sum_cons, List.sum_nil, Nat.add_zero]
theorem kidsN_le (ns : List Nd) : kidsN ns ≤ bulks ns := by
  induction ns with
  | nil => simp [kidsN, bulks]
  | cons n r ih => simp only [kidsN, bulks, List.map_cons, List.sum_cons, bulkOf] at ih ⊢; omega
theorem kidsN_take_le (ns : List Nd) (k : Nat) : kidsN (ns.take k) ≤ bulks ns := Nat.le_trans (kidsN_le _) (bulks_le ns k)

def ITRel (ns : List Nd) (w : World) (cnt i : Value) (wr : World) : Prop :=
  ∃ (k : Nat) (u : List Bool), k ≤ ns.length ∧ i = .int .i64 k ∧ cnt = .int .i64 (kidsN (ns.take k) : Nat) ∧ u.length = ns.length ∧ Flags wr w.heap.size u ∧ treeR k (ns.drop k) u = treeR 0 ns (List.replicate ns.length false) ∧
    Below w.heap.size w wr
def IKRel (n C : Nat) (w : World) (k : Nat) (ks : List Int) (R : Option (List Bool)) (cnt i : Value) (wr : World) : Prop :=
  ∃ (j : Nat) (u : List Bool), j ≤ ks.length ∧ i = .int .i64 j ∧ cnt = .int .i64 ((C + j : Nat) : Int) ∧ u.length = n ∧ Flags wr w.heap.size u ∧ kidsR k (ks.drop j) u = R ∧ Below w.heap.size w wr

set_option maxHeartbeats 4000000 in
set_option maxRecDepth 100000 in
theorem implTree (A : Option Addr) (c : Nat) (ns : List Nd) (w : World) (hlen : ns.length + bulks ns ≤ 1048576) (hN : Nodes w w.heap.size A ns) :
    Calls Tryz.prog 57 #[.slice A ns.length c] w fun e w' => e = .returned (.bool (isTreeR ns)) ∧ Below w.heap.size w w' := by
  obtain ⟨i0, hi, hz0, hz1, hz2⟩ := info_parts Tryz.infoBool
  have HN := Lib.hid hN
  clear hN
  go_enter Tryz.func57, Tryz.ntmps57
  go_wp2_with (at_make; refine wpList_make_full _ rfl _ _ 148 rfl w.heap.size 4 i0 _ 1 Tryz.underlying148 hi hz0 hz1 _ _ _ _ ns.length rfl rfl rfl rfl (by rw [hz2]; omega) (by unfold maxLen; omega) (Nat.le_refl _) ?_; intro w0 hown0 hgrow0)
  have hb0 : Below w.heap.size w w0 := (Below.refl _ _).grown hgrow0 (Nat.le_refl _) (fun k h => by cases h)
  have HF := Lib.hid (flags_made hown0)
  clear hown0 hgrow0
  go_wp2
  go_loopw [4, 14] (ITRel ns w) (fun _ i _ => ns.length - (intOf i).toNat)
  case atStart => exact ⟨0, _, Nat.zero_le _, rfl, rfl, by simp, HF.out, rfl, hb0⟩
  case round =>
    obtain ⟨k, u, hk, rfl, rfl, hul, hfl, htr, hbel⟩ := hrel
    clear hb0 HF
    by_cases hlt : k < ns.length
    · obtain ⟨b, o, sa, sc, ka, kc, rfl, hbb, hs, hn1, hn2⟩ := HN.out k hlt
      obtain ⟨c0, c1, c2, c3, c4, c5⟩ := hs.move (w' := wr) fun i => hbel.cell (p := ⟨b, i, none⟩) hbb
      have hbk : bulkOf ns[k] ≤ bulks ns := by have h1 := bulks_take hlt; have h2 := bulks_le ns (k + 1); omega
      unfold bulkOf at hbk
      rw [tree_step hlt] at htr
      have HKN := Lib.hid (kidsN_take hlt)
      have hkb := kidsN_take_le ns k
      have hkb2 := kidsN_take_le ns (k + 1)
      obtain ⟨nd, hnd⟩ : ∃ nd, ns[k] = nd := ⟨_, rfl⟩
      rw [hnd] at c0 c1 c2 c3 c4 c5 hn2 htr hbk HKN
      rw [HKN.out] at hkb2
      obtain ⟨C, hC⟩ : ∃ C, kidsN (ns.take k) = C := ⟨_, rfl⟩
      rw [hC] at hkb hkb2 HKN ⊢
      have hkl : nd.kids.length ≤ 1048576 := by omega
      have HK2 := Lib.hid hn2
      have HT := Lib.hid htr
      have HFl := Lib.hid (hfl.below ((Below.refl _ _).alloc (Nat.le_refl _) (.cells #[.int .i64 nd.kind, .int .i64 nd.lo, .int .i64 nd.hi, .bool nd.neg, .slice sa nd.set.length sc, .slice ka nd.kids.length kc] 47)))
      have hb1 : Below w.heap.size w (wr.alloc (.cells #[.int .i64 nd.kind, .int .i64 nd.lo, .int .i64 nd.hi, .bool nd.neg, .slice sa nd.set.length sc, .slice ka nd.kids.length kc] 47)) := hbel.alloc hbel.size _
      have HB1 := Lib.hid hb1
      clear hs hn1 hn2 hbk htr hfl hnd hC hb1 hbel
      go_wp2
      go_loopw [4, 22] (IKRel ns.length C w k nd.kids (kidsR k nd.kids u)) (fun _ i _ => nd.kids.length - (intOf i).toNat)
      case atStart => exact ⟨0, u, Nat.zero_le _, rfl, rfl, hul, HFl.out, rfl, HB1.out⟩
      case round =>
        clear c0 c1 c2 c3 c4 c5 HFl HB1
        obtain ⟨j, v, hj, rfl, rfl, hvl, hfl, hkr, hbel⟩ := hrel
        by_cases hjl : j < nd.kids.length
        · obtain ⟨b', o', rfl, hb', hc'⟩ := HK2.out j hjl
          have hcr : wr.cell? ⟨b', o' + j, none⟩ = some (.int .i64 nd.kids[j]) := (hbel.cell (p := ⟨b', o' + j, none⟩) hb').trans hc'
          rw [kid_step hjl] at hkr
          obtain ⟨x, hx⟩ : ∃ x, nd.kids[j] = x := ⟨_, rfl⟩
          rw [hx] at hcr hkr
          clear hx hc'
          by_cases q1 : x < 0
          · rw [if_pos (Or.inl q1)] at hkr
            have HKR := Lib.hid hkr
            clear hkr hfl
            go_wp2
            go_ret
            refine ⟨?_, hbel⟩
            have h1 := HT.out
            rw [← HKR.out] at h1
            unfold isTreeR
            rw [← h1]
            rfl
          · by_cases q2 : (k : Int) ≤ x
            · rw [if_pos (Or.inr (Or.inl q2))] at hkr
              have HKR := Lib.hid hkr
              clear hkr hfl
              go_wp2
              go_ret
              refine ⟨?_, hbel⟩
              have h1 := HT.out
              rw [← HKR.out] at h1
              unfold isTreeR
              rw [← h1]
              rfl
            · obtain ⟨m, rfl⟩ : ∃ m : Nat, x = m := ⟨x.toNat, by omega⟩
              simp only [Int.toNat_natCast] at hkr
              have hmk : m < ns.length := by omega
              have hcf := hfl.cell (k := m) (by omega)
              have hff := hfl.frozen m
              cases hq : v.getD m false with
              | true =>
                rw [if_pos (Or.inr (Or.inr hq))] at hkr
                rw [hq] at hcf
                have HKR := Lib.hid hkr
                clear hkr hfl hq
                go_wp2
                go_ret
                refine ⟨?_, hbel⟩
                have h1 := HT.out
                rw [← HKR.out] at h1
                unfold isTreeR
                rw [← h1]
                rfl
              | false =>
                rw [if_neg (by rw [hq]; simp; omega)] at hkr
                rw [hq] at hcf
                have HFS := Lib.hid (hfl.set m true)
                have HKR := Lib.hid hkr
                clear hkr hfl hq
                go_wp2
                go_roundw
                case rel =>
                  exact ⟨j + 1, v.set m true, hjl, by go_num, by go_num, by simpa using hvl, HFS.out, HKR.out, hbel.setCell (p := ⟨w.heap.size, m, none⟩) (Nat.le_refl _) _⟩
                case measure => simp [intOf]; omega
        · have hkr' : kidsR k nd.kids u = some v := by rw [← hkr, List.drop_eq_nil_of_le (by omega)]; rfl
          have hjn : j = nd.kids.length := by omega
          have HJ := Lib.hid hjn
          have HKR := Lib.hid hkr'
          have HFS := Lib.hid hfl
          clear hkr hkr' hfl hjn
          go_wp2
          go_roundw
          case rel =>
            refine ⟨k + 1, v, hlt, by go_num, by rw [HKN.out, HJ.out], hvl, HFS.out, ?_, hbel⟩
            have h1 := HT.out
            rw [HKR.out] at h1
            exact h1
          case measure => simp [intOf]; omega
    · have htr' : treeR 0 ns (List.replicate ns.length false) = some u := by rw [← htr, List.drop_eq_nil_of_le (by omega)]; rfl
      have hit : isTreeR ns = decide (kidsN ns + 1 = ns.length) := by rw [isTreeR_count, htr']
      have hkn := kidsN_le ns
      have hke : kidsN (ns.take k) = kidsN ns := by rw [List.take_of_length_le (by omega)]
      rw [hke]
      have HI := Lib.hid hit
      obtain ⟨C, hC⟩ : ∃ C, kidsN ns = C := ⟨_, rfl⟩
      rw [hC] at HI hkn ⊢
      clear htr htr' hit hfl hke hC
      by_cases hq : C + 1 = ns.length
      · have hqz : (C : Int) = (ns.length : Int) - 1 := by omega
        have HQ := Lib.hid hq
        clear hq
        go_wp2
        go_ret
        exact ⟨by rw [HI.out, decide_eq_true HQ.out]; rfl, hbel⟩
      · have hqz : ((C : Int) == (ns.length : Int) - 1) = false := by rw [beq_eq_false_iff_ne]; omega
        have HQ := Lib.hid hq
        clear hq
        go_wp2
        go_ret
        exact ⟨by rw [HI.out, decide_eq_false HQ.out]; rfl, hbel⟩

end Go.Proofs.YtdkjfppjbkdelaaGreatDoor
