/- An automaton's operations in memory: five cells each, one of them a row of ints; the law's own helpers over them. Conditions: at most 1048576 elements in all. -/
import Derived.Test.YtikbinmddgmllaaRxTo
namespace Go.Proofs.Ytikbinmddgmllaa
set_option linter.unusedVariables false
open Go.RowKit

/-- An operation. -/
structure No where
  op : Int
  a : Int
  b : Int
  neg : Bool
  set : List Int

/-- An operation as a value. -/
def opv (n : No) (sa : Option Addr) (sc : Nat) : Value := .agg #[.int .i64 n.op, .int .i64 n.a, .int .i64 n.b, .bool n.neg, .slice sa n.set.length sc]

/-- Five cells from an offset on are those of an operation. -/
structure FiveAt (w : World) (b o : Nat) (n : No) (sa : Option Addr) (sc : Nat) : Prop where
  c0 : w.cell? ⟨b, o, none⟩ = some (.int .i64 n.op)
  c1 : w.cell? ⟨b, o + 1, none⟩ = some (.int .i64 n.a)
  c2 : w.cell? ⟨b, o + 2, none⟩ = some (.int .i64 n.b)
  c3 : w.cell? ⟨b, o + 3, none⟩ = some (.bool n.neg)
  c4 : w.cell? ⟨b, o + 4, none⟩ = some (.slice sa n.set.length sc)

/-- A slice of operations at address A reads as os, all of it below block B. -/
def Ops (w : World) (B : Nat) (A : Option Addr) (os : List No) : Prop :=
  ∀ j, (h : j < os.length) → ∃ b o sa sc, A = some ⟨b, o, none⟩ ∧ b < B ∧ FiveAt w b (o + j * 5) os[j] sa sc ∧ Nums .i64 w B sa os[j].set

theorem FiveAt.move {w w' : World} {b o : Nat} {n : No} {sa : Option Addr} {sc : Nat} (h : FiveAt w b o n sa sc) (hk : ∀ i, w'.cell? ⟨b, i, none⟩ = w.cell? ⟨b, i, none⟩) : FiveAt w' b o n sa sc :=
  ⟨(hk _).trans h.c0, (hk _).trans h.c1, (hk _).trans h.c2, (hk _).trans h.c3, (hk _).trans h.c4⟩
theorem Ops.move {w w' : World} {B B' : Nat} {A : Option Addr} {os : List No} (h : Ops w B A os) (hB : B ≤ B') (hk : ∀ p : Addr, p.block < B → w'.cell? p = w.cell? p) : Ops w' B' A os := fun j hj => by
  obtain ⟨b, o, sa, sc, e, hb, hs, hn⟩ := h j hj
  exact ⟨b, o, sa, sc, e, by omega, hs.move fun i => hk ⟨b, i, none⟩ hb, hn.move hB hk⟩
theorem Ops.below {w w' : World} {B : Nat} {A : Option Addr} {os : List No} (h : Ops w B A os) (hb : Below B w w') : Ops w' B A os := h.move (Nat.le_refl _) fun _ hp => hb.cell hp
theorem Ops.up {w : World} {B B' : Nat} {A : Option Addr} {os : List No} (h : Ops w B A os) (hB : B ≤ B') : Ops w B' A os := h.move hB fun _ _ => rfl
theorem Ops.nil (w : World) (B : Nat) (A : Option Addr) : Ops w B A [] := fun j hj => absurd hj (by simp)

def osum (os : List No) : Nat := (os.map (·.set.length)).sum
def OFits (os : List No) : Prop := ∀ n ∈ os, n.set.length ≤ maxLen
theorem osum_take {os : List No} {k : Nat} (h : k < os.length) : osum (os.take (k + 1)) = osum (os.take k) + os[k].set.length := by
  unfold osum
  rw [take_succ_get h, List.map_append, List.sum_append]
  simp only [List.map_cons, List.map_nil, List.sum_cons, List.sum_nil, Nat.add_zero]
theorem osum_le (os : List No) (k : Nat) : osum (os.take k) ≤ osum os := by
  have e : osum (os.take k ++ os.drop k) = osum (os.take k) + osum (os.drop k) := by unfold osum; rw [List.map_append, List.sum_append]
  rw [List.take_append_drop] at e
  omega
theorem osum_get {os : List No} {k : Nat} (h : k < os.length) : os[k].set.length ≤ osum os := by
  have h1 := osum_take h
  have h2 := osum_le os (k + 1)
  omega

set_option maxHeartbeats 1000000 in
theorem szOp_any (n : No) (sa : Option Addr) (sc : Nat) (left : Nat) (w : World) (h1 : n.set.length ≤ maxLen) (hl : left ≤ 1048576) :
    Calls Try.prog 15 #[opv n sa sc, .int .i64 left] w fun e w' => e = .returned (.int .i64 (leftIs n.set.length left)) ∧ Below w.heap.size w w' := by
  unfold opv
  have B0 : Below w.heap.size w (w.alloc (.cells #[.int .i64 n.op, .int .i64 n.a, .int .i64 n.b, .bool n.neg, .slice sa n.set.length sc] 42)) := (Below.refl _ _).alloc (Nat.le_refl _) _
  go_enter Try.func15, Try.ntmps15
  go_wp2_with fail
  refine (szInts_any _ _ _ _ _ h1 hl).mono ?_
  rintro e w1 ⟨rfl, rfl⟩
  by_cases q1 : n.set.length ≤ left
  · rw [leftIs_pos q1]
    have hi : ¬ ((left - n.set.length : Nat) : Int) < 0 := by omega
    go_wp2
    go_ret
    exact ⟨by rw [leftIs_pos q1]; rfl, B0⟩
  · rw [leftIs_neg q1]
    go_wp2
    go_ret
    exact ⟨by rw [leftIs_neg q1]; rfl, B0⟩

set_option maxHeartbeats 2000000 in
set_option maxRecDepth 100000 in
theorem szOps_any (A : Option Addr) (c : Nat) (os : List No) (left : Nat) (w : World) (hN : Ops w w.heap.size A os) (hF : OFits os) (hn : os.length ≤ maxLen) (hl : left ≤ 1048576) :
    Calls Try.prog 9 #[.slice A os.length c, .int .i64 left] w fun e w' => e = .returned (.int .i64 (leftIs (os.length + osum os) left)) ∧ Below w.heap.size w w' := by
  have hn' := hn
  unfold maxLen at hn'
  by_cases h : os.length ≤ left
  · have hi : ¬ ((left : Int) - (os.length : Int)) < 0 := by omega
    have hj : (left : Int) - (os.length : Int) = ((left - os.length : Nat) : Int) := by omega
    obtain ⟨L, hL⟩ : ∃ L, left - os.length = L := ⟨_, rfl⟩
    rw [hL] at hj
    have hLl : L ≤ 1048576 := by omega
    have HL := Lib.hid hL
    clear hL
    go_enter Try.func9, Try.ntmps9
    go_wp2
    clear hi hj
    go_loopw [1, 5] (fun l i wr => ∃ k : Nat, k ≤ os.length ∧ i = .int .i64 k ∧ osum (os.take k) ≤ L ∧ l = .int .i64 ((L - osum (os.take k) : Nat) : Int) ∧ Below w.heap.size w wr) (fun _ i _ => os.length - (intOf i).toNat)
    case atStart => exact ⟨0, Nat.zero_le _, rfl, by simp [osum], by simp [osum], Below.refl _ _⟩
    case round =>
      obtain ⟨k, hk, rfl, hb, rfl, hbel⟩ := hrel
      by_cases hlt : k < os.length
      · obtain ⟨b, o, sa, sc, rfl, hbb, hs, hn1⟩ := hN k hlt
        have hs' := hs.move (w' := wr) fun i => hbel.cell (p := ⟨b, i, none⟩) hbb
        have f := hF _ (List.getElem_mem hlt)
        obtain ⟨X, hX⟩ : ∃ X, osum (os.take k) = X := ⟨_, rfl⟩
        rw [hX] at hb
        have cN := szOp_any os[k] sa sc (L - X) wr f (by omega)
        have hT := osum_take hlt
        rw [hX] at hT
        obtain ⟨nd, hnd⟩ : ∃ nd, os[k] = nd := ⟨_, rfl⟩
        rw [hnd] at hs' cN hT
        obtain ⟨c0, c1, c2, c3, c4⟩ := hs'
        unfold opv at cN
        have HX := Lib.hid hX
        have HT := Lib.hid hT
        have HN := Lib.hid hnd
        clear hs hN hF f hX hT hnd hn1
        rw [HX.out]
        go_wp2_with fail
        refine cN.mono ?_
        rintro e w2 ⟨rfl, b2⟩
        have B2 : Below w.heap.size w w2 := hbel.trans (b2.mono hbel.size)
        clear cN b2
        by_cases q : nd.set.length ≤ L - X
        · rw [leftIs_pos q]
          have hi : ¬ ((L - X - nd.set.length : Nat) : Int) < 0 := by omega
          go_wp2
          go_roundw
          case rel => exact ⟨k + 1, hlt, by go_num, by rw [HT.out]; omega, by rw [HT.out, Nat.sub_sub], B2⟩
          case measure => simp [intOf]; omega
        · rw [leftIs_neg q]
          have hle := osum_le os (k + 1)
          have HE := Lib.hid hle
          clear hle
          go_wp2
          go_ret
          refine ⟨?_, B2⟩
          have := HE.out
          rw [HT.out] at this
          rw [leftIs_neg (by have := HL.out; omega)]
          rfl
      · have hkn : k = os.length := by omega
        have HK := Lib.hid hkn
        clear hkn
        go_wp2
        go_ret
        refine ⟨?_, hbel⟩
        have h1 := HK.out
        rw [h1, List.take_length] at hb ⊢
        rw [leftIs_pos (by have := HL.out; omega)]
        have := HL.out
        rw [← this, Nat.sub_sub]
        rfl
  · have hi : ((left : Int) - (os.length : Int)) < 0 := by omega
    go_enter Try.func9, Try.ntmps9
    go_wp2
    go_ret
    exact ⟨by rw [leftIs_neg (by omega)]; rfl, Below.refl _ _⟩

set_option maxHeartbeats 1000000 in
theorem szNfa_any (A : Option Addr) (c : Nat) (os : List No) (w : World) (hN : Ops w w.heap.size A os) (hF : OFits os) (hn : os.length ≤ maxLen) :
    Calls Try.prog 4 #[.agg #[.slice A os.length c], .int .i64 1048576] w fun e w' => e = .returned (.int .i64 (leftIs (os.length + osum os) 1048576)) ∧ Below w.heap.size w w' := by
  have B0 : Below w.heap.size w (w.alloc (.cells #[.slice A os.length c] 24)) := (Below.refl _ _).alloc (Nat.le_refl _) _
  have N0 := (hN.below B0).up B0.size
  have cN := szOps_any A c os 1048576 _ N0 hF hn (Nat.le_refl _)
  clear N0 hN
  go_enter Try.func4, Try.ntmps4
  go_wp2_with fail
  refine cN.mono ?_
  rintro e w1 ⟨rfl, b1⟩
  have B1 : Below w.heap.size w w1 := B0.trans (b1.mono B0.size)
  clear cN b1 B0
  by_cases q : os.length + osum os ≤ 1048576
  · rw [leftIs_pos q]
    have hi : ¬ ((1048576 - (os.length + osum os) : Nat) : Int) < 0 := by omega
    go_wp2
    go_ret
    exact ⟨by rw [leftIs_pos q]; rfl, B1⟩
  · rw [leftIs_neg q]
    go_wp2
    go_ret
    exact ⟨by rw [leftIs_neg q]; rfl, B1⟩

/-! ### Copying -/
/-- A struct of five cells lies at block p. -/
def Five (w : World) (p : Nat) (t : TypeId) (v0 v1 v2 v3 v4 : Value) : Prop := w.heap[p]? = some (.cells #[v0, v1, v2, v3, v4] t (0, 0))
section
variable {w w' : World} {p : Nat} {t : TypeId} {v0 v1 v2 v3 v4 : Value}
theorem Five.cells (h : Five w p t v0 v1 v2 v3 v4) : w.cell? ⟨p, 0, none⟩ = some v0 ∧ w.cell? ⟨p, 1, none⟩ = some v1 ∧ w.cell? ⟨p, 2, none⟩ = some v2 ∧ w.cell? ⟨p, 3, none⟩ = some v3 ∧ w.cell? ⟨p, 4, none⟩ = some v4 := by
  unfold Five at h
  refine ⟨?_, ?_, ?_, ?_, ?_⟩ <;> rw [cell_of_row w p _ _ _ _ h] <;> rfl
theorem Five.frozen (h : Five w p t v0 v1 v2 v3 v4) (j : Nat) : w.frozen? ⟨p, j, none⟩ = false := frozen_of_row w p j _ _ h
theorem Five.lt (h : Five w p t v0 v1 v2 v3 v4) : p < w.heap.size := (Array.getElem?_eq_some_iff.1 h).1
theorem Five.setO (h : Five w p t v0 v1 v2 v3 v4) {g j : Nat} (hg : p ≠ g) (u : Value) : Five (w.setCell ⟨g, j, none⟩ u) p t v0 v1 v2 v3 v4 := by
  unfold Five at h ⊢; rw [Below.heap_setCell _ _ _ _ hg]; exact h
theorem Five.set5 (h : Five w p t v0 v1 v2 v3 v4) (u0 u1 u2 u3 u4 : Value) :
    Five (((((w.setCell ⟨p, 0, none⟩ u0).setCell ⟨p, 1, none⟩ u1).setCell ⟨p, 2, none⟩ u2).setCell ⟨p, 3, none⟩ u3).setCell ⟨p, 4, none⟩ u4) p t u0 u1 u2 u3 u4 := by
  unfold Five at h ⊢
  have h0 := heap_setCell_same w p 0 _ _ u0 h
  have h1 := heap_setCell_same _ p 1 _ _ u1 h0
  have h2 := heap_setCell_same _ p 2 _ _ u2 h1
  have h3 := heap_setCell_same _ p 3 _ _ u3 h2
  have h4 := heap_setCell_same _ p 4 _ _ u4 h3
  rw [h4]; rfl
end
theorem set5_block (w : World) (p o0 o1 o2 o3 o4 : Nat) (u0 u1 u2 u3 u4 : Value) (k : Nat) (h : k ≠ p) :
    (((((w.setCell ⟨p, o0, none⟩ u0).setCell ⟨p, o1, none⟩ u1).setCell ⟨p, o2, none⟩ u2).setCell ⟨p, o3, none⟩ u3).setCell ⟨p, o4, none⟩ u4).heap[k]? = w.heap[k]? := by
  rw [Below.heap_setCell _ _ _ _ h, Below.heap_setCell _ _ _ _ h, Below.heap_setCell _ _ _ _ h, Below.heap_setCell _ _ _ _ h, Below.heap_setCell _ _ _ _ h]
theorem below5 {B : Nat} {w w1 : World} (h : Below B w w1) {p : Nat} (hp : B ≤ p) (o0 o1 o2 o3 o4 : Nat) (u0 u1 u2 u3 u4 : Value) :
    Below B w (((((w1.setCell ⟨p, o0, none⟩ u0).setCell ⟨p, o1, none⟩ u1).setCell ⟨p, o2, none⟩ u2).setCell ⟨p, o3, none⟩ u3).setCell ⟨p, o4, none⟩ u4) :=
  ((((h.setCell hp _).setCell hp _).setCell hp _).setCell hp _).setCell hp _
theorem five_write {w : World} {g o : Nat} {t : TypeId} {cur : Array Value} (hg : w.heap[g]? = some (.cells cur t (0, 0))) (ho : o + 5 ≤ cur.size) (u0 u1 u2 u3 u4 : Value) (w' : World)
    (hw : w' = (((((w.setCell ⟨g, o, none⟩ u0).setCell ⟨g, o + 1, none⟩ u1).setCell ⟨g, o + 2, none⟩ u2).setCell ⟨g, o + 3, none⟩ u3).setCell ⟨g, o + 4, none⟩ u4)) :
    (∃ cur' : Array Value, w'.heap[g]? = some (.cells cur' t (0, 0)) ∧ cur'.size = cur.size) ∧
    (w'.cell? ⟨g, o, none⟩ = some u0 ∧ w'.cell? ⟨g, o + 1, none⟩ = some u1 ∧ w'.cell? ⟨g, o + 2, none⟩ = some u2 ∧ w'.cell? ⟨g, o + 3, none⟩ = some u3 ∧ w'.cell? ⟨g, o + 4, none⟩ = some u4) ∧
    (∀ q, q < o ∨ o + 5 ≤ q → w'.cell? ⟨g, q, none⟩ = w.cell? ⟨g, q, none⟩) := by
  have h0 := heap_setCell_same w g o _ _ u0 hg
  have h1 := heap_setCell_same _ g (o + 1) _ _ u1 h0
  have h2 := heap_setCell_same _ g (o + 2) _ _ u2 h1
  have h3 := heap_setCell_same _ g (o + 3) _ _ u3 h2
  have h4 := heap_setCell_same _ g (o + 4) _ _ u4 h3
  rw [← hw] at h4
  refine ⟨⟨_, h4, by simp⟩, ?_, fun q hq => ?_⟩
  · refine ⟨?_, ?_, ?_, ?_, ?_⟩ <;> rw [cell_of_row _ g _ _ _ _ h4] <;> simp [Array.getElem?_setIfInBounds] <;> omega
  · rw [cell_of_row _ g _ _ _ _ h4, cell_of_row _ g _ _ _ _ hg]
    simp only [Array.getElem?_setIfInBounds]
    rw [if_neg (by omega), if_neg (by omega), if_neg (by omega), if_neg (by omega), if_neg (by omega)]

set_option maxHeartbeats 2000000 in
set_option maxRecDepth 100000 in
theorem toOp_any (nd : No) (sa : Option Addr) (sc : Nat) (w : World) (h1 : nd.set.length ≤ 1048576) (hS : Nums .i64 w w.heap.size sa nd.set) :
    Calls Try.prog 16 #[opv nd sa sc] w fun e w' => ∃ sa' sc', e = .returned (opv nd sa' sc') ∧ From w.heap.size sa' ∧ Nums .i64 w' w'.heap.size sa' nd.set ∧ Below w.heap.size w w' := by
  unfold opv
  have HS := Lib.hid hS
  clear hS
  go_enter Try.func16, Try.ntmps16
  go_wp2_with fail
  refine (toInts_new sa sc nd.set _ h1 ((HS.out.below (below3 w _ _ _)).up (below3 w _ _ _).size)).mono ?_
  rintro e w1 ⟨A1, c1, rfl, F1, S1, b1⟩
  have B1 : Below w.heap.size w w1 := (below3 w _ _ _).trans (b1.mono (by simp; omega))
  have z1 := b1.size
  have X1 : Five w1 (w.heap.size + 1) 36 _ _ _ _ _ := (b1.block _ (by simp)).trans (alloc3_1 w _ _ _)
  have X2 : Five w1 (w.heap.size + 2) 36 _ _ _ _ _ := (b1.block _ (by simp)).trans (alloc3_2 w _ _ _)
  rw [alloc3_size] at z1 F1
  clear b1
  obtain ⟨x0, x1, x2, x3, x4⟩ := X1.cells
  obtain ⟨y0, y1, y2, y3, y4⟩ := X2.cells
  have yf := X2.frozen 4
  have xf := X1.frozen
  have HX1 := Lib.hid X1
  have HB := Lib.hid B1
  have HS1 := Lib.hid S1
  clear X1 X2 B1 S1
  go_wp2
  have X3 := (HX1.out.setO (j := 4) (show w.heap.size + 1 ≠ w.heap.size + 2 by omega) (.slice A1 nd.set.length c1)).set5 (.int .i64 nd.op) (.int .i64 nd.a) (.int .i64 nd.b) (.bool nd.neg) (.slice A1 nd.set.length c1)
  refine bodyPost_ret (v := .agg #[.int .i64 nd.op, .int .i64 nd.a, .int .i64 nd.b, .bool nd.neg, .slice A1 nd.set.length c1]) ?_ rfl ?_
  · exact results_cell_row Try.results16 _ _ (w.heap.size + 1) _ _ _ _ rfl X3 Try.underlying36 rfl (by kernel_rfl)
  · refine ⟨A1, c1, rfl, F1.le (by omega), ?_, below5 (HB.out.setCell (p := ⟨w.heap.size + 2, 4, none⟩) (by simp) _) (by omega) _ _ _ _ _ _ _ _ _ _⟩
    refine HS1.out.keep F1 (by simp only [setCell_size']; exact Nat.le_refl _) fun b hb hlt => ?_
    rw [set5_block _ _ _ _ _ _ _ _ _ _ _ _ _ (by omega), Below.heap_setCell _ _ _ _ (by show b ≠ w.heap.size + 2; omega)]

/-- Operations that lie in a row of their own at block g, all else behind it. -/
def OpRow (w : World) (g : Nat) (os : List No) (k : Nat) : Prop :=
  ∀ j, j < k → (h : j < os.length) → ∃ sa sc, FiveAt w g (j * 5) os[j] sa sc ∧ From (g + 1) sa ∧ Nums .i64 w w.heap.size sa os[j].set
theorem OpRow.below {w w' : World} {g : Nat} {os : List No} {k : Nat} (h : OpRow w g os k) (hg : g < w.heap.size) (hb : Below w.heap.size w w') : OpRow w' g os k := fun j hj hl => by
  obtain ⟨sa, sc, h1, h2, h4⟩ := h j hj hl
  exact ⟨sa, sc, h1.move fun i => hb.cell (p := ⟨g, i, none⟩) hg, h2, (h4.below hb).up hb.size⟩
/-- Operations all of whose memory lies from block L on. -/
def OpsIn (w : World) (L B : Nat) (A : Option Addr) (os : List No) : Prop :=
  ∀ j, (h : j < os.length) → ∃ b o sa sc, A = some ⟨b, o, none⟩ ∧ L ≤ b ∧ b < B ∧ FiveAt w b (o + j * 5) os[j] sa sc ∧ From L sa ∧ Nums .i64 w B sa os[j].set
theorem OpsIn.ops {w : World} {L B : Nat} {A : Option Addr} {os : List No} (h : OpsIn w L B A os) : Ops w B A os := fun j hj => by
  obtain ⟨b, o, sa, sc, e, _, hb, h1, _, h2⟩ := h j hj
  exact ⟨b, o, sa, sc, e, hb, h1, h2⟩
theorem OpsIn.keep {w w' : World} {L B B' : Nat} {A : Option Addr} {os : List No} (h : OpsIn w L B A os) (hB : B ≤ B') (hk : ∀ b, L ≤ b → b < B → w'.heap[b]? = w.heap[b]?) : OpsIn w' L B' A os := fun j hj => by
  obtain ⟨b, o, sa, sc, e, hl, hb, h1, f1, h2⟩ := h j hj
  exact ⟨b, o, sa, sc, e, hl, by omega, h1.move fun i => World.cell?_of_block (a := ⟨b, i, none⟩) (hk b hl hb), f1, h2.keep f1 hB hk⟩
theorem OpsIn.le {w : World} {L L' B : Nat} {A : Option Addr} {os : List No} (h : OpsIn w L B A os) (hL : L' ≤ L) : OpsIn w L' B A os := fun j hj => by
  obtain ⟨b, o, sa, sc, e, hl, hb, h1, f1, h2⟩ := h j hj
  exact ⟨b, o, sa, sc, e, by omega, hb, h1, f1.le hL, h2⟩
theorem OpRow.opsIn {w : World} {g : Nat} {os : List No} (h : OpRow w g os os.length) (hg : g < w.heap.size) : OpsIn w g w.heap.size (some ⟨g, 0, none⟩) os := fun j hj => by
  obtain ⟨sa, sc, h1, f1, h4⟩ := h j hj hj
  exact ⟨g, 0, sa, sc, rfl, Nat.le_refl _, hg, by rw [Nat.zero_add]; exact h1, f1.le (by omega), h4⟩

theorem Try.infoOp : (Try.prog.info? 36).map (fun i => (i.zero, i.size, i.bytes)) = some (some (.agg #[.int .i64 0, .int .i64 0, .int .i64 0, .bool false, .slice none 0 0]), 5, 56) := by kernel_rfl

def ToORel (g n : Nat) (os : List No) (w : World) (i : Value) (wr : World) : Prop :=
  ∃ k : Nat, k ≤ os.length ∧ i = .int .i64 k ∧ (∃ cur : Array Value, wr.heap[g]? = some (.cells cur 36 (0, 0)) ∧ cur.size = n * 5) ∧ OpRow wr g os k ∧ Below w.heap.size w wr

set_option maxHeartbeats 2000000 in
set_option maxRecDepth 100000 in
theorem toOps_any (A : Option Addr) (c : Nat) (os : List No) (w : World) (hlen : os.length + osum os ≤ 1048576) (hN : Ops w w.heap.size A os) :
    Calls Try.prog 12 #[.slice A os.length c] w fun e w' => ∃ A' c', e = .returned (.slice A' os.length c') ∧ OpsIn w' w.heap.size w'.heap.size A' os ∧ Below w.heap.size w w' := by
  obtain ⟨i0, hi, hz0, hz1, hz2⟩ := info_parts Try.infoOp
  have HN := Lib.hid hN
  clear hN
  go_enter Try.func12, Try.ntmps12
  go_wp2_with (at_make; refine wpList_make_full _ rfl _ _ 27 rfl w.heap.size 36 i0 _ 5 Try.underlying27 hi hz0 hz1 _ _ _ _ os.length rfl rfl rfl rfl (by rw [hz2]; omega) (by unfold maxLen; omega) (Nat.le_refl _) ?_; intro w0 hown0 hgrow0)
  have hb0 : Below w.heap.size w w0 := (Below.refl _ _).grown hgrow0 (Nat.le_refl _) (fun k h => by cases h)
  have hc0 : ∃ cur : Array Value, w0.heap[w.heap.size]? = some (.cells cur 36 (0, 0)) ∧ cur.size = os.length * 5 := by
    rcases hown0.2 with ⟨h, _⟩ | ⟨g, cap, cur, hv, _, hg, _, _, hs, _⟩
    · cases h
    · injection hv with h1 h2 h3
      injection h1 with h1
      injection h1 with h1
      subst h1 h3
      exact ⟨cur, hg, hs⟩
  clear hown0 hgrow0
  have HC := Lib.hid hc0
  clear hc0
  go_wp2
  go_loopw [4] (ToORel w.heap.size os.length os w) (fun i _ => os.length - (intOf i).toNat)
  case atStart => exact ⟨0, Nat.zero_le _, rfl, HC.out, fun j hj => absurd hj (by omega), hb0⟩
  case round =>
    obtain ⟨k, hk, rfl, ⟨cur, hcur, hsz⟩, hrow, hbel⟩ := hrel
    clear hb0 HC
    by_cases hlt : k < os.length
    · obtain ⟨b, o, sa, sc, rfl, hbb, hs, hn1⟩ := HN.out k hlt
      have hs' := hs.move (w' := wr) fun i => hbel.cell (p := ⟨b, i, none⟩) hbb
      have hbk := osum_get hlt
      have cN := toOp_any os[k] sa sc wr (by omega) ((hn1.below hbel).up hbel.size)
      obtain ⟨nd, hnd⟩ : ∃ nd, os[k] = nd := ⟨_, rfl⟩
      rw [hnd] at hs' cN
      obtain ⟨c0, c1, c2, c3, c4⟩ := hs'
      unfold opv at cN
      have HD := Lib.hid hnd
      have HR := Lib.hid hrow
      have HU := Lib.hid hcur
      have hgl : w.heap.size < wr.heap.size := (Array.getElem?_eq_some_iff.1 hcur).1
      clear hs hnd hn1 hbk hrow hcur
      go_wp2_with fail
      refine cN.mono ?_
      rintro e w2 ⟨sa', sc', rfl, F1, N1, b2⟩
      have hcur2 := (b2.block _ hgl).trans HU.out
      have R2 := HR.out.below hgl b2
      have B2 : Below w.heap.size w w2 := hbel.trans (b2.mono hbel.size)
      have z2 := b2.size
      have ex : ∀ i, i < 5 → ∃ u, w2.cell? ⟨w.heap.size, k * 5 + i, none⟩ = some u := fun i hi6 => by
        rw [cell_of_row _ _ _ _ _ _ hcur2]
        exact ⟨_, Array.getElem?_eq_getElem (by omega)⟩
      obtain ⟨x0, e0⟩ := ex 0 (by omega)
      obtain ⟨x1, e1⟩ := ex 1 (by omega)
      obtain ⟨x2, e2⟩ := ex 2 (by omega)
      obtain ⟨x3, e3⟩ := ex 3 (by omega)
      obtain ⟨x4, e4⟩ := ex 4 (by omega)
      rw [Nat.add_zero] at e0
      have hf : ∀ j, w2.frozen? ⟨w.heap.size, j, none⟩ = false := fun j => frozen_of_row w2 w.heap.size j _ _ hcur2
      have HU2 := Lib.hid hcur2
      have HR2 := Lib.hid R2
      have HB2 := Lib.hid B2
      have HF1 := Lib.hid F1
      have HN1 := Lib.hid N1
      clear cN b2 HR HU ex c0 c1 c2 c3 c4 hcur2 R2 B2 F1 N1 hbel
      go_wp2
      go_roundw
      case rel =>
        obtain ⟨⟨cur', hcur', hsz'⟩, ⟨d0, d1, d2, d3, d4⟩, dO⟩ := five_write HU2.out (o := k * 5) (by omega) (.int .i64 nd.op) (.int .i64 nd.a) (.int .i64 nd.b) (.bool nd.neg) (.slice sa' nd.set.length sc') _ rfl
        have keep : ∀ b, w.heap.size + 1 ≤ b → b < w2.heap.size → _ := fun b h1 _ => set5_block w2 w.heap.size (k * 5) (k * 5 + 1) (k * 5 + 2) (k * 5 + 3) (k * 5 + 4) (.int .i64 nd.op) (.int .i64 nd.a) (.int .i64 nd.b) (.bool nd.neg) (.slice sa' nd.set.length sc') b (by omega)
        refine ⟨k + 1, hlt, by go_num, ⟨cur', hcur', by omega⟩, fun j hj hl => ?_, below5 HB2.out (Nat.le_refl _) _ _ _ _ _ _ _ _ _ _⟩
        by_cases hjk : j = k
        · subst hjk
          rw [HD.out]
          exact ⟨sa', sc', ⟨d0, d1, d2, d3, d4⟩, HF1.out.le (by omega), HN1.out.keep (HF1.out.le (by omega)) (by simp only [setCell_size']; exact Nat.le_refl _) keep⟩
        · obtain ⟨sa1, sc1, h1, h2, h4⟩ := HR2.out j (by omega) hl
          exact ⟨sa1, sc1, ⟨(dO _ (by omega)).trans h1.c0, (dO _ (by omega)).trans h1.c1, (dO _ (by omega)).trans h1.c2, (dO _ (by omega)).trans h1.c3, (dO _ (by omega)).trans h1.c4⟩, h2,
            h4.keep h2 (by simp only [setCell_size']; exact Nat.le_refl _) keep⟩
      case measure => simp [intOf]; omega
    · have hkn : k = os.length := by omega
      have HK := Lib.hid hkn
      have HR := Lib.hid hrow
      have hgl : w.heap.size < wr.heap.size := (Array.getElem?_eq_some_iff.1 hcur).1
      clear hkn hrow hcur
      go_wp2
      go_ret
      refine ⟨some ⟨w.heap.size, 0, none⟩, os.length, rfl, ?_, hbel⟩
      have := HR.out
      rw [HK.out] at this
      exact this.opsIn hgl

set_option maxHeartbeats 2000000 in
theorem toNfa_any (A : Option Addr) (c : Nat) (os : List No) (w : World) (hlen : os.length + osum os ≤ 1048576) (hN : Ops w w.heap.size A os) :
    Calls Try.prog 6 #[.agg #[.slice A os.length c]] w fun e w' => ∃ A' c', e = .returned (.agg #[.slice A' os.length c']) ∧ OpsIn w' w.heap.size w'.heap.size A' os ∧ Below w.heap.size w w' := by
  have HN := Lib.hid hN
  clear hN
  go_enter Try.func6, Try.ntmps6
  go_wp2_with fail
  refine (toOps_any A c os _ hlen ((HN.out.below (below3 w _ _ _)).up (below3 w _ _ _).size)).mono ?_
  rintro e w1 ⟨A1, c1, rfl, N1, b1⟩
  have B1 : Below w.heap.size w w1 := (below3 w _ _ _).trans (b1.mono (by simp; omega))
  have z1 := b1.size
  rw [alloc3_size] at z1
  have X1 : w1.heap[w.heap.size + 1]? = some (.cells #[.slice none 0 0] 29 (0, 0)) := (b1.block _ (by simp)).trans (alloc3_1 w _ _ _)
  have X2 : w1.heap[w.heap.size + 2]? = some (.cells #[.slice none 0 0] 29 (0, 0)) := (b1.block _ (by simp)).trans (alloc3_2 w _ _ _)
  rw [alloc3_size] at N1
  have x1 : w1.cell? ⟨w.heap.size + 1, 0, none⟩ = some (.slice none 0 0) := by rw [cell_of_row _ _ _ _ _ _ X1]; rfl
  have x2 : w1.cell? ⟨w.heap.size + 2, 0, none⟩ = some (.slice none 0 0) := by rw [cell_of_row _ _ _ _ _ _ X2]; rfl
  have f1 := frozen_of_row w1 (w.heap.size + 1) 0 _ _ X1
  have f2 := frozen_of_row w1 (w.heap.size + 2) 0 _ _ X2
  have HX1 := Lib.hid X1
  have HN1 := Lib.hid N1
  have HB := Lib.hid B1
  clear X1 X2 N1 B1 b1
  go_wp2
  refine bodyPost_ret (v := .agg #[.slice A1 os.length c1]) ?_ rfl ?_
  · have h1 : (w1.setCell ⟨w.heap.size + 2, 0, none⟩ (.slice A1 os.length c1)).heap[w.heap.size + 1]? = _ := (Below.heap_setCell _ _ _ _ (by show w.heap.size + 1 ≠ w.heap.size + 2; omega)).trans HX1.out
    have h2 := heap_setCell_same _ (w.heap.size + 1) 0 _ _ (.slice A1 os.length c1) h1
    exact results_cell_row Try.results6 _ _ (w.heap.size + 1) _ #[.slice A1 os.length c1] _ _ rfl h2 Try.underlying29 rfl (by kernel_rfl)
  · refine ⟨A1, c1, rfl, ?_, (HB.out.setCell (p := ⟨w.heap.size + 2, 0, none⟩) (by simp) _).setCell (p := ⟨w.heap.size + 1, 0, none⟩) (by simp) _⟩
    exact (HN1.out.keep (by simp only [setCell_size']; exact Nat.le_refl _) fun b hb hlt => by
      rw [Below.heap_setCell _ _ _ _ (by show b ≠ w.heap.size + 1; omega), Below.heap_setCell _ _ _ _ (by show b ≠ w.heap.size + 2; omega)]).le (by omega)

/-! ### Comparing -/
set_option maxHeartbeats 2000000 in
set_option maxRecDepth 100000 in
theorem eqOp_any (nd : No) (sa sa' : Option Addr) (sc sc' : Nat) (w : World) (h1 : nd.set.length ≤ 1048576) (hS : Nums .i64 w w.heap.size sa nd.set) (hS' : Nums .i64 w w.heap.size sa' nd.set) :
    Calls Try.prog 20 #[opv nd sa sc, opv nd sa' sc'] w fun e w' => e = .returned (.bool true) ∧ Below w.heap.size w w' := by
  unfold opv
  have B0 : ∀ a b, Below w.heap.size w ((w.alloc a).alloc b) := fun a b => ((Below.refl _ _).alloc (Nat.le_refl _) _).alloc (by simp) _
  have HS := Lib.hid (And.intro hS hS')
  clear hS hS'
  go_enter Try.func20, Try.ntmps20
  go_wp2_with fail
  refine (eqInts_any _ _ _ _ nd.set _ h1 ((HS.out.1.below (B0 _ _)).up (B0 _ _).size) ((HS.out.2.below (B0 _ _)).up (B0 _ _).size)).mono ?_
  rintro e w1 ⟨rfl, b1⟩
  have B1 : Below w.heap.size w w1 := (B0 _ _).trans (b1.mono (by simp; omega))
  clear b1
  go_wp2
  go_ret
  exact ⟨rfl, B1⟩

set_option maxHeartbeats 2000000 in
set_option maxRecDepth 100000 in
theorem eqOps_any (A A' : Option Addr) (c c' : Nat) (os : List No) (w : World) (hlen : os.length + osum os ≤ 1048576) (hN : Ops w w.heap.size A os) (hN' : Ops w w.heap.size A' os) :
    Calls Try.prog 14 #[.slice A os.length c, .slice A' os.length c'] w fun e w' => e = .returned (.bool true) ∧ Below w.heap.size w w' := by
  go_enter Try.func14, Try.ntmps14
  go_wp2
  go_loopw [5] (fun i wr => ∃ k : Nat, k ≤ os.length ∧ i = .int .i64 k ∧ Below w.heap.size w wr) (fun i _ => os.length - (intOf i).toNat)
  case atStart => exact ⟨0, Nat.zero_le _, rfl, Below.refl _ _⟩
  case round =>
    obtain ⟨k, hk, rfl, hbel⟩ := hrel
    by_cases hlt : k < os.length
    · obtain ⟨b, o, sa, sc, rfl, hbb, hs, hn1⟩ := hN k hlt
      obtain ⟨b', o', sa', sc', rfl, hbb', hs', hn1'⟩ := hN' k hlt
      have hbk := osum_get hlt
      have cE : ∀ W, Below wr.heap.size wr W → Calls Try.prog 20 #[opv os[k] sa sc, opv os[k] sa' sc'] W _ := fun W hW =>
        have hB := hbel.trans (hW.mono hbel.size)
        eqOp_any os[k] sa sa' sc sc' W (by omega) ((hn1.below hB).up hB.size) ((hn1'.below hB).up hB.size)
      obtain ⟨c0, c1, c2, c3, c4⟩ := hs.move (w' := wr) fun i => hbel.cell (p := ⟨b, i, none⟩) hbb
      obtain ⟨d0, d1, d2, d3, d4⟩ := hs'.move (w' := wr) fun i => hbel.cell (p := ⟨b', i, none⟩) hbb'
      obtain ⟨nd, hnd⟩ : ∃ nd, os[k] = nd := ⟨_, rfl⟩
      rw [hnd] at cE c0 c1 c2 c3 c4 d0 d1 d2 d3 d4
      unfold opv at cE
      have hltz : (k : Int) < (os.length : Int) := by omega
      clear hs hs' hn1 hn1' hbk hN hN' hnd
      go_wp2
      go_region_with (go_at_call 20; with_reducible refine (cE _ (Below.refl _ _).drew).mono ?_; rintro e w2 ⟨rfl, b2⟩)
      all_goals
        have B2 : Below w.heap.size w w2 := hbel.trans ((Below.refl _ _).drew.trans (b2.mono (Nat.le_refl _)) |>.mono hbel.size)
        clear b2
        go_wp2
        go_roundw
        case rel => exact ⟨k + 1, hlt, by go_num, B2⟩
        case measure => simp [intOf]; omega
    · go_wp2
      go_ret
      exact ⟨rfl, hbel⟩

set_option maxHeartbeats 1000000 in
theorem eqNfa_any (A A' : Option Addr) (c c' : Nat) (os : List No) (w : World) (hlen : os.length + osum os ≤ 1048576) (hN : Ops w w.heap.size A os) (hN' : Ops w w.heap.size A' os) :
    Calls Try.prog 8 #[.agg #[.slice A os.length c], .agg #[.slice A' os.length c']] w fun e w' => e = .returned (.bool true) ∧ Below w.heap.size w w' := by
  have B0 : ∀ a b, Below w.heap.size w ((w.alloc a).alloc b) := fun a b => ((Below.refl _ _).alloc (Nat.le_refl _) _).alloc (by simp) _
  have HN := Lib.hid hN
  have HN' := Lib.hid hN'
  clear hN hN'
  go_enter Try.func8, Try.ntmps8
  go_wp2_with fail
  refine (eqOps_any _ _ _ _ os _ hlen ((HN.out.below (B0 _ _)).up (B0 _ _).size) ((HN'.out.below (B0 _ _)).up (B0 _ _).size)).mono ?_
  rintro e w1 ⟨rfl, b1⟩
  go_wp2
  go_ret
  exact ⟨rfl, (B0 _ _).trans (b1.mono (by simp; omega))⟩

end Go.Proofs.Ytikbinmddgmllaa
