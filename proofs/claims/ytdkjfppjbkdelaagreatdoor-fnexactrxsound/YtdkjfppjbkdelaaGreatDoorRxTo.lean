/- The law's copying and comparing of a pattern. Conditions: at most 1048576 elements in each row. -/
import Derived.Test.YtdkjfppjbkdelaaGreatDoorRxMem
namespace Go.Proofs.YtdkjfppjbkdelaaGreatDoor
set_option linter.unusedVariables false
open Go.RowKit

section
variable (w : World) (a b c : Obj)
theorem alloc_size1 (w : World) (a : Obj) : (w.alloc a).heap.size = w.heap.size + 1 := by show (w.heap.push a).size = _; simp
theorem alloc3_size : (((w.alloc a).alloc b).alloc c).heap.size = w.heap.size + 3 := by rw [alloc_size1, alloc_size1, alloc_size1]
theorem alloc3_0 : (((w.alloc a).alloc b).alloc c).heap[w.heap.size]? = some a := by
  rw [Below.heap_alloc _ _ _ (by rw [alloc_size1, alloc_size1]; omega), Below.heap_alloc _ _ _ (by rw [alloc_size1]; omega), heap_alloc_new]
theorem alloc3_1 : (((w.alloc a).alloc b).alloc c).heap[w.heap.size + 1]? = some b := by
  rw [Below.heap_alloc _ _ _ (by rw [alloc_size1, alloc_size1]; omega)]
  have := heap_alloc_new (w.alloc a) b
  rwa [alloc_size1] at this
theorem alloc3_2 : (((w.alloc a).alloc b).alloc c).heap[w.heap.size + 2]? = some c := by
  have := heap_alloc_new ((w.alloc a).alloc b) c
  rwa [alloc_size1, alloc_size1] at this
theorem below3 : Below w.heap.size w (((w.alloc a).alloc b).alloc c) := (((Below.refl _ _).alloc (Nat.le_refl _) _).alloc (by simp) _).alloc (by simp; omega) _
end

theorem setCell_size' (w : World) (a : Addr) (v : Value) : (w.setCell a v).heap.size = w.heap.size := by simp [World.setCell]

/-- A struct of six cells lies at block p. -/
def Six (w : World) (p : Nat) (t : TypeId) (v0 v1 v2 v3 v4 v5 : Value) : Prop := w.heap[p]? = some (.cells #[v0, v1, v2, v3, v4, v5] t (0, 0))
section
variable {w w' : World} {p : Nat} {t : TypeId} {v0 v1 v2 v3 v4 v5 : Value}
theorem Six.cells (h : Six w p t v0 v1 v2 v3 v4 v5) : w.cell? ⟨p, 0, none⟩ = some v0 ∧ w.cell? ⟨p, 1, none⟩ = some v1 ∧ w.cell? ⟨p, 2, none⟩ = some v2 ∧ w.cell? ⟨p, 3, none⟩ = some v3 ∧ w.cell? ⟨p, 4, none⟩ = some v4 ∧ w.cell? ⟨p, 5, none⟩ = some v5 := by
  unfold Six at h
  refine ⟨?_, ?_, ?_, ?_, ?_, ?_⟩ <;> rw [cell_of_row w p _ _ _ _ h] <;> rfl
theorem Six.frozen (h : Six w p t v0 v1 v2 v3 v4 v5) (j : Nat) : w.frozen? ⟨p, j, none⟩ = false := frozen_of_row w p j _ _ h
theorem Six.lt (h : Six w p t v0 v1 v2 v3 v4 v5) : p < w.heap.size := (Array.getElem?_eq_some_iff.1 h).1
theorem Six.belowS (h : Six w p t v0 v1 v2 v3 v4 v5) (hb : Below w.heap.size w w') : Six w' p t v0 v1 v2 v3 v4 v5 := (hb.block p h.lt).trans h
theorem Six.set4 (h : Six w p t v0 v1 v2 v3 v4 v5) (u : Value) : Six (w.setCell ⟨p, 4, none⟩ u) p t v0 v1 v2 v3 u v5 := by
  unfold Six at h ⊢; rw [heap_setCell_same w p 4 _ _ _ h]; rfl
theorem Six.set5 (h : Six w p t v0 v1 v2 v3 v4 v5) (u : Value) : Six (w.setCell ⟨p, 5, none⟩ u) p t v0 v1 v2 v3 v4 u := by
  unfold Six at h ⊢; rw [heap_setCell_same w p 5 _ _ _ h]; rfl
theorem Six.setO (h : Six w p t v0 v1 v2 v3 v4 v5) {g j : Nat} (hg : p ≠ g) (u : Value) : Six (w.setCell ⟨g, j, none⟩ u) p t v0 v1 v2 v3 v4 v5 := by
  unfold Six at h ⊢; rw [Below.heap_setCell _ _ _ _ hg]; exact h
theorem Six.set6 (h : Six w p t v0 v1 v2 v3 v4 v5) (u0 u1 u2 u3 u4 u5 : Value) :
    Six ((((((w.setCell ⟨p, 0, none⟩ u0).setCell ⟨p, 1, none⟩ u1).setCell ⟨p, 2, none⟩ u2).setCell ⟨p, 3, none⟩ u3).setCell ⟨p, 4, none⟩ u4).setCell ⟨p, 5, none⟩ u5) p t u0 u1 u2 u3 u4 u5 := by
  unfold Six at h ⊢
  have h0 := heap_setCell_same w p 0 _ _ u0 h
  have h1 := heap_setCell_same _ p 1 _ _ u1 h0
  have h2 := heap_setCell_same _ p 2 _ _ u2 h1
  have h3 := heap_setCell_same _ p 3 _ _ u3 h2
  have h4 := heap_setCell_same _ p 4 _ _ u4 h3
  have h5 := heap_setCell_same _ p 5 _ _ u5 h4
  rw [h5]; rfl
end

/-- Six cells of one block are written, from an offset on: every other block is as it was. -/
theorem set6_block (w : World) (p o0 o1 o2 o3 o4 o5 : Nat) (u0 u1 u2 u3 u4 u5 : Value) (k : Nat) (h : k ≠ p) :
    ((((((w.setCell ⟨p, o0, none⟩ u0).setCell ⟨p, o1, none⟩ u1).setCell ⟨p, o2, none⟩ u2).setCell ⟨p, o3, none⟩ u3).setCell ⟨p, o4, none⟩ u4).setCell ⟨p, o5, none⟩ u5).heap[k]? = w.heap[k]? := by
  rw [Below.heap_setCell _ _ _ _ h, Below.heap_setCell _ _ _ _ h, Below.heap_setCell _ _ _ _ h, Below.heap_setCell _ _ _ _ h, Below.heap_setCell _ _ _ _ h, Below.heap_setCell _ _ _ _ h]
theorem below6 {B : Nat} {w w1 : World} (h : Below B w w1) {p : Nat} (hp : B ≤ p) (o0 o1 o2 o3 o4 o5 : Nat) (u0 u1 u2 u3 u4 u5 : Value) :
    Below B w ((((((w1.setCell ⟨p, o0, none⟩ u0).setCell ⟨p, o1, none⟩ u1).setCell ⟨p, o2, none⟩ u2).setCell ⟨p, o3, none⟩ u3).setCell ⟨p, o4, none⟩ u4).setCell ⟨p, o5, none⟩ u5) :=
  (((((h.setCell hp _).setCell hp _).setCell hp _).setCell hp _).setCell hp _).setCell hp _

/-- A row of numbers that lies from block L on. -/
def From (L : Nat) (A : Option Addr) : Prop := ∀ a, A = some a → L ≤ a.block
theorem Nums.keep {k : IntKind} {w w' : World} {B B' L : Nat} {A : Option Addr} {zs : List Int} (h : Nums k w B A zs) (hA : From L A) (hB : B ≤ B') (hk : ∀ b, L ≤ b → b < B → w'.heap[b]? = w.heap[b]?) : Nums k w' B' A zs := fun j hj => by
  obtain ⟨b, o, e, hb, hc⟩ := h j hj
  exact ⟨b, o, e, by omega, (World.cell?_of_block (a := ⟨b, o + j, none⟩) (hk b (hA _ e) hb)).trans hc⟩
theorem From.le {L L' : Nat} {A : Option Addr} (h : From L A) (hl : L' ≤ L) : From L' A := fun a e => Nat.le_trans hl (h a e)

theorem toInts_new (A : Option Addr) (c : Nat) (zs : List Int) (w : World) (hlen : zs.length ≤ 1048576) (hN : Nums .i64 w w.heap.size A zs) :
    Calls Tryz.prog 164 #[.slice A zs.length c] w fun e w' => ∃ A' c', e = .returned (.slice A' zs.length c') ∧ From w.heap.size A' ∧ Nums .i64 w' w'.heap.size A' zs ∧ Below w.heap.size w w' :=
  (toInts_any A c zs w hlen hN).mono fun e w' ⟨h1, h2, h3⟩ => ⟨_, _, h1, fun a ha => by injection ha with ha; rw [← ha]; exact Nat.le_refl _, Nums.own h2, h3⟩

set_option maxHeartbeats 2000000 in
set_option maxRecDepth 100000 in
theorem toNode_any (nd : Nd) (sa : Option Addr) (sc : Nat) (ka : Option Addr) (kc : Nat) (w : World) (h1 : nd.set.length ≤ 1048576) (h2 : nd.kids.length ≤ 1048576) (hS : Nums .i64 w w.heap.size sa nd.set) (hK : Nums .i64 w w.heap.size ka nd.kids) :
    Calls Tryz.prog 130 #[ndv nd sa sc ka kc] w fun e w' => ∃ sa' sc' ka' kc', e = .returned (ndv nd sa' sc' ka' kc') ∧ From w.heap.size sa' ∧ From w.heap.size ka' ∧
      Nums .i64 w' w'.heap.size sa' nd.set ∧ Nums .i64 w' w'.heap.size ka' nd.kids ∧ Below w.heap.size w w' := by
  unfold ndv
  have HK := Lib.hid hK
  have HS := Lib.hid hS
  clear hK hS
  go_enter Tryz.func130, Tryz.ntmps130
  go_wp2_with fail
  refine (toInts_new sa sc nd.set _ h1 ((HS.out.below (below3 w _ _ _)).up (below3 w _ _ _).size)).mono ?_
  rintro e w1 ⟨A1, c1, rfl, F1, S1, b1⟩
  have B1 : Below w.heap.size w w1 := (below3 w _ _ _).trans (b1.mono (by simp; omega))
  have z1 := b1.size
  have X0 : Six w1 w.heap.size 169 _ _ _ _ _ _ := (b1.block _ (by simp; omega)).trans (alloc3_0 w _ _ _)
  have X1 : Six w1 (w.heap.size + 1) 47 _ _ _ _ _ _ := (b1.block _ (by simp)).trans (alloc3_1 w _ _ _)
  have X2 : Six w1 (w.heap.size + 2) 47 _ _ _ _ _ _ := (b1.block _ (by simp)).trans (alloc3_2 w _ _ _)
  rw [alloc3_size] at z1 F1
  clear b1
  have cK : ∀ u, Calls Tryz.prog 164 #[.slice ka nd.kids.length kc] (w1.setCell ⟨w.heap.size + 2, 4, none⟩ u) _ := fun u =>
    toInts_new ka kc nd.kids _ h2 ((HK.out.below (B1.setCell (p := ⟨w.heap.size + 2, 4, none⟩) (by simp) u)).up (B1.setCell (p := ⟨w.heap.size + 2, 4, none⟩) (by simp) u).size)
  obtain ⟨x0, x1, x2, x3, x4, x5⟩ := X0.cells
  obtain ⟨y0, y1, y2, y3, y4, y5⟩ := X2.cells
  have yf := X2.frozen 4
  have HX1 := Lib.hid X1
  have HX2 := Lib.hid X2
  have HB := Lib.hid B1
  have HS1 := Lib.hid S1
  clear X0 X1 X2 B1 S1
  go_wp2_with fail
  refine (cK _).mono ?_
  rintro e w2 ⟨A2, c2, rfl, F2, K2, b2⟩
  clear cK x0 x1 x2 x3 x4 x5 y0 y1 y2 y3 y4 y5 yf
  have X2 := (HX2.out.set4 (.slice A1 nd.set.length c1)).belowS b2
  have X1 := (HX1.out.setO (j := 4) (show w.heap.size + 1 ≠ w.heap.size + 2 by omega) (.slice A1 nd.set.length c1)).belowS b2
  have z2 := b2.size
  rw [setCell_size'] at z2 F2
  have B2 : Below w.heap.size w w2 := (HB.out.setCell (p := ⟨w.heap.size + 2, 4, none⟩) (by simp) (.slice A1 nd.set.length c1)).trans (b2.mono (by rw [setCell_size']; omega))
  have S2 : Nums .i64 w2 w2.heap.size A1 nd.set := HS1.out.keep F1 z2 fun b hb hlt =>
    (b2.block b (by rw [setCell_size']; exact hlt)).trans (Below.heap_setCell _ _ _ _ (by show b ≠ w.heap.size + 2; omega))
  obtain ⟨x0, x1, x2, x3, x4, x5⟩ := X1.cells
  obtain ⟨y0, y1, y2, y3, y4, y5⟩ := X2.cells
  have yf := X2.frozen 5
  have xf := X1.frozen
  have HX1' := Lib.hid X1
  have HS2 := Lib.hid S2
  have HK2 := Lib.hid K2
  have HB2 := Lib.hid B2
  clear HX1 HX2 HS1 HB X1 X2 S2 K2 B2 b2
  go_wp2
  have X3 := (HX1'.out.setO (j := 5) (show w.heap.size + 1 ≠ w.heap.size + 2 by omega) (.slice A2 nd.kids.length c2)).set6 (.int .i64 nd.kind) (.int .i64 nd.lo) (.int .i64 nd.hi) (.bool nd.neg) (.slice A1 nd.set.length c1) (.slice A2 nd.kids.length c2)
  refine bodyPost_ret (v := .agg #[.int .i64 nd.kind, .int .i64 nd.lo, .int .i64 nd.hi, .bool nd.neg, .slice A1 nd.set.length c1, .slice A2 nd.kids.length c2]) ?_ rfl ?_
  · exact results_cell_row Tryz.results130 _ _ (w.heap.size + 1) _ _ _ _ rfl X3 Tryz.underlying47 rfl (by kernel_rfl)
  · refine ⟨A1, c1, A2, c2, rfl, F1.le (by omega), F2.le (by omega), ?_, ?_, below6 (HB2.out.setCell (p := ⟨w.heap.size + 2, 5, none⟩) (by simp) _) (by omega) _ _ _ _ _ _ _ _ _ _ _ _⟩
    · refine HS2.out.keep F1 (by simp only [setCell_size']; exact Nat.le_refl _) fun b hb hlt => ?_
      rw [set6_block _ _ _ _ _ _ _ _ _ _ _ _ _ _ _ (by omega), Below.heap_setCell _ _ _ _ (by show b ≠ w.heap.size + 2; omega)]
    · refine HK2.out.keep F2 (by simp only [setCell_size']; exact Nat.le_refl _) fun b hb hlt => ?_
      rw [set6_block _ _ _ _ _ _ _ _ _ _ _ _ _ _ _ (by omega), Below.heap_setCell _ _ _ _ (by show b ≠ w.heap.size + 2; omega)]

/-- Six cells written into a row. -/
theorem six_write {w : World} {g o : Nat} {t : TypeId} {cur : Array Value} (hg : w.heap[g]? = some (.cells cur t (0, 0))) (ho : o + 6 ≤ cur.size) (u0 u1 u2 u3 u4 u5 : Value) (w' : World)
    (hw : w' = ((((((w.setCell ⟨g, o, none⟩ u0).setCell ⟨g, o + 1, none⟩ u1).setCell ⟨g, o + 2, none⟩ u2).setCell ⟨g, o + 3, none⟩ u3).setCell ⟨g, o + 4, none⟩ u4).setCell ⟨g, o + 5, none⟩ u5)) :
    (∃ cur' : Array Value, w'.heap[g]? = some (.cells cur' t (0, 0)) ∧ cur'.size = cur.size) ∧
    (w'.cell? ⟨g, o, none⟩ = some u0 ∧ w'.cell? ⟨g, o + 1, none⟩ = some u1 ∧ w'.cell? ⟨g, o + 2, none⟩ = some u2 ∧ w'.cell? ⟨g, o + 3, none⟩ = some u3 ∧ w'.cell? ⟨g, o + 4, none⟩ = some u4 ∧ w'.cell? ⟨g, o + 5, none⟩ = some u5) ∧
    (∀ q, q < o ∨ o + 6 ≤ q → w'.cell? ⟨g, q, none⟩ = w.cell? ⟨g, q, none⟩) := by
  have h0 := heap_setCell_same w g o _ _ u0 hg
  have h1 := heap_setCell_same _ g (o + 1) _ _ u1 h0
  have h2 := heap_setCell_same _ g (o + 2) _ _ u2 h1
  have h3 := heap_setCell_same _ g (o + 3) _ _ u3 h2
  have h4 := heap_setCell_same _ g (o + 4) _ _ u4 h3
  have h5 := heap_setCell_same _ g (o + 5) _ _ u5 h4
  rw [← hw] at h5
  refine ⟨⟨_, h5, by simp⟩, ?_, fun q hq => ?_⟩
  · refine ⟨?_, ?_, ?_, ?_, ?_, ?_⟩ <;> rw [cell_of_row _ g _ _ _ _ h5] <;> simp [Array.getElem?_setIfInBounds] <;> omega
  · rw [cell_of_row _ g _ _ _ _ h5, cell_of_row _ g _ _ _ _ hg]
    simp only [Array.getElem?_setIfInBounds]
    rw [if_neg (by omega), if_neg (by omega), if_neg (by omega), if_neg (by omega), if_neg (by omega), if_neg (by omega)]

/-- Nodes that lie in a row of their own at block g, all else behind it. -/
def NodeRow (w : World) (g : Nat) (ns : List Nd) (k : Nat) : Prop :=
  ∀ j, j < k → (h : j < ns.length) → ∃ sa sc ka kc, SixAt w g (j * 6) ns[j] sa sc ka kc ∧ From (g + 1) sa ∧ From (g + 1) ka ∧ Nums .i64 w w.heap.size sa ns[j].set ∧ Nums .i64 w w.heap.size ka ns[j].kids

theorem NodeRow.below {w w' : World} {g : Nat} {ns : List Nd} {k : Nat} (h : NodeRow w g ns k) (hg : g < w.heap.size) (hb : Below w.heap.size w w') : NodeRow w' g ns k := fun j hj hl => by
  obtain ⟨sa, sc, ka, kc, h1, h2, h3, h4, h5⟩ := h j hj hl
  exact ⟨sa, sc, ka, kc, h1.move fun i => hb.cell (p := ⟨g, i, none⟩) hg, h2, h3, (h4.below hb).up hb.size, (h5.below hb).up hb.size⟩
theorem NodeRow.nodes {w : World} {g : Nat} {ns : List Nd} (h : NodeRow w g ns ns.length) (hg : g < w.heap.size) : Nodes w w.heap.size (some ⟨g, 0, none⟩) ns := fun j hj => by
  obtain ⟨sa, sc, ka, kc, h1, _, _, h4, h5⟩ := h j hj hj
  exact ⟨g, 0, sa, sc, ka, kc, rfl, hg, by rw [Nat.zero_add]; exact h1, h4, h5⟩

/-- Nodes all of whose memory lies from block L on. -/
def NodesIn (w : World) (L B : Nat) (A : Option Addr) (ns : List Nd) : Prop :=
  ∀ j, (h : j < ns.length) → ∃ b o sa sc ka kc, A = some ⟨b, o, none⟩ ∧ L ≤ b ∧ b < B ∧ SixAt w b (o + j * 6) ns[j] sa sc ka kc ∧ From L sa ∧ From L ka ∧ Nums .i64 w B sa ns[j].set ∧ Nums .i64 w B ka ns[j].kids
theorem NodesIn.nodes {w : World} {L B : Nat} {A : Option Addr} {ns : List Nd} (h : NodesIn w L B A ns) : Nodes w B A ns := fun j hj => by
  obtain ⟨b, o, sa, sc, ka, kc, e, _, hb, h1, _, _, h2, h3⟩ := h j hj
  exact ⟨b, o, sa, sc, ka, kc, e, hb, h1, h2, h3⟩
theorem NodesIn.keep {w w' : World} {L B B' : Nat} {A : Option Addr} {ns : List Nd} (h : NodesIn w L B A ns) (hB : B ≤ B') (hk : ∀ b, L ≤ b → b < B → w'.heap[b]? = w.heap[b]?) : NodesIn w' L B' A ns := fun j hj => by
  obtain ⟨b, o, sa, sc, ka, kc, e, hl, hb, h1, f1, f2, h2, h3⟩ := h j hj
  exact ⟨b, o, sa, sc, ka, kc, e, hl, by omega, h1.move fun i => World.cell?_of_block (a := ⟨b, i, none⟩) (hk b hl hb), f1, f2, h2.keep f1 hB hk, h3.keep f2 hB hk⟩
theorem NodesIn.le {w : World} {L L' B : Nat} {A : Option Addr} {ns : List Nd} (h : NodesIn w L B A ns) (hL : L' ≤ L) : NodesIn w L' B A ns := fun j hj => by
  obtain ⟨b, o, sa, sc, ka, kc, e, hl, hb, h1, f1, f2, h2, h3⟩ := h j hj
  exact ⟨b, o, sa, sc, ka, kc, e, by omega, hb, h1, f1.le hL, f2.le hL, h2, h3⟩
theorem NodeRow.nodesIn {w : World} {g : Nat} {ns : List Nd} (h : NodeRow w g ns ns.length) (hg : g < w.heap.size) : NodesIn w g w.heap.size (some ⟨g, 0, none⟩) ns := fun j hj => by
  obtain ⟨sa, sc, ka, kc, h1, f1, f2, h4, h5⟩ := h j hj hj
  exact ⟨g, 0, sa, sc, ka, kc, rfl, Nat.le_refl _, hg, by rw [Nat.zero_add]; exact h1, f1.le (by omega), f2.le (by omega), h4, h5⟩

theorem Tryz.infoNode : (Tryz.prog.info? 47).map (fun i => (i.zero, i.size, i.bytes)) = some (some (.agg #[.int .i64 0, .int .i64 0, .int .i64 0, .bool false, .slice none 0 0, .slice none 0 0]), 6, 80) := by kernel_rfl

def ToRel (g n : Nat) (ns : List Nd) (w : World) (i : Value) (wr : World) : Prop :=
  ∃ k : Nat, k ≤ ns.length ∧ i = .int .i64 k ∧ (∃ cur : Array Value, wr.heap[g]? = some (.cells cur 47 (0, 0)) ∧ cur.size = n * 6) ∧ NodeRow wr g ns k ∧ Below w.heap.size w wr

set_option maxHeartbeats 2000000 in
set_option maxRecDepth 100000 in
theorem toNodes_any (A : Option Addr) (c : Nat) (ns : List Nd) (w : World) (hlen : ns.length + bulks ns ≤ 1048576) (hN : Nodes w w.heap.size A ns) :
    Calls Tryz.prog 89 #[.slice A ns.length c] w fun e w' => ∃ A' c', e = .returned (.slice A' ns.length c') ∧ NodesIn w' w.heap.size w'.heap.size A' ns ∧ Below w.heap.size w w' := by
  obtain ⟨i0, hi, hz0, hz1, hz2⟩ := info_parts Tryz.infoNode
  have HN := Lib.hid hN
  clear hN
  go_enter Tryz.func89, Tryz.ntmps89
  go_wp2_with (at_make; refine wpList_make_full _ rfl _ _ 25 rfl w.heap.size 47 i0 _ 6 Tryz.underlying25 hi hz0 hz1 _ _ _ _ ns.length rfl rfl rfl rfl (by rw [hz2]; omega) (by unfold maxLen; omega) (Nat.le_refl _) ?_; intro w0 hown0 hgrow0)
  have hb0 : Below w.heap.size w w0 := (Below.refl _ _).grown hgrow0 (Nat.le_refl _) (fun k h => by cases h)
  have hc0 : ∃ cur : Array Value, w0.heap[w.heap.size]? = some (.cells cur 47 (0, 0)) ∧ cur.size = ns.length * 6 := by
    rcases hown0.2 with ⟨h, _⟩ | ⟨g, cap, cur, hv, _, hg, _, _, hs, _⟩
    · cases h
    · injection hv with h1 h2 h3
      injection h1 with h1
      injection h1 with h1
      subst h1 h3
      exact ⟨cur, hg, hs⟩
  clear hown0 hgrow0
  have HC := Lib.hid hc0
  clear hc0
  go_wp2
  go_loopw [4] (ToRel w.heap.size ns.length ns w) (fun i _ => ns.length - (intOf i).toNat)
  case atStart => exact ⟨0, Nat.zero_le _, rfl, HC.out, fun j hj => absurd hj (by omega), hb0⟩
  case round =>
    obtain ⟨k, hk, rfl, ⟨cur, hcur, hsz⟩, hrow, hbel⟩ := hrel
    clear hb0 HC
    by_cases hlt : k < ns.length
    · obtain ⟨b, o, sa, sc, ka, kc, rfl, hbb, hs, hn1, hn2⟩ := HN.out k hlt
      have hs' := hs.move (w' := wr) fun i => hbel.cell (p := ⟨b, i, none⟩) hbb
      have hbk : bulkOf ns[k] ≤ bulks ns := by have h1 := bulks_take hlt; have h2 := bulks_le ns (k + 1); omega
      unfold bulkOf at hbk
      have cN := toNode_any ns[k] sa sc ka kc wr (by omega) (by omega) ((hn1.below hbel).up hbel.size) ((hn2.below hbel).up hbel.size)
      obtain ⟨nd, hnd⟩ : ∃ nd, ns[k] = nd := ⟨_, rfl⟩
      rw [hnd] at hs' cN
      obtain ⟨c0, c1, c2, c3, c4, c5⟩ := hs'
      unfold ndv at cN
      have HD := Lib.hid hnd
      have HR := Lib.hid hrow
      have HU := Lib.hid hcur
      have hgl : w.heap.size < wr.heap.size := (Array.getElem?_eq_some_iff.1 hcur).1
      clear hs hnd hn1 hn2 hbk hrow hcur
      go_wp2_with fail
      refine cN.mono ?_
      rintro e w2 ⟨sa', sc', ka', kc', rfl, F1, F2, N1, N2, b2⟩
      have hcur2 := (b2.block _ hgl).trans HU.out
      have R2 := HR.out.below hgl b2
      have B2 : Below w.heap.size w w2 := hbel.trans (b2.mono hbel.size)
      have z2 := b2.size
      have ex : ∀ i, i < 6 → ∃ u, w2.cell? ⟨w.heap.size, k * 6 + i, none⟩ = some u := fun i hi6 => by
        rw [cell_of_row _ _ _ _ _ _ hcur2]
        exact ⟨_, Array.getElem?_eq_getElem (by omega)⟩
      obtain ⟨x0, e0⟩ := ex 0 (by omega)
      obtain ⟨x1, e1⟩ := ex 1 (by omega)
      obtain ⟨x2, e2⟩ := ex 2 (by omega)
      obtain ⟨x3, e3⟩ := ex 3 (by omega)
      obtain ⟨x4, e4⟩ := ex 4 (by omega)
      obtain ⟨x5, e5⟩ := ex 5 (by omega)
      rw [Nat.add_zero] at e0
      have hf : ∀ j, w2.frozen? ⟨w.heap.size, j, none⟩ = false := fun j => frozen_of_row w2 w.heap.size j _ _ hcur2
      have HU2 := Lib.hid hcur2
      have HR2 := Lib.hid R2
      have HB2 := Lib.hid B2
      have HF1 := Lib.hid F1
      have HF2 := Lib.hid F2
      have HN1 := Lib.hid N1
      have HN2 := Lib.hid N2
      clear cN b2 HR HU ex c0 c1 c2 c3 c4 c5 hcur2 R2 B2 F1 F2 N1 N2 hbel
      go_wp2
      go_roundw
      case rel =>
        obtain ⟨⟨cur', hcur', hsz'⟩, ⟨d0, d1, d2, d3, d4, d5⟩, dO⟩ := six_write HU2.out (o := k * 6) (by omega) (.int .i64 nd.kind) (.int .i64 nd.lo) (.int .i64 nd.hi) (.bool nd.neg) (.slice sa' nd.set.length sc') (.slice ka' nd.kids.length kc') _ rfl
        have keep : ∀ b, w.heap.size + 1 ≤ b → b < w2.heap.size → _ := fun b h1 _ => set6_block w2 w.heap.size (k * 6) (k * 6 + 1) (k * 6 + 2) (k * 6 + 3) (k * 6 + 4) (k * 6 + 5) (.int .i64 nd.kind) (.int .i64 nd.lo) (.int .i64 nd.hi) (.bool nd.neg) (.slice sa' nd.set.length sc') (.slice ka' nd.kids.length kc') b (by omega)
        refine ⟨k + 1, hlt, by go_num, ⟨cur', hcur', by omega⟩, fun j hj hl => ?_, below6 HB2.out (Nat.le_refl _) _ _ _ _ _ _ _ _ _ _ _ _⟩
        by_cases hjk : j = k
        · subst hjk
          rw [HD.out]
          exact ⟨sa', sc', ka', kc', ⟨d0, d1, d2, d3, d4, d5⟩, HF1.out.le (by omega), HF2.out.le (by omega), HN1.out.keep (HF1.out.le (by omega)) (by simp only [setCell_size']; exact Nat.le_refl _) keep, HN2.out.keep (HF2.out.le (by omega)) (by simp only [setCell_size']; exact Nat.le_refl _) keep⟩
        · obtain ⟨sa1, sc1, ka1, kc1, h1, h2, h3, h4, h5⟩ := HR2.out j (by omega) hl
          exact ⟨sa1, sc1, ka1, kc1, ⟨(dO _ (by omega)).trans h1.c0, (dO _ (by omega)).trans h1.c1, (dO _ (by omega)).trans h1.c2, (dO _ (by omega)).trans h1.c3, (dO _ (by omega)).trans h1.c4, (dO _ (by omega)).trans h1.c5⟩, h2, h3,
            h4.keep h2 (by simp only [setCell_size']; exact Nat.le_refl _) keep, h5.keep h3 (by simp only [setCell_size']; exact Nat.le_refl _) keep⟩
      case measure => simp [intOf]; omega
    · have hkn : k = ns.length := by omega
      have HK := Lib.hid hkn
      have HR := Lib.hid hrow
      have hgl : w.heap.size < wr.heap.size := (Array.getElem?_eq_some_iff.1 hcur).1
      clear hkn hrow hcur
      go_wp2
      go_ret
      refine ⟨some ⟨w.heap.size, 0, none⟩, ns.length, rfl, ?_, hbel⟩
      have := HR.out
      rw [HK.out] at this
      exact this.nodesIn hgl

set_option maxHeartbeats 2000000 in
theorem toRx_any (A : Option Addr) (c : Nat) (ns : List Nd) (w : World) (hlen : ns.length + bulks ns ≤ 1048576) (hN : Nodes w w.heap.size A ns) :
    Calls Tryz.prog 41 #[.agg #[.slice A ns.length c]] w fun e w' => ∃ A' c', e = .returned (.agg #[.slice A' ns.length c']) ∧ NodesIn w' w.heap.size w'.heap.size A' ns ∧ Below w.heap.size w w' := by
  have HN := Lib.hid hN
  clear hN
  go_enter Tryz.func41, Tryz.ntmps41
  go_wp2_with fail
  refine (toNodes_any A c ns _ hlen ((HN.out.below (below3 w _ _ _)).up (below3 w _ _ _).size)).mono ?_
  rintro e w1 ⟨A1, c1, rfl, N1, b1⟩
  have B1 : Below w.heap.size w w1 := (below3 w _ _ _).trans (b1.mono (by simp; omega))
  have z1 := b1.size
  rw [alloc3_size] at z1
  have X1 : w1.heap[w.heap.size + 1]? = some (.cells #[.slice none 0 0] 27 (0, 0)) := (b1.block _ (by simp)).trans (alloc3_1 w _ _ _)
  have X2 : w1.heap[w.heap.size + 2]? = some (.cells #[.slice none 0 0] 27 (0, 0)) := (b1.block _ (by simp)).trans (alloc3_2 w _ _ _)
  rw [alloc3_size] at N1
  have x1 : w1.cell? ⟨w.heap.size + 1, 0, none⟩ = some (.slice none 0 0) := by rw [cell_of_row _ _ _ _ _ _ X1]; rfl
  have x2 : w1.cell? ⟨w.heap.size + 2, 0, none⟩ = some (.slice none 0 0) := by rw [cell_of_row _ _ _ _ _ _ X2]; rfl
  have f1 := frozen_of_row w1 (w.heap.size + 1) 0 _ _ X1
  have f2 := frozen_of_row w1 (w.heap.size + 2) 0 _ _ X2
  have HX1 := Lib.hid X1
  have HN1 := Lib.hid N1
  have HB := Lib.hid B1
  clear X1 X2 N1 B1 b1
  go_wp2
  refine bodyPost_ret (v := .agg #[.slice A1 ns.length c1]) ?_ rfl ?_
  · have h1 : (w1.setCell ⟨w.heap.size + 2, 0, none⟩ (.slice A1 ns.length c1)).heap[w.heap.size + 1]? = _ := (Below.heap_setCell _ _ _ _ (by show w.heap.size + 1 ≠ w.heap.size + 2; omega)).trans HX1.out
    have h2 := heap_setCell_same _ (w.heap.size + 1) 0 _ _ (.slice A1 ns.length c1) h1
    exact results_cell_row Tryz.results41 _ _ (w.heap.size + 1) _ #[.slice A1 ns.length c1] _ _ rfl h2 Tryz.underlying27 rfl (by kernel_rfl)
  · refine ⟨A1, c1, rfl, ?_, (HB.out.setCell (p := ⟨w.heap.size + 2, 0, none⟩) (by simp) _).setCell (p := ⟨w.heap.size + 1, 0, none⟩) (by simp) _⟩
    exact (HN1.out.keep (by simp only [setCell_size']; exact Nat.le_refl _) fun b hb hlt => by
      rw [Below.heap_setCell _ _ _ _ (by show b ≠ w.heap.size + 1; omega), Below.heap_setCell _ _ _ _ (by show b ≠ w.heap.size + 2; omega)]).le (by omega)

set_option maxHeartbeats 2000000 in
set_option maxRecDepth 100000 in
theorem eqNode_any (nd : Nd) (sa sa' : Option Addr) (sc sc' : Nat) (ka ka' : Option Addr) (kc kc' : Nat) (w : World) (h1 : nd.set.length ≤ 1048576) (h2 : nd.kids.length ≤ 1048576) (hS : Nums .i64 w w.heap.size sa nd.set) (hK : Nums .i64 w w.heap.size ka nd.kids)
    (hS' : Nums .i64 w w.heap.size sa' nd.set) (hK' : Nums .i64 w w.heap.size ka' nd.kids) :
    Calls Tryz.prog 131 #[ndv nd sa sc ka kc, ndv nd sa' sc' ka' kc'] w fun e w' => e = .returned (.bool true) ∧ Below w.heap.size w w' := by
  unfold ndv
  have B0 : ∀ a b, Below w.heap.size w ((w.alloc a).alloc b) := fun a b => ((Below.refl _ _).alloc (Nat.le_refl _) _).alloc (by simp) _
  have HS := Lib.hid (And.intro hS hS')
  have HK := Lib.hid (And.intro hK hK')
  clear hS hS' hK hK'
  go_enter Tryz.func131, Tryz.ntmps131
  go_wp2_with fail
  refine (eqInts_any _ _ _ _ nd.set _ h1 ((HS.out.1.below (B0 _ _)).up (B0 _ _).size) ((HS.out.2.below (B0 _ _)).up (B0 _ _).size)).mono ?_
  rintro e w1 ⟨rfl, b1⟩
  have B1 : Below w.heap.size w w1 := (B0 _ _).trans (b1.mono (by simp; omega))
  have X0 : Six w1 w.heap.size 47 _ _ _ _ _ _ := (b1.block _ (by simp; omega)).trans (heap_alloc2_old w _ _)
  have X1 : Six w1 (w.heap.size + 1) 47 _ _ _ _ _ _ := (b1.block _ (by simp)).trans (heap_alloc2_new w _ _)
  obtain ⟨x0, x1, x2, x3, x4, x5⟩ := X0.cells
  obtain ⟨y0, y1, y2, y3, y4, y5⟩ := X1.cells
  clear b1 X0 X1
  go_wp2_with fail
  refine (eqInts_any _ _ _ _ nd.kids _ h2 ((HK.out.1.below B1).up B1.size) ((HK.out.2.below B1).up B1.size)).mono ?_
  rintro e w2 ⟨rfl, b2⟩
  clear x0 x1 x2 x3 x4 x5 y0 y1 y2 y3 y4 y5
  go_wp2
  go_ret
  exact ⟨rfl, B1.trans (b2.mono B1.size)⟩

set_option maxHeartbeats 2000000 in
set_option maxRecDepth 100000 in
theorem eqNodes_any (A A' : Option Addr) (c c' : Nat) (ns : List Nd) (w : World) (hlen : ns.length + bulks ns ≤ 1048576) (hN : Nodes w w.heap.size A ns) (hN' : Nodes w w.heap.size A' ns) :
    Calls Tryz.prog 90 #[.slice A ns.length c, .slice A' ns.length c'] w fun e w' => e = .returned (.bool true) ∧ Below w.heap.size w w' := by
  go_enter Tryz.func90, Tryz.ntmps90
  go_wp2
  go_loopw [5] (fun i wr => ∃ k : Nat, k ≤ ns.length ∧ i = .int .i64 k ∧ Below w.heap.size w wr) (fun i _ => ns.length - (intOf i).toNat)
  case atStart => exact ⟨0, Nat.zero_le _, rfl, Below.refl _ _⟩
  case round =>
    obtain ⟨k, hk, rfl, hbel⟩ := hrel
    by_cases hlt : k < ns.length
    · obtain ⟨b, o, sa, sc, ka, kc, rfl, hbb, hs, hn1, hn2⟩ := hN k hlt
      obtain ⟨b', o', sa', sc', ka', kc', rfl, hbb', hs', hn1', hn2'⟩ := hN' k hlt
      have hbk : bulkOf ns[k] ≤ bulks ns := by have h1 := bulks_take hlt; have h2 := bulks_le ns (k + 1); omega
      unfold bulkOf at hbk
      have cE : ∀ W, Below wr.heap.size wr W → Calls Tryz.prog 131 #[ndv ns[k] sa sc ka kc, ndv ns[k] sa' sc' ka' kc'] W _ := fun W hW =>
        have hB := hbel.trans (hW.mono hbel.size)
        eqNode_any ns[k] sa sa' sc sc' ka ka' kc kc' W (by omega) (by omega) ((hn1.below hB).up hB.size) ((hn2.below hB).up hB.size) ((hn1'.below hB).up hB.size) ((hn2'.below hB).up hB.size)
      obtain ⟨c0, c1, c2, c3, c4, c5⟩ := hs.move (w' := wr) fun i => hbel.cell (p := ⟨b, i, none⟩) hbb
      obtain ⟨d0, d1, d2, d3, d4, d5⟩ := hs'.move (w' := wr) fun i => hbel.cell (p := ⟨b', i, none⟩) hbb'
      obtain ⟨nd, hnd⟩ : ∃ nd, ns[k] = nd := ⟨_, rfl⟩
      rw [hnd] at cE c0 c1 c2 c3 c4 c5 d0 d1 d2 d3 d4 d5
      unfold ndv at cE
      have hltz : (k : Int) < (ns.length : Int) := by omega
      clear hs hs' hn1 hn2 hn1' hn2' hbk hN hN' hnd
      go_wp2
      go_region_with (go_at_call 131; with_reducible refine (cE _ (Below.refl _ _).drew).mono ?_; rintro e w2 ⟨rfl, b2⟩)
      all_goals
        have B2 : Below w.heap.size w w2 := hbel.trans ((Below.refl _ _).drew.trans (b2.mono (Nat.le_refl _)) |>.mono hbel.size)
        clear b2
        go_wp2
        go_roundw
        case rel => exact ⟨k + 1, hlt, by go_num, B2⟩
        case measure => simp [intOf]; omega
    · go_wp2
      go_ret
      exact ⟨rfl, hbel⟩

set_option maxHeartbeats 1000000 in
theorem eqRx_any (A A' : Option Addr) (c c' : Nat) (ns : List Nd) (w : World) (hlen : ns.length + bulks ns ≤ 1048576) (hN : Nodes w w.heap.size A ns) (hN' : Nodes w w.heap.size A' ns) :
    Calls Tryz.prog 42 #[.agg #[.slice A ns.length c], .agg #[.slice A' ns.length c']] w fun e w' => e = .returned (.bool true) ∧ Below w.heap.size w w' := by
  have B0 : ∀ a b, Below w.heap.size w ((w.alloc a).alloc b) := fun a b => ((Below.refl _ _).alloc (Nat.le_refl _) _).alloc (by simp) _
  have HN := Lib.hid hN
  have HN' := Lib.hid hN'
  clear hN hN'
  go_enter Tryz.func42, Tryz.ntmps42
  go_wp2_with fail
  refine (eqNodes_any _ _ _ _ ns _ hlen ((HN.out.below (B0 _ _)).up (B0 _ _).size) ((HN'.out.below (B0 _ _)).up (B0 _ _).size)).mono ?_
  rintro e w1 ⟨rfl, b1⟩
  go_wp2
  go_ret
  exact ⟨rfl, (B0 _ _).trans (b1.mono (by simp; omega))⟩

end Go.Proofs.YtdkjfppjbkdelaaGreatDoor
