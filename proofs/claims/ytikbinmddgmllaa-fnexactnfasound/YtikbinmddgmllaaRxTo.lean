/- The law's copying and comparing of a pattern. Conditions: at most 1048576 elements in each row. -/
import Derived.Test.YtikbinmddgmllaaRxMem
namespace Go.Proofs.Ytikbinmddgmllaa
set_option linter.unusedVariables false
open Go.RowKit

section
variable (w : World) (a b c : Obj)
theorem alloc_size1 (w : World) (a : Obj) : (w.alloc a).heap.size = w.heap.size + 1 := by show (w.heap.push a).size = _; simp
theorem alloc3_size : (((w.alloc a).alloc b).alloc c).heap.size = w.heap.size + 3 := by rw [alloc_size1, alloc_size1, alloc_size1]
theorem alloc3_0 : (((w.alloc a).alloc b).alloc c).heap[w.heap.size]? = some a := by
  rw [Below.heap_alloc _ _ _ (by rw [alloc_size1, alloc_size1]; omega), Below.heap_alloc _ _ _ (by rw [alloc_size1]; omega), heap_alloc_new]
theorem alloc3_1 : (((w.alloc a).alloc b).alloc c).heap[w.heap.size + 1]? = some b := by
  rw [Below.heap_alloc _ _ _ (by rw [alloc_size1, alloc_size1]; omega)]
  have := heap_alloc_new (w.alloc a) b
  rwa [alloc_size1] at this
theorem alloc3_2 : (((w.alloc a).alloc b).alloc c).heap[w.heap.size + 2]? = some c := by
  have := heap_alloc_new ((w.alloc a).alloc b) c
  rwa [alloc_size1, alloc_size1] at this
theorem below3 : Below w.heap.size w (((w.alloc a).alloc b).alloc c) := (((Below.refl _ _).alloc (Nat.le_refl _) _).alloc (by simp) _).alloc (by simp; omega) _
end

theorem setCell_size' (w : World) (a : Addr) (v : Value) : (w.setCell a v).heap.size = w.heap.size := by simp [World.setCell]

/-- A struct of six cells lies at block p. -/
def Six (w : World) (p : Nat) (t : TypeId) (v0 v1 v2 v3 v4 v5 : Value) : Prop := w.heap[p]? = some (.cells #[v0, v1, v2, v3, v4, v5] t (0, 0))
section
variable {w w' : World} {p : Nat} {t : TypeId} {v0 v1 v2 v3 v4 v5 : Value}
theorem Six.cells (h : Six w p t v0 v1 v2 v3 v4 v5) : w.cell? ⟨p, 0, none⟩ = some v0 ∧ w.cell? ⟨p, 1, none⟩ = some v1 ∧ w.cell? ⟨p, 2, none⟩ = some v2 ∧ w.cell? ⟨p, 3, none⟩ = some v3 ∧ w.cell? ⟨p, 4, none⟩ = some v4 ∧ w.cell? ⟨p, 5, none⟩ = some v5 := by
  unfold Six at h
  refine ⟨?_, ?_, ?_, ?_, ?_, ?_⟩ <;> rw [cell_of_row w p _ _ _ _ h] <;> rfl
theorem Six.frozen (h : Six w p t v0 v1 v2 v3 v4 v5) (j : Nat) : w.frozen? ⟨p, j, none⟩ = false := frozen_of_row w p j _ _ h
theorem Six.lt (h : Six w p t v0 v1 v2 v3 v4 v5) : p < w.heap.size := (Array.getElem?_eq_some_iff.1 h).1
theorem Six.belowS (h : Six w p t v0 v1 v2 v3 v4 v5) (hb : Below w.heap.size w w') : Six w' p t v0 v1 v2 v3 v4 v5 := (hb.block p h.lt).trans h
theorem Six.set4 (h : Six w p t v0 v1 v2 v3 v4 v5) (u : Value) : Six (w.setCell ⟨p, 4, none⟩ u) p t v0 v1 v2 v3 u v5 := by
  unfold Six at h ⊢; rw [heap_setCell_same w p 4 _ _ _ h]; rfl
theorem Six.set5 (h : Six w p t v0 v1 v2 v3 v4 v5) (u : Value) : Six (w.setCell ⟨p, 5, none⟩ u) p t v0 v1 v2 v3 v4 u := by
  unfold Six at h ⊢; rw [heap_setCell_same w p 5 _ _ _ h]; rfl
theorem Six.setO (h : Six w p t v0 v1 v2 v3 v4 v5) {g j : Nat} (hg : p ≠ g) (u : Value) : Six (w.setCell ⟨g, j, none⟩ u) p t v0 v1 v2 v3 v4 v5 := by
  unfold Six at h ⊢; rw [Below.heap_setCell _ _ _ _ hg]; exact h
theorem Six.set6 (h : Six w p t v0 v1 v2 v3 v4 v5) (u0 u1 u2 u3 u4 u5 : Value) :
    Six ((((((w.setCell ⟨p, 0, none⟩ u0).setCell ⟨p, 1, none⟩ u1).setCell ⟨p, 2, none⟩ u2).setCell ⟨p, 3, none⟩ u3).setCell ⟨p, 4, none⟩ u4).setCell ⟨p, 5, none⟩ u5) p t u0 u1 u2 u3 u4 u5 := by
  unfold Six at h ⊢
  have h0 := heap_setCell_same w p 0 _ _ u0 h
  have h1 := heap_setCell_same _ p 1 _ _ u1 h0
  have h2 := heap_setCell_same _ p 2 _ _ u2 h1
  have h3 := heap_setCell_same _ p 3 _ _ u3 h2
  have h4 := heap_setCell_same _ p 4 _ _ u4 h3
  have h5 := heap_setCell_same _ p 5 _ _ u5 h4
  rw [h5]; rfl
end

/-- Six cells of one block are written, from an offset on: every other block is as it was. -/
theorem set6_block (w : World) (p o0 o1 o2 o3 o4 o5 : Nat) (u0 u1 u2 u3 u4 u5 : Value) (k : Nat) (h : k ≠ p) :
    ((((((w.setCell ⟨p, o0, none⟩ u0).setCell ⟨p, o1, none⟩ u1).setCell ⟨p, o2, none⟩ u2).setCell ⟨p, o3, none⟩ u3).setCell ⟨p, o4, none⟩ u4).setCell ⟨p, o5, none⟩ u5).heap[k]? = w.heap[k]? := by
  rw [Below.heap_setCell _ _ _ _ h, Below.heap_setCell _ _ _ _ h, Below.heap_setCell _ _ _ _ h, Below.heap_setCell _ _ _ _ h, Below.heap_setCell _ _ _ _ h, Below.heap_setCell _ _ _ _ h]
theorem below6 {B : Nat} {w w1 : World} (h : Below B w w1) {p : Nat} (hp : B ≤ p) (o0 o1 o2 o3 o4 o5 : Nat) (u0 u1 u2 u3 u4 u5 : Value) :
    Below B w ((((((w1.setCell ⟨p, o0, none⟩ u0).setCell ⟨p, o1, none⟩ u1).setCell ⟨p, o2, none⟩ u2).setCell ⟨p, o3, none⟩ u3).setCell ⟨p, o4, none⟩ u4).setCell ⟨p, o5, none⟩ u5) :=
  (((((h.setCell hp _).setCell hp _).setCell hp _).setCell hp _).setCell hp _).setCell hp _

/-- A row of numbers that lies from block L on. -/
def From (L : Nat) (A : Option Addr) : Prop := ∀ a, A = some a → L ≤ a.block
theorem Nums.keep {k : IntKind} {w w' : World} {B B' L : Nat} {A : Option Addr} {zs : List Int} (h : Nums k w B A zs) (hA : From L A) (hB : B ≤ B') (hk : ∀ b, L ≤ b → b < B → w'.heap[b]? = w.heap[b]?) : Nums k w' B' A zs := fun j hj => by
  obtain ⟨b, o, e, hb, hc⟩ := h j hj
  exact ⟨b, o, e, by omega, (World.cell?_of_block (a := ⟨b, o + j, none⟩) (hk b (hA _ e) hb)).trans hc⟩
theorem From.le {L L' : Nat} {A : Option Addr} (h : From L A) (hl : L' ≤ L) : From L' A := fun a e => Nat.le_trans hl (h a e)

theorem toInts_new (A : Option Addr) (c : Nat) (zs : List Int) (w : World) (hlen : zs.length ≤ 1048576) (hN : Nums .i64 w w.heap.size A zs) :
    Calls Try.prog 22 #[.slice A zs.length c] w fun e w' => ∃ A' c', e = .returned (.slice A' zs.length c') ∧ From w.heap.size A' ∧ Nums .i64 w' w'.heap.size A' zs ∧ Below w.heap.size w w' :=
  (toInts_any A c zs w hlen hN).mono fun e w' ⟨h1, h2, h3⟩ => ⟨_, _, h1, fun a ha => by injection ha with ha; rw [← ha]; exact Nat.le_refl _, Nums.own h2, h3⟩

/-- Six cells written into a row. -/
theorem six_write {w : World} {g o : Nat} {t : TypeId} {cur : Array Value} (hg : w.heap[g]? = some (.cells cur t (0, 0))) (ho : o + 6 ≤ cur.size) (u0 u1 u2 u3 u4 u5 : Value) (w' : World)
    (hw : w' = ((((((w.setCell ⟨g, o, none⟩ u0).setCell ⟨g, o + 1, none⟩ u1).setCell ⟨g, o + 2, none⟩ u2).setCell ⟨g, o + 3, none⟩ u3).setCell ⟨g, o + 4, none⟩ u4).setCell ⟨g, o + 5, none⟩ u5)) :
    (∃ cur' : Array Value, w'.heap[g]? = some (.cells cur' t (0, 0)) ∧ cur'.size = cur.size) ∧
    (w'.cell? ⟨g, o, none⟩ = some u0 ∧ w'.cell? ⟨g, o + 1, none⟩ = some u1 ∧ w'.cell? ⟨g, o + 2, none⟩ = some u2 ∧ w'.cell? ⟨g, o + 3, none⟩ = some u3 ∧ w'.cell? ⟨g, o + 4, none⟩ = some u4 ∧ w'.cell? ⟨g, o + 5, none⟩ = some u5) ∧
    (∀ q, q < o ∨ o + 6 ≤ q → w'.cell? ⟨g, q, none⟩ = w.cell? ⟨g, q, none⟩) := by
  have h0 := heap_setCell_same w g o _ _ u0 hg
  have h1 := heap_setCell_same _ g (o + 1) _ _ u1 h0
  have h2 := heap_setCell_same _ g (o + 2) _ _ u2 h1
  have h3 := heap_setCell_same _ g (o + 3) _ _ u3 h2
  have h4 := heap_setCell_same _ g (o + 4) _ _ u4 h3
  have h5 := heap_setCell_same _ g (o + 5) _ _ u5 h4
  rw [← hw] at h5
  refine ⟨⟨_, h5, by simp⟩, ?_, fun q hq => ?_⟩
  · refine ⟨?_, ?_, ?_, ?_, ?_, ?_⟩ <;> rw [cell_of_row _ g _ _ _ _ h5] <;> simp [Array.getElem?_setIfInBounds] <;> omega
  · rw [cell_of_row _ g _ _ _ _ h5, cell_of_row _ g _ _ _ _ hg]
    simp only [Array.getElem?_setIfInBounds]
    rw [if_neg (by omega), if_neg (by omega), if_neg (by omega), if_neg (by omega), if_neg (by omega), if_neg (by omega)]

/-- Nodes that lie in a row of their own at block g, all else behind it. -/
def NodeRow (w : World) (g : Nat) (ns : List Nd) (k : Nat) : Prop :=
  ∀ j, j < k → (h : j < ns.length) → ∃ sa sc ka kc, SixAt w g (j * 6) ns[j] sa sc ka kc ∧ From (g + 1) sa ∧ From (g + 1) ka ∧ Nums .i64 w w.heap.size sa ns[j].set ∧ Nums .i64 w w.heap.size ka ns[j].kids

theorem NodeRow.below {w w' : World} {g : Nat} {ns : List Nd} {k : Nat} (h : NodeRow w g ns k) (hg : g < w.heap.size) (hb : Below w.heap.size w w') : NodeRow w' g ns k := fun j hj hl => by
  obtain ⟨sa, sc, ka, kc, h1, h2, h3, h4, h5⟩ := h j hj hl
  exact ⟨sa, sc, ka, kc, h1.move fun i => hb.cell (p := ⟨g, i, none⟩) hg, h2, h3, (h4.below hb).up hb.size, (h5.below hb).up hb.size⟩
theorem NodeRow.nodes {w : World} {g : Nat} {ns : List Nd} (h : NodeRow w g ns ns.length) (hg : g < w.heap.size) : Nodes w w.heap.size (some ⟨g, 0, none⟩) ns := fun j hj => by
  obtain ⟨sa, sc, ka, kc, h1, _, _, h4, h5⟩ := h j hj hj
  exact ⟨g, 0, sa, sc, ka, kc, rfl, hg, by rw [Nat.zero_add]; exact h1, h4, h5⟩

/-- Nodes all of whose memory lies from block L on. -/
def NodesIn (w : World) (L B : Nat) (A : Option Addr) (ns : List Nd) : Prop :=
  ∀ j, (h : j < ns.length) → ∃ b o sa sc ka kc, A = some ⟨b, o, none⟩ ∧ L ≤ b ∧ b < B ∧ SixAt w b (o + j * 6) ns[j] sa sc ka kc ∧ From L sa ∧ From L ka ∧ Nums .i64 w B sa ns[j].set ∧ Nums .i64 w B ka ns[j].kids
theorem NodesIn.nodes {w : World} {L B : Nat} {A : Option Addr} {ns : List Nd} (h : NodesIn w L B A ns) : Nodes w B A ns := fun j hj => by
  obtain ⟨b, o, sa, sc, ka, kc, e, _, hb, h1, _, _, h2, h3⟩ := h j hj
  exact ⟨b, o, sa, sc, ka, kc, e, hb, h1, h2, h3⟩
theorem NodesIn.keep {w w' : World} {L B B' : Nat} {A : Option Addr} {ns : List Nd} (h : NodesIn w L B A ns) (hB : B ≤ B') (hk : ∀ b, L ≤ b → b < B → w'.heap[b]? = w.heap[b]?) : NodesIn w' L B' A ns := fun j hj => by
  obtain ⟨b, o, sa, sc, ka, kc, e, hl, hb, h1, f1, f2, h2, h3⟩ := h j hj
  exact ⟨b, o, sa, sc, ka, kc, e, hl, by omega, h1.move fun i => World.cell?_of_block (a := ⟨b, i, none⟩) (hk b hl hb), f1, f2, h2.keep f1 hB hk, h3.keep f2 hB hk⟩
theorem NodesIn.le {w : World} {L L' B : Nat} {A : Option Addr} {ns : List Nd} (h : NodesIn w L B A ns) (hL : L' ≤ L) : NodesIn w L' B A ns := fun j hj => by
  obtain ⟨b, o, sa, sc, ka, kc, e, hl, hb, h1, f1, f2, h2, h3⟩ := h j hj
  exact ⟨b, o, sa, sc, ka, kc, e, by omega, hb, h1, f1.le hL, f2.le hL, h2, h3⟩
theorem NodeRow.nodesIn {w : World} {g : Nat} {ns : List Nd} (h : NodeRow w g ns ns.length) (hg : g < w.heap.size) : NodesIn w g w.heap.size (some ⟨g, 0, none⟩) ns := fun j hj => by
  obtain ⟨sa, sc, ka, kc, h1, f1, f2, h4, h5⟩ := h j hj hj
  exact ⟨g, 0, sa, sc, ka, kc, rfl, Nat.le_refl _, hg, by rw [Nat.zero_add]; exact h1, f1.le (by omega), f2.le (by omega), h4, h5⟩

end Go.Proofs.Ytikbinmddgmllaa
