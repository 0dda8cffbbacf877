/- The end of a region that draws its order and lays two naturals: two allocations in either order, then two stores. No condition beyond what each theorem states. -/
import Derived.Test.YthijeckcjfnbcaaGreatDoorImplDec6
namespace Go.Proofs.YthijeckcjfnbcaaGreatDoor
set_option linter.unusedVariables false
open Go.RowKit

theorem topOf_mono {m k : Nat} (h : m ≤ k) : topOf m ≤ topOf k := by unfold topOf; exact Nat.pow_le_pow_right (by omega) h

abbrev natAt0 (w : World) (g : Nat) (C : Array Value) : Prop := w.heap[g]? = some (.cells C 45 (0, 0))
theorem natAt0.kept {w w' : World} {g : Nat} {C : Array Value} (h : natAt0 w g C) (hb : Below w.heap.size w w') : natAt0 w' g C := (hb.block _ (Array.getElem?_eq_some_iff.1 h).1).trans h
theorem natAt0.lt {w : World} {g : Nat} {C : Array Value} (h : natAt0 w g C) : g < w.heap.size := (Array.getElem?_eq_some_iff.1 h).1

section
variable {ops : Array Oper} {Q : Exit → Act → World → Prop} {S : World → Prop} {listed : Array Bool}

theorem tail_stores {kc kd : Nat} {tc td : TypeId} {pc pd : String} {ec ed : Array Edge} {xc yc xd yd : Operand} {C D : Array Value} {vc nc vd nd : Nat} {A : Act} {g h : Nat}
    (SST : Stable S) (rowG : ∀ W, S W → S (W.setRow g C)) (rowH : ∀ W, S W → S (W.setRow h D)) (hgh : g ≠ h) (IC : IsNat C vc nc) (ID : IsNat D vd nd)
    (oc : ops[kc]? = some ⟨none, .store 45 xc yc, tc, pc, ec, none⟩) (od : ops[kd]? = some ⟨none, .store 45 xd yd, td, pd, ed, none⟩)
    (r3 : Region.ready .any ops listed = [kc]) (r4 : Region.ready .any ops (listed.setIfInBounds kc true) = [kd]) (r5 : Region.ready .any ops ((listed.setIfInBounds kc true).setIfInBounds kd true) = [])
    (x1 : A.eval xc = .pointer (some ⟨g, 0, none⟩)) (y1 : A.eval yc = .agg C) (x2 : A.eval xd = .pointer (some ⟨h, 0, none⟩)) (y2 : A.eval yd = .agg D)
    (fin : ∀ W, S W → natAt0 W g C → natAt0 W h D → Q .normal A W) :
    Orders2 Tryz.prog .any ops Q S 2 listed A (fun w => natAt0 w g zeroCells ∧ natAt0 w h zeroCells) := by
  refine Orders2.one (k := kc) r3 oc (fun W sW tW K hK => ?_)
  rw [if_pos (show Region.wanted _ _ = true from rfl)]
  refine wp_store_row 45 _ _ rfl g C x1 y1 _ zeroCells tW.1 (by rw [IC.size]; exact Tryz.sizeNat) (by rw [zero_is.size, IC.size]) IC.one ?_
  refine hK _ _ (fun w => natAt0 w g C ∧ natAt0 w h zeroCells) (fun w1 w2 t hb => ⟨t.1.kept hb, t.2.kept hb⟩) (rowG _ sW) ⟨setRow_heap _ _ _ _ _ _ tW.1, (setRow_other _ _ _ _ (Ne.symm hgh)).trans tW.2⟩ ?_
  clear hK K sW tW W
  change Orders2 _ _ _ _ _ 1 _ A _
  refine Orders2.one (k := kd) r4 od (fun W sW tW K hK => ?_)
  rw [if_pos (show Region.wanted _ _ = true from rfl)]
  refine wp_store_row 45 _ _ rfl h D x2 y2 _ zeroCells tW.2 (by rw [ID.size]; exact Tryz.sizeNat) (by rw [zero_is.size, ID.size]) ID.one ?_
  refine hK _ _ (fun w => natAt0 w g C ∧ natAt0 w h D) (fun w1 w2 t hb => ⟨t.1.kept hb, t.2.kept hb⟩) (rowH _ sW) ⟨(setRow_other _ _ _ _ hgh).trans tW.1, setRow_heap _ _ _ _ _ _ tW.2⟩ ?_
  exact Orders2.done r5 (fun W sW tW => fin W sW tW.1 tW.2)

theorem wp_alloc_nat {d : Option Tmp} {t : TypeId} {p : String} {e : Array Edge} {a : Act} {w : World} {K : Act → World → Prop}
    (h : K (a.put d (.pointer (some ⟨w.heap.size, 0, none⟩))) (w.alloc (.cells zeroCells 45))) : (⟨d, .alloc 45, t, p, e, none⟩ : Oper).wp Tryz.prog a w K Q := by
  have hz := Tryz.zeroNat
  go_simp
  exact h

set_option maxRecDepth 100000 in
theorem tail_two {a : Act} {ka kb kc kd : Nat} {da db : Tmp} {ta tb tc td : TypeId} {pa pb pc pd : String} {ea eb ec ed : Array Edge} {xc yc xd yd : Operand} {C D : Array Value} {vc nc vd nd : Nat} (B : Nat) (A : Nat → Nat → Act)
    (SST : Stable S) (hB : ∀ W, S W → B ≤ W.heap.size) (hrow : ∀ W g E, B ≤ g → S W → S (W.setRow g E)) (IC : IsNat C vc nc) (ID : IsNat D vd nd)
    (oa : ops[ka]? = some ⟨some da, .alloc 45, ta, pa, ea, none⟩) (ob : ops[kb]? = some ⟨some db, .alloc 45, tb, pb, eb, none⟩)
    (oc : ops[kc]? = some ⟨none, .store 45 xc yc, tc, pc, ec, none⟩) (od : ops[kd]? = some ⟨none, .store 45 xd yd, td, pd, ed, none⟩)
    (hne : kb ≠ ka) (r0 : Region.ready .any ops listed = [ka, kb]) (r1 : Region.ready .any ops (listed.setIfInBounds ka true) = [kb]) (r2 : Region.ready .any ops (listed.setIfInBounds kb true) = [ka])
    (r3 : Region.ready .any ops ((listed.setIfInBounds ka true).setIfInBounds kb true) = [kc]) (r4 : Region.ready .any ops (((listed.setIfInBounds ka true).setIfInBounds kb true).setIfInBounds kc true) = [kd])
    (r5 : Region.ready .any ops ((((listed.setIfInBounds ka true).setIfInBounds kb true).setIfInBounds kc true).setIfInBounds kd true) = [])
    (p1 : ∀ g h, (a.put (some da) (.pointer (some ⟨g, 0, none⟩))).put (some db) (.pointer (some ⟨h, 0, none⟩)) = A g h) (p2 : ∀ g h, (a.put (some db) (.pointer (some ⟨h, 0, none⟩))).put (some da) (.pointer (some ⟨g, 0, none⟩)) = A g h)
    (x1 : ∀ g h, (A g h).eval xc = .pointer (some ⟨g, 0, none⟩)) (y1 : ∀ g h, (A g h).eval yc = .agg C) (x2 : ∀ g h, (A g h).eval xd = .pointer (some ⟨h, 0, none⟩)) (y2 : ∀ g h, (A g h).eval yd = .agg D)
    (fin : ∀ g h W, g ≠ h → B ≤ g → B ≤ h → S W → natAt0 W g C → natAt0 W h D → Q .normal (A g h) W) :
    Orders2 Tryz.prog .any ops Q S 4 listed a (fun _ => True) := by
  refine Orders2.two r0 (fun W sW _ => Orders2.walk oa fun K hK => ?_) (fun W sW _ => Orders2.walk ob fun K hK => ?_)
  all_goals
    rw [if_pos (show Region.wanted _ _ = true from rfl)]
    refine wp_alloc_nat ?_
    have hg := hB _ sW
    refine hK _ _ (fun w => natAt0 w W.heap.size zeroCells) (fun w1 w2 t hb => t.kept hb) (SST _ _ sW ((Below.refl _ _).alloc (Nat.le_refl _) _)) (heap_alloc_new W _) ?_
    clear hK K sW
    generalize W.heap.size = g at *
    clear W
  · refine Orders2.one (k := kb) r1 ob (fun W sW tW K hK => ?_)
    rw [if_pos (show Region.wanted _ _ = true from rfl)]
    refine wp_alloc_nat ?_
    have hh := hB _ sW
    have hgh : g ≠ W.heap.size := Nat.ne_of_lt tW.lt
    refine hK _ _ (fun w => natAt0 w g zeroCells ∧ natAt0 w W.heap.size zeroCells) (fun w1 w2 t hb => ⟨t.1.kept hb, t.2.kept hb⟩) (SST _ _ sW ((Below.refl _ _).alloc (Nat.le_refl _) _)) ⟨tW.kept ((Below.refl _ _).alloc (Nat.le_refl _) _), heap_alloc_new W _⟩ ?_
    rw [p1]
    exact tail_stores SST (fun W' s => hrow W' g C hg s) (fun W' s => hrow W' _ D hh s) hgh IC ID oc od r3 r4 r5 (x1 _ _) (y1 _ _) (x2 _ _) (y2 _ _) (fun W' s t1 t2 => fin _ _ W' hgh hg hh s t1 t2)
  · refine Orders2.one (k := ka) r2 oa (fun W sW tW K hK => ?_)
    rw [if_pos (show Region.wanted _ _ = true from rfl)]
    refine wp_alloc_nat ?_
    have hh := hB _ sW
    have hgh : W.heap.size ≠ g := Ne.symm (Nat.ne_of_lt tW.lt)
    refine hK _ _ (fun w => natAt0 w W.heap.size zeroCells ∧ natAt0 w g zeroCells) (fun w1 w2 t hb => ⟨t.1.kept hb, t.2.kept hb⟩) (SST _ _ sW ((Below.refl _ _).alloc (Nat.le_refl _) _)) ⟨heap_alloc_new W _, tW.kept ((Below.refl _ _).alloc (Nat.le_refl _) _)⟩ ?_
    rw [p2, Array.setIfInBounds_comm _ _ hne]
    exact tail_stores SST (fun W' s => hrow W' _ C hh s) (fun W' s => hrow W' g D hg s) hgh IC ID oc od r3 r4 r5 (x1 _ _) (y1 _ _) (x2 _ _) (y2 _ _) (fun W' s t1 t2 => fin _ _ W' hgh hh hg s t1 t2)
end

/-- Worlds that hold two decimals and the answer's; and a natural beside them. -/
theorem held4row {w0 w : World} {a b c g : Nat} {n n2 n3 : Bool} {s s2 s3 : ByteArray} {e e2 e3 : Int} (C : Array Value) (h : DecAt w a n s e ∧ DecAt w b n2 s2 e2 ∧ DecAt w c n3 s3 e3 ∧ Below w0.heap.size w0 w) (ha : a ≠ g) (hb : b ≠ g) (hc : c ≠ g) (h0 : w0.heap.size ≤ g) :
    DecAt (w.setRow g C) a n s e ∧ DecAt (w.setRow g C) b n2 s2 e2 ∧ DecAt (w.setRow g C) c n3 s3 e3 ∧ Below w0.heap.size w0 (w.setRow g C) :=
  ⟨(setRow_other _ _ _ _ ha).trans h.1, (setRow_other _ _ _ _ hb).trans h.2.1, (setRow_other _ _ _ _ hc).trans h.2.2.1, below_row h.2.2.2 h0 _⟩
theorem held5 {w0 w w' : World} {a b c g v l : Nat} {n n2 n3 : Bool} {s s2 s3 : ByteArray} {e e2 e3 : Int} (h : DecAt w a n s e ∧ DecAt w b n2 s2 e2 ∧ DecAt w c n3 s3 e3 ∧ NatAt w g v l ∧ Below w0.heap.size w0 w) (hb : Below w.heap.size w w') :
    DecAt w' a n s e ∧ DecAt w' b n2 s2 e2 ∧ DecAt w' c n3 s3 e3 ∧ NatAt w' g v l ∧ Below w0.heap.size w0 w' := ⟨h.1.belowS hb, h.2.1.belowS hb, h.2.2.1.belowS hb, h.2.2.2.1.below hb h.2.2.2.1.lt, below_kept h.2.2.2.2 (Nat.le_refl _) hb⟩
/-- A natural is laid in a new block beside them. -/
theorem laid5 {w0 w : World} {a b c v l : Nat} {n n2 n3 : Bool} {s s2 s3 : ByteArray} {e e2 e3 : Int} {E : Array Value} (h : DecAt w a n s e ∧ DecAt w b n2 s2 e2 ∧ DecAt w c n3 s3 e3 ∧ Below w0.heap.size w0 w) (IE : IsNat E v l) :
    DecAt ((w.alloc (.cells zeroCells 45)).setRow w.heap.size E) a n s e ∧ DecAt ((w.alloc (.cells zeroCells 45)).setRow w.heap.size E) b n2 s2 e2 ∧ DecAt ((w.alloc (.cells zeroCells 45)).setRow w.heap.size E) c n3 s3 e3 ∧ NatAt ((w.alloc (.cells zeroCells 45)).setRow w.heap.size E) w.heap.size v l ∧ Below w0.heap.size w0 ((w.alloc (.cells zeroCells 45)).setRow w.heap.size E) := by
  have h1 := held4 h ((Below.refl w.heap.size w).alloc (Nat.le_refl _) (.cells zeroCells 45))
  have h2 := held4row (g := w.heap.size) E h1 (Nat.ne_of_lt h.1.lt) (Nat.ne_of_lt h.2.1.lt) (Nat.ne_of_lt h.2.2.1.lt) h.2.2.2.size
  exact ⟨h2.1, h2.2.1, h2.2.2.1, ⟨E, setRow_heap _ _ _ _ _ _ (heap_alloc_new w _), IE⟩, h2.2.2.2⟩

end Go.Proofs.YthijeckcjfnbcaaGreatDoor
