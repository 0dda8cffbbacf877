/- The end of a region that draws its order and lays a decimal: an allocation, a store, an assignment. No condition beyond what each theorem states. -/
import Derived.Test.YtpkmhojcccpolaaDoorKept2
import Derived.Test.YtpkmhojcccpolaaDoorDecPlain
import Derived.Laws.Tables
namespace Go.Proofs.YtpkmhojcccpolaaDoor
set_option linter.unusedVariables false
open Go.RowKit

theorem Tryd.sizeDec : (Tryd.prog.info? 26).map (·.size) = some 3 := by kernel_rfl
section
variable {ops : Array Oper} {Q : Exit → Act → World → Prop} {S : World → Prop} {listed : Array Bool}

theorem wp_alloc_dec {d : Option Tmp} {t : TypeId} {p : String} {e : Array Edge} {a : Act} {w : World} {K : Act → World → Prop}
    (h : K (a.put d (.pointer (some ⟨w.heap.size, 0, none⟩))) (w.alloc (.cells #[.bool false, .string ⟨#[]⟩, .int .i64 0] 26))) : (⟨d, .alloc 26, t, p, e, none⟩ : Oper).wp Tryd.prog a w K Q := by
  go_simp
  exact h
theorem wp_store_dec {d : Option Tmp} {t : TypeId} {p : String} {e : Array Edge} {a : Act} {w : World} {K : Act → World → Prop} {x y : Operand} {g : Nat} {n rn : Bool} {s rs : ByteArray} {f re : Int}
    (hx : a.eval x = .pointer (some ⟨g, 0, none⟩)) (hy : a.eval y = .agg #[.bool rn, .string rs, .int .i64 re]) (hg : DecAt w g n s f)
    (h : K (a.put d undef) (w.setRow g #[.bool rn, .string rs, .int .i64 re])) : (⟨d, .store 26 x y, t, p, e, none⟩ : Oper).wp Tryd.prog a w K Q :=
  wp_store_row 26 x y rfl g #[.bool rn, .string rs, .int .i64 re] hx hy _ _ hg Tryd.sizeDec rfl (by simp [Value.oneCell']) h

set_option maxRecDepth 100000 in
theorem tail_dec {a : Act} {k0 k1 k2 : Nat} {d0 d2 t2 : Tmp} {ta tb tc : TypeId} {pa pb pc : String} {ea eb ec : Array Edge} {x y : Operand} {rn : Bool} {rs : ByteArray} {re : Int} (B : Nat) (A : Nat → Act)
    (SST : Stable S) (hB : ∀ W, S W → B ≤ W.heap.size) (hrow : ∀ W g E, B ≤ g → S W → S (W.setRow g E))
    (oa : ops[k0]? = some ⟨some d0, .alloc 26, ta, pa, ea, none⟩) (ob : ops[k1]? = some ⟨none, .store 26 x y, tb, pb, eb, none⟩) (oc : ops[k2]? = some ⟨some d2, .assign (.tmp t2), tc, pc, ec, none⟩)
    (r0 : Region.ready .any ops listed = [k0]) (r1 : Region.ready .any ops (listed.setIfInBounds k0 true) = [k1]) (r2 : Region.ready .any ops ((listed.setIfInBounds k0 true).setIfInBounds k1 true) = [k2])
    (r3 : Region.ready .any ops (((listed.setIfInBounds k0 true).setIfInBounds k1 true).setIfInBounds k2 true) = [])
    (p1 : ∀ g, a.put (some d0) (.pointer (some ⟨g, 0, none⟩)) = A g)
    (x1 : ∀ g, (A g).eval x = .pointer (some ⟨g, 0, none⟩)) (y1 : ∀ g, (A g).eval y = .agg #[.bool rn, .string rs, .int .i64 re])
    (fin : ∀ g W, B ≤ g → S W → DecAt W g rn rs re → Q .normal { tmps := (A g).tmps.setIfInBounds d2 ((A g).tmps[t2]?.getD undef), defers := (A g).defers } W) :
    Orders2 Tryd.prog .any ops Q S 3 listed a (fun _ => True) := by
  refine Orders2.one (k := k0) r0 oa (fun W sW tW K hK => ?_)
  rw [if_pos (show Region.wanted _ _ = true from rfl)]
  refine wp_alloc_dec ?_
  have hg := hB _ sW
  refine hK _ _ (fun w => DecAt w W.heap.size false ⟨#[]⟩ 0) (fun w1 w2 t hb => t.belowS hb) (SST _ _ sW ((Below.refl _ _).alloc (Nat.le_refl _) _)) (DecAt.new W false ⟨#[]⟩ 0) ?_
  rw [p1]
  clear hK K sW tW
  generalize W.heap.size = g at *
  clear W
  refine Orders2.one (k := k1) r1 ob (fun W sW tW K hK => ?_)
  rw [if_pos (show Region.wanted _ _ = true from rfl)]
  refine wp_store_dec (x1 g) (y1 g) tW ?_
  refine hK _ _ (fun w => DecAt w g rn rs re) (fun w1 w2 t hb => t.belowS hb) (hrow _ _ _ hg sW) (setRow_heap _ _ _ _ _ _ tW) ?_
  clear hK K sW tW W
  change Orders2 _ _ _ _ _ 1 _ (A g) _
  refine Orders2.one (k := k2) r2 oc (fun W sW tW K hK => ?_)
  rw [if_pos (show Region.wanted _ _ = true from rfl)]
  go_simp
  refine hK _ _ (fun w => DecAt w g rn rs re) (fun w1 w2 t hb => t.belowS hb) sW tW ?_
  exact Orders2.done r3 (fun W sW tW => fin g W hg sW tW)
end

theorem heldLrow {w0 w : World} {a b g : Nat} {n n2 : Bool} {s s2 : ByteArray} {e e2 : Int} (C : Array Value) (h : LDecAt w a n s e ∧ LDecAt w b n2 s2 e2 ∧ Below w0.heap.size w0 w) (ha : a ≠ g) (hb : b ≠ g) (h0 : w0.heap.size ≤ g) :
    LDecAt (w.setRow g C) a n s e ∧ LDecAt (w.setRow g C) b n2 s2 e2 ∧ Below w0.heap.size w0 (w.setRow g C) :=
  ⟨(setRow_other _ _ _ _ ha).trans h.1, (setRow_other _ _ _ _ hb).trans h.2.1, h.2.2.trans ⟨rfl, rfl, rfl, by simp, fun k hk => setRow_other w g k C (by omega)⟩⟩
theorem heldM {w0 w w' : World} {a b c : Nat} {n n2 n3 : Bool} {s s2 s3 : ByteArray} {e e2 e3 : Int} (h : LDecAt w a n s e ∧ LDecAt w b n2 s2 e2 ∧ DecAt w c n3 s3 e3 ∧ Below w0.heap.size w0 w) (hb : Below w.heap.size w w') :
    LDecAt w' a n s e ∧ LDecAt w' b n2 s2 e2 ∧ DecAt w' c n3 s3 e3 ∧ Below w0.heap.size w0 w' := ⟨h.1.belowS hb, h.2.1.belowS hb, h.2.2.1.belowS hb, below_kept h.2.2.2 (Nat.le_refl _) hb⟩
theorem heldMrow {w0 w : World} {a b c g : Nat} {n n2 n3 : Bool} {s s2 s3 : ByteArray} {e e2 e3 : Int} (C : Array Value) (h : LDecAt w a n s e ∧ LDecAt w b n2 s2 e2 ∧ DecAt w c n3 s3 e3 ∧ Below w0.heap.size w0 w) (ha : a ≠ g) (hb : b ≠ g) (hc : c ≠ g) (h0 : w0.heap.size ≤ g) :
    LDecAt (w.setRow g C) a n s e ∧ LDecAt (w.setRow g C) b n2 s2 e2 ∧ DecAt (w.setRow g C) c n3 s3 e3 ∧ Below w0.heap.size w0 (w.setRow g C) :=
  ⟨(setRow_other _ _ _ _ ha).trans h.1, (setRow_other _ _ _ _ hb).trans h.2.1, (setRow_other _ _ _ _ hc).trans h.2.2.1, h.2.2.2.trans ⟨rfl, rfl, rfl, by simp, fun k hk => setRow_other w g k C (by omega)⟩⟩

end Go.Proofs.YtpkmhojcccpolaaDoor
