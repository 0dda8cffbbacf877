/- The end of a region that draws its order: a code is taken out of a tuple, a decimal is stored where one lies, an assignment. No condition beyond what each theorem states. -/
import Derived.Test.YthijeckcjfnbcaaGreatDoorTailA
namespace Go.Proofs.YthijeckcjfnbcaaGreatDoor
set_option linter.unusedVariables false
open Go.RowKit
section
variable {ops : Array Oper} {Q : Exit → Act → World → Prop} {S : World → Prop} {listed : Array Bool}

set_option maxRecDepth 100000 in
theorem tail_pair {a : Act} {k0 k1 k2 : Nat} {d0 d2 t0 : Tmp} {ta tb tc : TypeId} {pa pb pc : String} {ea eb ec : Array Edge} {x y : Operand} {g : Nat} {n rn : Bool} {s rs : ByteArray} {f re : Int} {u v : Value} (A : Act)
    (SST : Stable S) (hrow : ∀ W E, S W → S (W.setRow g E))
    (oa : ops[k0]? = some ⟨some d0, .extract (.tmp t0) 1, ta, pa, ea, none⟩) (ob : ops[k1]? = some ⟨none, .store 25 x y, tb, pb, eb, none⟩) (oc : ops[k2]? = some ⟨some d2, .assign (.tmp d0), tc, pc, ec, none⟩)
    (r0 : Region.ready .any ops listed = [k0, k1]) (r1 : Region.ready .any ops (listed.setIfInBounds k0 true) = [k1]) (r1' : Region.ready .any ops (listed.setIfInBounds k1 true) = [k0])
    (r2 : Region.ready .any ops ((listed.setIfInBounds k0 true).setIfInBounds k1 true) = [k2]) (r2' : Region.ready .any ops ((listed.setIfInBounds k1 true).setIfInBounds k0 true) = [k2])
    (r3 : Region.ready .any ops (((listed.setIfInBounds k0 true).setIfInBounds k1 true).setIfInBounds k2 true) = []) (r3' : Region.ready .any ops (((listed.setIfInBounds k1 true).setIfInBounds k0 true).setIfInBounds k2 true) = [])
    (e0 : a.tmps[t0]?.getD undef = .tuple #[u, v]) (p1 : ({ tmps := a.tmps.setIfInBounds d0 v, defers := a.defers } : Act) = A)
    (x1 : a.eval x = .pointer (some ⟨g, 0, none⟩)) (y1 : a.eval y = .agg #[.bool rn, .string rs, .int .i64 re]) (x2 : A.eval x = .pointer (some ⟨g, 0, none⟩)) (y2 : A.eval y = .agg #[.bool rn, .string rs, .int .i64 re])
    (fin : ∀ W, S W → DecAt W g rn rs re → Q .normal { tmps := A.tmps.setIfInBounds d2 (A.tmps[d0]?.getD undef), defers := A.defers } W) :
    Orders2 Tryz.prog .any ops Q S 3 listed a (fun W => DecAt W g n s f) := by
  refine Orders2.two (k := k0) (m := k1) r0 (fun W sW tW => ?_) (fun W sW tW => ?_)
  · refine Orders2.walk oa (fun K hK => ?_)
    rw [if_pos (show Region.wanted _ _ = true from rfl)]
    go_simp
    refine hK _ _ (fun w => DecAt w g n s f) (fun w1 w2 t hb => t.belowS hb) sW tW ?_
    clear hK K sW tW W
    refine Orders2.one (k := k1) r1 ob (fun W sW tW K hK => ?_)
    rw [if_pos (show Region.wanted _ _ = true from rfl)]
    refine wp_store_dec x2 y2 tW ?_
    refine hK _ _ (fun w => DecAt w g rn rs re) (fun w1 w2 t hb => t.belowS hb) (hrow _ _ sW) (setRow_heap _ _ _ _ _ _ tW) ?_
    clear hK K sW tW W
    change Orders2 _ _ _ _ _ 1 _ A _
    refine Orders2.one (k := k2) r2 oc (fun W sW tW K hK => ?_)
    rw [if_pos (show Region.wanted _ _ = true from rfl)]
    go_simp
    refine hK _ _ (fun w => DecAt w g rn rs re) (fun w1 w2 t hb => t.belowS hb) sW tW ?_
    exact Orders2.done r3 (fun W sW tW => fin W sW tW)
  · refine Orders2.walk ob (fun K hK => ?_)
    rw [if_pos (show Region.wanted _ _ = true from rfl)]
    refine wp_store_dec x1 y1 tW ?_
    refine hK _ _ (fun w => DecAt w g rn rs re) (fun w1 w2 t hb => t.belowS hb) (hrow _ _ sW) (setRow_heap _ _ _ _ _ _ tW) ?_
    clear hK K sW tW W
    change Orders2 _ _ _ _ _ 2 _ a _
    refine Orders2.one (k := k0) r1' oa (fun W sW tW K hK => ?_)
    rw [if_pos (show Region.wanted _ _ = true from rfl)]
    go_simp
    refine hK _ _ (fun w => DecAt w g rn rs re) (fun w1 w2 t hb => t.belowS hb) sW tW ?_
    clear hK K sW tW W
    refine Orders2.one (k := k2) r2' oc (fun W sW tW K hK => ?_)
    rw [if_pos (show Region.wanted _ _ = true from rfl)]
    go_simp
    refine hK _ _ (fun w => DecAt w g rn rs re) (fun w1 w2 t hb => t.belowS hb) sW tW ?_
    exact Orders2.done r3' (fun W sW tW => fin W sW tW)
end

end Go.Proofs.YthijeckcjfnbcaaGreatDoor
