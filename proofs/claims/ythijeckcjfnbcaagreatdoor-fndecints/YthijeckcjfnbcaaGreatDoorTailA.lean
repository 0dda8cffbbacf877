/- A second law on a region that draws its order: operations that give the same in every world of a condition that growth keeps, calls that make memory among them, are taken in the order of the text; what is left (allocations, stores) is walked order by order behind them, each of these changing what is known. Own work, on the library's laws on orders. No program in it. -/
import Derived.Test.YthijeckcjfnbcaaGreatDoorKept
import Derived.Below
import Derived.Test.YthijeckcjfnbcaaGreatDoorSpecDecA
import Derived.Laws.Tables
import Derived.Laws.ResultCell
namespace Go.Proofs.YthijeckcjfnbcaaGreatDoor
set_option linter.unusedVariables false
open Go.RowKit

section
variable {P : Program} {ops : Array Oper} {md : Region.Mode} {S T : World → Prop} {Q : Exit → Act → World → Prop}

/-- Growth keeps it. -/
def Stable (T : World → Prop) : Prop := ∀ w w', T w → Below w.heap.size w w' → T w'
def GrowsAt (P : Program) (o : Oper) (v : Value) (a : Act) (w : World) : Prop :=
  (execOp a.eval o).run P w = .ok (.value v) w ∨ ((execOp a.eval o).run P w = .ok .skip w ∧ v = undef) ∨
    ∃ f args, (execOp a.eval o).run P w = .ok (.enter f args) w ∧ Calls P f args w (fun r w' => r = .returned v ∧ Below w.heap.size w w')
def Grows (P : Program) (ops : Array Oper) (S : World → Prop) (o : Oper) (v : Value) (a : Act) : Prop :=
  (Region.wanted o (yielded ops a.tmps) = false ∧ v = undef) ∨ (Region.wanted o (yielded ops a.tmps) = true ∧ ∀ w, S w → GrowsAt P o v a w)

theorem Grows.same {o : Oper} {v : Value} {a b : Act} (h : Grows P ops S o v a) (he : execOp b.eval o = execOp a.eval o) (hw : Region.wanted o (yielded ops b.tmps) = Region.wanted o (yielded ops a.tmps)) : Grows P ops S o v b := by
  unfold Grows GrowsAt at h ⊢
  rw [he, hw]
  exact h

theorem Grows.op {i : Nat} {o : Oper} {v : Value} {a : Act} {w : World} {K : Act → World → Prop} (h : Grows P ops S o v a) (hi : ops[i]? = some o) (hS : S w) (hK : ∀ w', Below w.heap.size w w' → K (a.put o.dst v) w') : wpOp P ops Q i K a w := by
  unfold wpOp
  simp only [hi]
  rcases h with ⟨h1, h2⟩ | ⟨h1, h2⟩
  · subst h2
    simp only [h1, Bool.false_eq_true, if_false]
    exact hK w (Below.refl _ _)
  · simp only [h1, if_true]
    left
    unfold Oper.wp
    rcases h2 w hS with e | ⟨e, rfl⟩ | ⟨f, args, e, c⟩
    · rw [e]; exact hK w (Below.refl _ _)
    · rw [e]; exact hK w (Below.refl _ _)
    · rw [e]
      refine c.mono ?_
      rintro r w' ⟨rfl, hw'⟩
      exact hK w' hw'

/-- Every order, from what is known now. -/
def Orders2 (P : Program) (md : Region.Mode) (ops : Array Oper) (Q : Exit → Act → World → Prop) (S : World → Prop) : Nat → Array Bool → Act → (World → Prop) → Prop
  | 0, listed, a, T => Region.ready md ops listed = [] ∧ ∀ w, S w → T w → Q .normal a w
  | f + 1, listed, a, T => (Region.ready md ops listed = [] → ∀ w, S w → T w → Q .normal a w) ∧ ∀ i ∈ Region.ready md ops listed, ∀ w, S w → T w → wpOp P ops Q i (fun b w' => ∃ T', Stable T' ∧ S w' ∧ T' w' ∧ Orders2 P md ops Q S f (listed.setIfInBounds i true) b T') a w

theorem Orders2.any : ∀ (f : Nat) (listed : Array Bool) (a : Act) (T : World → Prop) (w : World), S w → T w → Orders2 P md ops Q S f listed a T → wpAny P md ops Q f listed a w
  | 0, _, _, _, w, hS, hT, h => ⟨h.1, h.2 w hS hT⟩
  | f + 1, _, _, _, w, hS, hT, h => ⟨fun e => h.1 e w hS hT, fun i hi => wpOp_mono (fun b w' hb => by obtain ⟨T', _, g1, g2, g3⟩ := hb; exact Orders2.any f _ b T' w' g1 g2 g3) (h.2 i hi w hS hT)⟩

theorem Orders2.first {i : Nat} {oi : Oper} {v : Value} (hSt : Stable S) (hi : ops[i]? = some oi) (hsel : ∀ (j : Nat) (o : Oper) cs b, ops[j]? = some o → o.op ≠ .select cs b) (hQ : ∀ c a w, Q (.panic c) (a.put oi.dst v) w → Q (.panic c) a w) :
    ∀ (f : Nat) (listed : Array Bool) (a : Act) (T : World → Prop), Stable T →
      (∀ j oj, ops[j]? = some oj → j ≠ i → listed.getD j true = false → (∀ e ∈ oj.after, Region.binds md e = true → e.on ≠ i) → oi.apart ops oj = true) →
      i ∈ Region.ready md ops listed → Grows P ops S oi v a → Orders2 P md ops Q S f (listed.setIfInBounds i true) (a.put oi.dst v) T → Orders2 P md ops Q S (f + 1) listed a T := by
  intro f
  induction f with
  | zero =>
    intro listed a T hTt _ hr hy H
    refine ⟨fun e => (by rw [e] at hr; cases hr), fun j hj w hS hT => ?_⟩
    by_cases e : j = i
    · subst e
      exact hy.op hi hS fun w' hw' => ⟨T, hTt, hSt _ _ hS hw', hTt _ _ hT hw', H⟩
    · have g := ready_mono hj e
      rw [H.1] at g
      cases g
  | succ f ih =>
    intro listed a T hTt hfree hr hy H
    have hun := (mem_ready.1 hr).1
    refine ⟨fun e => (by rw [e] at hr; cases hr), fun j hj w hS hT => ?_⟩
    by_cases e : j = i
    · subst e
      exact hy.op hi hS fun w' hw' => ⟨T, hTt, hSt _ _ hS hw', hTt _ _ hT hw', H⟩
    · obtain ⟨hjun, oj, hoj, hall⟩ := mem_ready.1 hj
      have hno : ∀ x ∈ oj.after, Region.binds md x = true → x.on ≠ i := fun x hx hb hxi => by
        have g := hall x hx hb
        rw [hxi, getD_both hun] at g
        cases g
      have hap := hfree j oj hoj e hjun hno
      have p3 := (Oper.apart_spec hap).2.2
      have stay : ∀ u, Grows P ops S oi v (a.put oj.dst u) := fun u => hy.same (execOp_put oi (fun cs b => hsel i oi cs b hi) a oj.dst u p3) (wanted_put oi a oj.dst u p3)
      have stay2 : ∀ d, Grows P ops S oi v (({ a with defers := d :: a.defers } : Act).put oj.dst undef) := fun d =>
        (hy.same (b := { a with defers := d :: a.defers }) rfl rfl).same (execOp_put oi (fun cs b => hsel i oi cs b hi) _ oj.dst undef p3) (wanted_put oi _ oj.dst undef p3)
      refine wpOp_mono ?_ (op_late (Y := Grows P ops S oi v) hoj hap (fun cs b => hsel j oj cs b hoj) hQ stay stay2 (H.2 j (ready_mono hj e) w hS hT))
      rintro b w' ⟨hb1, T', hb2, hb3, hb4, hb5⟩
      refine ⟨T', hb2, hb3, hb4, ih _ b T' hb2 (fun k ok hk hki hku hkn => hfree k ok hk hki ?_ hkn) (ready_mono hr (Ne.symm e)) hb1 ?_⟩
      · by_cases g : j = k
        · subst g; exact hjun
        · rw [getD_set_ne true g] at hku; exact hku
      · rw [Array.setIfInBounds_comm _ _ e]; exact hb5

/-- The first operations may be taken in the order of the text. -/
def headB (md : Region.Mode) (ops : Array Oper) : Nat → Nat → Array Bool → Bool
  | 0, _, _ => true
  | f + 1, k, listed => (Region.ready md ops listed).contains k && Region.free md ops listed k && headB md ops f (k + 1) (listed.setIfInBounds k true)
def marked : Nat → Nat → Array Bool → Array Bool
  | 0, _, listed => listed
  | f + 1, k, listed => marked f (k + 1) (listed.setIfInBounds k true)
def wpGrows (P : Program) (ops : Array Oper) (S : World → Prop) (L : Act → Prop) : List Oper → Act → Prop
  | [], a => L a
  | o :: rest, a => ∃ v, Grows P ops S o v a ∧ wpGrows P ops S L rest (a.put o.dst v)

theorem Orders2.lex {g : Nat} (hSt : Stable S) (hTt : Stable T) (hno : Region.noSelect ops = true) (hQ : ∀ c a d v w, Q (.panic c) (Act.put a d v) w → Q (.panic c) a w) :
    ∀ (l : List Oper) (k : Nat) (listed : Array Bool) (a : Act), (∀ j, j < l.length → l[j]? = ops[k + j]?) → headB md ops l.length k listed = true →
      wpGrows P ops S (fun a' => Orders2 P md ops Q S g (marked l.length k listed) a' T) l a → Orders2 P md ops Q S (l.length + g) listed a T
  | [], k, listed, a, _, _, h => by rw [List.length_nil, Nat.zero_add]; exact h
  | o :: l, k, listed, a, hl, hB, ⟨v, h1, h2⟩ => by
    have h0 : ops[k]? = some o := by simpa using (hl 0 (by simp)).symm
    simp only [List.length_cons, headB, Bool.and_eq_true] at hB
    rw [List.length_cons, Nat.add_right_comm]
    refine Orders2.first hSt h0 (Region.noSelect_spec hno) (fun c a w => hQ c a _ _ w) _ listed a T hTt (Region.free_spec h0 hB.1.2) (by simpa using hB.1.1) h1 ?_
    exact Orders2.lex hSt hTt hno hQ l (k + 1) _ _ (fun j hj => by have := hl (j + 1) (by simp; omega); simpa [Nat.add_assoc, Nat.add_comm 1 j] using this) hB.2 h2

/-- THE LAW. -/
theorem wp_region_grows {id : Nat} {a : Act} {w : World} {l : List Oper} (n : Nat) (S T : World → Prop) (hSt : Stable S) (hTt : Stable T) (hm : P.follows .mixedOrders = true)
    (hB : (Region.noSelect l.toArray && decide (n ≤ l.length) && headB .any l.toArray n 0 (Array.replicate l.length false)) = true) (hQ : ∀ c a d v w, Q (.panic c) (Act.put a d v) w → Q (.panic c) a w)
    (hS : S { w with drawn := w.drawn + 1 }) (hT : T { w with drawn := w.drawn + 1 })
    (h : wpGrows P l.toArray S (fun a' => Orders2 P .any l.toArray Q S (l.length - n) (marked n 0 (Array.replicate l.length false)) a' T) (l.take n) a) : (Code.region id l.toArray true).wp P Q a w := by
  simp only [Bool.and_eq_true, decide_eq_true_eq] at hB
  obtain ⟨⟨q1, q2⟩, q3⟩ := hB
  have e1 : (l.take n).length = n := by rw [List.length_take]; omega
  have H := Orders2.lex (md := .any) (g := l.length - n) (Q := Q) hSt hTt q1 hQ (l.take n) 0 (Array.replicate l.length false) a (fun j hj => by
    rw [e1] at hj
    simp [hj]) (by rw [e1]; exact q3) (by rw [e1]; exact h)
  rw [e1, show n + (l.length - n) = l.length by omega] at H
  have G := Orders2.any _ _ _ _ _ hS hT H
  refine wp_region_any hm ?_
  simpa using G

def Step2 (P : Program) (S : World → Prop) (o : Oper) (a : Act) (K : Act → Prop) : Prop := ∃ v, (∀ w, S w → GrowsAt P o v a w) ∧ K (a.put o.dst v)
theorem grows_step {L : Act → Prop} {o : Oper} {rest : List Oper} {a : Act} (h : ∀ K : Act → Prop, (∀ b, wpGrows P ops S L rest b → K b) → if Region.wanted o (yielded ops a.tmps) then Step2 P S o a K else K (a.put o.dst undef)) : wpGrows P ops S L (o :: rest) a := by
  have := h _ (fun _ g => g)
  cases hw : Region.wanted o (yielded ops a.tmps)
  · simp only [hw, Bool.false_eq_true, if_false] at this
    exact ⟨undef, .inl ⟨hw, rfl⟩, this⟩
  · simp only [hw, if_true] at this
    obtain ⟨v, h1, h2⟩ := this
    exact ⟨v, .inr ⟨hw, h1⟩, h2⟩
theorem grows_nil {L : Act → Prop} {a : Act} (h : L a) : wpGrows P ops S L [] a := h

theorem Orders2.walk {f k : Nat} {o : Oper} {listed : Array Bool} {a : Act} {w : World} (ho : ops[k]? = some o)
    (h : ∀ K : Act → World → Prop, (∀ b w' (T' : World → Prop), Stable T' → S w' → T' w' → Orders2 P md ops Q S f (listed.setIfInBounds k true) b T' → K b w') → if Region.wanted o (yielded ops a.tmps) then o.wp P a w K Q else K (a.put o.dst undef) w) :
    wpOp P ops Q k (fun b w' => ∃ T', Stable T' ∧ S w' ∧ T' w' ∧ Orders2 P md ops Q S f (listed.setIfInBounds k true) b T') a w := by
  have := h (fun b w' => ∃ T', Stable T' ∧ S w' ∧ T' w' ∧ Orders2 P md ops Q S f (listed.setIfInBounds k true) b T') (fun b w' T' g1 g2 g3 g4 => ⟨T', g1, g2, g3, g4⟩)
  unfold wpOp
  simp only [ho]
  cases hw : Region.wanted o (yielded ops a.tmps)
  · simp only [hw, Bool.false_eq_true, if_false] at this ⊢
    exact this
  · simp only [hw, if_true] at this ⊢
    exact .inl this
/-- One operation alone may come up: it is walked. -/
theorem Orders2.one {f k : Nat} {o : Oper} {listed : Array Bool} {a : Act} (hr : Region.ready md ops listed = [k]) (ho : ops[k]? = some o)
    (h : ∀ w, S w → T w → ∀ K : Act → World → Prop, (∀ b w' (T' : World → Prop), Stable T' → S w' → T' w' → Orders2 P md ops Q S f (listed.setIfInBounds k true) b T' → K b w') → if Region.wanted o (yielded ops a.tmps) then o.wp P a w K Q else K (a.put o.dst undef) w) :
    Orders2 P md ops Q S (f + 1) listed a T := by
  refine ⟨fun e => (by rw [hr] at e; cases e), fun i hi w hS hT => ?_⟩
  rw [hr] at hi
  obtain rfl : i = k := by simpa using hi
  exact Orders2.walk ho (h w hS hT)
/-- One of two may come up. -/
theorem Orders2.two {f k m : Nat} {listed : Array Bool} {a : Act} (hr : Region.ready md ops listed = [k, m])
    (h1 : ∀ w, S w → T w → wpOp P ops Q k (fun b w' => ∃ T', Stable T' ∧ S w' ∧ T' w' ∧ Orders2 P md ops Q S f (listed.setIfInBounds k true) b T') a w)
    (h2 : ∀ w, S w → T w → wpOp P ops Q m (fun b w' => ∃ T', Stable T' ∧ S w' ∧ T' w' ∧ Orders2 P md ops Q S f (listed.setIfInBounds m true) b T') a w) : Orders2 P md ops Q S (f + 1) listed a T := by
  refine ⟨fun e => (by rw [hr] at e; cases e), fun i hi w hS hT => ?_⟩
  rw [hr] at hi
  simp at hi
  rcases hi with rfl | rfl
  · exact h1 w hS hT
  · exact h2 w hS hT
theorem Orders2.done {f : Nat} {listed : Array Bool} {a : Act} (hr : Region.ready md ops listed = []) (h : ∀ w, S w → T w → Q .normal a w) : Orders2 P md ops Q S f listed a T := by
  cases f with
  | zero => exact ⟨hr, h⟩
  | succ f => exact ⟨fun _ => h, fun i hi => by rw [hr] at hi; cases hi⟩
end
end Go.Proofs.YthijeckcjfnbcaaGreatDoor

/- The end of a region that draws its order and lays a decimal: an allocation, a store, an assignment. No condition beyond what each theorem states. -/
namespace Go.Proofs.YthijeckcjfnbcaaGreatDoor
set_option linter.unusedVariables false
open Go.RowKit

theorem Tryz.sizeDec : (Tryz.prog.info? 25).map (·.size) = some 3 := by kernel_rfl
section
variable {ops : Array Oper} {Q : Exit → Act → World → Prop} {S : World → Prop} {listed : Array Bool}

theorem wp_alloc_dec {d : Option Tmp} {t : TypeId} {p : String} {e : Array Edge} {a : Act} {w : World} {K : Act → World → Prop}
    (h : K (a.put d (.pointer (some ⟨w.heap.size, 0, none⟩))) (w.alloc (.cells #[.bool false, .string ⟨#[]⟩, .int .i64 0] 25))) : (⟨d, .alloc 25, t, p, e, none⟩ : Oper).wp Tryz.prog a w K Q := by
  go_simp
  exact h
theorem wp_store_dec {d : Option Tmp} {t : TypeId} {p : String} {e : Array Edge} {a : Act} {w : World} {K : Act → World → Prop} {x y : Operand} {g : Nat} {n rn : Bool} {s rs : ByteArray} {f re : Int}
    (hx : a.eval x = .pointer (some ⟨g, 0, none⟩)) (hy : a.eval y = .agg #[.bool rn, .string rs, .int .i64 re]) (hg : DecAt w g n s f)
    (h : K (a.put d undef) (w.setRow g #[.bool rn, .string rs, .int .i64 re])) : (⟨d, .store 25 x y, t, p, e, none⟩ : Oper).wp Tryz.prog a w K Q :=
  wp_store_row 25 x y rfl g #[.bool rn, .string rs, .int .i64 re] hx hy _ _ hg Tryz.sizeDec rfl (by simp [Value.oneCell']) h

set_option maxRecDepth 100000 in
theorem tail_dec {a : Act} {k0 k1 k2 : Nat} {d0 d2 t2 : Tmp} {ta tb tc : TypeId} {pa pb pc : String} {ea eb ec : Array Edge} {x y : Operand} {rn : Bool} {rs : ByteArray} {re : Int} (B : Nat) (A : Nat → Act)
    (SST : Stable S) (hB : ∀ W, S W → B ≤ W.heap.size) (hrow : ∀ W g E, B ≤ g → S W → S (W.setRow g E))
    (oa : ops[k0]? = some ⟨some d0, .alloc 25, ta, pa, ea, none⟩) (ob : ops[k1]? = some ⟨none, .store 25 x y, tb, pb, eb, none⟩) (oc : ops[k2]? = some ⟨some d2, .assign (.tmp t2), tc, pc, ec, none⟩)
    (r0 : Region.ready .any ops listed = [k0]) (r1 : Region.ready .any ops (listed.setIfInBounds k0 true) = [k1]) (r2 : Region.ready .any ops ((listed.setIfInBounds k0 true).setIfInBounds k1 true) = [k2])
    (r3 : Region.ready .any ops (((listed.setIfInBounds k0 true).setIfInBounds k1 true).setIfInBounds k2 true) = [])
    (p1 : ∀ g, a.put (some d0) (.pointer (some ⟨g, 0, none⟩)) = A g)
    (x1 : ∀ g, (A g).eval x = .pointer (some ⟨g, 0, none⟩)) (y1 : ∀ g, (A g).eval y = .agg #[.bool rn, .string rs, .int .i64 re])
    (fin : ∀ g W, B ≤ g → S W → DecAt W g rn rs re → Q .normal { tmps := (A g).tmps.setIfInBounds d2 ((A g).tmps[t2]?.getD undef), defers := (A g).defers } W) :
    Orders2 Tryz.prog .any ops Q S 3 listed a (fun _ => True) := by
  refine Orders2.one (k := k0) r0 oa (fun W sW tW K hK => ?_)
  rw [if_pos (show Region.wanted _ _ = true from rfl)]
  refine wp_alloc_dec ?_
  have hg := hB _ sW
  refine hK _ _ (fun w => DecAt w W.heap.size false ⟨#[]⟩ 0) (fun w1 w2 t hb => t.belowS hb) (SST _ _ sW ((Below.refl _ _).alloc (Nat.le_refl _) _)) (DecAt.new W false ⟨#[]⟩ 0) ?_
  rw [p1]
  clear hK K sW tW
  generalize W.heap.size = g at *
  clear W
  refine Orders2.one (k := k1) r1 ob (fun W sW tW K hK => ?_)
  rw [if_pos (show Region.wanted _ _ = true from rfl)]
  refine wp_store_dec (x1 g) (y1 g) tW ?_
  refine hK _ _ (fun w => DecAt w g rn rs re) (fun w1 w2 t hb => t.belowS hb) (hrow _ _ _ hg sW) (setRow_heap _ _ _ _ _ _ tW) ?_
  clear hK K sW tW W
  change Orders2 _ _ _ _ _ 1 _ (A g) _
  refine Orders2.one (k := k2) r2 oc (fun W sW tW K hK => ?_)
  rw [if_pos (show Region.wanted _ _ = true from rfl)]
  go_simp
  refine hK _ _ (fun w => DecAt w g rn rs re) (fun w1 w2 t hb => t.belowS hb) sW tW ?_
  exact Orders2.done r3 (fun W sW tW => fin g W hg sW tW)
end


end Go.Proofs.YthijeckcjfnbcaaGreatDoor

/- A decimal is taken out of its block whole, and laid into one whole. No condition beyond what each theorem states. -/
namespace Go.Proofs.YthijeckcjfnbcaaGreatDoor
set_option linter.unusedVariables false
open Go.RowKit

abbrev row3 (n : Bool) (s : ByteArray) (e : Int) : Array Value := #[.bool n, .string s, .int .i64 e]
theorem row3_one (n : Bool) (s : ByteArray) (e : Int) : (row3 n s e).all (·.oneCell') = true := by simp [Value.oneCell']
theorem load_dec {ops : Array Oper} {rest : List Oper} {a : Act} {w : World} {Q : Exit → Act → World → Prop} {dst : Option Tmp} {ty : TypeId} {pos : String} {after : Array Edge} {x : Operand} {n : Bool} {s : ByteArray} {e : Int} (g : Nat)
    (hx : a.eval x = .pointer (some ⟨g, 0, none⟩)) (hg : DecAt w g n s e) (h : wpList Tryz.prog ops Q rest (a.put dst (.agg (row3 n s e))) w) :
    wpList Tryz.prog ops Q (⟨dst, .load 25 x, ty, pos, after, none⟩ :: rest) a w :=
  wpList_load_row rfl 25 x rfl g hx _ _ _ _ hg Tryz.underlying25 rfl Tryz.sizeDec h
theorem store_dec {ops : Array Oper} {rest : List Oper} {a : Act} {w : World} {Q : Exit → Act → World → Prop} {dst : Option Tmp} {ty : TypeId} {pos : String} {after : Array Edge} {x y : Operand} {n rn : Bool} {s rs : ByteArray} {e re : Int} (g : Nat)
    (hx : a.eval x = .pointer (some ⟨g, 0, none⟩)) (hy : a.eval y = .agg (row3 rn rs re)) (hg : DecAt w g n s e) (h : wpList Tryz.prog ops Q rest (a.put dst undef) (w.setRow g (row3 rn rs re))) :
    wpList Tryz.prog ops Q (⟨dst, .store 25 x y, ty, pos, after, none⟩ :: rest) a w :=
  wpList_store_row rfl 25 x y rfl g (row3 rn rs re) hx hy _ _ hg Tryz.sizeDec rfl (row3_one rn rs re) h
theorem results_dec {fn : Func} {p : Tmp} (h : fn.results = #[.cell p 25]) (tmps : Array Value) (w : World) {g : Nat} {n : Bool} {s : ByteArray} {e : Int}
    (hp : tmps.getD p undef = .pointer (some ⟨g, 0, none⟩)) (hg : DecAt w g n s e) : (results fn tmps).run Tryz.prog w = .ok (.agg (row3 n s e)) w :=
  results_cell_row h tmps w g 25 _ (0, 0) _ hp hg Tryz.underlying25 rfl Tryz.sizeDec
theorem below_row3 {B : Nat} {a w : World} (h : Below B a w) {g : Nat} (hg : B ≤ g) (C : Array Value) : Below B a (w.setRow g C) :=
  h.trans ⟨rfl, rfl, rfl, by simp, fun k hk => setRow_other w g k C (by omega)⟩
theorem DecAt.row {w : World} {p : Nat} {n n' : Bool} {s s' : ByteArray} {e e' : Int} (h : DecAt w p n s e) : DecAt (w.setRow p (row3 n' s' e')) p n' s' e' := setRow_heap _ _ _ _ _ _ h
theorem DecAt.rowO {w : World} {p g : Nat} {n : Bool} {s : ByteArray} {e : Int} (h : DecAt w p n s e) (hg : p ≠ g) (C : Array Value) : DecAt (w.setRow g C) p n s e := (setRow_other _ _ _ _ hg).trans h
/-- Behind a call that answered a decimal: it is stored in a new block, and that in the answer's. -/
theorem two_rows {w w3 : World} {rn : Bool} {rs : ByteArray} {re : Int} (K : DecAt w3 w.heap.size false ⟨#[]⟩ 0) (D : Below w.heap.size w w3) :
    DecAt (w3.alloc (.cells (row3 false ⟨#[]⟩ 0) 25)) w3.heap.size false ⟨#[]⟩ 0 ∧
    DecAt ((w3.alloc (.cells (row3 false ⟨#[]⟩ 0) 25)).setRow w3.heap.size (row3 rn rs re)) w3.heap.size rn rs re ∧
    DecAt ((w3.alloc (.cells (row3 false ⟨#[]⟩ 0) 25)).setRow w3.heap.size (row3 rn rs re)) w.heap.size false ⟨#[]⟩ 0 ∧
    Below w.heap.size w ((w3.alloc (.cells (row3 false ⟨#[]⟩ 0) 25)).setRow w3.heap.size (row3 rn rs re)) :=
  ⟨DecAt.new w3 _ _ _, (DecAt.new w3 false ⟨#[]⟩ 0).row, (K.alloc _).rowO (Nat.ne_of_lt K.lt) _, below_row3 (D.alloc D.size _) D.size _⟩

end Go.Proofs.YthijeckcjfnbcaaGreatDoor
