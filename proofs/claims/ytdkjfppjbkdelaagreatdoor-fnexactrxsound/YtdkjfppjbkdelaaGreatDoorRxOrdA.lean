/- A second law on a region that draws its order: operations that give the same in every world of a condition that growth keeps, calls that make memory among them, are taken in the order of the text; what is left (allocations, stores) is walked order by order behind them, each of these changing what is known. Own work, on the library's laws on orders. No program in it. -/
import Derived.Test.YtdkjfppjbkdelaaGreatDoorKept
import Derived.Below
import Derived.Laws.Tables
import Derived.Laws.ResultCell
import Derived.Test.YtdkjfppjbkdelaaGreatDoorRxTo
namespace Go.Proofs.YtdkjfppjbkdelaaGreatDoor
set_option linter.unusedVariables false
open Go.RowKit

section
variable {P : Program} {ops : Array Oper} {md : Region.Mode} {S T : World → Prop} {Q : Exit → Act → World → Prop}

/-- Growth keeps it. -/
def Stable (T : World → Prop) : Prop := ∀ w w', T w → Below w.heap.size w w' → T w'
def GrowsAt (P : Program) (o : Oper) (v : Value) (a : Act) (w : World) : Prop :=
  (execOp a.eval o).run P w = .ok (.value v) w ∨ ((execOp a.eval o).run P w = .ok .skip w ∧ v = undef) ∨
    ∃ f args, (execOp a.eval o).run P w = .ok (.enter f args) w ∧ Calls P f args w (fun r w' => r = .returned v ∧ Below w.heap.size w w')
def Grows (P : Program) (ops : Array Oper) (S : World → Prop) (o : Oper) (v : Value) (a : Act) : Prop :=
  (Region.wanted o (yielded ops a.tmps) = false ∧ v = undef) ∨ (Region.wanted o (yielded ops a.tmps) = true ∧ ∀ w, S w → GrowsAt P o v a w)

theorem Grows.same {o : Oper} {v : Value} {a b : Act} (h : Grows P ops S o v a) (he : execOp b.eval o = execOp a.eval o) (hw : Region.wanted o (yielded ops b.tmps) = Region.wanted o (yielded ops a.tmps)) : Grows P ops S o v b := by
  unfold Grows GrowsAt at h ⊢
  rw [he, hw]
  exact h

theorem Grows.op {i : Nat} {o : Oper} {v : Value} {a : Act} {w : World} {K : Act → World → Prop} (h : Grows P ops S o v a) (hi : ops[i]? = some o) (hS : S w) (hK : ∀ w', Below w.heap.size w w' → K (a.put o.dst v) w') : wpOp P ops Q i K a w := by
  unfold wpOp
  simp only [hi]
  rcases h with ⟨h1, h2⟩ | ⟨h1, h2⟩
  · subst h2
    simp only [h1, Bool.false_eq_true, if_false]
    exact hK w (Below.refl _ _)
  · simp only [h1, if_true]
    left
    unfold Oper.wp
    rcases h2 w hS with e | ⟨e, rfl⟩ | ⟨f, args, e, c⟩
    · rw [e]; exact hK w (Below.refl _ _)
    · rw [e]; exact hK w (Below.refl _ _)
    · rw [e]
      refine c.mono ?_
      rintro r w' ⟨rfl, hw'⟩
      exact hK w' hw'

/-- Every order, from what is known now. -/
def Orders2 (P : Program) (md : Region.Mode) (ops : Array Oper) (Q : Exit → Act → World → Prop) (S : World → Prop) : Nat → Array Bool → Act → (World → Prop) → Prop
  | 0, listed, a, T => Region.ready md ops listed = [] ∧ ∀ w, S w → T w → Q .normal a w
  | f + 1, listed, a, T => (Region.ready md ops listed = [] → ∀ w, S w → T w → Q .normal a w) ∧ ∀ i ∈ Region.ready md ops listed, ∀ w, S w → T w → wpOp P ops Q i (fun b w' => ∃ T', Stable T' ∧ S w' ∧ T' w' ∧ Orders2 P md ops Q S f (listed.setIfInBounds i true) b T') a w

theorem Orders2.any : ∀ (f : Nat) (listed : Array Bool) (a : Act) (T : World → Prop) (w : World), S w → T w → Orders2 P md ops Q S f listed a T → wpAny P md ops Q f listed a w
  | 0, _, _, _, w, hS, hT, h => ⟨h.1, h.2 w hS hT⟩
  | f + 1, _, _, _, w, hS, hT, h => ⟨fun e => h.1 e w hS hT, fun i hi => wpOp_mono (fun b w' hb => by obtain ⟨T', _, g1, g2, g3⟩ := hb; exact Orders2.any f _ b T' w' g1 g2 g3) (h.2 i hi w hS hT)⟩

theorem Orders2.first {i : Nat} {oi : Oper} {v : Value} (hSt : Stable S) (hi : ops[i]? = some oi) (hsel : ∀ (j : Nat) (o : Oper) cs b, ops[j]? = some o → o.op ≠ .select cs b) (hQ : ∀ c a w, Q (.panic c) (a.put oi.dst v) w → Q (.panic c) a w) :
    ∀ (f : Nat) (listed : Array Bool) (a : Act) (T : World → Prop), Stable T →
      (∀ j oj, ops[j]? = some oj → j ≠ i → listed.getD j true = false → (∀ e ∈ oj.after, Region.binds md e = true → e.on ≠ i) → oi.apart ops oj = true) →
      i ∈ Region.ready md ops listed → Grows P ops S oi v a → Orders2 P md ops Q S f (listed.setIfInBounds i true) (a.put oi.dst v) T → Orders2 P md ops Q S (f + 1) listed a T := by
  intro f
  induction f with
  | zero =>
    intro listed a T hTt _ hr hy H
    refine ⟨fun e => (by rw [e] at hr; cases hr), fun j hj w hS hT => ?_⟩
    by_cases e : j = i
    · subst e
      exact hy.op hi hS fun w' hw' => ⟨T, hTt, hSt _ _ hS hw', hTt _ _ hT hw', H⟩
    · have g := ready_mono hj e
      rw [H.1] at g
      cases g
  | succ f ih =>
    intro listed a T hTt hfree hr hy H
    have hun := (mem_ready.1 hr).1
    refine ⟨fun e => (by rw [e] at hr; cases hr), fun j hj w hS hT => ?_⟩
    by_cases e : j = i
    · subst e
      exact hy.op hi hS fun w' hw' => ⟨T, hTt, hSt _ _ hS hw', hTt _ _ hT hw', H⟩
    · obtain ⟨hjun, oj, hoj, hall⟩ := mem_ready.1 hj
      have hno : ∀ x ∈ oj.after, Region.binds md x = true → x.on ≠ i := fun x hx hb hxi => by
        have g := hall x hx hb
        rw [hxi, getD_both hun] at g
        cases g
      have hap := hfree j oj hoj e hjun hno
      have p3 := (Oper.apart_spec hap).2.2
      have stay : ∀ u, Grows P ops S oi v (a.put oj.dst u) := fun u => hy.same (execOp_put oi (fun cs b => hsel i oi cs b hi) a oj.dst u p3) (wanted_put oi a oj.dst u p3)
      have stay2 : ∀ d, Grows P ops S oi v (({ a with defers := d :: a.defers } : Act).put oj.dst undef) := fun d =>
        (hy.same (b := { a with defers := d :: a.defers }) rfl rfl).same (execOp_put oi (fun cs b => hsel i oi cs b hi) _ oj.dst undef p3) (wanted_put oi _ oj.dst undef p3)
      refine wpOp_mono ?_ (op_late (Y := Grows P ops S oi v) hoj hap (fun cs b => hsel j oj cs b hoj) hQ stay stay2 (H.2 j (ready_mono hj e) w hS hT))
      rintro b w' ⟨hb1, T', hb2, hb3, hb4, hb5⟩
      refine ⟨T', hb2, hb3, hb4, ih _ b T' hb2 (fun k ok hk hki hku hkn => hfree k ok hk hki ?_ hkn) (ready_mono hr (Ne.symm e)) hb1 ?_⟩
      · by_cases g : j = k
        · subst g; exact hjun
        · rw [getD_set_ne true g] at hku; exact hku
      · rw [Array.setIfInBounds_comm _ _ e]; exact hb5

/-- The first operations may be taken in the order of the text. -/
def headB (md : Region.Mode) (ops : Array Oper) : Nat → Nat → Array Bool → Bool
  | 0, _, _ => true
  | f + 1, k, listed => (Region.ready md ops listed).contains k && Region.free md ops listed k && headB md ops f (k + 1) (listed.setIfInBounds k true)
def marked : Nat → Nat → Array Bool → Array Bool
  | 0, _, listed => listed
  | f + 1, k, listed => marked f (k + 1) (listed.setIfInBounds k true)
def wpGrows (P : Program) (ops : Array Oper) (S : World → Prop) (L : Act → Prop) : List Oper → Act → Prop
  | [], a => L a
  | o :: rest, a => ∃ v, Grows P ops S o v a ∧ wpGrows P ops S L rest (a.put o.dst v)

theorem Orders2.lex {g : Nat} (hSt : Stable S) (hTt : Stable T) (hno : Region.noSelect ops = true) (hQ : ∀ c a d v w, Q (.panic c) (Act.put a d v) w → Q (.panic c) a w) :
    ∀ (l : List Oper) (k : Nat) (listed : Array Bool) (a : Act), (∀ j, j < l.length → l[j]? = ops[k + j]?) → headB md ops l.length k listed = true →
      wpGrows P ops S (fun a' => Orders2 P md ops Q S g (marked l.length k listed) a' T) l a → Orders2 P md ops Q S (l.length + g) listed a T
  | [], k, listed, a, _, _, h => by rw [List.length_nil, Nat.zero_add]; exact h
  | o :: l, k, listed, a, hl, hB, ⟨v, h1, h2⟩ => by
    have h0 : ops[k]? = some o := by simpa using (hl 0 (by simp)).symm
    simp only [List.length_cons, headB, Bool.and_eq_true] at hB
    rw [List.length_cons, Nat.add_right_comm]
    refine Orders2.first hSt h0 (Region.noSelect_spec hno) (fun c a w => hQ c a _ _ w) _ listed a T hTt (Region.free_spec h0 hB.1.2) (by simpa using hB.1.1) h1 ?_
    exact Orders2.lex hSt hTt hno hQ l (k + 1) _ _ (fun j hj => by have := hl (j + 1) (by simp; omega); simpa [Nat.add_assoc, Nat.add_comm 1 j] using this) hB.2 h2

/-- THE LAW. -/
theorem wp_region_grows {id : Nat} {a : Act} {w : World} {l : List Oper} (n : Nat) (S T : World → Prop) (hSt : Stable S) (hTt : Stable T) (hm : P.follows .mixedOrders = true)
    (hB : (Region.noSelect l.toArray && decide (n ≤ l.length) && headB .any l.toArray n 0 (Array.replicate l.length false)) = true) (hQ : ∀ c a d v w, Q (.panic c) (Act.put a d v) w → Q (.panic c) a w)
    (hS : S { w with drawn := w.drawn + 1 }) (hT : T { w with drawn := w.drawn + 1 })
    (h : wpGrows P l.toArray S (fun a' => Orders2 P .any l.toArray Q S (l.length - n) (marked n 0 (Array.replicate l.length false)) a' T) (l.take n) a) : (Code.region id l.toArray true).wp P Q a w := by
  simp only [Bool.and_eq_true, decide_eq_true_eq] at hB
  obtain ⟨⟨q1, q2⟩, q3⟩ := hB
  have e1 : (l.take n).length = n := by rw [List.length_take]; omega
  have H := Orders2.lex (md := .any) (g := l.length - n) (Q := Q) hSt hTt q1 hQ (l.take n) 0 (Array.replicate l.length false) a (fun j hj => by
    rw [e1] at hj
    simp [hj]) (by rw [e1]; exact q3) (by rw [e1]; exact h)
  rw [e1, show n + (l.length - n) = l.length by omega] at H
  have G := Orders2.any _ _ _ _ _ hS hT H
  refine wp_region_any hm ?_
  simpa using G

def Step2 (P : Program) (S : World → Prop) (o : Oper) (a : Act) (K : Act → Prop) : Prop := ∃ v, (∀ w, S w → GrowsAt P o v a w) ∧ K (a.put o.dst v)
theorem grows_step {L : Act → Prop} {o : Oper} {rest : List Oper} {a : Act} (h : ∀ K : Act → Prop, (∀ b, wpGrows P ops S L rest b → K b) → if Region.wanted o (yielded ops a.tmps) then Step2 P S o a K else K (a.put o.dst undef)) : wpGrows P ops S L (o :: rest) a := by
  have := h _ (fun _ g => g)
  cases hw : Region.wanted o (yielded ops a.tmps)
  · simp only [hw, Bool.false_eq_true, if_false] at this
    exact ⟨undef, .inl ⟨hw, rfl⟩, this⟩
  · simp only [hw, if_true] at this
    obtain ⟨v, h1, h2⟩ := this
    exact ⟨v, .inr ⟨hw, h1⟩, h2⟩
theorem grows_nil {L : Act → Prop} {a : Act} (h : L a) : wpGrows P ops S L [] a := h

theorem Orders2.walk {f k : Nat} {o : Oper} {listed : Array Bool} {a : Act} {w : World} (ho : ops[k]? = some o)
    (h : ∀ K : Act → World → Prop, (∀ b w' (T' : World → Prop), Stable T' → S w' → T' w' → Orders2 P md ops Q S f (listed.setIfInBounds k true) b T' → K b w') → if Region.wanted o (yielded ops a.tmps) then o.wp P a w K Q else K (a.put o.dst undef) w) :
    wpOp P ops Q k (fun b w' => ∃ T', Stable T' ∧ S w' ∧ T' w' ∧ Orders2 P md ops Q S f (listed.setIfInBounds k true) b T') a w := by
  have := h (fun b w' => ∃ T', Stable T' ∧ S w' ∧ T' w' ∧ Orders2 P md ops Q S f (listed.setIfInBounds k true) b T') (fun b w' T' g1 g2 g3 g4 => ⟨T', g1, g2, g3, g4⟩)
  unfold wpOp
  simp only [ho]
  cases hw : Region.wanted o (yielded ops a.tmps)
  · simp only [hw, Bool.false_eq_true, if_false] at this ⊢
    exact this
  · simp only [hw, if_true] at this ⊢
    exact .inl this
/-- One operation alone may come up: it is walked. -/
theorem Orders2.one {f k : Nat} {o : Oper} {listed : Array Bool} {a : Act} (hr : Region.ready md ops listed = [k]) (ho : ops[k]? = some o)
    (h : ∀ w, S w → T w → ∀ K : Act → World → Prop, (∀ b w' (T' : World → Prop), Stable T' → S w' → T' w' → Orders2 P md ops Q S f (listed.setIfInBounds k true) b T' → K b w') → if Region.wanted o (yielded ops a.tmps) then o.wp P a w K Q else K (a.put o.dst undef) w) :
    Orders2 P md ops Q S (f + 1) listed a T := by
  refine ⟨fun e => (by rw [hr] at e; cases e), fun i hi w hS hT => ?_⟩
  rw [hr] at hi
  obtain rfl : i = k := by simpa using hi
  exact Orders2.walk ho (h w hS hT)
/-- One of two may come up. -/
theorem Orders2.two {f k m : Nat} {listed : Array Bool} {a : Act} (hr : Region.ready md ops listed = [k, m])
    (h1 : ∀ w, S w → T w → wpOp P ops Q k (fun b w' => ∃ T', Stable T' ∧ S w' ∧ T' w' ∧ Orders2 P md ops Q S f (listed.setIfInBounds k true) b T') a w)
    (h2 : ∀ w, S w → T w → wpOp P ops Q m (fun b w' => ∃ T', Stable T' ∧ S w' ∧ T' w' ∧ Orders2 P md ops Q S f (listed.setIfInBounds m true) b T') a w) : Orders2 P md ops Q S (f + 1) listed a T := by
  refine ⟨fun e => (by rw [hr] at e; cases e), fun i hi w hS hT => ?_⟩
  rw [hr] at hi
  simp at hi
  rcases hi with rfl | rfl
  · exact h1 w hS hT
  · exact h2 w hS hT
theorem Orders2.done {f : Nat} {listed : Array Bool} {a : Act} (hr : Region.ready md ops listed = []) (h : ∀ w, S w → T w → Q .normal a w) : Orders2 P md ops Q S f listed a T := by
  cases f with
  | zero => exact ⟨hr, h⟩
  | succ f => exact ⟨fun _ => h, fun i hi => by rw [hr] at hi; cases hi⟩
end
end Go.Proofs.YtdkjfppjbkdelaaGreatDoor

/- The end of a region that draws its order and lays two structs of one type: two allocations in either order, then two stores. No condition beyond what each theorem states. -/
namespace Go.Proofs.YtdkjfppjbkdelaaGreatDoor
set_option linter.unusedVariables false
open Go.RowKit

/-- A node's cells lie at block g. -/
abbrev ndAt (w : World) (g : Nat) (C : Array Value) : Prop := w.heap[g]? = some (.cells C 47 (0, 0))
def zeroNd : Array Value := #[.int .i64 0, .int .i64 0, .int .i64 0, .bool false, .slice none 0 0, .slice none 0 0]
theorem ndAt.kept {w w' : World} {g : Nat} {C : Array Value} (h : ndAt w g C) (hb : Below w.heap.size w w') : ndAt w' g C := (hb.block _ (Array.getElem?_eq_some_iff.1 h).1).trans h
theorem ndAt.lt {w : World} {g : Nat} {C : Array Value} (h : ndAt w g C) : g < w.heap.size := (Array.getElem?_eq_some_iff.1 h).1
theorem Tryz.sizeNd : (Tryz.prog.info? 47).map (·.size) = some 6 := by kernel_rfl
def ndC (nd : Nd) (sa : Option Addr) (sc : Nat) (ka : Option Addr) (kc : Nat) : Array Value := #[.int .i64 nd.kind, .int .i64 nd.lo, .int .i64 nd.hi, .bool nd.neg, .slice sa nd.set.length sc, .slice ka nd.kids.length kc]
theorem ndC_one (nd : Nd) (sa : Option Addr) (sc : Nat) (ka : Option Addr) (kc : Nat) : (ndC nd sa sc ka kc).all (·.oneCell') = true := by simp [ndC, Value.oneCell']

section
variable {ops : Array Oper} {Q : Exit → Act → World → Prop} {S : World → Prop} {listed : Array Bool}

theorem nd_stores {kc kd : Nat} {tc td : TypeId} {pc pd : String} {ec ed : Array Edge} {xc yc xd yd : Operand} {C D : Array Value} {A : Act} {g h : Nat}
    (SST : Stable S) (rowG : ∀ W, S W → S (W.setRow g C)) (rowH : ∀ W, S W → S (W.setRow h D)) (hgh : g ≠ h) (IC : C.size = 6) (ID : D.size = 6) (OC : C.all (·.oneCell') = true) (OD : D.all (·.oneCell') = true)
    (oc : ops[kc]? = some ⟨none, .store 47 xc yc, tc, pc, ec, none⟩) (od : ops[kd]? = some ⟨none, .store 47 xd yd, td, pd, ed, none⟩)
    (r3 : Region.ready .any ops listed = [kc]) (r4 : Region.ready .any ops (listed.setIfInBounds kc true) = [kd]) (r5 : Region.ready .any ops ((listed.setIfInBounds kc true).setIfInBounds kd true) = [])
    (x1 : A.eval xc = .pointer (some ⟨g, 0, none⟩)) (y1 : A.eval yc = .agg C) (x2 : A.eval xd = .pointer (some ⟨h, 0, none⟩)) (y2 : A.eval yd = .agg D)
    (fin : ∀ W, S W → ndAt W g C → ndAt W h D → Q .normal A W) :
    Orders2 Tryz.prog .any ops Q S 2 listed A (fun w => ndAt w g zeroNd ∧ ndAt w h zeroNd) := by
  refine Orders2.one (k := kc) r3 oc (fun W sW tW K hK => ?_)
  rw [if_pos (show Region.wanted _ _ = true from rfl)]
  refine wp_store_row 47 _ _ rfl g C x1 y1 _ zeroNd tW.1 (by rw [IC]; exact Tryz.sizeNd) (by rw [IC]; rfl) OC ?_
  refine hK _ _ (fun w => ndAt w g C ∧ ndAt w h zeroNd) (fun w1 w2 t hb => ⟨t.1.kept hb, t.2.kept hb⟩) (rowG _ sW) ⟨setRow_heap _ _ _ _ _ _ tW.1, (setRow_other _ _ _ _ (Ne.symm hgh)).trans tW.2⟩ ?_
  clear hK K sW tW W
  change Orders2 _ _ _ _ _ 1 _ A _
  refine Orders2.one (k := kd) r4 od (fun W sW tW K hK => ?_)
  rw [if_pos (show Region.wanted _ _ = true from rfl)]
  refine wp_store_row 47 _ _ rfl h D x2 y2 _ zeroNd tW.2 (by rw [ID]; exact Tryz.sizeNd) (by rw [ID]; rfl) OD ?_
  refine hK _ _ (fun w => ndAt w g C ∧ ndAt w h D) (fun w1 w2 t hb => ⟨t.1.kept hb, t.2.kept hb⟩) (rowH _ sW) ⟨(setRow_other _ _ _ _ hgh).trans tW.1, setRow_heap _ _ _ _ _ _ tW.2⟩ ?_
  exact Orders2.done r5 (fun W sW tW => fin W sW tW.1 tW.2)

theorem wp_alloc_nd {d : Option Tmp} {t : TypeId} {p : String} {e : Array Edge} {a : Act} {w : World} {K : Act → World → Prop}
    (h : K (a.put d (.pointer (some ⟨w.heap.size, 0, none⟩))) (w.alloc (.cells zeroNd 47))) : (⟨d, .alloc 47, t, p, e, none⟩ : Oper).wp Tryz.prog a w K Q := by
  unfold zeroNd at h
  go_simp
  exact h

set_option maxRecDepth 100000 in
theorem nd_two {a : Act} {ka kb kc kd : Nat} {da db : Tmp} {ta tb tc td : TypeId} {pa pb pc pd : String} {ea eb ec ed : Array Edge} {xc yc xd yd : Operand} {C D : Array Value} (B : Nat) (A : Nat → Nat → Act)
    (SST : Stable S) (hB : ∀ W, S W → B ≤ W.heap.size) (hrow : ∀ W g E, B ≤ g → S W → S (W.setRow g E)) (IC : C.size = 6) (ID : D.size = 6) (OC : C.all (·.oneCell') = true) (OD : D.all (·.oneCell') = true)
    (oa : ops[ka]? = some ⟨some da, .alloc 47, ta, pa, ea, none⟩) (ob : ops[kb]? = some ⟨some db, .alloc 47, tb, pb, eb, none⟩)
    (oc : ops[kc]? = some ⟨none, .store 47 xc yc, tc, pc, ec, none⟩) (od : ops[kd]? = some ⟨none, .store 47 xd yd, td, pd, ed, none⟩)
    (hne : kb ≠ ka) (r0 : Region.ready .any ops listed = [ka, kb]) (r1 : Region.ready .any ops (listed.setIfInBounds ka true) = [kb]) (r2 : Region.ready .any ops (listed.setIfInBounds kb true) = [ka])
    (r3 : Region.ready .any ops ((listed.setIfInBounds ka true).setIfInBounds kb true) = [kc]) (r4 : Region.ready .any ops (((listed.setIfInBounds ka true).setIfInBounds kb true).setIfInBounds kc true) = [kd])
    (r5 : Region.ready .any ops ((((listed.setIfInBounds ka true).setIfInBounds kb true).setIfInBounds kc true).setIfInBounds kd true) = [])
    (p1 : ∀ g h, (a.put (some da) (.pointer (some ⟨g, 0, none⟩))).put (some db) (.pointer (some ⟨h, 0, none⟩)) = A g h) (p2 : ∀ g h, (a.put (some db) (.pointer (some ⟨h, 0, none⟩))).put (some da) (.pointer (some ⟨g, 0, none⟩)) = A g h)
    (x1 : ∀ g h, (A g h).eval xc = .pointer (some ⟨g, 0, none⟩)) (y1 : ∀ g h, (A g h).eval yc = .agg C) (x2 : ∀ g h, (A g h).eval xd = .pointer (some ⟨h, 0, none⟩)) (y2 : ∀ g h, (A g h).eval yd = .agg D)
    (fin : ∀ g h W, g ≠ h → B ≤ g → B ≤ h → S W → ndAt W g C → ndAt W h D → Q .normal (A g h) W) :
    Orders2 Tryz.prog .any ops Q S 4 listed a (fun _ => True) := by
  refine Orders2.two r0 (fun W sW _ => Orders2.walk oa fun K hK => ?_) (fun W sW _ => Orders2.walk ob fun K hK => ?_)
  all_goals
    rw [if_pos (show Region.wanted _ _ = true from rfl)]
    refine wp_alloc_nd ?_
    have hg := hB _ sW
    refine hK _ _ (fun w => ndAt w W.heap.size zeroNd) (fun w1 w2 t hb => t.kept hb) (SST _ _ sW ((Below.refl _ _).alloc (Nat.le_refl _) _)) (heap_alloc_new W _) ?_
    clear hK K sW
    generalize W.heap.size = g at *
    clear W
  · refine Orders2.one (k := kb) r1 ob (fun W sW tW K hK => ?_)
    rw [if_pos (show Region.wanted _ _ = true from rfl)]
    refine wp_alloc_nd ?_
    have hh := hB _ sW
    have hgh : g ≠ W.heap.size := Nat.ne_of_lt tW.lt
    refine hK _ _ (fun w => ndAt w g zeroNd ∧ ndAt w W.heap.size zeroNd) (fun w1 w2 t hb => ⟨t.1.kept hb, t.2.kept hb⟩) (SST _ _ sW ((Below.refl _ _).alloc (Nat.le_refl _) _)) ⟨tW.kept ((Below.refl _ _).alloc (Nat.le_refl _) _), heap_alloc_new W _⟩ ?_
    rw [p1]
    exact nd_stores SST (fun W' s => hrow W' g C hg s) (fun W' s => hrow W' _ D hh s) hgh IC ID OC OD oc od r3 r4 r5 (x1 _ _) (y1 _ _) (x2 _ _) (y2 _ _) (fun W' s t1 t2 => fin _ _ W' hgh hg hh s t1 t2)
  · refine Orders2.one (k := ka) r2 oa (fun W sW tW K hK => ?_)
    rw [if_pos (show Region.wanted _ _ = true from rfl)]
    refine wp_alloc_nd ?_
    have hh := hB _ sW
    have hgh : W.heap.size ≠ g := Ne.symm (Nat.ne_of_lt tW.lt)
    refine hK _ _ (fun w => ndAt w W.heap.size zeroNd ∧ ndAt w g zeroNd) (fun w1 w2 t hb => ⟨t.1.kept hb, t.2.kept hb⟩) (SST _ _ sW ((Below.refl _ _).alloc (Nat.le_refl _) _)) ⟨heap_alloc_new W _, tW.kept ((Below.refl _ _).alloc (Nat.le_refl _) _)⟩ ?_
    rw [p2, Array.setIfInBounds_comm _ _ hne]
    exact nd_stores SST (fun W' s => hrow W' _ C hh s) (fun W' s => hrow W' g D hg s) hgh IC ID OC OD oc od r3 r4 r5 (x1 _ _) (y1 _ _) (x2 _ _) (y2 _ _) (fun W' s t1 t2 => fin _ _ W' hgh hh hg s t1 t2)
end

end Go.Proofs.YtdkjfppjbkdelaaGreatDoor
