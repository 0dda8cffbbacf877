/- A law on a region that draws its order, its last operations in one forced order: where what each of the others gives is the same in every world that meets a condition, and the condition is met again behind each of them, calls that make memory let in, ONE walk in the order of the text serves for all orders. Own work, on the library's laws on orders. No program in it. -/
import Derived.StillTail
import Derived.StillTactics
namespace Go.Proofs.YtdkjfppjbkdelaaGreatDoor
set_option linter.unusedVariables false

section
variable {P : Program} {ops : Array Oper} {md : Region.Mode} {S : World → Prop} {Q : Exit → Act → World → Prop}

/-- At a world: the operation gives v there, and the condition is met behind it. -/
def GivesAt (P : Program) (S : World → Prop) (o : Oper) (v : Value) (a : Act) (w : World) : Prop :=
  (execOp a.eval o).run P w = .ok (.value v) w ∨ ((execOp a.eval o).run P w = .ok .skip w ∧ v = undef) ∨
    ∃ f args, (execOp a.eval o).run P w = .ok (.enter f args) w ∧ Calls P f args w (fun r w' => r = .returned v ∧ S w')
/-- In every world that meets the condition; or the operation is not wanted. -/
def Gives (P : Program) (ops : Array Oper) (S : World → Prop) (o : Oper) (v : Value) (a : Act) : Prop :=
  (Region.wanted o (yielded ops a.tmps) = false ∧ v = undef) ∨ (Region.wanted o (yielded ops a.tmps) = true ∧ ∀ w, S w → GivesAt P S o v a w)

theorem Gives.same {o : Oper} {v : Value} {a b : Act} (h : Gives P ops S o v a) (he : execOp b.eval o = execOp a.eval o) (hw : Region.wanted o (yielded ops b.tmps) = Region.wanted o (yielded ops a.tmps)) : Gives P ops S o v b := by
  unfold Gives GivesAt at h ⊢
  rw [he, hw]
  exact h

theorem Gives.op {i : Nat} {o : Oper} {v : Value} {a : Act} {w : World} {K : Act → World → Prop} (h : Gives P ops S o v a) (hi : ops[i]? = some o) (hS : S w) (hK : ∀ w', S w' → K (a.put o.dst v) w') : wpOp P ops Q i K a w := by
  unfold wpOp
  simp only [hi]
  rcases h with ⟨h1, h2⟩ | ⟨h1, h2⟩
  · subst h2
    simp only [h1, Bool.false_eq_true, if_false]
    exact hK w hS
  · simp only [h1, if_true]
    left
    unfold Oper.wp
    rcases h2 w hS with e | ⟨e, rfl⟩ | ⟨f, args, e, c⟩
    · rw [e]; exact hK w hS
    · rw [e]; exact hK w hS
    · rw [e]
      refine c.mono ?_
      rintro r w' ⟨rfl, hw'⟩
      exact hK w' hw'

/-- Whether another's value is there already makes no difference to an operation that is apart from it; what the operation leaves alone stays. -/
theorem op_late {j : Nat} {oi oj : Oper} {v : Value} {a : Act} {w : World} {K : Act → World → Prop} {Y : Act → Prop} (hj : ops[j]? = some oj) (hap : oi.apart ops oj = true) (hsel : ∀ cs b, oj.op ≠ .select cs b)
    (hQ : ∀ c a w, Q (.panic c) (a.put oi.dst v) w → Q (.panic c) a w) (hY : ∀ u, Y (a.put oj.dst u)) (hY2 : ∀ d, Y (({ a with defers := d :: a.defers } : Act).put oj.dst undef))
    (h : wpOp P ops Q j K (a.put oi.dst v) w) : wpOp P ops Q j (fun b w' => Y b ∧ K (b.put oi.dst v) w') a w := by
  obtain ⟨p1, p2, p3⟩ := Oper.apart_spec hap
  have comm : ∀ (b : Act) (u : Value), (b.put oj.dst u).put oi.dst v = (b.put oi.dst v).put oj.dst u := fun b u => (Act.put_comm b v u p2).symm
  unfold wpOp at h ⊢
  simp only [hj] at h ⊢
  rw [wanted_put oj a oi.dst v p1] at h
  cases hw : Region.wanted oj (yielded ops a.tmps)
  · simp only [hw, Bool.false_eq_true, if_false] at h ⊢
    exact ⟨hY _, by rw [comm]; exact h⟩
  · simp only [hw, if_true] at h ⊢
    rcases h with h | ⟨h, hl⟩
    · left
      unfold Oper.wp at h ⊢
      rw [execOp_put oj hsel a oi.dst v p1] at h
      cases hr : (execOp a.eval oj).run P w with
      | halt x w' =>
        rw [hr] at h
        cases x <;> first | exact hQ _ _ _ h | exact h
      | ok n w' =>
        rw [hr] at h
        cases n with
        | value u => exact ⟨hY u, by rw [comm]; exact h⟩
        | skip => exact ⟨hY undef, by rw [comm]; exact h⟩
        | defer d => exact ⟨hY2 d, by rw [comm, ← Act.put_defers]; exact h⟩
        | enter f args =>
          refine Calls.mono h ?_
          intro r w'' hr'
          cases r with
          | returned u => exact ⟨hY u, by rw [comm]; exact hr'⟩
          | panicked c => exact hQ _ _ _ hr'
          | outgrown => exact hr'
        | row row args => exact Rows.mono h fun u w'' hr' => ⟨hY u, by rw [comm]; exact hr'⟩
        | _ => exact h
    · right
      exact ⟨by unfold Oper.asks at h ⊢; rw [execOp_put oj hsel a oi.dst v p1] at h; exact h, hl⟩

/-- Every order of the operations ahead of number n, in every world that meets the condition. -/
def AllOrders (P : Program) (md : Region.Mode) (ops : Array Oper) (Q : Exit → Act → World → Prop) (S : World → Prop) (n : Nat) (L : Array Bool → Act → Prop) : Nat → Array Bool → Act → Prop
  | 0, listed, a => L listed a
  | f + 1, listed, a => Region.ready md ops listed ≠ [] ∧ ∀ i ∈ Region.ready md ops listed, i < n ∧ ∀ w, S w → wpOp P ops Q i (fun b w' => S w' ∧ AllOrders P md ops Q S n L f (listed.setIfInBounds i true) b) a w

theorem AllOrders.any {n g : Nat} {L : Array Bool → Act → Prop} (hL : ∀ listed a w, S w → L listed a → wpAny P md ops Q g listed a w) : ∀ (f : Nat) (listed : Array Bool) (a : Act) (w : World), S w → AllOrders P md ops Q S n L f listed a → wpAny P md ops Q (f + g) listed a w
  | 0, listed, a, w, hS, h => by rw [Nat.zero_add]; exact hL _ _ _ hS h
  | f + 1, listed, a, w, hS, h => by
    rw [Nat.add_right_comm]
    exact ⟨fun e => absurd e h.1, fun i hi => wpOp_mono (fun b w' hb => AllOrders.any hL f _ b w' hb.1 hb.2) ((h.2 i hi).2 w hS)⟩

theorem AllOrders.first {n i : Nat} {oi : Oper} {v : Value} {L : Array Bool → Act → Prop} (hi : ops[i]? = some oi) (hsel : ∀ (j : Nat) (o : Oper) cs b, ops[j]? = some o → o.op ≠ .select cs b)
    (hs : Region.sinkB md ops n = true) (hc : Region.chainB md ops n = true) (hn : n < ops.size) (hin : i < n) (hQ : ∀ c a w, Q (.panic c) (a.put oi.dst v) w → Q (.panic c) a w)
    (hend : ∀ listed a, L listed a → ∀ j ∈ Region.ready md ops listed, n ≤ j) : ∀ (f : Nat) (listed : Array Bool) (a : Act), HeadInv md ops n listed →
      (∀ j oj, ops[j]? = some oj → j ≠ i → listed.getD j true = false → (∀ e ∈ oj.after, Region.binds md e = true → e.on ≠ i) → oi.apart ops oj = true) →
      i ∈ Region.ready md ops listed → Gives P ops S oi v a → AllOrders P md ops Q S n L f (listed.setIfInBounds i true) (a.put oi.dst v) → AllOrders P md ops Q S n L (f + 1) listed a := by
  intro f
  induction f with
  | zero =>
    intro listed a inv _ hr hy H
    refine ⟨fun e => (by rw [e] at hr; cases hr), fun j hj => ?_⟩
    have hjn : j < n := Nat.lt_of_not_le fun g => tail_waits hs hc hn inv _ i rfl hin (mem_ready.1 hr).1 j g hj
    by_cases e : j = i
    · subst e
      exact ⟨hjn, fun w hS => hy.op hi hS fun w' hw' => ⟨hw', H⟩⟩
    · exact absurd (hend _ _ H j (ready_mono hj e)) (by omega)
  | succ f ih =>
    intro listed a inv hfree hr hy H
    have hun := (mem_ready.1 hr).1
    refine ⟨fun e => (by rw [e] at hr; cases hr), fun j hj => ?_⟩
    have hjn : j < n := Nat.lt_of_not_le fun g => tail_waits hs hc hn inv _ i rfl hin hun j g hj
    by_cases e : j = i
    · subst e
      exact ⟨hjn, fun w hS => hy.op hi hS fun w' hw' => ⟨hw', H⟩⟩
    · refine ⟨hjn, fun w hS => ?_⟩
      obtain ⟨hjun, oj, hoj, hall⟩ := mem_ready.1 hj
      have hno : ∀ x ∈ oj.after, Region.binds md x = true → x.on ≠ i := fun x hx hb hxi => by
        have g := hall x hx hb
        rw [hxi, getD_both hun] at g
        cases g
      have hap := hfree j oj hoj e hjun hno
      have p3 := (Oper.apart_spec hap).2.2
      have stay : ∀ u, Gives P ops S oi v (a.put oj.dst u) := fun u => hy.same (execOp_put oi (fun cs b => hsel i oi cs b hi) a oj.dst u p3) (wanted_put oi a oj.dst u p3)
      have stay2 : ∀ d, Gives P ops S oi v (({ a with defers := d :: a.defers } : Act).put oj.dst undef) := fun d =>
        (hy.same (b := { a with defers := d :: a.defers }) rfl rfl).same (execOp_put oi (fun cs b => hsel i oi cs b hi) _ oj.dst undef p3) (wanted_put oi _ oj.dst undef p3)
      have H1 := (H.2 j (ready_mono hj e)).2 w hS
      refine wpOp_mono ?_ (op_late (Y := Gives P ops S oi v) hoj hap (fun cs b => hsel j oj cs b hoj) hQ stay stay2 H1)
      rintro b w' ⟨hb1, hb2, hb3⟩
      refine ⟨hb2, ih _ b (inv.set hj hjn) (fun k ok hk hki hku hkn => hfree k ok hk hki ?_ hkn) (ready_mono hr (Ne.symm e)) hb1 ?_⟩
      · by_cases g : j = k
        · subst g; exact hjun
        · rw [getD_set_ne true g] at hku; exact hku
      · rw [Array.setIfInBounds_comm _ _ e]; exact hb3

/-- The walk in the order of the text. -/
def wpKept (P : Program) (ops : Array Oper) (S : World → Prop) (L : Act → Prop) : List Oper → Act → Prop
  | [], a => L a
  | o :: rest, a => ∃ v, Gives P ops S o v a ∧ wpKept P ops S L rest (a.put o.dst v)

theorem AllOrders.lex {n g : Nat} {Lq : Act → Prop} (hno : Region.noSelect ops = true) (hs : Region.sinkB md ops n = true) (hc : Region.chainB md ops n = true) (hn : n < ops.size) (hQ : ∀ c a d v w, Q (.panic c) (Act.put a d v) w → Q (.panic c) a w) :
    ∀ (l : List Oper) (k : Nat) (listed : Array Bool) (a : Act), (∀ j, j < l.length → l[j]? = ops[k + j]?) → k + l.length = n → HeadInv md ops n listed → Region.lexHead md ops g l.length k listed = true →
      wpKept P ops S Lq l a → AllOrders P md ops Q S n (fun listed' a' => Region.seqB md ops g n listed' = true ∧ Lq a') l.length listed a
  | [], k, listed, a, _, hk, _, hB, h => by
    obtain rfl : k = n := hk
    exact ⟨hB, h⟩
  | o :: l, k, listed, a, hl, hk, inv, hB, ⟨v, h1, h2⟩ => by
    have h0 : ops[k]? = some o := by simpa using (hl 0 (by simp)).symm
    simp only [List.length_cons, Region.lexHead, Bool.and_eq_true] at hB hk
    have hr : k ∈ Region.ready md ops listed := by simpa using hB.1.1
    refine AllOrders.first h0 (Region.noSelect_spec hno) hs hc hn (by omega) (fun c a w => hQ c a _ _ w) (fun _ _ hL => seqB_ready hL.1) l.length listed a inv (Region.free_spec h0 hB.1.2) hr h1 ?_
    exact AllOrders.lex hno hs hc hn hQ l (k + 1) _ _ (fun j hj => by have := hl (j + 1) (by simp; omega); simpa [Nat.add_assoc, Nat.add_comm 1 j] using this) (by omega) (inv.set hr (by omega)) hB.2 h2

/-- THE LAW. -/
theorem wp_region_kept {id : Nat} {a : Act} {w : World} {l : List Oper} (n : Nat) (S : World → Prop) (hm : P.follows .mixedOrders = true) (hB : Region.lexTailB .any l.toArray n = true) (hQ : ∀ c a d v w, Q (.panic c) (Act.put a d v) w → Q (.panic c) a w)
    (hS : S { w with drawn := w.drawn + 1 }) (h : wpKept P l.toArray S (fun a' => ∀ w', S w' → wpList P l.toArray Q (l.drop n) a' w') (l.take n) a) : (Code.region id l.toArray true).wp P Q a w := by
  simp only [Region.lexTailB, Bool.and_eq_true, decide_eq_true_eq] at hB
  obtain ⟨⟨⟨⟨q1, q2⟩, q3⟩, q4⟩, q5⟩ := hB
  have hn : n < l.length := by simpa using q2
  have e1 : (l.take n).length = n := by rw [List.length_take]; omega
  have e2 : (l.drop n).length = l.toArray.size - n := by simp
  have inv : HeadInv .any l.toArray n (Array.replicate l.toArray.size false) :=
    ⟨Array.size_replicate .., fun j oj _ g => (by rw [getD_replicate_false] at g; cases g), fun t _ g => getD_in (by simpa using g) (getD_replicate_false _ _)⟩
  have H := AllOrders.lex (md := .any) (g := l.toArray.size - n) (Q := Q) q1 q3 q4 q2 hQ (l.take n) 0 _ a (fun j hj => by
    rw [e1] at hj
    simp [hj]) (by omega) inv (by rw [e1]; exact q5) h
  rw [e1] at H
  have G := AllOrders.any (g := l.toArray.size - n) (fun listed b w' hw' hL => by
    have := wpAny_of_seq (P := P) (md := .any) (Q' := Q) (l.drop n) n listed b w' (fun j => by simp [List.getElem?_drop]) (by rw [e2]; exact hL.1) (hL.2 w' hw')
    rwa [e2] at this) _ _ _ _ hS H
  rw [show n + (l.toArray.size - n) = l.toArray.size by omega] at G
  exact wp_region_any hm G

/-- Every order of all operations. -/
def WholeOrders (P : Program) (md : Region.Mode) (ops : Array Oper) (Q : Exit → Act → World → Prop) (S : World → Prop) : Nat → Array Bool → Act → Prop
  | 0, listed, a => Region.ready md ops listed = [] ∧ ∀ w, S w → Q .normal a w
  | f + 1, listed, a => (Region.ready md ops listed = [] → ∀ w, S w → Q .normal a w) ∧ ∀ i ∈ Region.ready md ops listed, ∀ w, S w → wpOp P ops Q i (fun b w' => S w' ∧ WholeOrders P md ops Q S f (listed.setIfInBounds i true) b) a w

theorem WholeOrders.any : ∀ (f : Nat) (listed : Array Bool) (a : Act) (w : World), S w → WholeOrders P md ops Q S f listed a → wpAny P md ops Q f listed a w
  | 0, _, _, w, hS, h => ⟨h.1, h.2 w hS⟩
  | f + 1, _, _, w, hS, h => ⟨fun e => h.1 e w hS, fun i hi => wpOp_mono (fun b w' hb => WholeOrders.any f _ b w' hb.1 hb.2) (h.2 i hi w hS)⟩

theorem WholeOrders.first {i : Nat} {oi : Oper} {v : Value} (hi : ops[i]? = some oi) (hsel : ∀ (j : Nat) (o : Oper) cs b, ops[j]? = some o → o.op ≠ .select cs b) (hQ : ∀ c a w, Q (.panic c) (a.put oi.dst v) w → Q (.panic c) a w) :
    ∀ (f : Nat) (listed : Array Bool) (a : Act),
      (∀ j oj, ops[j]? = some oj → j ≠ i → listed.getD j true = false → (∀ e ∈ oj.after, Region.binds md e = true → e.on ≠ i) → oi.apart ops oj = true) →
      i ∈ Region.ready md ops listed → Gives P ops S oi v a → WholeOrders P md ops Q S f (listed.setIfInBounds i true) (a.put oi.dst v) → WholeOrders P md ops Q S (f + 1) listed a := by
  intro f
  induction f with
  | zero =>
    intro listed a _ hr hy H
    refine ⟨fun e => (by rw [e] at hr; cases hr), fun j hj w hS => ?_⟩
    by_cases e : j = i
    · subst e
      exact hy.op hi hS fun w' hw' => ⟨hw', H⟩
    · have g := ready_mono hj e
      rw [H.1] at g
      cases g
  | succ f ih =>
    intro listed a hfree hr hy H
    have hun := (mem_ready.1 hr).1
    refine ⟨fun e => (by rw [e] at hr; cases hr), fun j hj w hS => ?_⟩
    by_cases e : j = i
    · subst e
      exact hy.op hi hS fun w' hw' => ⟨hw', H⟩
    · obtain ⟨hjun, oj, hoj, hall⟩ := mem_ready.1 hj
      have hno : ∀ x ∈ oj.after, Region.binds md x = true → x.on ≠ i := fun x hx hb hxi => by
        have g := hall x hx hb
        rw [hxi, getD_both hun] at g
        cases g
      have hap := hfree j oj hoj e hjun hno
      have p3 := (Oper.apart_spec hap).2.2
      have stay : ∀ u, Gives P ops S oi v (a.put oj.dst u) := fun u => hy.same (execOp_put oi (fun cs b => hsel i oi cs b hi) a oj.dst u p3) (wanted_put oi a oj.dst u p3)
      have stay2 : ∀ d, Gives P ops S oi v (({ a with defers := d :: a.defers } : Act).put oj.dst undef) := fun d =>
        (hy.same (b := { a with defers := d :: a.defers }) rfl rfl).same (execOp_put oi (fun cs b => hsel i oi cs b hi) _ oj.dst undef p3) (wanted_put oi _ oj.dst undef p3)
      have H1 := H.2 j (ready_mono hj e) w hS
      refine wpOp_mono ?_ (op_late (Y := Gives P ops S oi v) hoj hap (fun cs b => hsel j oj cs b hoj) hQ stay stay2 H1)
      rintro b w' ⟨hb1, hb2, hb3⟩
      refine ⟨hb2, ih _ b (fun k ok hk hki hku hkn => hfree k ok hk hki ?_ hkn) (ready_mono hr (Ne.symm e)) hb1 ?_⟩
      · by_cases g : j = k
        · subst g; exact hjun
        · rw [getD_set_ne true g] at hku; exact hku
      · rw [Array.setIfInBounds_comm _ _ e]; exact hb3

theorem WholeOrders.lex (hno : Region.noSelect ops = true) (hQ : ∀ c a d v w, Q (.panic c) (Act.put a d v) w → Q (.panic c) a w) : ∀ (l : List Oper) (k : Nat) (listed : Array Bool) (a : Act), (∀ j, l[j]? = ops[k + j]?) → Region.lexFrom md ops l.length k listed = true →
      wpKept P ops S (fun a' => ∀ w, S w → Q .normal a' w) l a → WholeOrders P md ops Q S l.length listed a
  | [], _, _, _, _, hB, h => ⟨by simpa [Region.lexFrom] using hB, h⟩
  | o :: l, k, listed, a, hl, hB, ⟨v, h1, h2⟩ => by
    have h0 : ops[k]? = some o := by simpa using (hl 0).symm
    simp only [List.length_cons, Region.lexFrom, Bool.and_eq_true] at hB
    refine WholeOrders.first h0 (Region.noSelect_spec hno) (fun c a w => hQ c a _ _ w) l.length listed a (Region.free_spec h0 hB.1.2) (by simpa using hB.1.1) h1 ?_
    exact WholeOrders.lex hno hQ l (k + 1) _ _ (fun j => by have := hl (j + 1); simpa [Nat.add_assoc, Nat.add_comm 1 j] using this) hB.2 h2

/-- THE LAW, no operation set aside. -/
theorem wp_region_kept_all {id : Nat} {a : Act} {w : World} {l : List Oper} (S : World → Prop) (hm : P.follows .mixedOrders = true) (hB : Region.lexB .any l.toArray = true) (hQ : ∀ c a d v w, Q (.panic c) (Act.put a d v) w → Q (.panic c) a w)
    (hS : S { w with drawn := w.drawn + 1 }) (h : wpKept P l.toArray S (fun a' => ∀ w', S w' → Q .normal a' w') l a) : (Code.region id l.toArray true).wp P Q a w := by
  simp only [Region.lexB, Bool.and_eq_true] at hB
  have H := WholeOrders.lex (md := .any) hB.1 hQ l 0 (Array.replicate l.toArray.size false) a (by simp) (by simpa using hB.2) h
  exact wp_region_any hm (WholeOrders.any _ _ _ _ hS (by simpa using H))

/-- A step. -/
def Step (P : Program) (S : World → Prop) (o : Oper) (a : Act) (K : Act → Prop) : Prop := ∃ v, (∀ w, S w → GivesAt P S o v a w) ∧ K (a.put o.dst v)
theorem kept_step {L : Act → Prop} {o : Oper} {rest : List Oper} {a : Act} (h : ∀ K : Act → Prop, (∀ b, wpKept P ops S L rest b → K b) → if Region.wanted o (yielded ops a.tmps) then Step P S o a K else K (a.put o.dst undef)) : wpKept P ops S L (o :: rest) a := by
  have := h _ (fun _ g => g)
  cases hw : Region.wanted o (yielded ops a.tmps)
  · simp only [hw, Bool.false_eq_true, if_false] at this
    exact ⟨undef, .inl ⟨hw, rfl⟩, this⟩
  · simp only [hw, if_true] at this
    obtain ⟨v, h1, h2⟩ := this
    exact ⟨v, .inr ⟨hw, h1⟩, h2⟩
theorem kept_nil {L : Act → Prop} {a : Act} (h : L a) : wpKept P ops S L [] a := h
end
end Go.Proofs.YtdkjfppjbkdelaaGreatDoor
