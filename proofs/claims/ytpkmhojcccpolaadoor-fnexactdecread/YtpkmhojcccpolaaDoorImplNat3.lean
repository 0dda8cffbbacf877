/- impl.naturalsOf. Conditions: at most 1048576 bytes. -/
import Derived.Test.YtpkmhojcccpolaaDoorImplNat2
import Derived.StillTailTactics
namespace Go.Proofs.YtpkmhojcccpolaaDoor
set_option linter.unusedVariables false
open Go.RowKit
open Go.Lib (byteCells)

theorem NatAt.row {w : World} {g v n v' n' : Nat} {C : Array Value} (h : NatAt w g v' n') (hI : IsNat C v n) : NatAt (w.setRow g C) g v n := by
  obtain ⟨O, h, _⟩ := h
  exact ⟨C, setRow_heap w g O C _ _ h, hI⟩
theorem NatAt.rowOther {w : World} {g k v n : Nat} (h : NatAt w g v n) (C : Array Value) (hk : g ≠ k) : NatAt (w.setRow k C) g v n := h.keep (setRow_other w k g C hk)

theorem still_load {ops : Array Oper} {rest : List Oper} {a : Act} {w : World} {Q : Act → Prop} {dst : Option Tmp} {ty : TypeId} {pos : String} {after : Array Edge} {x : Operand} {C : Array Value} {v n : Nat} (g : Nat)
    (hx : a.eval x = .pointer (some ⟨g, 0, none⟩)) (hg : w.heap[g]? = some (.cells C 63 (0, 0))) (hI : IsNat C v n) (h : wpStill Tryd.prog ops w Q rest (a.put dst (.agg C))) :
    wpStill Tryd.prog ops w Q (⟨dst, .load 63 x, ty, pos, after, none⟩ :: rest) a := by
  refine wpStill_step fun K hK => ?_
  rw [if_pos (show Region.wanted _ _ = true from rfl)]
  unfold Oper.still execOp
  simp only [hx, Instr.loadAt, Instr.sureAddr, Sem.run_bind, Sem.run_pure, Result.andThen_ok, run_loadVar_row (P := Tryd.prog) w g 63 63 C (0, 0) _ hg Tryd.underlying63 rfl (by rw [hI.size]; exact Tryd.sizeNat)]
  rw [Oper.stillUpon_value]
  exact hK _ h

theorem results_nat3 {fn : Func} {p q u : Tmp} (h : fn.results = #[.cell p 63, .cell q 63, .tmp u]) (tmps : Array Value) (w : World) {g k : Nat} {C D : Array Value} {v n v' n' : Nat} {x : Value}
    (hp : tmps.getD p undef = .pointer (some ⟨g, 0, none⟩)) (hq : tmps.getD q undef = .pointer (some ⟨k, 0, none⟩)) (hu : tmps.getD u undef = x)
    (hg : w.heap[g]? = some (.cells C 63 (0, 0))) (hI : IsNat C v n) (hk : w.heap[k]? = some (.cells D 63 (0, 0))) (hJ : IsNat D v' n') :
    (results fn tmps).run Tryd.prog w = .ok (.tuple #[.agg C, .agg D, x]) w := by
  have hl := run_loadVar_row (P := Tryd.prog) w g 63 63 C (0, 0) _ hg Tryd.underlying63 rfl (by rw [hI.size]; exact Tryd.sizeNat)
  have hm := run_loadVar_row (P := Tryd.prog) w k 63 63 D (0, 0) _ hk Tryd.underlying63 rfl (by rw [hJ.size]; exact Tryd.sizeNat)
  have hp' : tmps[p]?.getD undef = .pointer (some ⟨g, 0, none⟩) := by simpa using hp
  have hq' : tmps[q]?.getD undef = .pointer (some ⟨k, 0, none⟩) := by simpa using hq
  have hu' : tmps[u]?.getD undef = x := by simpa using hu
  simp [results, h, hp', hq', hu', asAddr, hl, hm]

/-- In a region that draws its order: a whole natural may be taken out first. -/
theorem yields_load {ops : Array Oper} {S : World → Prop} {a : Act} {dst : Option Tmp} {ty : TypeId} {pos : String} {after : Array Edge} {x : Operand} {C : Array Value} {v n : Nat} (g : Nat)
    (hx : a.eval x = .pointer (some ⟨g, 0, none⟩)) (hS : ∀ W, S W → W.heap[g]? = some (.cells C 63 (0, 0))) (hI : IsNat C v n) :
    YieldsIf Tryd.prog ops S ⟨dst, .load 63 x, ty, pos, after, none⟩ (.agg C) a :=
  .inl ⟨rfl, fun W hW => by
    unfold execOp
    simp only [hx, Instr.loadAt, Instr.sureAddr, Sem.run_bind, Sem.run_pure, Result.andThen_ok, run_loadVar_row (P := Tryd.prog) W g 63 63 C (0, 0) _ (hS W hW) Tryd.underlying63 rfl (by rw [hI.size]; exact Tryd.sizeNat)]⟩
/-- .. and the one store that may come up is carried out. -/
theorem held_store {md : Region.Mode} {ops : Array Oper} {S : World → Prop} {Q : Exit → Act → World → Prop} {fuel : Nat} {listed : Array Bool} {a : Act} {w : World} {dst : Option Tmp} {ty : TypeId} {pos : String} {after : Array Edge} {x y : Operand} {C O : Array Value} {v n v' n' : Nat} (i g : Nat)
    (hr : Region.ready md ops listed = [i]) (ho : ops[i]? = some ⟨dst, .store 63 x y, ty, pos, after, none⟩)
    (hx : a.eval x = .pointer (some ⟨g, 0, none⟩)) (hy : a.eval y = .agg C) (hg : w.heap[g]? = some (.cells O 63 (0, 0))) (hO : IsNat O v' n') (hI : IsNat C v n) (hS : S (w.setRow g C))
    (h : wpAnyH Tryd.prog md ops Q S fuel (listed.setIfInBounds i true) (a.put dst undef) (w.setRow g C)) : wpAnyH Tryd.prog md ops Q S (fuel + 1) listed a w := by
  refine wpAnyH_all hr (by simp) fun j hj => ?_
  obtain rfl : j = i := by simpa using hj
  refine wpOp_step ho fun K hK => ?_
  rw [if_pos (show Region.wanted _ _ = true from rfl)]
  exact wp_store_row 63 x y rfl g C hx hy _ O hg (by rw [hI.size]; exact Tryd.sizeNat) (by rw [hO.size, hI.size]) hI.one (hK _ _ ⟨hS, h⟩)

theorem take_held {P : Program} {md : Region.Mode} {ops : Array Oper} {S : World → Prop} {Q : Exit → Act → World → Prop} {fuel : Nat} {listed : Array Bool} {a : Act} {w : World} {dst : Option Tmp} {op : Op} {ty : TypeId} {pos : String} {after : Array Edge} {gd : Option (Nat × Bool)} {v : Value} (i : Nat)
    (ho : ops[i]? = some ⟨dst, op, ty, pos, after, gd⟩) (hs : Region.noSelect ops = true) (hf : Region.free md ops listed i = true) (hr : (Region.ready md ops listed).contains i = true)
    (hQ : ∀ c a w, Q (.panic c) (a.put dst v) w → Q (.panic c) a w) (hy : YieldsIf P ops S ⟨dst, op, ty, pos, after, gd⟩ v a) (hS : S w)
    (h : wpAnyH P md ops Q S fuel (listed.setIfInBounds i true) (a.put dst v) w) : wpAnyH P md ops Q S (fuel + 1) listed a w :=
  wpAnyH_take ho hs hf hr hQ hy hS h

def AnsNats (s t : ByteArray) (w : World) (e : Ending) (w' : World) : Prop := ∃ C D, e = .returned (.tuple #[.agg C, .agg D, .bool (okS s && okS t)]) ∧ IsNat C (ofV s) (len (ofV s)) ∧ IsNat D (ofV t) (len (ofV t)) ∧ Below w.heap.size w w'

set_option maxHeartbeats 2000000 in
set_option maxRecDepth 100000 in
theorem implNaturalsOf (s t : ByteArray) (w : World) (hs : s.size ≤ 1048576) (ht : t.size ≤ 1048576) :
    Calls Tryd.prog 126 #[.string s, .string t] w (AnsNats s t w) := by
  have cS := fun W => implNaturalOf s W hs
  have cT := fun W => implNaturalOf t W ht
  have hz := Tryd.zeroNat
  unfold AnsNat at cS cT
  have HZ := Lib.hid hs
  clear hs ht
  unfold AnsNats
  generalize ofV s = vs at *
  generalize ofV t = vt at *
  generalize okS s = bs at *
  generalize okS t = bt at *
  go_enter Tryd.func126, Tryd.ntmps126
  go_wp2_with fail
  refine (cS _).mono ?_
  rintro e w1 ⟨C, rfl, IC, B1⟩
  clear cS
  have N0 := ((NatAt.new w zero_is).alloc (.cells zeroCells 63)).below B1 (by simp; omega)
  have N1 := NatAt.new (w.alloc (.cells zeroCells 63)) zero_is
  have hsz : (w.alloc (.cells zeroCells 63)).heap.size = w.heap.size + 1 := by simp
  rw [hsz] at N1
  have M1 := N1.below B1 (by simp)
  have D1 : Below w.heap.size w w1 := (((Below.refl _ _).alloc (Nat.le_refl _) _).alloc (by simp) _).trans (B1.mono (by simp; omega))
  have hlt1 : w.heap.size + 1 < w1.heap.size := M1.lt
  clear N1 hsz B1
  go_wp2_with (refine store_nat w1.heap.size rfl rfl (heap_alloc_new w1 _) zero_is IC ?_)
  refine (cT _).mono ?_
  rintro e w2 ⟨D, rfl, ID, B2⟩
  clear cT
  have hs3 : ((w1.alloc (.cells zeroCells 63)).setRow w1.heap.size C).heap.size = w1.heap.size + 1 := by simp
  rw [hs3] at B2
  have P0 := ((N0.alloc (.cells zeroCells 63)).rowOther C (k := w1.heap.size) (by omega)).below B2 (by omega)
  have P1 := ((M1.alloc (.cells zeroCells 63)).rowOther C (k := w1.heap.size) (by omega)).below B2 (by omega)
  have P2 := ((NatAt.new w1 zero_is).row IC).below B2 (by omega)
  have D2 : Below w.heap.size w w2 := (below_row (D1.alloc (by omega) _) (by omega) _).trans (B2.mono (by omega))
  have hlt2 : w1.heap.size < w2.heap.size := P2.lt
  clear B2 hs3 N0 M1 D1
  go_wp2_with (refine store_nat w2.heap.size rfl rfl (heap_alloc_new w2 _) zero_is ID ?_)
  have Q0 := (P0.alloc (.cells zeroCells 63)).rowOther D (k := w2.heap.size) (by omega)
  have Q1 := (P1.alloc (.cells zeroCells 63)).rowOther D (k := w2.heap.size) (by omega)
  have Q2 := (P2.alloc (.cells zeroCells 63)).rowOther D (k := w2.heap.size) (by omega)
  have Q3 := (NatAt.new w2 zero_is).row ID
  have D3 : Below w.heap.size w _ := below_row (D2.alloc (by omega) (.cells zeroCells 63)) (g := w2.heap.size) (by omega) D
  generalize (w2.alloc (.cells zeroCells 63)).setRow w2.heap.size D = w3 at *
  obtain ⟨C0, h0, I0⟩ := Q0
  obtain ⟨C1, h1, I1⟩ := Q1
  obtain ⟨C2, h2, I2⟩ := Q2
  obtain ⟨C3, h3, I3⟩ := Q3
  have n1 : w2.heap.size ≠ w.heap.size := by omega
  have n2 : w1.heap.size ≠ w.heap.size := by omega
  have n3 : w2.heap.size ≠ w.heap.size + 1 := by omega
  have n4 : w1.heap.size ≠ w.heap.size + 1 := by omega
  refine wp_region_held (S := fun W => W.heap[w1.heap.size]? = some (.cells C2 63 (0, 0)) ∧ W.heap[w2.heap.size]? = some (.cells C3 63 (0, 0))) (by kernel_rfl) (?_ : wpAnyH _ _ _ _ _ 9 #[false, false, false, false, false, false, false, false, false] _ _)
  refine take_held 0 rfl (by kernel_rfl) (by kernel_rfl) (by kernel_rfl) (fun _ _ _ h => h) (yields_load w1.heap.size rfl (fun _ h => h.1) I2) ⟨h2, h3⟩ ?_
  simp only [Act.put, List.setIfInBounds_toArray, List.set_cons_zero, List.set_cons_succ]
  refine take_held 1 rfl (by kernel_rfl) (by kernel_rfl) (by kernel_rfl) (fun _ _ _ h => h) (yields_load w2.heap.size rfl (fun _ h => h.2) I3) ⟨h2, h3⟩ ?_
  simp only [Act.put, List.setIfInBounds_toArray, List.set_cons_zero, List.set_cons_succ]
  refine take_held (v := .bool bs) 2 rfl (by kernel_rfl) (by kernel_rfl) (by kernel_rfl) (fun _ _ _ h => h) (.inl ⟨rfl, fun _ _ => rfl⟩) ⟨h2, h3⟩ ?_
  simp only [Act.put, List.setIfInBounds_toArray, List.set_cons_zero, List.set_cons_succ]
  refine take_held (v := .bool bs) 3 rfl (by kernel_rfl) (by kernel_rfl) (by kernel_rfl) (fun _ _ _ h => h) (.inl ⟨rfl, fun _ _ => rfl⟩) ⟨h2, h3⟩ ?_
  simp only [Act.put, List.setIfInBounds_toArray, List.set_cons_zero, List.set_cons_succ]
  have k1 : ∀ {V : World}, V.heap[w1.heap.size]? = some (.cells C2 63 (0, 0)) → (V.setRow w.heap.size C2).heap[w1.heap.size]? = some (.cells C2 63 (0, 0)) := fun h => (setRow_other _ _ _ _ n2).trans h
  have k2 : ∀ {V : World}, V.heap[w2.heap.size]? = some (.cells C3 63 (0, 0)) → (V.setRow w.heap.size C2).heap[w2.heap.size]? = some (.cells C3 63 (0, 0)) := fun h => (setRow_other _ _ _ _ n1).trans h
  have k3 : ∀ {V : World}, V.heap[w1.heap.size]? = some (.cells C2 63 (0, 0)) → (V.setRow (w.heap.size + 1) C3).heap[w1.heap.size]? = some (.cells C2 63 (0, 0)) := fun h => (setRow_other _ _ _ _ n4).trans h
  have k4 : ∀ {V : World}, V.heap[w2.heap.size]? = some (.cells C3 63 (0, 0)) → (V.setRow (w.heap.size + 1) C3).heap[w2.heap.size]? = some (.cells C3 63 (0, 0)) := fun h => (setRow_other _ _ _ _ n3).trans h
  have h1' : ∀ {V : World}, V.heap[w.heap.size + 1]? = some (.cells C1 63 (0, 0)) → (V.setRow w.heap.size C2).heap[w.heap.size + 1]? = some (.cells C1 63 (0, 0)) := fun h => (setRow_other _ _ _ _ (by omega)).trans h
  have hfin : ∀ {V : World}, V.heap[w.heap.size]? = some (.cells C0 63 (0, 0)) → ((V.setRow w.heap.size C2).setRow (w.heap.size + 1) C3).heap[w.heap.size]? = some (.cells C2 63 (0, 0)) := fun h => (setRow_other _ _ _ _ (by omega)).trans (setRow_heap _ _ _ _ _ _ h)
  have D4 : Below w.heap.size w ((w3.setRow w.heap.size C2).setRow (w.heap.size + 1) C3) := below_row (below_row D3 (Nat.le_refl _) _) (Nat.le_succ _) _
  cases bs
  · refine take_held (v := undef) 4 rfl (by kernel_rfl) (by kernel_rfl) (by kernel_rfl) (fun _ _ _ h => h) (.inr ⟨rfl, rfl⟩) ⟨h2, h3⟩ ?_
    simp only [Act.put, List.setIfInBounds_toArray, List.set_cons_zero, List.set_cons_succ]
    refine take_held (v := .bool false) 5 rfl (by kernel_rfl) (by kernel_rfl) (by kernel_rfl) (fun _ _ _ h => h) (.inl ⟨rfl, fun _ _ => rfl⟩) ⟨h2, h3⟩ ?_
    simp only [Act.put, List.setIfInBounds_toArray, List.set_cons_zero, List.set_cons_succ]
    refine held_store 6 w.heap.size (by kernel_rfl) rfl rfl rfl h0 I0 I2 ⟨k1 h2, k2 h3⟩ ?_
    simp only [Act.put, List.setIfInBounds_toArray, List.set_cons_zero, List.set_cons_succ]
    refine held_store 7 (w.heap.size + 1) (by kernel_rfl) rfl rfl rfl (h1' h1) I1 I3 ⟨k3 (k1 h2), k4 (k2 h3)⟩ ?_
    simp only [Act.put, List.setIfInBounds_toArray, List.set_cons_zero, List.set_cons_succ]
    refine take_held (v := .bool false) 8 rfl (by kernel_rfl) (by kernel_rfl) (by kernel_rfl) (fun _ _ _ h => h) (.inl ⟨rfl, fun _ _ => rfl⟩) ⟨k3 (k1 h2), k4 (k2 h3)⟩ ?_
    simp only [Act.put, List.setIfInBounds_toArray, List.set_cons_zero, List.set_cons_succ]
    refine wpAnyH_done (by kernel_rfl) ?_ _
    go_wp2
    refine bodyPost_ret (results_nat3 rfl _ _ rfl rfl rfl (hfin h0) I2 (setRow_heap _ _ _ _ _ _ (h1' h1)) I3) rfl ?_
    exact ⟨C2, C3, rfl, I2, I3, ⟨D4.os, D4.tape, D4.output, D4.size, D4.block⟩⟩
  · refine take_held (v := .bool bt) 4 rfl (by kernel_rfl) (by kernel_rfl) (by kernel_rfl) (fun _ _ _ h => h) (.inl ⟨rfl, fun _ _ => rfl⟩) ⟨h2, h3⟩ ?_
    simp only [Act.put, List.setIfInBounds_toArray, List.set_cons_zero, List.set_cons_succ]
    refine take_held (v := .bool bt) 5 rfl (by kernel_rfl) (by kernel_rfl) (by kernel_rfl) (fun _ _ _ h => h) (.inl ⟨rfl, fun _ _ => rfl⟩) ⟨h2, h3⟩ ?_
    simp only [Act.put, List.setIfInBounds_toArray, List.set_cons_zero, List.set_cons_succ]
    refine held_store 6 w.heap.size (by kernel_rfl) rfl rfl rfl h0 I0 I2 ⟨k1 h2, k2 h3⟩ ?_
    simp only [Act.put, List.setIfInBounds_toArray, List.set_cons_zero, List.set_cons_succ]
    refine held_store 7 (w.heap.size + 1) (by kernel_rfl) rfl rfl rfl (h1' h1) I1 I3 ⟨k3 (k1 h2), k4 (k2 h3)⟩ ?_
    simp only [Act.put, List.setIfInBounds_toArray, List.set_cons_zero, List.set_cons_succ]
    refine take_held (v := .bool bt) 8 rfl (by kernel_rfl) (by kernel_rfl) (by kernel_rfl) (fun _ _ _ h => h) (.inl ⟨rfl, fun _ _ => rfl⟩) ⟨k3 (k1 h2), k4 (k2 h3)⟩ ?_
    simp only [Act.put, List.setIfInBounds_toArray, List.set_cons_zero, List.set_cons_succ]
    refine wpAnyH_done (by kernel_rfl) ?_ _
    go_wp2
    refine bodyPost_ret (results_nat3 rfl _ _ rfl rfl rfl (hfin h0) I2 (setRow_heap _ _ _ _ _ _ (h1' h1)) I3) rfl ?_
    exact ⟨C2, C3, rfl, I2, I3, ⟨D4.os, D4.tape, D4.output, D4.size, D4.block⟩⟩

end Go.Proofs.YtpkmhojcccpolaaDoor
