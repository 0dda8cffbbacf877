/- The program's writer of patterns in memory; its first function: add. Conditions: strings of at most 10000 bytes. -/
import Derived.Test.YtdkjfppjbkdelaaGreatDoorRxOwn
import Derived.Test.YtdkjfppjbkdelaaGreatDoorRxTxtA
import Derived.Lib.AppendStr
import Derived.Laws.AppendOwn
import Derived.OwnWalk
import Derived.Test.YtdkjfppjbkdelaaGreatDoorShelf
import Derived.Lib.AppendIntMem
import Derived.Lib.OthersKept
import Derived.WalkSmall
namespace Go.Proofs.YtdkjfppjbkdelaaGreatDoor
set_option linter.unusedVariables false
open Go.RowKit
open Go.Lib (byteCells)

/-- The writer lies at block p: the nodes, what is written (acc), whether it has failed. -/
def WrAt (w : World) (p : Nat) (A : Option Addr) (n c : Nat) (v : Value) (fl : Bool) : Prop := w.heap[p]? = some (.cells #[.slice A n c, v, .bool fl] 88 (0, 0))
def RowB (w : World) (B : Nat) (v : Value) (acc : List UInt8) : Prop := w.ownsRow B 5 1 v acc.length (byteCells acc)
/-- What lies below the writer: the nodes, and strconv's table of powers. -/
def Low (w : World) (p : Nat) (A : Option Addr) (ns : List Nd) : Prop := Nodes w p A ns ∧ Lib.TabIs Tryz.prog w "internal/strconv.uint64pow10" .u64 Lib.pow10Tab ∧ 3 < p
/-- The writer with its nodes; st: what it has written, nothing where it has failed; F: the row's block. -/
def Wt (w : World) (p : Nat) (A : Option Addr) (c : Nat) (ns : List Nd) (st : Wr) (F : List Nat) : Prop :=
  ∃ v fl acc, WrAt w p A ns.length c v fl ∧ RowB w (p + 1) v acc ∧ acc.length ≤ 1000 ∧ st = (if fl = true then none else some acc) ∧ F = v.ownBlock.toList ∧ Low w p A ns
/-- Where a walk from w has come to. -/
def Wk (w : World) (p : Nat) (A : Option Addr) (c : Nat) (ns : List Nd) (F : List Nat) (st : Wr) (w1 : World) : Prop :=
  ∃ F1, Wt w1 p A c ns st F1 ∧ Keep (p :: F) w w1 ∧ ∀ b ∈ F1, b ∈ F ∨ w.heap.size ≤ b
def WPost (w : World) (p : Nat) (A : Option Addr) (c : Nat) (ns : List Nd) (F : List Nat) (st : Wr) (e : Ending) (w1 : World) : Prop := e = .returned (.tuple #[]) ∧ Wk w p A c ns F st w1

section
variable {w w1 w2 : World} {p n : Nat} {A : Option Addr} {c : Nat} {ns : List Nd} {st st1 st2 : Wr} {F F1 : List Nat} {v : Value} {fl : Bool}
theorem WrAt.cell (h : WrAt w p A n c v fl) : w.cell? ⟨p, 0, none⟩ = some (.slice A n c) ∧ w.cell? ⟨p, 1, none⟩ = some v ∧ w.cell? ⟨p, 2, none⟩ = some (.bool fl) := by
  unfold WrAt at h
  refine ⟨?_, ?_, ?_⟩ <;> rw [cell_of_row w p _ _ _ _ h] <;> rfl
theorem WrAt.frozen (h : WrAt w p A n c v fl) (j : Nat) : w.frozen? ⟨p, j, none⟩ = false := frozen_of_row w p j _ _ h
theorem WrAt.lt (h : WrAt w p A n c v fl) : p < w.heap.size := (Array.getElem?_eq_some_iff.1 h).1
theorem WrAt.set1 (h : WrAt w p A n c v fl) (u : Value) : WrAt (w.setCell ⟨p, 1, none⟩ u) p A n c u fl := by
  unfold WrAt at h ⊢; rw [heap_setCell_same w p 1 _ _ _ h]; rfl
theorem WrAt.set2 (h : WrAt w p A n c v fl) (b : Bool) : WrAt (w.setCell ⟨p, 2, none⟩ (.bool b)) p A n c v b := by
  unfold WrAt at h ⊢; rw [heap_setCell_same w p 2 _ _ _ h]; rfl
theorem RowB.gt {acc : List UInt8} (h : RowB w (p + 1) v acc) : ∀ b, v.ownBlock = some b → p < b ∧ b < w.heap.size := fun b hb => by have := h.lt b hb; omega
theorem RowB.set {acc : List UInt8} (h : RowB w (p + 1) v acc) (j : Nat) (u : Value) : RowB (w.setCell ⟨p, j, none⟩ u) (p + 1) v acc :=
  ((Keep.refl [p] w).setCell (.inl (by simp)) u).row h fun b hb hm => by simp at hm; have := (h.gt b hb).1; omega
theorem Low.keepG {G : List Nat} (h : Low w p A ns) (hk : Keep G w w1) (hp : p ≤ w.heap.size) (hG : ∀ b ∈ G, p ≤ b) : Low w1 p A ns :=
  ⟨h.1.below (hk.below hp hG), var?_below (hk.below hp hG) (show Tryz.prog.globalNamed "internal/strconv.uint64pow10" = some 3 by kernel_rfl) h.2.2 h.2.1, h.2.2⟩
theorem Wt.lt (h : Wt w p A c ns st F) : p < w.heap.size := by obtain ⟨v, fl, acc, h, _⟩ := h; exact h.lt
theorem Wt.range (h : Wt w p A c ns st F) : ∀ b ∈ F, p < b ∧ b < w.heap.size := by
  obtain ⟨v, fl, acc, _, h2, _, _, rfl, _⟩ := h
  intro b hb
  exact h2.gt b (by simpa using hb)
theorem Wt.keep (h : Wt w p A c ns st F) {G : List Nat} (hk : Keep G w w1) (hG : ∀ b ∈ G, p < b ∧ b ∉ F) : Wt w1 p A c ns st F := by
  obtain ⟨v, fl, acc, h1, h2, h3, h4, rfl, h6⟩ := h
  exact ⟨v, fl, acc, (hk.block p h1.lt fun e => by have := (hG p e).1; omega).trans h1, hk.row h2 fun b hb hm => (hG b hm).2 (by simp [hb]), h3, h4, rfl, h6.keepG hk (Nat.le_of_lt h1.lt) fun b hb => Nat.le_of_lt (hG b hb).1⟩
theorem Wt.keep0 (h : Wt w p A c ns st F) (hk : Keep [] w w1) : Wt w1 p A c ns st F := h.keep hk fun _ hb => by cases hb
theorem Wk.start (h : Wt w p A c ns st F) : Wk w p A c ns F st w := ⟨F, h, Keep.refl _ _, fun b hb => .inl hb⟩
theorem Wk.start0 (h : Wt w p A c ns st F) (hk : Keep [] w w1) : Wk w p A c ns F st w1 := ⟨F, h.keep0 hk, hk.nil, fun b hb => .inl hb⟩
theorem Wk.tr (hk : Keep (p :: F) w w1) (hf : ∀ b ∈ F1, b ∈ F ∨ w.heap.size ≤ b) (h : Wk w1 p A c ns F1 st w2) : Wk w p A c ns F st w2 := by
  obtain ⟨F2, h1, h2, h3⟩ := h
  refine ⟨F2, h1, hk.trans h2 fun b hb => ?_, fun b hb => ?_⟩
  · rcases List.mem_cons.1 hb with rfl | hb
    · exact .inl (by simp)
    · rcases hf b hb with h | h
      · exact .inl (List.mem_cons_of_mem _ h)
      · exact .inr h
  · rcases h3 b hb with h | h
    · exact hf b h
    · exact .inr (Nat.le_trans hk.size h)
theorem Wk.keep0 (h : Wk w p A c ns F st w1) (hk : Keep [] w1 w2) : Wk w p A c ns F st w2 := by
  obtain ⟨F1, h1, h2, h3⟩ := h
  exact ⟨F1, h1.keep0 hk, h2.tr hk.nil, h3⟩
theorem Wt.len {o : List UInt8} (h : Wt w p A c ns (some o) F) : o.length ≤ 1000 := by
  obtain ⟨v, fl, acc, _, _, h3, h4, _⟩ := h
  cases fl with
  | true => simp at h4
  | false => simp at h4; rw [h4]; exact h3
theorem Wt.nil (h : Wt w p A c ns st F) : W (some []) st = st := W_nil st fun o ho => by subst ho; exact h.len
end

/-- 'append' of a string to a row of the call's own: the row stays where it is, or is new. -/
theorem run_append_str2 {P : Program} (w : World) (base : Nat) (t u ty e : TypeId) (i : TypeInfo) (ht : P.underlying t = some (.slice e)) (hu : P.underlying u = some .string) (hi : P.info? e = some i) (hz : i.zero = some (.int .u8 0))
    (hsize : i.size = 1) (hby : i.bytes = 1) (v : Value) (n : Nat) (xs : List Value) (hown : w.ownsRow base e 1 v n xs) (s : ByteArray) (h63 : n + s.size ≤ maxLen) (hbytes : n + s.size ≤ 140737488355328) (hbase : base ≤ w.heap.size) :
    ∃ v' w', (Builtin.append_ #[t, u] ty #[v, .string s]).run P w = .ok v' w' ∧ w'.ownsRow base e 1 v' (n + s.size) (xs ++ Lib.strCells s) ∧ w.grownBy w' v.ownBlock ∧ (∀ b, v'.ownBlock = some b → v.ownBlock = some b ∨ w.heap.size ≤ b) := by
  obtain ⟨v', w', hr, h2, h3, _⟩ := Lib.run_append_own_string (P := P) w base t u ty e i ht hu hi hz hsize hby v n xs hown s h63 hbytes hbase
  refine ⟨v', w', hr, h2, h3, fun b hb => ?_⟩
  have hxl : xs.length = n := by simpa using hown.1
  rcases hown.2 with ⟨rfl, rfl⟩ | ⟨g, cap, cur, rfl, hbg, hg, hnc, hcm, hcs, htake⟩
  · obtain rfl : xs = [] := List.eq_nil_of_length_eq_zero hxl
    obtain ⟨v2, w2, hr2, h4, _, _⟩ := Lib.run_append_own_string (P := P) w w.heap.size t u ty e i ht hu hi hz hsize hby (.slice none 0 0) 0 [] (World.ownsRow_nil _ _ _ _) s h63 hbytes (Nat.le_refl _)
    rw [hr] at hr2
    injection hr2 with e1 e2
    subst e1
    subst e2
    exact .inr (h4.lt b hb).1
  · by_cases hroom : n + s.size ≤ cap
    · have hr2 := Lib.run_append_room_string (P := P) w t u ty e i ht hu hi hsize g n cap cur hg s hroom (by have h9 : cur.size = cap := (by simpa using hcs); omega)
      rw [hr] at hr2
      injection hr2 with e1 e2
      subst e1
      exact .inl hb
    · have hsmall : n + s.size ≤ 9223372036854775807 := by simp only [maxLen] at h63; omega
      have hr2 := Lib.run_append_grow_string (P := P) w t u ty e i (.int .u8 0) ht hu hi hz ⟨g, 0, none⟩ n cap xs (by rw [hsize]; simpa using hxl) (hown.cells (g := g) rfl) s (by omega) (by omega) (by rw [hby]; exact growslice_fits (by omega) (by omega))
      rw [hr] at hr2
      injection hr2 with e1 e2
      subst e1
      simp [Value.ownBlock] at hb
      exact .inr (by omega)
theorem list_append_str2 {P : Program} {w : World} {ops : Array Oper} {rest : List Oper} {o : Oper} {a : Act} {Q : Exit → Act → World → Prop} (hgd : o.guard = none) (sl x : Operand) (t u : TypeId)
    (ho : o.op = .call { callee := .builtin .append, args := #[sl, x], argTypes := #[t, u] })
    (base : Nat) (e : TypeId) (i : TypeInfo) (ht : P.underlying t = some (.slice e)) (hu : P.underlying u = some .string) (hi : P.info? e = some i) (hz : i.zero = some (.int .u8 0)) (hsize : i.size = 1) (hby : i.bytes = 1)
    (v : Value) (n : Nat) (xs : List Value) (hs : a.eval sl = v) (hown : w.ownsRow base e 1 v n xs) (s : ByteArray) (hx : a.eval x = .string s) (h63 : n + s.size ≤ maxLen) (hbytes : n + s.size ≤ 140737488355328) (hbase : base ≤ w.heap.size)
    (h : ∀ v' w', w'.ownsRow base e 1 v' (n + s.size) (xs ++ Lib.strCells s) → w.grownBy w' v.ownBlock → (∀ b, v'.ownBlock = some b → v.ownBlock = some b ∨ w.heap.size ≤ b) → wpList P ops Q rest (a.put o.dst v') w') : wpList P ops Q (o :: rest) a w := by
  refine wpList_plain hgd fun K hK => ?_
  obtain ⟨v', w', hr, h2, h3, h4⟩ := run_append_str2 (P := P) w base t u o.type e i ht hu hi hz hsize hby v n xs hown s h63 hbytes hbase
  unfold Oper.wp execOp
  simp only [ho, resolve, invoke, builtin, Sem.run_bind, Sem.run_pure, Result.andThen_ok, List.map_toArray, List.map_cons, List.map_nil, hs, hx, hr]
  exact hK _ _ (h v' w' h2 h3 h4)

theorem wadd_after {w w1 : World} {p n c : Nat} {A : Option Addr} {v : Value} {fl : Bool} {acc : List UInt8} (hW : WrAt w p A n c v fl) (hR : RowB w (p + 1) v acc) (hg : w.grownBy w1 v.ownBlock) : WrAt w1 p A n c v fl ∧ Keep v.ownBlock.toList w w1 :=
  ⟨(hg.block p hW.lt fun e => by have := (hR.gt p e.symm).1; omega).trans hW, Keep.ofGrown hg⟩
theorem row_str {w : World} {B : Nat} {v : Value} {acc t : List UInt8} {s : ByteArray} (hs : s.data.toList = t) (h : w.ownsRow B 5 1 v (acc.length + s.size) (byteCells acc ++ Lib.strCells s)) : RowB w B v (acc ++ t) := by
  unfold RowB
  subst hs
  have e1 : (acc ++ s.data.toList).length = acc.length + s.size := by rw [List.length_append, Array.length_toList]; rfl
  rw [e1, byteCells_append]
  exact h
theorem W_full {o t : List UInt8} (h : 1000 < o.length + t.length) : W (some t) (some o) = none := by
  simp only [W, Option.bind_some]; rw [if_neg (by omega)]
theorem W_fits {o t : List UInt8} (h : o.length + t.length ≤ 1000) : W (some t) (some o) = some (o ++ t) := by
  simp only [W, Option.bind_some]; rw [if_pos h]

theorem Tryz.infoU8 : (Tryz.prog.info? 5).map (fun i => (i.zero, i.size, i.bytes)) = some (some (.int .u8 0), 1, 1) := by kernel_rfl

set_option maxHeartbeats 2000000 in
set_option maxRecDepth 100000 in
theorem wadd_any (t : List UInt8) (w : World) (p : Nat) (A : Option Addr) (c : Nat) (ns : List Nd) (st : Wr) (F : List Nat) (h : Wt w p A c ns st F) (ht : t.length ≤ 10000) :
    Calls Tryz.prog 106 #[.pointer (some ⟨p, 0, none⟩), .string ⟨t.toArray⟩] w (WPost w p A c ns F (W (some t) st)) := by
  obtain ⟨i0, hi, hz0, hz1, hz2⟩ := info_parts Tryz.infoU8
  obtain ⟨v, fl, acc, hW, hR, hl, rfl, rfl, hN⟩ := h
  obtain ⟨c0, c1, c2⟩ := hW.cell
  obtain ⟨RA, rc, rfl⟩ := own_form hR
  have f1 := hW.frozen 1
  have f2 := hW.frozen 2
  have hfail : Wk w p A c ns (Value.ownBlock (.slice RA acc.length rc)).toList none (w.setCell ⟨p, 2, none⟩ (.bool true)) :=
    ⟨_, ⟨_, true, acc, hW.set2 true, hR.set 2 _, hl, rfl, rfl, hN.keepG ((Keep.refl [p] w).setCell (.inl (by simp)) _) (Nat.le_of_lt hW.lt) fun b hb => by simp at hb; omega⟩, (Keep.refl _ w).setCell (.inl (by simp)) _, fun b hb => .inl hb⟩
  have HF := Lib.hid hfail
  clear hfail
  have hsz : (⟨t.toArray⟩ : ByteArray).size = t.length := by simp [ByteArray.size]
  obtain ⟨s, hs⟩ : ∃ s : ByteArray, (⟨t.toArray⟩ : ByteArray) = s := ⟨_, rfl⟩
  have hst : s.data.toList = t := by rw [← hs]
  rw [hs] at hsz ⊢
  have HT := Lib.hid hst
  clear hst hs
  cases fl with
  | true =>
    clear hW hR hN
    go_enter Tryz.func106, Tryz.ntmps106
    go_wp2
    go_end0
    exact ⟨rfl, HF.out⟩
  | false =>
    by_cases hfit : acc.length + t.length ≤ 1000
    · have hz : ¬ (1000 : Int) < (acc.length : Int) + (s.size : Int) := by omega
      have HW := Lib.hid hW
      have HR := Lib.hid hR
      have HN := Lib.hid hN
      clear hW hN HF
      have hpb := HW.out.lt
      obtain ⟨a2, ha2⟩ : ∃ a2, acc ++ t = a2 := ⟨_, rfl⟩
      have HA2 := Lib.hid ha2
      clear ha2
      go_enter Tryz.func106, Tryz.ntmps106
      go_wp2_with (at_builtin; refine list_append_str2 rfl _ _ 22 9 rfl (p + 1) 5 i0 Tryz.underlying22 Tryz.underlying9 hi hz0 hz1 hz2 (.slice RA acc.length rc) acc.length (byteCells acc) rfl HR.out s rfl (by unfold maxLen; omega) (by omega) (by omega) ?_; intro v' w1 ho hg hcb; obtain ⟨W1, K1⟩ := wadd_after HW.out HR.out hg; have R1 := row_str HT.out ho; rw [HA2.out] at R1; obtain ⟨RA2, rc2, rfl⟩ := own_form R1; have x1 := W1.cell.2.1; have y1 := W1.frozen 1; clear ho hg)
      have HW1 := Lib.hid (W1.set1 (.slice RA2 a2.length rc2))
      have HK1 := Lib.hid K1
      have HR1 := Lib.hid (R1.set 1 (.slice RA2 a2.length rc2))
      have HC1 := Lib.hid hcb
      clear W1 K1 R1 hcb
      go_wp2
      go_end0
      have K3 : Keep (p :: (Value.ownBlock (.slice RA acc.length rc)).toList) w (w1.setCell ⟨p, 1, none⟩ (.slice RA2 a2.length rc2)) := (HK1.out.mono fun b hb => List.mem_cons_of_mem _ hb).setCell (.inl (by simp)) _
      have hgt := HR.out.gt
      have hst : W (some t) (if false = true then none else some acc) = some a2 := (W_fits hfit).trans (by rw [HA2.out])
      refine ⟨rfl, _, ⟨_, false, a2, HW1.out, HR1.out, by rw [← HA2.out, List.length_append]; exact hfit, hst, rfl, HN.out.keepG K3 (Nat.le_of_lt hpb) fun b hb => ?_⟩, K3, fun b hb => ?_⟩
      · rcases List.mem_cons.1 hb with rfl | hb
        · exact Nat.le_refl _
        · exact Nat.le_of_lt (hgt b (by simpa using hb)).1
      · rcases HC1.out b (by simpa using hb) with h | h
        · exact .inl (by simp [h])
        · exact .inr h
    · have hz : (1000 : Int) < (acc.length : Int) + (s.size : Int) := by omega
      have hful := Lib.hid (W_full (o := acc) (t := t) (by omega))
      clear hW hR hN
      go_enter Tryz.func106, Tryz.ntmps106
      go_wp2
      go_end0
      exact ⟨rfl, by first | (rw [hful.out]; exact HF.out) | (rw [show W (some t) (if false = true then none else some acc) = none from hful.out]; exact HF.out)⟩

end Go.Proofs.YtdkjfppjbkdelaaGreatDoor
