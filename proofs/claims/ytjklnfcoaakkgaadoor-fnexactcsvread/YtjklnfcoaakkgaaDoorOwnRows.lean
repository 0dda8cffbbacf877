/- Rows of cells that a call owns: all blocks different. No condition. -/
import Derived.Test.YtjklnfcoaakkgaaDoorKeepOwn
namespace Go.Proofs.YtjklnfcoaakkgaaDoor
set_option linter.unusedVariables false
open Go.RowKit

def footR (nv : Value) (xs : List Value) : List Nat := nv.ownBlock.toList ++ xs.flatMap fun x => x.ownBlock.toList
theorem footR_mem {nv : Value} {xs : List Value} {b : Nat} : b ∈ footR nv xs ↔ nv.ownBlock = some b ∨ ∃ x ∈ xs, x.ownBlock = some b := by
  unfold footR
  simp only [List.mem_append, Option.mem_toList, List.mem_flatMap]

/-- The cells of a row, owned. -/
def RowC (w : World) (B : Nat) (v : Value) (cs : List ByteArray) : Prop := w.ownsRow B 9 1 v cs.length (cs.map Value.string)
structure OwnR (w : World) (B : Nat) (nv : Value) (rs : List (List ByteArray)) (xs : List Value) : Prop where
  len : xs.length = rs.length
  row : w.ownsRow B 46 1 nv rs.length xs
  sub : ∀ j, (h : j < rs.length) → RowC w B (xs[j]'(by omega)) rs[j]
  nodup : (footR nv xs).Nodup

section
variable {w w1 : World} {B : Nat} {nv : Value} {rs : List (List ByteArray)} {xs : List Value}
theorem OwnR.nil (w : World) (B : Nat) : OwnR w B (.slice none 0 0) [] [] := ⟨rfl, World.ownsRow_nil _ _ _ _, fun j hj => absurd hj (by simp), by simp [footR, Value.ownBlock]⟩
theorem OwnR.range (h : OwnR w B nv rs xs) : ∀ b ∈ footR nv xs, B ≤ b ∧ b < w.heap.size := by
  intro b hb
  rcases footR_mem.1 hb with hb | ⟨x, hx, hb⟩
  · exact h.row.lt b hb
  · obtain ⟨j, hj, rfl⟩ := List.mem_iff_getElem.1 hx
    exact (h.sub j (by rw [← h.len]; exact hj)).lt b hb
theorem OwnR.keep (h : OwnR w B nv rs xs) {G : List Nat} (hk : Keep G w w1) (hG : ∀ b ∈ G, b ∉ footR nv xs) : OwnR w1 B nv rs xs :=
  ⟨h.len, hk.row h.row fun b hb hg => hG b hg (footR_mem.2 (.inl hb)), fun j hj => hk.row (h.sub j hj) fun b hb hg => hG b hg (footR_mem.2 (.inr ⟨_, List.getElem_mem _, hb⟩)), h.nodup⟩
theorem RowC.strs {v : Value} {cs : List ByteArray} (h : RowC w B v cs) : ∃ A c, v = .slice A cs.length c ∧ Strs w w.heap.size A cs := by
  obtain ⟨A, c, rfl⟩ := own_form h
  exact ⟨A, c, rfl, Strs.own h⟩
/-- Owned rows can be read. -/
theorem OwnR.rws (h : OwnR w B nv rs xs) : ∃ A c, nv = .slice A rs.length c ∧ Rws w w.heap.size A rs := by
  obtain ⟨A, c, rfl⟩ := own_form h.row
  refine ⟨A, c, rfl, fun j hj => ?_⟩
  obtain ⟨g, rfl⟩ : ∃ g, A = some ⟨g, 0, none⟩ := by
    rcases h.row.2 with ⟨_, h0⟩ | ⟨g, cap, cur, hv, _⟩
    · omega
    · injection hv with hA; exact ⟨g, hA⟩
  have hx : j < xs.length := by rw [h.len]; exact hj
  obtain ⟨A', c', e, hs⟩ := (h.sub j hj).strs
  have hc := h.row.cells (g := g) rfl j _ (List.getElem?_eq_getElem hx)
  rw [Addr.add_lit, e] at hc
  exact ⟨g, 0, A', c', rfl, (h.row.lt g rfl).2, hc, hs⟩
end

/-- Rows that stand, and the cells of a row that is under way. -/
structure RowsSt (w : World) (B : Nat) (nv : Value) (rs : List (List ByteArray)) (xs : List Value) (u : Value) (cs : List ByteArray) : Prop where
  own : OwnR w B nv rs xs
  cells : RowC w B u cs
  apart : ∀ b, u.ownBlock = some b → b ∉ footR nv xs
section
variable {w w1 : World} {B : Nat} {nv u : Value} {rs : List (List ByteArray)} {xs : List Value} {cs : List ByteArray}
theorem RowsSt.keep (h : RowsSt w B nv rs xs u cs) {G : List Nat} (hk : Keep G w w1) (hG : ∀ b ∈ G, b ∉ footR nv xs ∧ u.ownBlock ≠ some b) : RowsSt w1 B nv rs xs u cs :=
  ⟨h.own.keep hk fun b hb => (hG b hb).1, hk.row h.cells fun b hb hg => (hG b hg).2 hb, h.apart⟩
/-- All that is owned. -/
def footS (nv : Value) (xs : List Value) (u : Value) : List Nat := footR nv xs ++ u.ownBlock.toList
theorem footS_mem {b : Nat} : b ∈ footS nv xs u ↔ b ∈ footR nv xs ∨ u.ownBlock = some b := by unfold footS; simp
theorem RowsSt.range (h : RowsSt w B nv rs xs u cs) : ∀ b ∈ footS nv xs u, B ≤ b ∧ b < w.heap.size := fun b hb => by
  rcases footS_mem.1 hb with hb | hb
  · exact h.own.range b hb
  · exact h.cells.lt b hb
theorem RowsSt.keepS (h : RowsSt w B nv rs xs u cs) {G : List Nat} (hk : Keep G w w1) (hG : ∀ b ∈ G, b ∉ footS nv xs u) : RowsSt w1 B nv rs xs u cs :=
  h.keep hk fun b hb => ⟨fun e => hG b hb (footS_mem.2 (.inl e)), fun e => hG b hb (footS_mem.2 (.inr e))⟩
/-- A new row begins. -/
theorem RowsSt.fresh (h : RowsSt w B nv rs xs u cs) : RowsSt w B nv rs xs (.slice none 0 0) [] := ⟨h.own, World.ownsRow_nil _ _ _ _, fun b hb => by simp [Value.ownBlock] at hb⟩
theorem RowsSt.freshOf (h : OwnR w B nv rs xs) : RowsSt w B nv rs xs (.slice none 0 0) [] := ⟨h, World.ownsRow_nil _ _ _ _, fun b hb => by simp [Value.ownBlock] at hb⟩
/-- A cell more. -/
theorem RowsSt.cell {u' : Value} {x : ByteArray} (h : RowsSt w B nv rs xs u cs) (hg : w.grownBy w1 u.ownBlock) (hr : w1.ownsRow B 9 1 u' (cs.length + 1) (cs.map Value.string ++ [.string x]))
    (hn : ∀ b, u'.ownBlock = some b → u.ownBlock = some b ∨ w.heap.size ≤ b) : RowsSt w1 B nv rs xs u' (cs ++ [x]) := by
  have hk := Keep.ofGrown hg
  refine ⟨h.own.keep hk fun b hb => h.apart b (by simpa using hb), ?_, fun b hb hm => ?_⟩
  · unfold RowC
    rw [List.length_append, List.map_append]
    exact hr
  · rcases hn b hb with e | e
    · exact h.apart b e hm
    · have := (h.own.range b hm).2
      omega
/-- The row is complete. -/
theorem RowsSt.row {nv' : Value} (h : RowsSt w B nv rs xs u cs) (hg : w.grownBy w1 nv.ownBlock) (hr : w1.ownsRow B 46 1 nv' (rs.length + 1) (xs ++ [u]))
    (hn : ∀ b, nv'.ownBlock = some b → nv.ownBlock = some b ∨ w.heap.size ≤ b) : OwnR w1 B nv' (rs ++ [cs]) (xs ++ [u]) := by
  have hk := Keep.ofGrown hg
  have hl := h.own.len
  have key : ∀ b, nv'.ownBlock = some b → b ∉ (xs.flatMap fun x => x.ownBlock.toList) ∧ u.ownBlock ≠ some b := fun b hb => by
    rcases hn b hb with e | e
    · refine ⟨fun hm => ?_, fun hu => h.apart b hu (footR_mem.2 (.inl e))⟩
      have hnd := h.own.nodup
      unfold footR at hnd
      rw [e] at hnd
      simp only [Option.toList_some, List.cons_append, List.nil_append, List.nodup_cons] at hnd
      exact hnd.1 hm
    · refine ⟨fun hm => ?_, fun hu => ?_⟩
      · have := (h.own.range b (by unfold footR; exact List.mem_append_right _ hm)).2
        omega
      · have := (h.cells.lt b hu).2
        omega
  have nvb : ∀ b ∈ nv.ownBlock.toList, nv.ownBlock = some b := fun b hb => by simpa using hb
  refine ⟨by simp [hl], by rw [List.length_append]; exact hr, fun j hj => ?_, ?_⟩
  · by_cases hjl : j < rs.length
    · have hjx : j < xs.length := by omega
      rw [List.getElem_append_left hjl, List.getElem_append_left hjx]
      refine hk.row (h.own.sub j hjl) fun b hb hm => ?_
      have e := nvb b hm
      have hnd := h.own.nodup
      unfold footR at hnd
      rw [e] at hnd
      simp only [Option.toList_some, List.cons_append, List.nil_append, List.nodup_cons] at hnd
      exact hnd.1 (List.mem_flatMap.2 ⟨_, List.getElem_mem hjx, by simpa using hb⟩)
    · obtain rfl : j = rs.length := by simp at hj; omega
      have e1 : (rs ++ [cs])[rs.length] = cs := by simp
      have e2 : (xs ++ [u])[rs.length]'(by simp [hl]) = u := by
        rw [List.getElem_append_right (by omega)]
        simp [hl]
      rw [e1, e2]
      exact hk.row h.cells fun b hb hm => h.apart b hb (footR_mem.2 (.inl (nvb b hm)))
  · have hnd := h.own.nodup
    unfold footR at hnd ⊢
    rw [List.flatMap_append]
    have h2 : (xs.flatMap fun x => x.ownBlock.toList).Nodup := (List.nodup_append.1 hnd).2.1
    have h3 : ((xs.flatMap fun x => x.ownBlock.toList) ++ ([u].flatMap fun x => x.ownBlock.toList)).Nodup := by
      refine List.nodup_append.2 ⟨h2, ?_, ?_⟩
      · cases hu : u.ownBlock <;> simp [hu]
      · intro a ha b hb e
        have hb' : u.ownBlock = some b := by simpa using hb
        exact h.apart b hb' (by unfold footR; rw [← e]; exact List.mem_append_right _ ha)
    refine List.nodup_append.2 ⟨?_, h3, ?_⟩
    · cases hv : nv'.ownBlock <;> simp
    · intro a ha b hb e
      have ha' : nv'.ownBlock = some a := by simpa using ha
      subst e
      have k := key a ha'
      rcases List.mem_append.1 hb with hb | hb
      · exact k.1 hb
      · exact k.2 (by simpa using hb)
end

end Go.Proofs.YtjklnfcoaakkgaaDoor
