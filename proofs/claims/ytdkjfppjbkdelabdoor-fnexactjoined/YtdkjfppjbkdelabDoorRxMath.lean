/- Plain mathematics of chapter 5: nodes of a pattern, what a tree is, the size of a tree. No program in it. -/
import Derived.WalkKit
namespace Go.Proofs.YtdkjfppjbkdelabDoor
set_option linter.unusedVariables false

/-- A node of a pattern. -/
structure Nd where
  kind : Int
  lo : Int
  hi : Int
  neg : Bool
  set : List Int
  kids : List Int

/-- The kids of a node at place i: each is a place ahead, used for the first time. -/
def kidsR (i : Nat) : List Int → List Bool → Option (List Bool)
  | [], u => some u
  | k :: r, u => if k < 0 ∨ (i : Int) ≤ k ∨ u.getD k.toNat false = true then none else kidsR i r (u.set k.toNat true)
def treeR : Nat → List Nd → List Bool → Option (List Bool)
  | _, [], u => some u
  | i, n :: r, u => (kidsR i n.kids u).bind (treeR (i + 1) r)
/-- Is it a tree? -/
def isTreeR (ns : List Nd) : Bool :=
  match treeR 0 ns (List.replicate ns.length false) with
  | none => false
  | some u => !ns.isEmpty && (u.take (ns.length - 1)).all id

theorem kidsR_length {i : Nat} : ∀ {ks : List Int} {u v : List Bool}, kidsR i ks u = some v → v.length = u.length
  | [], u, v, h => by cases h; rfl
  | k :: r, u, v, h => by
    rw [kidsR] at h
    split at h
    · cases h
    · have := kidsR_length h; simpa using this
theorem treeR_length : ∀ {i : Nat} {ns : List Nd} {u v : List Bool}, treeR i ns u = some v → v.length = u.length
  | _, [], u, v, h => by cases h; rfl
  | i, n :: r, u, v, h => by
    rw [treeR] at h
    obtain ⟨u', h1, h2⟩ := Option.bind_eq_some_iff.1 h
    rw [treeR_length h2, kidsR_length h1]
theorem kidsR_mem {i : Nat} : ∀ {ks : List Int} {u v : List Bool}, kidsR i ks u = some v → ∀ k ∈ ks, 0 ≤ k ∧ k < i
  | [], u, v, h, k, hk => by cases hk
  | k :: r, u, v, h, x, hx => by
    rw [kidsR] at h
    split at h
    · cases h
    · next hn =>
      rcases List.mem_cons.1 hx with rfl | hx
      · rw [not_or, not_or] at hn; omega
      · exact kidsR_mem h x hx
theorem treeR_mem : ∀ {i : Nat} {ns : List Nd} {u v : List Bool}, treeR i ns u = some v → ∀ j, (hj : j < ns.length) → ∀ k ∈ ns[j].kids, 0 ≤ k ∧ k < ((i + j : Nat) : Int)
  | _, [], u, v, h, j, hj => by simp at hj
  | i, n :: r, u, v, h, j, hj => by
    rw [treeR] at h
    obtain ⟨u', h1, h2⟩ := Option.bind_eq_some_iff.1 h
    intro k hk
    cases j with
    | zero => exact kidsR_mem h1 k hk
    | succ j =>
      have := treeR_mem h2 j (by simpa using hj) k (by simpa using hk)
      omega
theorem tree_kids {ns : List Nd} (h : isTreeR ns = true) : ns ≠ [] ∧ ∀ j, (hj : j < ns.length) → ∀ k ∈ ns[j].kids, 0 ≤ k ∧ k < (j : Int) := by
  unfold isTreeR at h
  split at h
  · cases h
  · next u hu =>
    simp only [Bool.and_eq_true] at h
    refine ⟨fun e => by rw [e] at h; simp at h, fun j hj k hk => ?_⟩
    have := treeR_mem hu j hj k hk
    omega

/-! ### Counting the kids instead -/
def trues (u : List Bool) : Nat := u.count true
theorem trues_set {u : List Bool} {k : Nat} (h : k < u.length) (hf : u.getD k false = false) : trues (u.set k true) = trues u + 1 := by
  induction u generalizing k with
  | nil => simp at h
  | cons b r ih =>
    cases k with
    | zero =>
      simp at hf
      subst hf
      simp [trues]
    | succ k =>
      have := ih (k := k) (by simpa using h) (by simpa using hf)
      unfold trues at this ⊢
      simp only [List.set_cons_succ, List.count_cons, this]
      omega
theorem kidsR_count {i : Nat} : ∀ {ks : List Int} {u v : List Bool}, i ≤ u.length → kidsR i ks u = some v → trues v = trues u + ks.length
  | [], u, v, _, h => by cases h; rfl
  | k :: r, u, v, hi, h => by
    rw [kidsR] at h
    split at h
    · cases h
    · next hn =>
      have h1 : u.getD k.toNat false = false := by
        cases hq : u.getD k.toNat false
        · rfl
        · exact absurd (Or.inr (Or.inr hq)) hn
      have h2 : k.toNat < u.length := by
        have : 0 ≤ k ∧ k < i := by rw [not_or, not_or] at hn; omega
        omega
      rw [kidsR_count (by simpa using hi) h, trues_set h2 h1]
      simp; omega
def kidsN (ns : List Nd) : Nat := (ns.map (·.kids.length)).sum
theorem treeR_count : ∀ {i : Nat} {ns : List Nd} {u v : List Bool}, i + ns.length ≤ u.length → treeR i ns u = some v → trues v = trues u + kidsN ns
  | _, [], u, v, _, h => by cases h; simp [kidsN]
  | i, n :: r, u, v, hi, h => by
    rw [treeR] at h
    obtain ⟨u', h1, h2⟩ := Option.bind_eq_some_iff.1 h
    simp only [List.length_cons] at hi
    rw [treeR_count (by rw [kidsR_length h1]; omega) h2, kidsR_count (by omega) h1]
    simp [kidsN]; omega
theorem kidsR_stay {i j : Nat} (hij : i ≤ j) : ∀ {ks : List Int} {u v : List Bool}, kidsR i ks u = some v → v.getD j false = u.getD j false
  | [], u, v, h => by cases h; rfl
  | k :: r, u, v, h => by
    rw [kidsR] at h
    split at h
    · cases h
    · next hn =>
      rw [kidsR_stay hij h]
      have : 0 ≤ k ∧ k < i := by rw [not_or, not_or] at hn; omega
      simp only [List.getD_eq_getElem?_getD, List.getElem?_set]
      rw [if_neg (by omega)]
theorem treeR_stay {j : Nat} : ∀ {i : Nat} {ns : List Nd} {u v : List Bool}, i + ns.length ≤ j + 1 → treeR i ns u = some v → v.getD j false = u.getD j false
  | _, [], u, v, _, h => by cases h; rfl
  | i, n :: r, u, v, hi, h => by
    rw [treeR] at h
    obtain ⟨u', h1, h2⟩ := Option.bind_eq_some_iff.1 h
    simp only [List.length_cons] at hi
    rw [treeR_stay (by omega) h2, kidsR_stay (by omega) h1]
theorem all_count (l : List Bool) : l.all id = true ↔ trues l = l.length := by
  unfold trues
  rw [List.count_eq_length]
  simp only [List.all_eq_true, id]
  exact ⟨fun h b hb => (h b hb).symm, fun h b hb => (h b hb).symm⟩
/-- A tree by the number of its kids. -/
theorem isTreeR_count (ns : List Nd) : isTreeR ns = (match treeR 0 ns (List.replicate ns.length false) with | none => false | some _ => decide (kidsN ns + 1 = ns.length)) := by
  unfold isTreeR
  split
  · rfl
  · next u hu =>
    have hl := treeR_length hu
    have hc := treeR_count (by simp) hu
    have h0 : trues (List.replicate ns.length false) = 0 := by simp [trues, List.count_replicate]
    rw [h0, Nat.zero_add] at hc
    simp only [List.length_replicate] at hl
    cases hn : ns with
    | nil => simp [kidsN]
    | cons a r =>
      rw [← hn]
      have hpos : 0 < ns.length := by rw [hn]; simp
      have hs := treeR_stay (j := ns.length - 1) (by omega) hu
      have e1 : u = u.take (ns.length - 1) ++ [false] := by
        have h1 : u.length - 1 < u.length := by omega
        have h2 : u[ns.length - 1]? = some false := by
          have : u.getD (ns.length - 1) false = false := by
            rw [hs]; simp [List.getD_eq_getElem?_getD, List.getElem?_replicate]; split <;> rfl
          rw [List.getD_eq_getElem?_getD, List.getElem?_eq_getElem (by omega)] at this
          rw [List.getElem?_eq_getElem (by omega)]
          simpa using this
        apply List.ext_getElem?
        intro j
        rcases Nat.lt_trichotomy j (ns.length - 1) with hj | rfl | hj
        · rw [List.getElem?_append_left (by simp; omega), List.getElem?_take, if_pos hj]
        · rw [h2, List.getElem?_append_right (by rw [List.length_take]; omega)]
          simp [show min (ns.length - 1) u.length = ns.length - 1 by omega]
        · rw [List.getElem?_eq_none (by omega), List.getElem?_eq_none (by simp; omega)]
      have e2 : trues u = trues (u.take (ns.length - 1)) := by
        have := congrArg trues e1
        rw [this]
        simp [trues, List.count_append]
      have e3 : (u.take (ns.length - 1)).length = ns.length - 1 := by simp; omega
      have : (!ns.isEmpty) = true := by rw [hn]; rfl
      rw [this, Bool.true_and, Bool.eq_iff_iff, all_count, decide_eq_true_iff, ← e2, hc, e3]
      omega

/-! ### Sizes -/
def often (n : Nd) : Int := if n.kind = 9 then max 1 (max n.lo n.hi) else 1
def kidSum (z : List Int) (ks : List Int) : Int := (ks.map fun k => z.getD k.toNat 0).sum
def szOf (z : List Int) (n : Nd) : Int := min 100000 (1 + often n * kidSum z n.kids)
def sizesR : List Nd → List Int → List Int
  | [], z => z
  | n :: r, z => sizesR r (z ++ [szOf z n])
def sizeR (ns : List Nd) : Int := if isTreeR ns then (sizesR ns []).getD (ns.length - 1) 0 else 0

def Sized (z : List Int) : Prop := ∀ x ∈ z, 1 ≤ x ∧ x ≤ 100000
theorem often_pos (n : Nd) : 1 ≤ often n := by unfold often; split <;> omega
theorem kidSum_cons (z : List Int) (k : Int) (r : List Int) : kidSum z (k :: r) = z.getD k.toNat 0 + kidSum z r := by simp [kidSum]
theorem kidSum_snoc (z : List Int) (r : List Int) (k : Int) : kidSum z (r ++ [k]) = kidSum z r + z.getD k.toNat 0 := by simp [kidSum]
theorem Sized.getD {z : List Int} (h : Sized z) {k : Nat} (hk : k < z.length) : 1 ≤ z.getD k 0 ∧ z.getD k 0 ≤ 100000 := by
  rw [List.getD_eq_getElem?_getD, List.getElem?_eq_getElem hk]; exact h _ (List.getElem_mem hk)
theorem kidSum_nonneg {z : List Int} (h : Sized z) : ∀ ks : List Int, 0 ≤ kidSum z ks
  | [] => by simp [kidSum]
  | k :: r => by
    rw [kidSum_cons]
    have := kidSum_nonneg h r
    have h2 : 0 ≤ z.getD k.toNat 0 := by
      by_cases hk : k.toNat < z.length
      · have := h.getD hk; omega
      · rw [List.getD_eq_getElem?_getD, List.getElem?_eq_none (by omega)]; simp
    omega
theorem szOf_sized {z : List Int} (h : Sized z) (n : Nd) : 1 ≤ szOf z n ∧ szOf z n ≤ 100000 := by
  have h1 := kidSum_nonneg h n.kids
  have h2 := often_pos n
  have : 0 ≤ often n * kidSum z n.kids := Int.mul_nonneg (by omega) h1
  unfold szOf; omega
theorem Sized.snoc {z : List Int} (h : Sized z) (n : Nd) : Sized (z ++ [szOf z n]) := by
  intro x hx
  rcases List.mem_append.1 hx with hx | hx
  · exact h x hx
  · simp at hx; subst hx; exact szOf_sized h n
theorem sizesR_length : ∀ (ns : List Nd) (z : List Int), (sizesR ns z).length = z.length + ns.length
  | [], z => by simp [sizesR]
  | n :: r, z => by rw [sizesR, sizesR_length r]; simp; omega

/-- As the specification sums. -/
def SumIs (z : List Int) (n : Nd) (k : Nat) (s : Int) : Prop :=
  (s = 1 + often n * kidSum z (n.kids.take k) ∧ s ≤ 200001) ∨ (s = 100000 ∧ 100000 ≤ 1 + often n * kidSum z (n.kids.take k))
theorem take_succ_get {α : Type} {l : List α} {k : Nat} (h : k < l.length) : l.take (k + 1) = l.take k ++ [l[k]] := by
  rw [List.take_add_one, List.getElem?_eq_getElem h]; rfl
theorem SumIs.start (z : List Int) (n : Nd) : SumIs z n 0 1 := .inl ⟨by simp [kidSum], by omega⟩
theorem SumIs.more {z : List Int} {n : Nd} {k : Nat} {s x : Int} (h : SumIs z n k s) (hs : s < 100000) (hk : k < n.kids.length) (hx : z.getD (n.kids[k]).toNat 0 = x) (hx1 : 1 ≤ x) (hx2 : x ≤ 100000) (hle : often n ≤ 100000 / x) :
    SumIs z n (k + 1) (s + often n * x) ∧ 1 ≤ often n * x ∧ often n * x ≤ 100000 := by
  have h0 : s = 1 + often n * kidSum z (n.kids.take k) := by
    rcases h with h | h
    · exact h.1
    · omega
  have hp := often_pos n
  have h1 : often n * x ≤ 100000 := by
    have := Int.mul_le_mul_of_nonneg_right hle (show 0 ≤ x by omega)
    have h3 := Int.ediv_mul_le 100000 (show x ≠ 0 by omega)
    omega
  have h2 : 1 ≤ often n * x := by
    have := Int.mul_le_mul hp hx1 (by omega) (by omega)
    omega
  refine ⟨.inl ⟨?_, by omega⟩, h2, h1⟩
  rw [take_succ_get hk, kidSum_snoc, hx, Int.mul_add, h0]; omega
theorem SumIs.full {z : List Int} {n : Nd} {k : Nat} {s x : Int} (hz : Sized z) (hk : k < n.kids.length) (hx : z.getD (n.kids[k]).toNat 0 = x) (hx1 : 1 ≤ x) (hgt : 100000 / x < often n) :
    SumIs z n (k + 1) 100000 := by
  refine .inr ⟨rfl, ?_⟩
  rw [take_succ_get hk, kidSum_snoc, hx, Int.mul_add]
  have h1 := kidSum_nonneg hz (n.kids.take k)
  have hp := often_pos n
  have h2 : 0 ≤ often n * kidSum z (n.kids.take k) := Int.mul_nonneg (by omega) h1
  have h3 : 100000 < often n * x := by
    have := (Int.ediv_lt_iff_lt_mul (show 0 < x by omega)).1 hgt
    omega
  omega
theorem kidSum_take_le {z : List Int} (hz : Sized z) (ks : List Int) (k : Nat) : kidSum z (ks.take k) ≤ kidSum z ks := by
  have e : kidSum z (ks.take k ++ ks.drop k) = kidSum z (ks.take k) + kidSum z (ks.drop k) := by
    unfold kidSum
    rw [List.map_append, List.sum_append]
  rw [List.take_append_drop] at e
  have := kidSum_nonneg hz (ks.drop k)
  omega
theorem SumIs.done {z : List Int} {n : Nd} {k : Nat} {s : Int} (hz : Sized z) (h : SumIs z n k s) (he : n.kids.length ≤ k ∨ 100000 ≤ s) : min s 100000 = szOf z n := by
  have hp := often_pos n
  have hle := kidSum_take_le hz n.kids k
  have h3 : often n * kidSum z (n.kids.take k) ≤ often n * kidSum z n.kids := Int.mul_le_mul_of_nonneg_left hle (by omega)
  unfold szOf
  rcases h with ⟨h, _⟩ | ⟨h, h2⟩
  · rcases he with he | he
    · rw [List.take_of_length_le he] at h; omega
    · omega
  · omega
/-- As the program sums. -/
theorem szOf_impl {z : List Int} (hz : Sized z) (n : Nd) : min (1 + min (kidSum z n.kids) 100000 * min (often n) 100000) 100000 = szOf z n := by
  have hp := often_pos n
  have h0 := kidSum_nonneg hz n.kids
  unfold szOf
  generalize kidSum z n.kids = S at *
  generalize often n = m at *
  by_cases hS : S ≤ 100000
  · rw [show min S 100000 = S by omega]
    by_cases hm : m ≤ 100000
    · rw [show min m 100000 = m by omega, Int.mul_comm]; omega
    · rw [show min m 100000 = 100000 by omega]
      by_cases hS0 : S = 0
      · subst hS0; simp; omega
      · have : m * 1 ≤ m * S := Int.mul_le_mul_of_nonneg_left (by omega) (by omega)
        omega
  · rw [show min S 100000 = 100000 by omega]
    have h1 : 1 * S ≤ m * S := Int.mul_le_mul_of_nonneg_right hp h0
    omega
theorem sum_step {z : List Int} (hz : Sized z) {ks : List Int} {k : Nat} (hk : k < ks.length) {s x : Int} (hs : s = min (kidSum z (ks.take k)) 100000) (hx : z.getD (ks[k]).toNat 0 = x) (hx1 : 1 ≤ x) :
    min (s + x) 100000 = min (kidSum z (ks.take (k + 1))) 100000 := by
  rw [take_succ_get hk, kidSum_snoc, hx, hs]
  omega

end Go.Proofs.YtdkjfppjbkdelabDoor
