/- Plain mathematics of chapter 5: nodes of a pattern, what a tree is, the size of a tree. No program in it. -/
import Derived.WalkKit
namespace Go.Proofs.YtjklnfcoaakkgaaDoor
set_option linter.unusedVariables false

/-- A node of a pattern. -/
structure Nd where
  kind : Int
  lo : Int
  hi : Int
  neg : Bool
  set : List Int
  kids : List Int

/-- The kids of a node at place i: each is a place ahead, used for the first time. -/
def kidsR (i : Nat) : List Int → List Bool → Option (List Bool)
  | [], u => some u
  | k :: r, u => if k < 0 ∨ (i : Int) ≤ k ∨ u.getD k.toNat false = true then none else kidsR i r (u.set k.toNat true)
def treeR : Nat → List Nd → List Bool → Option (List Bool)
  | _, [], u => some u
  | i, n :: r, u => (kidsR i n.kids u).bind (treeR (i + 1) r)
/-- Is it a tree? -/
def isTreeR (ns : List Nd) : Bool :=
  match treeR 0 ns (List.replicate ns.length false) with
  | none => false
  | some u => !ns.isEmpty && (u.take (ns.length - 1)).all id

theorem kidsR_length {i : Nat} : ∀ {ks : List Int} {u v : List Bool}, kidsR i ks u = some v → v.length = u.length
  | [], u, v, h => by cases h; rfl
  | k :: r, u, v, h => by
    rw [kidsR] at h
    split at h
    · cases h
    · have := kidsR_length h; simpa using this
theorem treeR_length : ∀ {i : Nat} {ns : List Nd} {u v : List Bool}, treeR i ns u = some v → v.length = u.length
  | _, [], u, v, h => by cases h; rfl
  | i, n :: r, u, v, h => by
    rw [treeR] at h
    obtain ⟨u', h1, h2⟩ := Option.bind_eq_some_iff.1 h
    rw [treeR_length h2, kidsR_length h1]
theorem kidsR_mem {i : Nat} : ∀ {ks : List Int} {u v : List Bool}, kidsR i ks u = some v → ∀ k ∈ ks, 0 ≤ k ∧ k < i
  | [], u, v, h, k, hk => by cases hk
  | k :: r, u, v, h, x, hx => by
    rw [kidsR] at h
    split at h
    · cases h
    · next hn =>
      rcases List.mem_cons.1 hx with rfl | hx
      · rw [not_or, not_or] at hn; omega
      · exact kidsR_mem h x hx
theorem treeR_mem : ∀ {i : Nat} {ns : List Nd} {u v : List Bool}, treeR i ns u = some v → ∀ j, (hj : j < ns.length) → ∀ k ∈ ns[j].kids, 0 ≤ k ∧ k < ((i + j : Nat) : Int)
  | _, [], u, v, h, j, hj => by simp at hj
  | i, n :: r, u, v, h, j, hj => by
    rw [treeR] at h
    obtain ⟨u', h1, h2⟩ := Option.bind_eq_some_iff.1 h
    intro k hk
    cases j with
    | zero => exact kidsR_mem h1 k hk
    | succ j =>
      have := treeR_mem h2 j (by simpa using hj) k (by simpa using hk)
      omega
theorem tree_kids {ns : List Nd} (h : isTreeR ns = true) : ns ≠ [] ∧ ∀ j, (hj : j < ns.length) → ∀ k ∈ ns[j].kids, 0 ≤ k ∧ k < (j : Int) := by
  unfold isTreeR at h
  split at h
  · cases h
  · next u hu =>
    simp only [Bool.and_eq_true] at h
    refine ⟨fun e => by rw [e] at h; simp at h, fun j hj k hk => ?_⟩
    have := treeR_mem hu j hj k hk
    omega

/-! ### Counting the kids instead -/
def trues (u : List Bool) : Nat := u.count true
theorem trues_set {u : List Bool} {k : Nat} (h : k < u.length) (hf : u.getD k false = false) : trues (u.set k true) = trues u + 1 := by
  induction u generalizing k with
  | nil => simp at h
  | cons b r ih =>
    cases k with
    | zero =>
      simp at hf
      subst hf
      simp [trues]
    | succ k =>
      have := ih (k := k) (by simpa using h) (by simpa using hf)
      unfold trues at this ⊢
      simp only [List.set_cons_succ, List.count_cons, this]
      omega
theorem kidsR_count {i : Nat} : ∀ {ks : List Int} {u v : List Bool}, i ≤ u.length → kidsR i ks u = some v → trues v = trues u + ks.length
  | [], u, v, _, h => by cases h; rfl
  | k :: r, u, v, hi, h => by
    rw [kidsR] at h
    split at h
    · cases h
    · next hn =>
      have h1 : u.getD k.toNat false = false := by
        cases hq : u.getD k.toNat false
        · rfl
        · exact absurd (Or.inr (Or.inr hq)) hn
      have h2 : k.toNat < u.length := by
        have : 0 ≤ k ∧ k < i := by rw [not_or, not_or] at hn; omega
        omega
      rw [kidsR_count (by simpa using hi) h, trues_set h2 h1]
      simp; omega
def kidsN (ns : List Nd) : Nat := (ns.map (·.kids.length)).sum
theorem treeR_count : ∀ {i : Nat} {ns : List Nd} {u v : List Bool}, i + ns.length ≤ u.length → treeR i ns u = some v → trues v = trues u + kidsN ns
  | _, [], u, v, _, h => by cases h; simp [kidsN]
  | i, n :: r, u, v, hi, h => by
    rw [treeR] at h
    obtain ⟨u', h1, h2⟩ := Option.bind_eq_some_iff.1 h
    simp only [List.length_cons] at hi
    rw [treeR_count (by rw [kidsR_length h1]; omega) h2, kidsR_count (by omega) h1]
    simp [kidsN]; omega
theorem kidsR_stay {i j : Nat} (hij : i ≤ j) : ∀ {ks : List Int} {u v : List Bool}, kidsR i ks u = some v → v.getD j false = u.getD j false
  | [], u, v, h => by cases h; rfl
  | k :: r, u, v, h => by
    rw [kidsR] at h
    split at h
    · cases h
    · next hn =>
      rw [kidsR_stay hij h]
      have : 0 ≤ k ∧ k < i := by rw [not_or, not_or] at hn; omega
      simp only [List.getD_eq_getElem?_getD, List.getElem?_set]
      rw [if_neg (by omega)]
theorem treeR_stay {j : Nat} : ∀ {i : Nat} {ns : List Nd} {u v : List Bool}, i + ns.length ≤ j + 1 → treeR i ns u = some v → v.getD j false = u.getD j false
  | _, [], u, v, _, h => by cases h; rfl
  | i, n :: r, u, v, hi, h => by
    rw [treeR] at h
    obtain ⟨u', h1, h2⟩ := Option.bind_eq_some_iff.1 h
    simp only [List.length_cons] at hi
    rw [treeR_stay (by omega) h2, kidsR_stay (by omega) h1]
theorem all_count (l : List Bool) : l.all id = true ↔ trues l = l.length := by
  unfold trues
  rw [List.count_eq_length]
  simp only [List.all_eq_true, id]
  exact ⟨fun h b hb => (h b hb).symm, fun h b hb => (h b hb).symm⟩
/-- A tree by the number of its kids. -/
theorem isTreeR_count (ns : List Nd) : isTreeR ns = (match treeR 0 ns (List.replicate ns.length false) with | none => false | some _ => decide (kidsN ns + 1 = ns.length)) := by
  unfold isTreeR
  split
  · rfl
  · next u hu =>
    have hl := treeR_length hu
    have hc := treeR_count (by simp) hu
    have h0 : trues (List.replicate ns.length false) = 0 := by simp [trues, List.count_replicate]
    rw [h0, Nat.zero_add] at hc
    simp only [List.length_replicate] at hl
    cases hn : ns with
    | nil => simp [kidsN]
    | cons a r =>
      rw [← hn]
      have hpos : 0 < ns.length := by rw [hn]; simp
      have hs := treeR_stay (j := ns.length - 1) (by omega) hu
      have e1 : u = u.take (ns.length - 1) ++ [false] := by
        have h1 : u.length - 1 < u.length := by omega
        have h2 : u[ns.length - 1]? = some false := by
          have : u.getD (ns.length - 1) false = false := by
            rw [hs]; simp [List.getD_eq_getElem?_getD, List.getElem?_replicate]; split <;> rfl
          rw [List.getD_eq_getElem?_getD, List.getElem?_eq_getElem (by omega)] at this
          rw [List.getElem?_eq_getElem (by omega)]
          simpa using this
        apply List.ext_getElem?
        intro j
        rcases Nat.lt_trichotomy j (ns.length - 1) with hj | rfl | hj
        · rw [List.getElem?_append_left (by simp; omega), List.getElem?_take, if_pos hj]
        · rw [h2, List.getElem?_append_right (by rw [List.length_take]; omega)]
          simp [show min (ns.length - 1) u.length = ns.length - 1 by omega]
        · rw [List.getElem?_eq_none (by omega), List.getElem?_eq_none (by simp; omega)]
      have e2 : trues u = trues (u.take (ns.length - 1)) := by
        have := congrArg trues e1
        rw [this]
        simp [trues, List.count_append]
      have e3 : (u.take (ns.length - 1)).length = ns.length - 1 := by simp; omega
      have : (!ns.isEmpty) = true := by rw [hn]; rfl
      rw [this, Bool.true_and, Bool.eq_iff_iff, all_count, decide_eq_true_iff, ← e2, hc, e3]
      omega

/-! ### Sizes -/
def often (n : Nd) : Int := if n.kind = 9 then max 1 (max n.lo n.hi) else 1
def kidSum (z : List Int) (ks : List Int) : Int := (ks.map fun k => z.getD k.toNat 0).sum
def szOf (z : List Int) (n : Nd) : Int := min 100000 (1 + often n * kidSum z n.kids)
def sizesR : List Nd → List Int → List Int
  | [], z => z
  | n :: r, z => sizesR r (z ++ [szOf z n])
def sizeR (ns : List Nd) : Int := if isTreeR ns then (sizesR ns []).getD (ns.length - 1) 0 else 0

def Sized (z : List Int) : Prop := ∀ x ∈ z, 1 ≤ x ∧ x ≤ 100000
theorem often_pos (n : Nd) : 1 ≤ often n := by unfold often; split <;> omega
theorem kidSum_cons (z : List Int) (k : Int) (r : List Int) : kidSum z (k :: r) = z.getD k.toNat 0 + kidSum z r := by simp [kidSum]
theorem kidSum_snoc (z : List Int) (r : List Int) (k : Int) : kidSum z (r ++ [k]) = kidSum z r + z.getD k.toNat 0 := by simp [kidSum]
theorem Sized.getD {z : List Int} (h : Sized z) {k : Nat} (hk : k < z.length) : 1 ≤ z.getD k 0 ∧ z.getD k 0 ≤ 100000 := by
  rw [List.getD_eq_getElem?_getD, List.getElem?_eq_getElem hk]; exact h _ (List.getElem_mem hk)
theorem kidSum_nonneg {z : List Int} (h : Sized z) : ∀ ks : List Int, 0 ≤ kidSum z ks
  | [] => by simp [kidSum]
  | k :: r => by
    rw [kidSum_cons]
    have := kidSum_nonneg h r
    have h2 : 0 ≤ z.getD k.toNat 0 := by
      by_cases hk : k.toNat < z.length
      · have := h.getD hk; omega
      · rw [List.getD_eq_getElem?_getD, List.getElem?_eq_none (by omega)]; simp
    omega
theorem szOf_sized {z : List Int} (h : Sized z) (n : Nd) : 1 ≤ szOf z n ∧ szOf z n ≤ 100000 := by
  have h1 := kidSum_nonneg h n.kids
  have h2 := often_pos n
  have : 0 ≤ often n * kidSum z n.kids := Int.mul_nonneg (by omega) h1
  unfold szOf; omega
theorem Sized.snoc {z : List Int} (h : Sized z) (n : Nd) : Sized (z ++ [szOf z n]) := by
  intro x hx
  rcases List.mem_append.1 hx with hx | hx
  · exact h x hx
  · simp at hx; subst hx; exact szOf_sized h n
theorem sizesR_length : ∀ (ns : List Nd) (z : List Int), (sizesR ns z).length = z.length + ns.length
  | [], z => by simp [sizesR]
  | n :: r, z => by rw [sizesR, sizesR_length r]; simp; omega

/-- As the specification sums. -/
def SumIs (z : List Int) (n : Nd) (k : Nat) (s : Int) : Prop :=
  (s = 1 + often n * kidSum z (n.kids.take k) ∧ s ≤ 200001) ∨ (s = 100000 ∧ 100000 ≤ 1 + often n * kidSum z (n.kids.take k))
theorem take_succ_get {α : Type} {l : List α} {k : Nat} (h : k < l.length) : l.take (k + 1) = l.take k ++ [l[k]] := by
  rw [List.take_add_one, List.getElem?_eq_getElem h]; rfl
theorem SumIs.start (z : List Int) (n : Nd) : SumIs z n 0 1 := .inl ⟨by simp [kidSum], by omega⟩
theorem SumIs.more {z : List Int} {n : Nd} {k : Nat} {s x : Int} (h : SumIs z n k s) (hs : s < 100000) (hk : k < n.kids.length) (hx : z.getD (n.kids[k]).toNat 0 = x) (hx1 : 1 ≤ x) (hx2 : x ≤ 100000) (hle : often n ≤ 100000 / x) :
    SumIs z n (k + 1) (s + often n * x) ∧ 1 ≤ often n * x ∧ often n * x ≤ 100000 := by
  have h0 : s = 1 + often n * kidSum z (n.kids.take k) := by
    rcases h with h | h
    · exact h.1
    · omega
  have hp := often_pos n
  have h1 : often n * x ≤ 100000 := by
    have := Int.mul_le_mul_of_nonneg_right hle (show 0 ≤ x by omega)
    have h3 := Int.ediv_mul_le 100000 (show x ≠ 0 by omega)
    omega
  have h2 : 1 ≤ often n * x := by
    have := Int.mul_le_mul hp hx1 (by omega) (by omega)
    omega
  refine ⟨.inl ⟨?_, by omega⟩, h2, h1⟩
  rw [take_succ_get hk, kidSum_snoc, hx, Int.mul_add, h0]; omega
theorem SumIs.full {z : List Int} {n : Nd} {k : Nat} {s x : Int} (hz : Sized z) (hk : k < n.kids.length) (hx : z.getD (n.kids[k]).toNat 0 = x) (hx1 : 1 ≤ x) (hgt : 100000 / x < often n) :
    SumIs z n (k + 1) 100000 := by
  refine .inr ⟨rfl, ?_⟩
  rw [take_succ_get hk, kidSum_snoc, hx, Int.mul_add]
  have h1 := kidSum_nonneg hz (n.kids.take k)
  have hp := often_pos n
  have h2 : 0 ≤ often n * kidSum z (n.kids.take k) := Int.mul_nonneg (by omega) h1
  have h3 : 100000 < often n * x := by
    have := (Int.ediv_lt_iff_lt_mul (show 0 < x by omega)).1 hgt
    omega
  omega
theorem kidSum_take_le {z : List Int} (hz : Sized z) (ks : List Int) (k : Nat) : kidSum z (ks.take k) ≤ kidSum z ks := by
  have e : kidSum z (ks.take k ++ ks.drop k) = kidSum z (ks.take k) + kidSum z (ks.drop k) := by
    unfold kidSum
    rw [List.map_append, List.sum_append]
  rw [List.take_append_drop] at e
  have := kidSum_nonneg hz (ks.drop k)
  omega
theorem SumIs.done {z : List Int} {n : Nd} {k : Nat} {s : Int} (hz : Sized z) (h : SumIs z n k s) (he : n.kids.length ≤ k ∨ 100000 ≤ s) : min s 100000 = szOf z n := by
  have hp := often_pos n
  have hle := kidSum_take_le hz n.kids k
  have h3 : often n * kidSum z (n.kids.take k) ≤ often n * kidSum z n.kids := Int.mul_le_mul_of_nonneg_left hle (by omega)
  unfold szOf
  rcases h with ⟨h, _⟩ | ⟨h, h2⟩
  · rcases he with he | he
    · rw [List.take_of_length_le he] at h; omega
    · omega
  · omega
/-- As the program sums. -/
theorem szOf_impl {z : List Int} (hz : Sized z) (n : Nd) : min (1 + min (kidSum z n.kids) 100000 * min (often n) 100000) 100000 = szOf z n := by
  have hp := often_pos n
  have h0 := kidSum_nonneg hz n.kids
  unfold szOf
  generalize kidSum z n.kids = S at *
  generalize often n = m at *
  by_cases hS : S ≤ 100000
  · rw [show min S 100000 = S by omega]
    by_cases hm : m ≤ 100000
    · rw [show min m 100000 = m by omega, Int.mul_comm]; omega
    · rw [show min m 100000 = 100000 by omega]
      by_cases hS0 : S = 0
      · subst hS0; simp; omega
      · have : m * 1 ≤ m * S := Int.mul_le_mul_of_nonneg_left (by omega) (by omega)
        omega
  · rw [show min S 100000 = 100000 by omega]
    have h1 : 1 * S ≤ m * S := Int.mul_le_mul_of_nonneg_right hp h0
    omega
theorem sum_step {z : List Int} (hz : Sized z) {ks : List Int} {k : Nat} (hk : k < ks.length) {s x : Int} (hs : s = min (kidSum z (ks.take k)) 100000) (hx : z.getD (ks[k]).toNat 0 = x) (hx1 : 1 ≤ x) :
    min (s + x) 100000 = min (kidSum z (ks.take (k + 1))) 100000 := by
  rw [take_succ_get hk, kidSum_snoc, hx, hs]
  omega

end Go.Proofs.YtjklnfcoaakkgaaDoor

/- Plain mathematics of chapter 5: the reading of a pattern. No program in it. -/
namespace Go.Proofs.YtjklnfcoaakkgaaDoor
set_option linter.unusedVariables false

/-- The code point at a place; 0 behind the end. -/
def pk (s : List Int) (i : Nat) : Int := s.getD i 0
/-- All code points are positive. -/
def Pos (s : List Int) : Prop := ∀ x ∈ s, 1 ≤ x ∧ x ≤ 1114111

theorem pk_lt {s : List Int} {i : Nat} (h : i < s.length) : pk s i = s[i] := by unfold pk; rw [List.getD_eq_getElem?_getD, List.getElem?_eq_getElem h]; rfl
theorem pk_ge {s : List Int} {i : Nat} (h : s.length ≤ i) : pk s i = 0 := by unfold pk; rw [List.getD_eq_getElem?_getD, List.getElem?_eq_none h]; rfl
theorem Pos.at {s : List Int} (h : Pos s) {i : Nat} (hi : i < s.length) : 1 ≤ pk s i ∧ pk s i ≤ 1114111 := by rw [pk_lt hi]; exact h _ (List.getElem_mem hi)
theorem Pos.zero {s : List Int} (h : Pos s) {i : Nat} : pk s i = 0 ↔ s.length ≤ i := by
  by_cases hi : i < s.length
  · have := h.at hi; omega
  · have := pk_ge (s := s) (i := i) (by omega); omega
theorem Pos.bound {s : List Int} (h : Pos s) (i : Nat) : 0 ≤ pk s i ∧ pk s i ≤ 1114111 := by
  by_cases hi : i < s.length
  · have := h.at hi; omega
  · have := pk_ge (s := s) (i := i) (by omega); omega
theorem lt_of_pk {s : List Int} {i : Nat} (h : pk s i ≠ 0) : i < s.length := by
  by_cases hi : i < s.length
  · exact hi
  · exact absurd (pk_ge (by omega)) h

/-- What reading answers: a number, the place behind and the nodes; or an error's code and place. -/
inductive Rd where
  | ok : Int → Nat → List Nd → Rd
  | err : Int → Nat → Rd

def isRep (c : Int) : Bool := decide (c = 42 ∨ c = 43 ∨ c = 63 ∨ c = 123)
def isDig (c : Int) : Bool := decide (48 ≤ c ∧ c ≤ 57)
def isLet (c : Int) : Bool := decide (97 ≤ c ∧ c ≤ 122 ∨ 65 ≤ c ∧ c ≤ 90)

/-! ### Numbers of times -/
def digs (s : List Int) : Nat → Nat → Int → Int × Nat
  | 0, i, n => (n, i)
  | f + 1, i, n => if isDig (pk s i) then digs s f (i + 1) (if n ≤ 60 then 10 * n + pk s i - 48 else n) else (n, i)
def numR (s : List Int) (i : Nat) : Option (Int × Nat) :=
  if i < (digs s (s.length + 1) i 0).2 ∧ (digs s (s.length + 1) i 0).1 ≤ 60 ∧ ¬ (pk s i = 48 ∧ i + 1 < (digs s (s.length + 1) i 0).2) then some (digs s (s.length + 1) i 0) else none
def timesR (s : List Int) (i : Nat) : Option (Int × Int × Nat) :=
  match numR s (i + 1) with
  | none => none
  | some (lo, j) =>
    if pk s j = 44 then
      if pk s (j + 1) = 125 then some (lo, -1, j + 2)
      else match numR s (j + 1) with
        | none => none
        | some (hi, k) => if lo ≤ hi ∧ pk s k = 125 then some (lo, hi, k + 1) else none
    else if pk s j = 125 then some (lo, lo, j + 1) else none

/-! ### Points, items, brackets -/
def pointR (s : List Int) (i : Nat) : Option (Int × Nat) :=
  if pk s i = 92 then
    if pk s (i + 1) = 110 then some (10, i + 2) else if pk s (i + 1) = 116 then some (9, i + 2) else if pk s (i + 1) = 114 then some (13, i + 2)
    else if pk s (i + 1) = 0 ∨ isLet (pk s (i + 1)) = true ∨ isDig (pk s (i + 1)) = true then none else some (pk s (i + 1), i + 2)
  else some (pk s i, i + 1)

def lets (s : List Int) : Nat → Nat → List Int
  | 0, _ => []
  | f + 1, i => if isLet (pk s i) then pk s i :: lets s f (i + 1) else []
def classOf (n : List Int) : List Int :=
  if n = [97, 108, 112, 104, 97] then [65, 90, 97, 122]
  else if n = [100, 105, 103, 105, 116] then [48, 57]
  else if n = [97, 108, 110, 117, 109] then [48, 57, 65, 90, 97, 122]
  else if n = [117, 112, 112, 101, 114] then [65, 90]
  else if n = [108, 111, 119, 101, 114] then [97, 122]
  else if n = [115, 112, 97, 99, 101] then [9, 13, 32, 32]
  else if n = [98, 108, 97, 110, 107] then [9, 9, 32, 32]
  else if n = [112, 117, 110, 99, 116] then [33, 47, 58, 64, 91, 96, 123, 126]
  else if n = [120, 100, 105, 103, 105, 116] then [48, 57, 65, 70, 97, 102]
  else []
def classR (s : List Int) (i : Nat) : Option (List Int × Nat) :=
  if classOf (lets s (s.length + 1) (i + 2)) ≠ [] ∧ pk s (i + 2 + (lets s (s.length + 1) (i + 2)).length) = 58 ∧ pk s (i + 3 + (lets s (s.length + 1) (i + 2)).length) = 93 then
    some (classOf (lets s (s.length + 1) (i + 2)), i + 4 + (lets s (s.length + 1) (i + 2)).length) else none

inductive It where
  | ok : List Int → Nat → It
  | esc : Nat → It
  | bad : It
def itemR (s : List Int) (i : Nat) : It :=
  if pk s i = 0 then .bad
  else if pk s i = 91 ∧ pk s (i + 1) = 58 then match classR s i with | some (e, j) => .ok e j | none => .bad
  else match pointR s i with
    | none => .esc i
    | some (lo, j) =>
      if pk s j = 45 ∧ pk s (j + 1) ≠ 93 ∧ pk s (j + 1) ≠ 0 then
        match pointR s (j + 1) with
        | none => .esc (j + 1)
        | some (hi, k) => if lo ≤ hi then .ok [lo, hi] k else .bad
      else .ok [lo, lo] j
def itemsR (s : List Int) : Nat → Nat → Bool → List Int → It
  | 0, _, _, _ => .bad
  | f + 1, i, first, set =>
    if first = false ∧ pk s i = 93 then .ok set (i + 1)
    else match itemR s i with
      | .ok e j => itemsR s f j false (set ++ e)
      | r => r
def setNode (neg : Bool) (set : List Int) : Nd := ⟨4, 0, 0, neg, set, []⟩
def bracketR (s : List Int) (i : Nat) (out : List Nd) : Rd :=
  match itemsR s (s.length + 1) (if pk s (i + 1) = 94 then i + 2 else i + 1) true [] with
  | .ok set k => .ok out.length k (out ++ [setNode (decide (pk s (i + 1) = 94)) set])
  | .esc p => .err 6 p
  | .bad => .err 4 i

/-! ### Atoms, pieces, sequences, alternatives -/
def plainNode (k : Int) : Nd := ⟨k, 0, 0, false, [], []⟩
def charNode (c : Int) : Nd := ⟨2, c, 0, false, [], []⟩
def repNode (lo hi kid : Int) : Nd := ⟨9, lo, hi, false, [], [kid]⟩
def manyNode (k : Int) (kids : List Int) : Nd := ⟨k, 0, 0, false, [], kids⟩

def joinR (k : Int) (kids : List Int) (i : Nat) (out : List Nd) : Rd :=
  match kids with
  | [n] => .ok n i out
  | _ => .ok out.length i (out ++ [manyNode k kids])

def groupR (s : List Int) (inner : Option (Nat → List Nd → Rd)) (i : Nat) (out : List Nd) : Rd :=
  match inner with
  | none => .err 3 i
  | some g =>
    match g (i + 1) out with
    | .err c p => .err c p
    | .ok n j o => if pk s j = 41 then .ok n (j + 1) o else .err 2 j
def atomR (s : List Int) (inner : Option (Nat → List Nd → Rd)) (i : Nat) (out : List Nd) : Rd :=
  if isRep (pk s i) = true then .err 5 i
  else if pk s i = 40 then groupR s inner i out
  else if pk s i = 91 then bracketR s i out
  else if pk s i = 46 then .ok out.length (i + 1) (out ++ [plainNode 3])
  else if pk s i = 94 then .ok out.length (i + 1) (out ++ [plainNode 5])
  else if pk s i = 36 then .ok out.length (i + 1) (out ++ [plainNode 6])
  else match pointR s i with
    | none => .err 6 i
    | some (c, j) => .ok out.length j (out ++ [charNode c])

/-- What stands behind an atom: nothing, an error, or a repetition and the place behind it. -/
inductive Rp where
  | no : Rp
  | bad : Rp
  | yes : Int → Int → Nat → Rp
def repR (s : List Int) (i : Nat) : Rp :=
  if pk s i = 42 then .yes 0 (-1) (i + 1)
  else if pk s i = 43 then .yes 1 (-1) (i + 1)
  else if pk s i = 63 then .yes 0 1 (i + 1)
  else if pk s i = 123 then match timesR s i with | some (lo, hi, j) => .yes lo hi j | none => .bad
  else .no
def pieceR (s : List Int) (inner : Option (Nat → List Nd → Rd)) (i : Nat) (out : List Nd) : Rd :=
  match atomR s inner i out with
  | .err c p => .err c p
  | .ok kid j o =>
    match repR s j with
    | .no => .ok kid j o
    | .bad => .err 5 j
    | .yes lo hi k => .ok o.length k (o ++ [repNode lo hi kid])
def ends (c : Int) : Bool := decide (c = 0 ∨ c = 124 ∨ c = 41)
def seqR (s : List Int) (inner : Option (Nat → List Nd → Rd)) : Nat → Nat → List Nd → List Int → Rd
  | 0, i, out, kids => .err 0 0
  | f + 1, i, out, kids =>
    if ends (pk s i) = true then
      (if kids = [] then .ok out.length i (out ++ [plainNode 1]) else joinR 7 kids i out)
    else match pieceR s inner i out with
      | .err c p => .err c p
      | .ok n j o => seqR s inner f j o (kids ++ [n])
def rowR (s : List Int) (inner : Option (Nat → List Nd → Rd)) (i : Nat) (out : List Nd) : Rd := seqR s inner (s.length + 1) i out []
def altR (s : List Int) (inner : Option (Nat → List Nd → Rd)) : Nat → Nat → List Nd → List Int → Rd
  | 0, i, out, kids => .err 0 0
  | f + 1, i, out, kids =>
    if pk s i = 124 then
      match rowR s inner (i + 1) out with
      | .err c p => .err c p
      | .ok n j o => altR s inner f j o (kids ++ [n])
    else joinR 8 kids i out
def altsR (s : List Int) (inner : Option (Nat → List Nd → Rd)) (i : Nat) (out : List Nd) : Rd :=
  match rowR s inner i out with
  | .err c p => .err c p
  | .ok n j o => altR s inner (s.length + 1) j o [n]
/-- Alternatives inside of which n more groups may be nested. -/
def altsD (s : List Int) : Nat → Nat → List Nd → Rd
  | 0 => altsR s none
  | n + 1 => altsR s (some (altsD s n))
def innerD (s : List Int) : Nat → Option (Nat → List Nd → Rd)
  | 0 => none
  | n + 1 => some (altsD s n)
theorem altsD_eq (s : List Int) (n : Nat) : altsD s n = altsR s (innerD s n) := by cases n <;> rfl

/-- The whole pattern. -/
def wholeR (s : List Int) : Rd :=
  match altsD s 6 0 [] with
  | .err c p => .err c p
  | .ok n j o => if pk s j ≠ 0 then .err 2 j else if 400 < o.length ∨ 1000 < sizeR o then .err 7 j else .ok n j o

/-! ### How far reading comes, and how many nodes it makes -/
theorem digs_place (s : List Int) : ∀ (f i : Nat) (n : Int), i ≤ (digs s f i n).2 ∧ ((digs s f i n).2 ≤ s.length ∨ (digs s f i n).2 = i)
  | 0, i, n => by simp [digs]
  | f + 1, i, n => by
    rw [digs]
    split
    · next h =>
      have hi : i < s.length := lt_of_pk fun e => by rw [e] at h; simp [isDig] at h
      have := digs_place s f (i + 1) (if n ≤ 60 then 10 * n + pk s i - 48 else n)
      omega
    · simp
theorem digs_nonneg (s : List Int) : ∀ (f i : Nat) (n : Int), 0 ≤ n → 0 ≤ (digs s f i n).1
  | 0, i, n, h => h
  | f + 1, i, n, h => by
    rw [digs]
    split
    · next hd =>
      have : 48 ≤ pk s i := by simp only [isDig, decide_eq_true_eq] at hd; omega
      exact digs_nonneg s f (i + 1) _ (by split <;> omega)
    · exact h
theorem numR_place {s : List Int} {i : Nat} {n : Int} {j : Nat} (h : numR s i = some (n, j)) : i < j ∧ j ≤ s.length ∧ 0 ≤ n ∧ n ≤ 60 := by
  unfold numR at h
  split at h
  · next c =>
    have p := digs_place s (s.length + 1) i 0
    have q := digs_nonneg s (s.length + 1) i 0 (by omega)
    have h := Option.some.inj h
    rw [h] at c p q
    simp only at c p q
    omega
  · cases h
theorem timesR_place {s : List Int} {i : Nat} {lo hi : Int} {j : Nat} (h : timesR s i = some (lo, hi, j)) : i < j ∧ j ≤ s.length := by
  unfold timesR at h
  split at h
  · cases h
  · next lo' j1 e =>
    have p1 := numR_place e
    split at h
    · next c =>
      split at h
      · next c2 =>
        have := lt_of_pk (s := s) (i := j1 + 1) (by omega)
        cases h
        omega
      · split at h
        · cases h
        · next hi' k e2 =>
          have p2 := numR_place e2
          split at h
          · next c3 =>
            have := lt_of_pk (s := s) (i := k) (by omega)
            cases h
            omega
          · cases h
    · split at h
      · next c =>
        have := lt_of_pk (s := s) (i := j1) (by omega)
        cases h
        omega
      · cases h
theorem timesR_range {s : List Int} {i : Nat} {lo hi : Int} {j : Nat} (h : timesR s i = some (lo, hi, j)) : 0 ≤ lo ∧ lo ≤ 60 ∧ -1 ≤ hi ∧ hi ≤ 60 := by
  unfold timesR at h
  split at h
  · cases h
  · next lo' j1 e =>
    have p1 := numR_place e
    split at h
    · split at h
      · cases h; omega
      · split at h
        · cases h
        · next hi' k e2 =>
          have p2 := numR_place e2
          split at h
          · cases h; omega
          · cases h
    · split at h
      · cases h; omega
      · cases h
theorem pointR_place {s : List Int} {i : Nat} {c : Int} {j : Nat} (hi : i < s.length) (h : pointR s i = some (c, j)) : i < j ∧ j ≤ s.length := by
  unfold pointR at h
  split at h
  · split at h
    · next e => have := lt_of_pk (s := s) (i := i + 1) (by omega); cases h; omega
    · split at h
      · next e => have := lt_of_pk (s := s) (i := i + 1) (by omega); cases h; omega
      · split at h
        · next e => have := lt_of_pk (s := s) (i := i + 1) (by omega); cases h; omega
        · split at h
          · cases h
          · next e => have := lt_of_pk (s := s) (i := i + 1) (fun h0 => e (.inl h0)); cases h; omega
  · cases h; omega
theorem pointR_range {s : List Int} (hs : Pos s) {i : Nat} {c : Int} {j : Nat} (hi : i < s.length) (h : pointR s i = some (c, j)) : 1 ≤ c ∧ c ≤ 1114111 := by
  unfold pointR at h
  split at h
  · split at h
    · cases h; omega
    · split at h
      · cases h; omega
      · split at h
        · cases h; omega
        · split at h
          · cases h
          · next e => have := hs.at (lt_of_pk (s := s) (i := i + 1) (fun h0 => e (.inl h0))); cases h; omega
  · have := hs.at hi; cases h; omega
theorem classR_place {s : List Int} {i : Nat} {e : List Int} {j : Nat} (h : classR s i = some (e, j)) : i < j ∧ j ≤ s.length := by
  unfold classR at h
  split at h
  · next c =>
    have := lt_of_pk (s := s) (i := i + 3 + (lets s (s.length + 1) (i + 2)).length) (by omega)
    cases h
    omega
  · cases h
theorem itemR_place {s : List Int} {i : Nat} {e : List Int} {j : Nat} (h : itemR s i = .ok e j) : i < j ∧ j ≤ s.length := by
  unfold itemR at h
  split at h
  · cases h
  · next h0 =>
    have hi := lt_of_pk h0
    split at h
    · split at h
      · next hc => cases h; exact classR_place hc
      · cases h
    · split at h
      · cases h
      · next lo k hp =>
        have p1 := pointR_place hi hp
        split at h
        · next hc =>
          split at h
          · cases h
          · next hi' k' hp2 =>
            have p2 := pointR_place (lt_of_pk hc.2.2) hp2
            split at h
            · cases h; omega
            · cases h
        · cases h; omega
theorem itemsR_place {s : List Int} : ∀ {f i : Nat} {b : Bool} {set e : List Int} {j : Nat}, itemsR s f i b set = .ok e j → i < j ∧ j ≤ s.length
  | 0, i, b, set, e, j, h => by cases h
  | f + 1, i, b, set, e, j, h => by
    rw [itemsR] at h
    split at h
    · next hc => have := lt_of_pk (s := s) (i := i) (by omega); cases h; omega
    · split at h
      · next e' k hk =>
        have p := itemR_place hk
        have q := itemsR_place h
        omega
      · next hne => exact absurd h (hne _ _)

/-- How far an atom or a piece comes: at least one code point, and fewer than two nodes for each. -/
def Far (s : List Int) (i : Nat) (out : List Nd) (r : Rd) : Prop := ∀ n j o, r = .ok n j o → i < j ∧ j ≤ s.length ∧ o.length + 1 ≤ out.length + 2 * (j - i) ∧ 0 ≤ n ∧ n < o.length ∧ out.length ≤ o.length
/-- How far a sequence or alternatives come. -/
def FarS (s : List Int) (i : Nat) (out : List Nd) (r : Rd) : Prop := ∀ n j o, r = .ok n j o → i ≤ j ∧ j ≤ s.length ∧ o.length ≤ out.length + 2 * (j - i) + 1 ∧ 0 ≤ n ∧ n < o.length ∧ out.length ≤ o.length ∧ ends (pk s j) = true
def FarI (s : List Int) (inner : Option (Nat → List Nd → Rd)) : Prop := ∀ g, inner = some g → ∀ i out, i ≤ s.length → FarS s i out (g i out)

theorem far_one {s : List Int} {i j : Nat} {out : List Nd} {nd : Nd} (h1 : i < j) (h2 : j ≤ s.length) : Far s i out (.ok out.length j (out ++ [nd])) := fun n k o h => by
  cases h; simp; omega
theorem atomR_far {s : List Int} {inner : Option (Nat → List Nd → Rd)} (hI : FarI s inner) {i : Nat} {out : List Nd} (hi : i < s.length) : Far s i out (atomR s inner i out) := by
  unfold atomR
  split
  · intro n j o h; cases h
  split
  · unfold groupR
    split
    · intro n j o h; cases h
    · next g =>
      split
      · intro n j o h; cases h
      · next n' j' o' hg =>
        have p := hI g rfl (i + 1) out (by omega) _ _ _ hg
        split
        · next hc =>
          have := lt_of_pk (s := s) (i := j') (by omega)
          intro n j o h; cases h; omega
        · intro n j o h; cases h
  split
  · unfold bracketR
    split
    · next set k hk =>
      have p := itemsR_place hk
      exact far_one (by split at p <;> omega) p.2
    · intro n j o h; cases h
    · intro n j o h; cases h
  split
  · exact far_one (by omega) (by omega)
  split
  · exact far_one (by omega) (by omega)
  split
  · exact far_one (by omega) (by omega)
  split
  · intro n j o h; cases h
  · next c j hp =>
    have p := pointR_place hi hp
    exact far_one p.1 p.2
theorem repR_place {s : List Int} {i : Nat} {lo hi : Int} {j : Nat} (h : repR s i = .yes lo hi j) : i < j ∧ j ≤ s.length ∧ 0 ≤ lo ∧ lo ≤ 60 ∧ -1 ≤ hi ∧ hi ≤ 60 := by
  unfold repR at h
  split at h
  · have := lt_of_pk (s := s) (i := i) (by omega); cases h; omega
  split at h
  · have := lt_of_pk (s := s) (i := i) (by omega); cases h; omega
  split at h
  · have := lt_of_pk (s := s) (i := i) (by omega); cases h; omega
  split at h
  · split at h
    · next lo' hi' j' ht =>
      have p := timesR_place ht
      have q := timesR_range ht
      cases h; omega
    · cases h
  · cases h
theorem pieceR_far {s : List Int} {inner : Option (Nat → List Nd → Rd)} (hI : FarI s inner) {i : Nat} {out : List Nd} (hi : i < s.length) : Far s i out (pieceR s inner i out) := by
  unfold pieceR
  split
  · intro n j o h; cases h
  · next kid j o ha =>
    have p := atomR_far hI (out := out) hi _ _ _ ha
    split
    · intro n j o h; cases h; exact p
    · intro n j o h; cases h
    · next lo hi' k hr =>
      have q := repR_place hr
      intro n j o h; cases h
      simp; omega
theorem ends_not {c : Int} (h : ends c ≠ true) : c ≠ 0 ∧ c ≠ 124 ∧ c ≠ 41 := by simp only [ends, decide_eq_true_eq, not_or, ne_eq] at h ⊢; exact h
theorem seqR_far {s : List Int} {inner : Option (Nat → List Nd → Rd)} (hI : FarI s inner) : ∀ {f i : Nat} {out : List Nd} {kids : List Int}, i ≤ s.length → (∀ k ∈ kids, 0 ≤ k ∧ k < out.length) →
    ∀ n j o, seqR s inner f i out kids = .ok n j o → i ≤ j ∧ j ≤ s.length ∧ o.length + (if kids = [] then 0 else 1) ≤ out.length + 2 * (j - i) + (if kids.length = 1 then 1 else if kids = [] then 1 else 2) ∧ 0 ≤ n ∧ n < o.length ∧ out.length ≤ o.length ∧ ends (pk s j) = true
  | 0, i, out, kids, hi, hk, n, j, o, h => by cases h
  | f + 1, i, out, kids, hi, hk, n, j, o, h => by
    rw [seqR] at h
    split at h
    · next he =>
      split at h
      · next hk0 => cases h; simp [he, hk0]; omega
      · next hne =>
        unfold joinR at h
        split at h
        · next m => 
          have := hk m (by simp)
          cases h; simp [he]; omega
        · next hm =>
          cases h
          have h1 : ¬ kids.length = 1 := fun e => by
            match kids, e with
            | [x], _ => exact hm x rfl
          simp [he, hne, h1]; omega
    · next he =>
      have hil := lt_of_pk (ends_not he).1
      split at h
      · cases h
      · next m j' o' hp =>
        have p := pieceR_far hI (out := out) hil _ _ _ hp
        have q := seqR_far hI (f := f) (i := j') (out := o') (kids := kids ++ [m]) (by omega) (fun k hk' => by
          rcases List.mem_append.1 hk' with hk' | hk'
          · have := hk k hk'; omega
          · simp at hk'; subst hk'; omega) n j o h
        have e1 : (kids ++ [m]) ≠ [] := by simp
        rw [if_neg e1, if_neg e1] at q
        refine ⟨by omega, q.2.1, ?_, q.2.2.2.1, q.2.2.2.2.1, by omega, q.2.2.2.2.2.2⟩
        have q3 := q.2.2.1
        have e2 : (kids ++ [m]).length = kids.length + 1 := by simp
        rw [e2] at q3
        by_cases hk0 : kids = []
        · subst hk0; simp at q3 ⊢; omega
        · have : kids.length ≠ 0 := by simpa using hk0
          rw [if_neg hk0, if_neg hk0]
          rw [if_neg (show ¬ kids.length + 1 = 1 by omega)] at q3
          split <;> omega
theorem rowR_far {s : List Int} {inner : Option (Nat → List Nd → Rd)} (hI : FarI s inner) {i : Nat} {out : List Nd} (hi : i ≤ s.length) : FarS s i out (rowR s inner i out) := fun n j o h => by
  have q := seqR_far hI (f := s.length + 1) (kids := []) hi (fun k hk => by cases hk) n j o h
  simp at q
  exact ⟨q.1, q.2.1, by omega, q.2.2.2.1, q.2.2.2.2.1, q.2.2.2.2.2.1, q.2.2.2.2.2.2⟩
theorem altR_far {s : List Int} {inner : Option (Nat → List Nd → Rd)} (hI : FarI s inner) : ∀ {f i : Nat} {out : List Nd} {kids : List Int}, i ≤ s.length → kids ≠ [] → (∀ k ∈ kids, 0 ≤ k ∧ k < out.length) → ends (pk s i) = true →
    ∀ n j o, altR s inner f i out kids = .ok n j o → i ≤ j ∧ j ≤ s.length ∧ o.length ≤ out.length + 2 * (j - i) + (if kids.length = 1 then 0 else 1) ∧ 0 ≤ n ∧ n < o.length ∧ out.length ≤ o.length ∧ ends (pk s j) = true
  | 0, i, out, kids, hi, hn, hk, he, n, j, o, h => by cases h
  | f + 1, i, out, kids, hi, hn, hk, he, n, j, o, h => by
    rw [altR] at h
    split at h
    · next h0 =>
      have hil := lt_of_pk (s := s) (i := i) (by omega)
      split at h
      · cases h
      · next m j' o' hp =>
        have p := rowR_far hI (out := out) (show i + 1 ≤ s.length by omega) _ _ _ hp
        have q := altR_far hI (f := f) (i := j') (out := o') (kids := kids ++ [m]) p.2.1 (by simp) (fun k hk' => by
          rcases List.mem_append.1 hk' with hk' | hk'
          · have := hk k hk'; omega
          · simp at hk'; subst hk'; omega) p.2.2.2.2.2.2 n j o h
        have hl : kids.length ≠ 0 := by simpa using hn
        have e2 : (kids ++ [m]).length = kids.length + 1 := by simp
        rw [e2, if_neg (show ¬ kids.length + 1 = 1 by omega)] at q
        refine ⟨by omega, q.2.1, ?_, q.2.2.2.1, q.2.2.2.2.1, by omega, q.2.2.2.2.2.2⟩
        split <;> omega
    · unfold joinR at h
      split at h
      · next m =>
        have := hk m (by simp)
        cases h; simp [he]; omega
      · next hm =>
        cases h
        have : ¬ kids.length = 1 := fun e => by
          match kids, e with
          | [x], _ => exact hm x rfl
        simp [he, this]; omega
theorem altsR_far {s : List Int} {inner : Option (Nat → List Nd → Rd)} (hI : FarI s inner) {i : Nat} {out : List Nd} (hi : i ≤ s.length) : FarS s i out (altsR s inner i out) := fun n j o h => by
  unfold altsR at h
  split at h
  · cases h
  · next m j' o' hp =>
    have p := rowR_far hI hi _ _ _ hp
    have q := altR_far hI (kids := [m]) p.2.1 (by simp) (fun k hk => by simp at hk; subst hk; omega) p.2.2.2.2.2.2 n j o h
    simp at q
    exact ⟨by omega, q.2.1, by omega, q.2.2.2.1, q.2.2.2.2.1, by omega, q.2.2.2.2.2.2⟩
theorem innerD_far (s : List Int) : ∀ n, FarI s (innerD s n)
  | 0 => fun g h => by cases h
  | n + 1 => fun g h i out hi => by
    cases h
    rw [altsD_eq]
    exact altsR_far (innerD_far s n) hi

end Go.Proofs.YtjklnfcoaakkgaaDoor
