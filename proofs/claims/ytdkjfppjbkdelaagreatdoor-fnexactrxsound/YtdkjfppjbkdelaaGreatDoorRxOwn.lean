/- Memory of a reader of patterns: what a call keeps, nodes that it owns, one step of append inside a region that draws. No condition. -/
import Derived.Test.YtdkjfppjbkdelaaGreatDoorRxTo
import Derived.Deep.RegionLaw
namespace Go.Proofs.YtdkjfppjbkdelaaGreatDoor
set_option linter.unusedVariables false
open Go.RowKit

/-- All blocks but those of G are as they were; the streams too. -/
structure Keep (G : List Nat) (w w' : World) : Prop where
  os : w'.os = w.os
  tape : w'.tape = w.tape
  output : w'.output = w.output
  size : w.heap.size ≤ w'.heap.size
  block : ∀ k, k < w.heap.size → k ∉ G → w'.heap[k]? = w.heap[k]?

section
variable {G G' : List Nat} {w w1 w2 : World}
theorem Keep.refl (G : List Nat) (w : World) : Keep G w w := ⟨rfl, rfl, rfl, Nat.le_refl _, fun _ _ _ => rfl⟩
theorem Keep.mono (h : Keep G w w1) (hg : ∀ b ∈ G, b ∈ G') : Keep G' w w1 := ⟨h.os, h.tape, h.output, h.size, fun k hk hn => h.block k hk (fun e => hn (hg k e))⟩
theorem Keep.trans (h : Keep G w w1) (h2 : Keep G' w1 w2) (hg : ∀ b ∈ G', b ∈ G ∨ w.heap.size ≤ b) : Keep G w w2 :=
  ⟨h2.os.trans h.os, h2.tape.trans h.tape, h2.output.trans h.output, Nat.le_trans h.size h2.size, fun k hk hn =>
    (h2.block k (Nat.lt_of_lt_of_le hk h.size) (fun e => by rcases hg k e with h | h; exact hn h; omega)).trans (h.block k hk hn)⟩
theorem Keep.tr (h : Keep G w w1) (h2 : Keep G w1 w2) : Keep G w w2 := h.trans h2 fun _ hb => .inl hb
theorem Keep.drewN (h : Keep G w w1) (q : Nat) : Keep G w (w1.drewN q) := ⟨h.os, h.tape, h.output, h.size, h.block⟩
theorem Keep.drew (h : Keep G w w1) : Keep G w w1.drew := ⟨h.os, h.tape, h.output, h.size, h.block⟩
theorem Keep.alloc (h : Keep G w w1) (o : Obj) : Keep G w (w1.alloc o) :=
  ⟨h.os, h.tape, h.output, by rw [alloc_size1]; have := h.size; omega, fun k hk hn => (Below.heap_alloc w1 o k (Nat.lt_of_lt_of_le hk h.size)).trans (h.block k hk hn)⟩
theorem Keep.setCell (h : Keep G w w1) {p j : Nat} (hp : p ∈ G ∨ w.heap.size ≤ p) (v : Value) : Keep G w (w1.setCell ⟨p, j, none⟩ v) :=
  ⟨h.os, h.tape, h.output, by rw [setCell_size']; exact h.size, fun k hk hn => (Below.heap_setCell w1 ⟨p, j, none⟩ v k (fun e => by
    rcases hp with hp | hp
    · exact hn (by rw [e]; exact hp)
    · have : k = p := e
      omega)).trans (h.block k hk hn)⟩
theorem Keep.below (h : Keep G w w1) {B : Nat} (hB : B ≤ w.heap.size) (hG : ∀ b ∈ G, B ≤ b) : Below B w w1 := ⟨h.os, h.tape, h.output, h.size, fun k hk => h.block k (by omega) (fun e => by have := hG k e; omega)⟩
theorem Keep.ofBelow (h : Below w.heap.size w w1) : Keep [] w w1 := ⟨h.os, h.tape, h.output, h.size, fun k hk _ => h.block k hk⟩
theorem Keep.ofGrown {r : Option Nat} (h : w.grownBy w1 r) : Keep r.toList w w1 := ⟨h.os, h.tape, h.output, h.size, fun k hk hn => h.block k hk (fun e => hn (by rw [← e]; simp))⟩
theorem Keep.nil (h : Keep [] w w1) : Keep G w w1 := h.mono fun _ hb => by cases hb
theorem Keep.row (h : Keep G w w1) {base : Nat} {e : TypeId} {size n : Nat} {v : Value} {xs : List Value} (ho : w.ownsRow base e size v n xs) (hv : ∀ b, v.ownBlock = some b → b ∉ G) : w1.ownsRow base e size v n xs := by
  refine ⟨ho.1, ?_⟩
  rcases ho.2 with hn | ⟨g, cap, cur, rfl, hb, hgg, rest⟩
  · exact .inl hn
  · exact .inr ⟨g, cap, cur, rfl, hb, (h.block g (Array.getElem?_eq_some_iff.1 hgg).1 (hv g rfl)).trans hgg, rest⟩
theorem Keep.nums (h : Keep G w w1) {k : IntKind} {B : Nat} {A : Option Addr} {zs : List Int} (hn : Nums k w B A zs) (hB : B ≤ w.heap.size) (hG : ∀ b ∈ G, B ≤ b) : Nums k w1 B A zs :=
  hn.below (h.below hB hG)
end

/-- 'append' to a row of the call's own: the row stays where it is, or is new. -/
theorem run_append_own2 {P : Program} (w : World) (base : Nat) (t ty e : TypeId) (i : TypeInfo) (z : Value) (size bytes : Nat) (ht : P.underlying t = some (.slice e)) (hi : P.info? e = some i) (hz : i.zero = some z)
    (hsize : i.size = size) (hby : i.bytes = bytes) (hzs : z.cells.size = size) (hsz : 0 < size)
    (v : Value) (n : Nat) (xs : List Value) (hown : w.ownsRow base e size v n xs)
    (a : Addr) (m c : Nat) (news : List Value) (hl : news.length = m * size) (hnews : ∀ j u, news[j]? = some u → w.cell? (a.add j) = some u) (h1 : ∀ u ∈ news, u.oneCell' = true)
    (h63 : n + m ≤ maxLen) (hbytes : (n + m) * bytes ≤ 140737488355328) (hbase : base ≤ w.heap.size) :
    ∃ v' w', (Builtin.append_ #[t, t] ty #[v, .slice (some a) m c]).run P w = .ok v' w' ∧ w'.ownsRow base e size v' (n + m) (xs ++ news) ∧ w.grownBy w' v.ownBlock ∧ (∀ b, v'.ownBlock = some b → v.ownBlock = some b ∨ w.heap.size ≤ b) := by
  obtain ⟨v', w', hr, h2, h3, _⟩ := run_append_own (P := P) w base t ty e i z size bytes ht hi hz hsize hby hzs hsz v n xs hown a m c news hl hnews h1 h63 hbytes hbase
  refine ⟨v', w', hr, h2, h3, fun b hb => ?_⟩
  subst hsize
  subst hby
  rcases hown.2 with ⟨rfl, rfl⟩ | ⟨g, cap, cur, rfl, hbg, hg, hnc, hcm, hcs, htake⟩
  · obtain rfl : xs = [] := List.eq_nil_of_length_eq_zero (by simpa using hown.1)
    obtain ⟨v2, w2, hr2, h4, _, _⟩ := run_append_own (P := P) w w.heap.size t ty e i z i.size i.bytes ht hi hz rfl rfl hzs hsz (.slice none 0 0) 0 [] (World.ownsRow_nil _ _ _ _) a m c news hl hnews h1 h63 hbytes (Nat.le_refl _)
    rw [hr] at hr2
    injection hr2 with e1 e2
    subst e1
    subst e2
    exact .inr (h4.lt b hb).1
  · by_cases hroom : n + m ≤ cap
    · have hfit : n * i.size + news.length ≤ cur.size := by rw [hl, hcs, ← Nat.add_mul]; exact Nat.mul_le_mul_right _ hroom
      have hr2 := run_append_room (P := P) w t ty e i ht hi g n cap cur hg a m c news hl hnews h1 hroom hfit
      rw [hr] at hr2
      injection hr2 with e1 e2
      subst e1
      exact .inl hb
    · have hsmall : n + m ≤ 9223372036854775807 := by simp only [maxLen] at h63; omega
      have hr2 := run_append_grow (P := P) w t ty e i z ht hi hz ⟨g, 0, none⟩ n cap xs hown.1 (hown.cells (g := g) rfl) a m c news hl hnews (by omega) (by omega) (growslice_fits (by omega) hbytes)
      rw [hr] at hr2
      injection hr2 with e1 e2
      subst e1
      simp [Value.ownBlock] at hb
      exact .inr (by omega)

/-- .. as one step of a region that draws. -/
theorem step_append_own {P : Program} {ops : Array Oper} {o : Oper} {a : Act} {w : World} {K : Act → World → Prop} {Q : Exit → Act → World → Prop} {E : Prop}
    (hg : o.guard = none) (s x : Operand) (t : TypeId) (hop : o.op = Op.call { callee := Callee.builtin Builtin.append, args := #[s, x], argTypes := #[t, t] })
    (base : Nat) (e : TypeId) (i : TypeInfo) (z : Value) (size bytes : Nat) (h1 : P.underlying t = some (.slice e)) (h2 : P.info? e = some i) (h3 : i.zero = some z) (h4 : i.size = size) (h5 : i.bytes = bytes) (h6 : z.cells.size = size) (h7 : 0 < size)
    (v : Value) (n : Nat) (xs : List Value) (hs : a.eval s = v) (hown : w.ownsRow base e size v n xs)
    (ad : Addr) (m c : Nat) (news : List Value) (hx : a.eval x = .slice (some ad) m c) (hn : news.length = m * size) (hc : ∀ j u, news[j]? = some u → w.cell? (ad.add j) = some u) (h1c : ∀ u ∈ news, u.oneCell' = true)
    (b1 : n + m ≤ maxLen) (b2 : (n + m) * bytes ≤ 140737488355328) (b3 : base ≤ w.heap.size)
    (hK : ∀ v' w', w'.ownsRow base e size v' (n + m) (xs ++ news) → w.grownBy w' v.ownBlock → (∀ b, v'.ownBlock = some b → v.ownBlock = some b ∨ w.heap.size ≤ b) → K (a.put o.dst v') w') :
    if Region.wanted o (yielded ops a.tmps) = true then Oper.wp P o a w K Q else E := by
  have hw : Region.wanted o (yielded ops a.tmps) = true := by simp [Region.wanted, hg]
  rw [if_pos hw]
  obtain ⟨v', w', hrun, r1, r2, r3⟩ := run_append_own2 (P := P) w base t o.type e i z size bytes h1 h2 h3 h4 h5 h6 h7 v n xs hown ad m c news hn hc h1c b1 b2 b3
  unfold Oper.wp
  simp [execOp, hop, resolve, invoke, builtin, hs, hx, hrun, Result.andThen]
  exact hK v' w' r1 r2 r3
/-- .. as one step of a region in its one order. -/
theorem list_append_own {P : Program} {w : World} {ops : Array Oper} {rest : List Oper} {o : Oper} {a : Act} {Q : Exit → Act → World → Prop} (hgd : o.guard = none) (s x : Operand) (t : TypeId)
    (hop : o.op = .call { callee := .builtin .append, args := #[s, x], argTypes := #[t, t] })
    (base : Nat) (e : TypeId) (i : TypeInfo) (z : Value) (size bytes : Nat) (h1 : P.underlying t = some (.slice e)) (h2 : P.info? e = some i) (h3 : i.zero = some z) (h4 : i.size = size) (h5 : i.bytes = bytes) (h6 : z.cells.size = size) (h7 : 0 < size)
    (v : Value) (n : Nat) (xs : List Value) (hs : a.eval s = v) (hown : w.ownsRow base e size v n xs)
    (ad : Addr) (m c : Nat) (news : List Value) (hx : a.eval x = .slice (some ad) m c) (hn : news.length = m * size) (hc : ∀ j u, news[j]? = some u → w.cell? (ad.add j) = some u) (h1c : ∀ u ∈ news, u.oneCell' = true)
    (b1 : n + m ≤ maxLen) (b2 : (n + m) * bytes ≤ 140737488355328) (b3 : base ≤ w.heap.size)
    (hK : ∀ v' w', w'.ownsRow base e size v' (n + m) (xs ++ news) → w.grownBy w' v.ownBlock → (∀ b, v'.ownBlock = some b → v.ownBlock = some b ∨ w.heap.size ≤ b) → wpList P ops Q rest (a.put o.dst v') w') : wpList P ops Q (o :: rest) a w := by
  refine wpList_plain hgd fun K hK' => ?_
  obtain ⟨v', w', hrun, r1, r2, r3⟩ := run_append_own2 (P := P) w base t o.type e i z size bytes h1 h2 h3 h4 h5 h6 h7 v n xs hown ad m c news hn hc h1c b1 b2 b3
  unfold Oper.wp
  simp [execOp, hop, resolve, invoke, builtin, hs, hx, hrun, Result.andThen]
  exact hK' _ _ (hK v' w' r1 r2 r3)

/-! ### Nodes that are owned -/
def six (n : Nd) (x : Value × Value) : List Value := [.int .i64 n.kind, .int .i64 n.lo, .int .i64 n.hi, .bool n.neg, x.1, x.2]
def cells6 : List Nd → List (Value × Value) → List Value
  | n :: ns, x :: xs => six n x ++ cells6 ns xs
  | _, _ => []
def subs (xs : List (Value × Value)) : List Nat := xs.flatMap fun x => x.1.ownBlock.toList ++ x.2.ownBlock.toList
def foot (nv : Value) (xs : List (Value × Value)) : List Nat := nv.ownBlock.toList ++ subs xs

def RowI (w : World) (B : Nat) (v : Value) (zs : List Int) : Prop := w.ownsRow B 3 1 v zs.length (zs.map (Value.int .i64))

structure Own6 (w : World) (B : Nat) (nv : Value) (ns : List Nd) (xs : List (Value × Value)) : Prop where
  len : xs.length = ns.length
  row : w.ownsRow B 47 6 nv ns.length (cells6 ns xs)
  sub : ∀ j, (h : j < ns.length) → RowI w B (xs[j]'(by omega)).1 ns[j].set ∧ RowI w B (xs[j]'(by omega)).2 ns[j].kids
  nodup : (foot nv xs).Nodup

theorem cells6_length : ∀ (ns : List Nd) (xs : List (Value × Value)), xs.length = ns.length → (cells6 ns xs).length = ns.length * 6
  | [], xs, h => by simp [cells6]
  | n :: ns, [], h => by simp at h
  | n :: ns, x :: xs, h => by simp [cells6, six, cells6_length ns xs (by simpa using h)]; omega
theorem cells6_snoc : ∀ (ns : List Nd) (xs : List (Value × Value)) (n : Nd) (x : Value × Value), xs.length = ns.length → cells6 (ns ++ [n]) (xs ++ [x]) = cells6 ns xs ++ six n x
  | [], [], n, x, h => by simp [cells6]
  | m :: ns, [], n, x, h => by simp at h
  | [], y :: xs, n, x, h => by simp at h
  | m :: ns, y :: xs, n, x, h => by simp [cells6, cells6_snoc ns xs n x (by simpa using h)]
theorem cells6_get : ∀ (ns : List Nd) (xs : List (Value × Value)) (hl : xs.length = ns.length) (j i : Nat) (hj : j < ns.length) (hi : i < 6), (cells6 ns xs)[j * 6 + i]? = (six ns[j] (xs[j]'(by omega)))[i]?
  | [], xs, hl, j, i, hj, hi => by simp at hj
  | n :: ns, [], hl, j, i, hj, hi => by simp at hl
  | n :: ns, x :: xs, hl, 0, i, hj, hi => by
    simp only [cells6, Nat.zero_mul, Nat.zero_add, List.getElem_cons_zero]
    rw [List.getElem?_append_left (by simp [six]; omega)]
  | n :: ns, x :: xs, hl, j + 1, i, hj, hi => by
    simp only [cells6, List.getElem_cons_succ]
    rw [List.getElem?_append_right (by simp [six]; omega)]
    have := cells6_get ns xs (by simpa using hl) j i (by simpa using hj) hi
    rw [← this]
    congr 1
    simp [six]; omega

theorem subs_mem {xs : List (Value × Value)} {b : Nat} : b ∈ subs xs ↔ ∃ x ∈ xs, x.1.ownBlock = some b ∨ x.2.ownBlock = some b := by
  unfold subs
  simp only [List.mem_flatMap, List.mem_append, Option.mem_toList]
theorem foot_mem {nv : Value} {xs : List (Value × Value)} {b : Nat} : b ∈ foot nv xs ↔ nv.ownBlock = some b ∨ ∃ x ∈ xs, x.1.ownBlock = some b ∨ x.2.ownBlock = some b := by
  unfold foot
  rw [List.mem_append, Option.mem_toList, subs_mem]

section
variable {w w1 : World} {B : Nat} {nv : Value} {ns : List Nd} {xs : List (Value × Value)}
theorem Own6.range (h : Own6 w B nv ns xs) : ∀ b ∈ foot nv xs, B ≤ b ∧ b < w.heap.size := by
  intro b hb
  rcases foot_mem.1 hb with hb | ⟨x, hx, hb⟩
  · exact h.row.lt b hb
  · obtain ⟨j, hj, rfl⟩ := List.mem_iff_getElem.1 hx
    have hs := h.sub j (by rw [← h.len]; exact hj)
    rcases hb with hb | hb
    · exact hs.1.lt b hb
    · exact hs.2.lt b hb
theorem Own6.keep (h : Own6 w B nv ns xs) {G : List Nat} (hk : Keep G w w1) (hG : ∀ b ∈ G, b ∉ foot nv xs) : Own6 w1 B nv ns xs :=
  ⟨h.len, hk.row h.row fun b hb hg => hG b hg (foot_mem.2 (.inl hb)), fun j hj => ⟨hk.row (h.sub j hj).1 fun b hb hg => hG b hg (foot_mem.2 (.inr ⟨_, List.getElem_mem _, .inl hb⟩)), hk.row (h.sub j hj).2 fun b hb hg => hG b hg (foot_mem.2 (.inr ⟨_, List.getElem_mem _, .inr hb⟩))⟩, h.nodup⟩
theorem Own6.nil (w : World) (B : Nat) : Own6 w B (.slice none 0 0) [] [] := ⟨rfl, World.ownsRow_nil _ _ _ _, fun j hj => absurd hj (by simp), by simp [foot, subs, Value.ownBlock]⟩
theorem RowI.nums {v : Value} {zs : List Int} (h : RowI w B v zs) : ∃ A c, v = .slice A zs.length c ∧ Nums .i64 w w.heap.size A zs := by
  obtain ⟨A, c, rfl⟩ := own_form h
  exact ⟨A, c, rfl, Nums.own h⟩
/-- Owned nodes can be read. -/
theorem Own6.nodes (h : Own6 w B nv ns xs) : ∃ A c, nv = .slice A ns.length c ∧ Nodes w w.heap.size A ns := by
  obtain ⟨A, c, rfl⟩ := own_form h.row
  refine ⟨A, c, rfl, fun j hj => ?_⟩
  obtain ⟨g, rfl⟩ : ∃ g, A = some ⟨g, 0, none⟩ := by
    rcases h.row.2 with ⟨_, h0⟩ | ⟨g, cap, cur, hv, _⟩
    · omega
    · injection hv with hA; exact ⟨g, hA⟩
  obtain ⟨h1, h2⟩ := h.sub j hj
  obtain ⟨sa, sc, e1, n1⟩ := h1.nums
  obtain ⟨ka, kc, e2, n2⟩ := h2.nums
  have hc : ∀ i, i < 6 → w.cell? ⟨g, j * 6 + i, none⟩ = (six ns[j] (xs[j]'(by rw [h.len]; exact hj)))[i]? := fun i hi => by
    have hl := cells6_length ns xs h.len
    rw [← cells6_get ns xs h.len j i hj hi]
    have hlt : j * 6 + i < (cells6 ns xs).length := by rw [hl]; omega
    have := h.row.cells (g := g) rfl (j * 6 + i) _ (List.getElem?_eq_getElem hlt)
    rw [Addr.add_lit, Nat.zero_add] at this
    rw [this, List.getElem?_eq_getElem hlt]
  have c0 := hc 0 (by omega)
  have c1 := hc 1 (by omega)
  have c2 := hc 2 (by omega)
  have c3 := hc 3 (by omega)
  have c4 := hc 4 (by omega)
  have c5 := hc 5 (by omega)
  simp only [six, List.getElem?_cons_zero, List.getElem?_cons_succ, e1, e2, Nat.add_zero] at c0 c1 c2 c3 c4 c5
  exact ⟨g, 0, sa, sc, ka, kc, rfl, (h.row.lt g rfl).2, by rw [Nat.zero_add]; exact ⟨c0, c1, c2, c3, c4, c5⟩, n1, n2⟩
/-- A node more. -/
theorem Own6.snoc {nv' sv kv : Value} {nd : Nd} (h : Own6 w B nv ns xs) (hk : Keep nv.ownBlock.toList w w1) (hr : w1.ownsRow B 47 6 nv' (ns.length + 1) (cells6 ns xs ++ six nd (sv, kv)))
    (hn : ∀ b, nv'.ownBlock = some b → nv.ownBlock = some b ∨ w.heap.size ≤ b) (hs : RowI w B sv nd.set) (hkd : RowI w B kv nd.kids) (hd1 : ∀ b, sv.ownBlock = some b → b ∉ foot nv xs) (hd2 : ∀ b, kv.ownBlock = some b → b ∉ foot nv xs) (hd3 : ∀ b, sv.ownBlock = some b → kv.ownBlock ≠ some b) :
    Own6 w1 B nv' (ns ++ [nd]) (xs ++ [(sv, kv)]) := by
  have hG : ∀ b, nv.ownBlock = some b → b ∈ foot nv xs := fun b hb => foot_mem.2 (.inl hb)
  have hsub : subs (xs ++ [(sv, kv)]) = subs xs ++ (sv.ownBlock.toList ++ kv.ownBlock.toList) := by simp [subs]
  have hnd := h.nodup
  unfold foot at hnd
  have hN := List.nodup_append.1 hnd
  refine ⟨by simp [h.len], by rw [cells6_snoc _ _ _ _ h.len]; simpa using hr, fun j hj => ?_, ?_⟩
  · by_cases hjl : j < ns.length
    · have hx : j < xs.length := by rw [h.len]; exact hjl
      rw [List.getElem_append_left hjl, List.getElem_append_left hx]
      have hsj := h.sub j hjl
      refine ⟨hk.row hsj.1 fun b hb hg => ?_, hk.row hsj.2 fun b hb hg => ?_⟩
      · exact hN.2.2 b hg b (subs_mem.2 ⟨_, List.getElem_mem _, .inl hb⟩) rfl
      · exact hN.2.2 b hg b (subs_mem.2 ⟨_, List.getElem_mem _, .inr hb⟩) rfl
    · obtain rfl : j = ns.length := by simp at hj; omega
      have e1 : (ns ++ [nd])[ns.length] = nd := by simp
      have e2 : (xs ++ [(sv, kv)])[ns.length]'(by simp [h.len]) = (sv, kv) := by
        simp only [← h.len]; simp
      rw [e1, e2]
      refine ⟨hk.row hs fun b hb hg => hd1 b hb (hG b (by simpa using hg)), hk.row hkd fun b hb hg => hd2 b hb (hG b (by simpa using hg))⟩
  · unfold foot
    rw [hsub, ← List.append_assoc]
    have fresh : ∀ b, nv'.ownBlock = some b → b ∉ subs xs := fun b hb hm => by
      rcases hn b hb with h1 | h1
      · exact hN.2.2 b (by simpa using h1) b hm rfl
      · have := (h.range b (by unfold foot; exact List.mem_append.2 (.inr hm))).2; omega
    have s1 := fun b (hb : sv.ownBlock = some b) => (World.ownsRow.lt hs b hb).2
    have s2 := fun b (hb : kv.ownBlock = some b) => (World.ownsRow.lt hkd b hb).2
    have fr1 : ∀ b, sv.ownBlock = some b → nv'.ownBlock ≠ some b := fun b hb e => by
      rcases hn b e with h1 | h1
      · exact hd1 b hb (hG b h1)
      · have := s1 b hb; omega
    have fr2 : ∀ b, kv.ownBlock = some b → nv'.ownBlock ≠ some b := fun b hb e => by
      rcases hn b e with h1 | h1
      · exact hd2 b hb (hG b h1)
      · have := s2 b hb; omega
    refine List.nodup_append.2 ⟨List.nodup_append.2 ⟨by cases nv'.ownBlock <;> simp, hN.2.1, fun a ha b hb e => fresh a (by simpa using ha) (by rw [e]; exact hb)⟩, List.nodup_append.2 ⟨by cases sv.ownBlock <;> simp, by cases kv.ownBlock <;> simp, fun a ha b hb e => hd3 a (by simpa using ha) (by rw [e]; simpa using hb)⟩, fun a ha b hb e => ?_⟩
    subst e
    rcases List.mem_append.1 hb with hb | hb
    · rcases List.mem_append.1 ha with ha | ha
      · exact fr1 a (by simpa using hb) (by simpa using ha)
      · exact hd1 a (by simpa using hb) (List.mem_append.2 (.inr ha))
    · rcases List.mem_append.1 ha with ha | ha
      · exact fr2 a (by simpa using hb) (by simpa using ha)
      · exact hd2 a (by simpa using hb) (List.mem_append.2 (.inr ha))
end

end Go.Proofs.YtdkjfppjbkdelaaGreatDoor
