/- Marks in a pattern: plain mathematics of what laws.markRx writes, and which blocks of owned nodes differ. No program in it. -/
import Derived.Test.YtdkjfppjbkdelaaGreatDoorRxOwn
namespace Go.Proofs.YtdkjfppjbkdelaaGreatDoor
set_option linter.unusedVariables false
open Go.RowKit

/-- So many numbers from k on. -/
def up (k : Int) : Nat → List Int
  | 0 => []
  | n + 1 => k :: up (k + 1) n
theorem up_length (k : Int) : ∀ n, (up k n).length = n
  | 0 => rfl
  | n + 1 => by rw [up, List.length_cons, up_length (k + 1) n]
theorem up_get : ∀ (n : Nat) (k : Int) (j : Nat) (h : j < n), (up k n)[j]'(by rw [up_length]; exact h) = k + j
  | 0, k, j, h => by omega
  | n + 1, k, 0, h => by simp [up]
  | n + 1, k, j + 1, h => by
    have := up_get n (k + 1) j (by omega)
    simp only [up, List.getElem_cons_succ]
    rw [this]
    push_cast
    omega
/-- Half marked. -/
def halfUp (k : Int) (zs : List Int) (j : Nat) : List Int := up k j ++ zs.drop j
theorem halfUp_length {k : Int} {zs : List Int} {j : Nat} (h : j ≤ zs.length) : (halfUp k zs j).length = zs.length := by simp [halfUp, up_length]; omega
theorem up_snoc (k : Int) : ∀ n, up k (n + 1) = up k n ++ [k + n]
  | 0 => by simp [up]
  | n + 1 => by
    rw [up, up_snoc (k + 1) n, up]
    simp
    omega
theorem drop_set0 {α : Type} {l : List α} {j : Nat} (h : j < l.length) (v : α) : (l.drop j).set 0 v = v :: l.drop (j + 1) := by rw [List.drop_eq_getElem_cons h]; rfl
theorem halfUp_step {k : Int} {zs : List Int} {j : Nat} (h : j < zs.length) : ((halfUp k zs j).map (Value.int .i64)).set j (.int .i64 (k + j)) = (halfUp k zs (j + 1)).map (Value.int .i64) := by
  unfold halfUp
  rw [up_snoc, List.map_append, List.set_append_right _ _ (by simp [up_length]), List.length_map, up_length, Nat.sub_self, List.map_drop, drop_set0 (by simpa using h)]
  simp

def markNd (n : Nd) (k : Int) : Nd := ⟨k, k + 1, k + 2, (k + 3) % 3 == 0, up (k + 4) n.set.length, up (k + 4 + n.set.length) n.kids.length⟩
def nextK (n : Nd) (k : Int) : Int := k + 4 + n.set.length + n.kids.length
def markNs : List Nd → Int → List Nd
  | [], _ => []
  | n :: r, k => markNd n k :: markNs r (nextK n k)
def endK : List Nd → Int → Int
  | [], k => k
  | n :: r, k => endK r (nextK n k)
theorem markNs_length : ∀ (ns : List Nd) (k : Int), (markNs ns k).length = ns.length
  | [], k => rfl
  | n :: r, k => by simp [markNs, markNs_length r]
theorem markNs_append : ∀ (a b : List Nd) (k : Int), markNs (a ++ b) k = markNs a k ++ markNs b (endK a k)
  | [], b, k => rfl
  | n :: r, b, k => by simp [markNs, endK, markNs_append r b]
theorem endK_append : ∀ (a b : List Nd) (k : Int), endK (a ++ b) k = endK b (endK a k)
  | [], b, k => rfl
  | n :: r, b, k => by simp [endK, endK_append r b]
theorem endK_bulk : ∀ (ns : List Nd) (k : Int), endK ns k = k + 4 * ns.length + bulks ns
  | [], k => by simp [endK, bulks]
  | n :: r, k => by
    rw [endK, endK_bulk r]
    simp only [nextK, bulks, bulkOf, List.map_cons, List.sum_cons, List.length_cons]
    push_cast
    omega
/-- The nodes with the first j marked. -/
def halfNs (ns : List Nd) (k : Int) (j : Nat) : List Nd := markNs (ns.take j) k ++ ns.drop j
theorem halfNs_length {ns : List Nd} {k : Int} {j : Nat} (h : j ≤ ns.length) : (halfNs ns k j).length = ns.length := by simp [halfNs, markNs_length]; omega
theorem halfNs_get {ns : List Nd} {k : Int} {j : Nat} (h : j < ns.length) : (halfNs ns k j)[j]'(by rw [halfNs_length (by omega)]; exact h) = ns[j] := by
  have e : (markNs (ns.take j) k).length = j := by rw [markNs_length]; simp; omega
  unfold halfNs
  rw [List.getElem_append_right (by omega)]
  simp [e]
theorem halfNs_step {ns : List Nd} {k : Int} {j : Nat} (h : j < ns.length) : (halfNs ns k j).set j (markNd ns[j] (endK (ns.take j) k)) = halfNs ns k (j + 1) := by
  have e : (markNs (ns.take j) k).length = j := by rw [markNs_length]; simp; omega
  unfold halfNs
  rw [take_succ_get h, markNs_append, List.set_append_right _ _ (by omega), e, Nat.sub_self, drop_set0 h]
  simp [markNs]
theorem endK_step {ns : List Nd} {k : Int} {j : Nat} (h : j < ns.length) : endK (ns.take (j + 1)) k = nextK ns[j] (endK (ns.take j) k) := by
  rw [take_succ_get h, endK_append]; rfl

/-! ### Cells of one node replaced -/
theorem cells6_set : ∀ (ns : List Nd) (xs : List (Value × Value)) (j : Nat) (nd : Nd), xs.length = ns.length → (hj : j < ns.length) →
    cells6 (ns.set j nd) xs = ((((cells6 ns xs).set (j * 6) (.int .i64 nd.kind)).set (j * 6 + 1) (.int .i64 nd.lo)).set (j * 6 + 2) (.int .i64 nd.hi)).set (j * 6 + 3) (.bool nd.neg)
  | [], xs, j, nd, hl, hj => by simp at hj
  | n :: ns, [], j, nd, hl, hj => by simp at hl
  | n :: ns, x :: xs, 0, nd, hl, hj => by simp [cells6, six]
  | n :: ns, x :: xs, j + 1, nd, hl, hj => by
    have ih := cells6_set ns xs j nd (by simpa using hl) (by simpa using hj)
    simp only [List.set_cons_succ, cells6, ih]
    have e : (six n x).length = 6 := rfl
    rw [List.set_append_right _ _ (by omega), List.set_append_right _ _ (by omega), List.set_append_right _ _ (by omega), List.set_append_right _ _ (by omega)]
    simp only [e]
    rw [show (j + 1) * 6 - 6 = j * 6 by omega, show (j + 1) * 6 + 1 - 6 = j * 6 + 1 by omega, show (j + 1) * 6 + 2 - 6 = j * 6 + 2 by omega, show (j + 1) * 6 + 3 - 6 = j * 6 + 3 by omega]

/-! ### Blocks that differ -/
theorem flat_nodup {α : Type} {f : α → List Nat} : ∀ {l : List α}, (l.flatMap f).Nodup → ∀ i j (hi : i < l.length) (hj : j < l.length), i ≠ j → ∀ b, b ∈ f l[i] → b ∉ f l[j]
  | [], h, i, j, hi, hj, hne, b, hb => by simp at hi
  | x :: l, h, i, j, hi, hj, hne, b, hb => by
    rw [List.flatMap_cons, List.nodup_append] at h
    cases i with
    | zero =>
      cases j with
      | zero => exact absurd rfl hne
      | succ j => exact fun hm => h.2.2 b (by simpa using hb) b (List.mem_flatMap.2 ⟨_, List.getElem_mem _, by simpa using hm⟩) rfl
    | succ i =>
      cases j with
      | zero => exact fun hm => h.2.2 b (by simpa using hm) b (List.mem_flatMap.2 ⟨_, List.getElem_mem _, by simpa using hb⟩) rfl
      | succ j =>
        have := flat_nodup h.2.1 i j (by simpa using hi) (by simpa using hj) (by omega) b (by simpa using hb)
        simpa using this
theorem flat_self {α : Type} {f : α → List Nat} : ∀ {l : List α}, (l.flatMap f).Nodup → ∀ i (hi : i < l.length), (f l[i]).Nodup
  | [], h, i, hi => by simp at hi
  | x :: l, h, 0, hi => by rw [List.flatMap_cons, List.nodup_append] at h; simpa using h.1
  | x :: l, h, i + 1, hi => by
    rw [List.flatMap_cons, List.nodup_append] at h
    have := flat_self h.2.1 i (by simpa using hi)
    simpa using this
section
variable {w : World} {B : Nat} {nv : Value} {ns : List Nd} {xs : List (Value × Value)}
theorem Own6.apart (h : Own6 w B nv ns xs) {i j : Nat} (hi : i < xs.length) (hj : j < xs.length) (hne : i ≠ j) {b : Nat} (hb : xs[i].1.ownBlock = some b ∨ xs[i].2.ownBlock = some b) : xs[j].1.ownBlock ≠ some b ∧ xs[j].2.ownBlock ≠ some b := by
  have hn := (List.nodup_append.1 h.nodup).2.1
  have := flat_nodup hn i j hi hj hne b (by simp only [List.mem_append, Option.mem_toList]; exact hb)
  simp only [List.mem_append, Option.mem_toList, not_or] at this
  exact this
theorem Own6.two (h : Own6 w B nv ns xs) {i : Nat} (hi : i < xs.length) {b : Nat} (hb : xs[i].1.ownBlock = some b) : xs[i].2.ownBlock ≠ some b := by
  have hn := flat_self (List.nodup_append.1 h.nodup).2.1 i hi
  rw [List.nodup_append] at hn
  exact fun e => hn.2.2 b (by simpa using hb) b (by simpa using e) rfl
theorem Own6.head (h : Own6 w B nv ns xs) {i : Nat} (hi : i < xs.length) {b : Nat} (hb : xs[i].1.ownBlock = some b ∨ xs[i].2.ownBlock = some b) : nv.ownBlock ≠ some b := fun e =>
  (List.nodup_append.1 h.nodup).2.2 b (by simpa using e) b (subs_mem.2 ⟨_, List.getElem_mem hi, hb⟩) rfl
end

end Go.Proofs.YtdkjfppjbkdelaaGreatDoor

/- laws.markRx writes numbers into a pattern that is owned, laws.heldRx tells whether they stand there. Conditions: at most 1048576 elements. -/
namespace Go.Proofs.YtdkjfppjbkdelaaGreatDoor
set_option linter.unusedVariables false
open Go.RowKit

set_option maxHeartbeats 1000000 in
set_option maxRecDepth 100000 in
theorem markI_any (k : Int) (B : Nat) (v : Value) (zs : List Int) (w : World) (hlen : zs.length ≤ 1048576) (hk0 : 0 ≤ k) (hk1 : k ≤ 100000000) (h : RowI w B v zs) :
    Calls Tryz.prog 137 #[v, .int .i64 k] w fun e w' => e = .returned (.int .i64 (k + zs.length)) ∧ RowI w' B v (up k zs.length) ∧ Keep v.ownBlock.toList w w' := by
  obtain ⟨A, c, rfl⟩ := own_form h
  have HR := Lib.hid h
  clear h
  go_enter Tryz.func137, Tryz.ntmps137
  go_wp2
  go_loopw [1, 5] (fun n i wr => ∃ j : Nat, j ≤ zs.length ∧ i = .int .i64 j ∧ n = .int .i64 (k + j) ∧ wr.ownsRow B 3 1 (.slice A zs.length c) zs.length ((halfUp k zs j).map (Value.int .i64)) ∧ Keep (Value.ownBlock (.slice A zs.length c)).toList w wr) (fun _ i _ => zs.length - (intOf i).toNat)
  case atStart => exact ⟨0, Nat.zero_le _, rfl, by simp, (by have := HR.out; unfold RowI at this; simpa [halfUp, up] using this), Keep.refl _ _⟩
  case round =>
    obtain ⟨j, hj, rfl, rfl, hown, hk⟩ := hrel
    clear HR
    by_cases hlt : j < zs.length
    · obtain ⟨g, rfl⟩ : ∃ g, A = some ⟨g, 0, none⟩ := by
        rcases hown.2 with ⟨_, h0⟩ | ⟨g, cap, cur, hv, _⟩
        · omega
        · injection hv with hA; exact ⟨g, hA⟩
      obtain ⟨u, hu⟩ : ∃ u, wr.cell? ⟨g, j, none⟩ = some (.int .i64 u) := by
        refine ⟨(halfUp k zs j)[j]'(by rw [halfUp_length hj]; exact hlt), ?_⟩
        rw [hown.cellAt j (by omega)]
        simp [halfUp_length hj, hlt]
      have hfo : wr.frozen? ⟨g, j, none⟩ = false := hown.frozenAt j
      have hst := (hown.stored j (.int .i64 (k + j))).1
      rw [halfUp_step hlt] at hst
      have HS := Lib.hid hst
      have HK := Lib.hid (hk.setCell (p := g) (j := j) (.inl (by simp [Value.ownBlock])) (.int .i64 (k + j)))
      clear hst hk hown
      go_wp2
      go_roundw
      case rel => exact ⟨j + 1, hlt, by go_num, by go_num, HS.out, HK.out⟩
      case measure => simp [intOf]; omega
    · obtain rfl : j = zs.length := by omega
      have e : halfUp k zs zs.length = up k zs.length := by simp [halfUp]
      rw [e] at hown
      have HO := Lib.hid hown
      have HK := Lib.hid hk
      clear hown hk e
      go_wp2
      go_ret
      exact ⟨rfl, by unfold RowI; rw [up_length]; exact HO.out, HK.out⟩

set_option maxHeartbeats 1000000 in
set_option maxRecDepth 100000 in
theorem heldI_any (k : Int) (A : Option Addr) (c n : Nat) (w : World) (hlen : n ≤ 1048576) (hk0 : 0 ≤ k) (hk1 : k ≤ 100000000) (hN : Nums .i64 w w.heap.size A (up k n)) :
    Calls Tryz.prog 138 #[.slice A n c, .int .i64 k] w fun e w' => e = .returned (.int .i64 (k + n)) ∧ w = w' := by
  go_enter Tryz.func138, Tryz.ntmps138
  go_wp2
  go_loop [1, 5] (fun v i => ∃ j : Nat, j ≤ n ∧ i = .int .i64 j ∧ v = .int .i64 (k + j)) (fun _ i => n - (intOf i).toNat)
  case atStart => exact ⟨0, Nat.zero_le _, rfl, by simp⟩
  case round =>
    obtain ⟨j, hj, rfl, rfl⟩ := hrel
    by_cases hlt : j < n
    · obtain ⟨b, o, rfl, hb, hc⟩ := hN j (by rw [up_length]; exact hlt)
      rw [up_get n k j hlt] at hc
      clear hN
      go_wp2
      go_round
      case rel => exact ⟨j + 1, hlt, by go_num, by go_num⟩
      case measure => simp [intOf]; omega
    · clear hN
      obtain rfl : j = n := by omega
      go_wp2
      go_ret
      exact ⟨rfl, rfl⟩

/-- A node of owned nodes is replaced, by writing its first four cells and its two rows. -/
theorem Own6.upd {w w1 w2 w3 : World} {B g cap : Nat} {ns : List Nd} {xs : List (Value × Value)} {j : Nat} {nd : Nd} (h : Own6 w B (.slice (some ⟨g, 0, none⟩) ns.length cap) ns xs) (hj : j < ns.length) (hx : j < xs.length)
    (hw : w1 = (((w.setCell ⟨g, j * 6, none⟩ (.int .i64 nd.kind)).setCell ⟨g, j * 6 + 1, none⟩ (.int .i64 nd.lo)).setCell ⟨g, j * 6 + 2, none⟩ (.int .i64 nd.hi)).setCell ⟨g, j * 6 + 3, none⟩ (.bool nd.neg))
    (k2 : Keep xs[j].1.ownBlock.toList w1 w2) (r2 : RowI w2 B xs[j].1 nd.set) (k3 : Keep xs[j].2.ownBlock.toList w2 w3) (r3 : RowI w3 B xs[j].2 nd.kids) :
    Own6 w3 B (.slice (some ⟨g, 0, none⟩) ns.length cap) (ns.set j nd) xs ∧ Keep (foot (.slice (some ⟨g, 0, none⟩) ns.length cap) xs) w w3 := by
  have q0 := (h.row.stored (j * 6) (.int .i64 nd.kind)).1
  have q1 := (q0.stored (j * 6 + 1) (.int .i64 nd.lo)).1
  have q2 := (q1.stored (j * 6 + 2) (.int .i64 nd.hi)).1
  have q3 := (q2.stored (j * 6 + 3) (.bool nd.neg)).1
  rw [← hw, ← cells6_set ns xs j nd h.len hj] at q3
  have k1 : Keep [g] w w1 := by
    rw [hw]
    exact ((((Keep.refl [g] w).setCell (.inl (by simp)) _).setCell (.inl (by simp)) _).setCell (.inl (by simp)) _).setCell (.inl (by simp)) _
  have hg : ∀ b, xs[j].1.ownBlock = some b ∨ xs[j].2.ownBlock = some b → b ≠ g := fun b hb e => h.head hx hb (by simp [Value.ownBlock, e])
  refine ⟨⟨by simp [h.len], ?_, fun i hi => ?_, h.nodup⟩, ?_⟩
  · have := k3.row (k2.row q3 fun b hb hm => by simp [Value.ownBlock] at hb hm; exact hg b (.inl hm) hb.symm) fun b hb hm => by simp [Value.ownBlock] at hb hm; exact hg b (.inr hm) hb.symm
    simpa using this
  · have hi' : i < ns.length := by simpa using hi
    have hix : i < xs.length := by rw [h.len]; exact hi'
    by_cases hij : i = j
    · subst hij
      have e : (ns.set i nd)[i] = nd := by simp
      rw [e]
      exact ⟨k3.row r2 fun b hb hm => h.two hx hb (by simpa using hm), r3⟩
    · have e : (ns.set j nd)[i] = ns[i] := by rw [List.getElem_set_ne (by omega)]
      rw [e]
      have hs := h.sub i hi'
      have n1 : ∀ b, xs[i].1.ownBlock = some b ∨ xs[i].2.ownBlock = some b → b ∉ [g] ∧ b ∉ xs[j].1.ownBlock.toList ∧ b ∉ xs[j].2.ownBlock.toList := fun b hb => by
        have a := h.apart hix hx hij hb
        refine ⟨fun hm => ?_, fun hm => a.1 (by simpa using hm), fun hm => a.2 (by simpa using hm)⟩
        simp at hm
        exact h.head hix hb (by simp [Value.ownBlock, hm])
      exact ⟨k3.row (k2.row (k1.row hs.1 fun b hb => (n1 b (.inl hb)).1) fun b hb => (n1 b (.inl hb)).2.1) fun b hb => (n1 b (.inl hb)).2.2,
        k3.row (k2.row (k1.row hs.2 fun b hb => (n1 b (.inr hb)).1) fun b hb => (n1 b (.inr hb)).2.1) fun b hb => (n1 b (.inr hb)).2.2⟩
  · have m1 : ∀ b ∈ [g], b ∈ foot (.slice (some ⟨g, 0, none⟩) ns.length cap) xs := fun b hb => foot_mem.2 (.inl (by simp at hb; simp [Value.ownBlock, hb]))
    have m2 : ∀ b ∈ xs[j].1.ownBlock.toList, b ∈ foot (.slice (some ⟨g, 0, none⟩) ns.length cap) xs := fun b hb => foot_mem.2 (.inr ⟨_, List.getElem_mem hx, .inl (by simpa using hb)⟩)
    have m3 : ∀ b ∈ xs[j].2.ownBlock.toList, b ∈ foot (.slice (some ⟨g, 0, none⟩) ns.length cap) xs := fun b hb => foot_mem.2 (.inr ⟨_, List.getElem_mem hx, .inr (by simpa using hb)⟩)
    exact ((k1.mono m1).tr (k2.mono m2)).tr (k3.mono m3)

end Go.Proofs.YtdkjfppjbkdelaaGreatDoor

/- laws.markRx writes numbers into a pattern that is owned. Conditions: at most 1048576 elements. -/
namespace Go.Proofs.YtdkjfppjbkdelaaGreatDoor
set_option linter.unusedVariables false
open Go.RowKit

theorem Own6.cells {w : World} {B g cap : Nat} {ns : List Nd} {xs : List (Value × Value)} (h : Own6 w B (.slice (some ⟨g, 0, none⟩) ns.length cap) ns xs) {j : Nat} (hj : j < ns.length) (hx : j < xs.length) :
    w.cell? ⟨g, j * 6, none⟩ = some (.int .i64 ns[j].kind) ∧ w.cell? ⟨g, j * 6 + 1, none⟩ = some (.int .i64 ns[j].lo) ∧ w.cell? ⟨g, j * 6 + 2, none⟩ = some (.int .i64 ns[j].hi) ∧ w.cell? ⟨g, j * 6 + 3, none⟩ = some (.bool ns[j].neg) ∧ w.cell? ⟨g, j * 6 + 4, none⟩ = some xs[j].1 ∧ w.cell? ⟨g, j * 6 + 5, none⟩ = some xs[j].2 := by
  have hc : ∀ i, i < 6 → w.cell? ⟨g, j * 6 + i, none⟩ = (six ns[j] xs[j])[i]? := fun i hi => by
    have hl := cells6_length ns xs h.len
    rw [← cells6_get ns xs h.len j i hj hi]
    have hlt : j * 6 + i < (cells6 ns xs).length := by rw [hl]; omega
    have := h.row.cells (g := g) rfl (j * 6 + i) _ (List.getElem?_eq_getElem hlt)
    rw [Addr.add_lit, Nat.zero_add] at this
    rw [this, List.getElem?_eq_getElem hlt]
  exact ⟨hc 0 (by omega), hc 1 (by omega), hc 2 (by omega), hc 3 (by omega), hc 4 (by omega), hc 5 (by omega)⟩

theorem set_off {w : World} {g a b : Nat} {v : Value} (h : a ≠ b) : (w.setCell ⟨g, a, none⟩ v).cell? ⟨g, b, none⟩ = w.cell? ⟨g, b, none⟩ :=
  World.cell?_setCell_other w v (a := ⟨g, a, none⟩) (b := ⟨g, b, none⟩) (fun e => h (congrArg Addr.off e))

def MarkRel (ns : List Nd) (k0 : Int) (B : Nat) (nv : Value) (xs : List (Value × Value)) (w : World) (kv i : Value) (wr : World) : Prop :=
  ∃ j : Nat, j ≤ ns.length ∧ i = .int .i64 j ∧ kv = .int .i64 (endK (ns.take j) k0) ∧ Own6 wr B nv (halfNs ns k0 j) xs ∧ Keep (foot nv xs) w wr

set_option maxHeartbeats 4000000 in
set_option maxRecDepth 100000 in
theorem markNodes_any (B : Nat) (nv : Value) (ns : List Nd) (xs : List (Value × Value)) (w : World) (hlen : ns.length + bulks ns ≤ 1048576) (h : Own6 w B nv ns xs) :
    Calls Tryz.prog 96 #[nv, .int .i64 1] w fun e w' => e = .returned (.int .i64 (endK ns 1)) ∧ Own6 w' B nv (markNs ns 1) xs ∧ Keep (foot nv xs) w w' := by
  obtain ⟨A, c, rfl⟩ := own_form h.row
  have HO := Lib.hid h
  have hxl := h.len
  clear h
  go_enter Tryz.func96, Tryz.ntmps96
  go_wp2
  go_loopw [1, 5] (MarkRel ns 1 B (.slice A ns.length c) xs w) (fun _ i _ => ns.length - (intOf i).toNat)
  case atStart => exact ⟨0, Nat.zero_le _, rfl, rfl, (by simpa [halfNs, markNs] using HO.out), Keep.refl _ _⟩
  case round =>
    obtain ⟨j, hj, rfl, rfl, hO, hk⟩ := hrel
    clear HO
    by_cases hlt : j < ns.length
    · obtain ⟨g, rfl⟩ : ∃ g, A = some ⟨g, 0, none⟩ := by
        rcases hO.row.2 with ⟨_, h0⟩ | ⟨g, cap, cur, hv, _⟩
        · rw [halfNs_length hj] at h0; omega
        · injection hv with hA; exact ⟨g, hA⟩
      have hx : j < xs.length := by omega
      have hl := halfNs_length (k := 1) hj
      have hO' : Own6 wr B (.slice (some ⟨g, 0, none⟩) (halfNs ns 1 j).length c) (halfNs ns 1 j) xs := by rw [hl]; exact hO
      obtain ⟨c0, c1, c2, c3, c4, c5⟩ := hO'.cells (by omega) hx
      have hget := halfNs_get (k := 1) hlt
      have hsub : RowI wr B (xs[j]'hx).1 ns[j].set ∧ RowI wr B (xs[j]'hx).2 ns[j].kids := by have := hO'.sub j (by omega); rw [hget] at this; exact this
      rw [hget] at c0 c1 c2 c3
      have hf : ∀ q, wr.frozen? ⟨g, q, none⟩ = false := fun q => hO'.row.frozenAt q
      obtain ⟨sa, sc, es⟩ := own_form hsub.1
      obtain ⟨ka, kc, ek⟩ := own_form hsub.2
      rw [es] at c4
      rw [ek] at c5
      have hbk : bulkOf ns[j] ≤ bulks ns := by have h1 := bulks_take hlt; have h2 := bulks_le ns (j + 1); omega
      have hkb := endK_bulk (ns.take j) 1
      have hb2 := bulks_le ns j
      have hstep := endK_step (k := 1) hlt
      have hhalf := halfNs_step (k := 1) hlt
      obtain ⟨k, hkk⟩ : ∃ k, endK (ns.take j) 1 = k := ⟨_, rfl⟩
      rw [hkk] at hkb hstep hhalf ⊢
      have k0 : 0 ≤ k := by omega
      have k1 : k ≤ 10000000 := by rw [List.length_take] at hkb; omega
      obtain ⟨nd, hnd⟩ : ∃ nd, ns[j] = nd := ⟨_, rfl⟩
      rw [hnd] at c0 c1 c2 c3 c4 c5 hsub hbk hstep hhalf es ek
      unfold bulkOf at hbk
      have HO := Lib.hid hO'
      have HSub := Lib.hid hsub
      have HK := Lib.hid hk
      have HST := Lib.hid hstep
      have HHF := Lib.hid hhalf
      have HES := Lib.hid es
      have HEK := Lib.hid ek
      clear hO hO' hsub hk hstep hhalf es ek hkb hb2 hkk hget hnd
      have HE2 := Lib.hid (show k + 1 + 1 = k + 2 by omega)
      have HE3 := Lib.hid (show k + 1 + 1 + 1 = k + 3 by omega)
      have HE4 := Lib.hid (show k + 1 + 1 + 1 + 1 = k + 4 by omega)
      have C5 := Lib.hid c5
      have HL := Lib.hid hl
      clear c5 hl
      go_wp2_with fail
      obtain ⟨w1, hw1⟩ : ∃ w1, w1 = (((wr.setCell ⟨g, j * 6, none⟩ (.int .i64 k)).setCell ⟨g, j * 6 + 1, none⟩ (.int .i64 (k + 1))).setCell ⟨g, j * 6 + 2, none⟩ (.int .i64 (k + 1 + 1))).setCell ⟨g, j * 6 + 3, none⟩ (.bool ((k + 1 + 1 + 1) % 3 == 0)) := ⟨_, rfl⟩
      rw [← hw1]
      have hg : ∀ b, (xs[j]'hx).1.ownBlock = some b ∨ (xs[j]'hx).2.ownBlock = some b → b ≠ g := fun b hb e => HO.out.head hx hb (by simp [Value.ownBlock, e])
      have k1' : Keep [g] wr w1 := by
        rw [hw1]
        exact ((((Keep.refl [g] wr).setCell (.inl (by simp)) _).setCell (.inl (by simp)) _).setCell (.inl (by simp)) _).setCell (.inl (by simp)) _
      have r1 := k1'.row HSub.out.1 fun b hb hm => hg b (.inl hb) (by simpa using hm)
      have r1k := k1'.row HSub.out.2 fun b hb hm => hg b (.inr hb) (by simpa using hm)
      have d5 : w1.cell? ⟨g, j * 6 + 5, none⟩ = some (.slice ka nd.kids.length kc) := by
        rw [hw1, set_off (by omega), set_off (by omega), set_off (by omega), set_off (by omega)]
        exact C5.out
      refine (markI_any (k + 1 + 1 + 1 + 1) B (.slice sa nd.set.length sc) nd.set w1 (by omega) (by omega) (by omega) (by rw [← HES.out]; exact r1)).mono ?_
      rintro e w2 ⟨rfl, r2, k2⟩
      have hgs : g < w1.heap.size := World.block_lt_of_cell? w1 _ d5
      have e5 : w2.cell? ⟨g, j * 6 + 5, none⟩ = some (.slice ka nd.kids.length kc) := (World.cell?_of_block (k2.block g hgs fun hm => hg g (.inl (by rw [HES.out]; simpa using hm)) rfl)).trans d5
      have r2k := k2.row r1k fun b hb hm => HO.out.two hx (b := b) (by rw [HES.out]; simpa using hm) hb
      have W1 := Lib.hid hw1
      have K2 := Lib.hid k2
      have R2 := Lib.hid r2
      have R2K := Lib.hid r2k
      have HG := Lib.hid hg
      clear hw1 k2 r2 r2k hg r1 r1k k1' d5 hgs c0 c1 c2 c3 c4 hf
      go_wp2_with fail
      refine (markI_any (k + 1 + 1 + 1 + 1 + nd.set.length) B (.slice ka nd.kids.length kc) nd.kids w2 (by omega) (by omega) (by omega) (by rw [← HEK.out]; exact R2K.out)).mono ?_
      rintro e w3 ⟨rfl, r3, k3⟩
      have hu := HO.out.upd (j := j) (nd := markNd nd k) (w1 := w1) (w2 := w2) (w3 := w3) (by rw [HL.out]; exact hlt) hx (by rw [W1.out, HE2.out, show k + 2 + 1 = k + 3 by omega]; rfl)
        (by rw [HES.out]; exact K2.out) (by rw [HES.out]; have := R2.out; rw [HE4.out] at this; exact this) (by rw [HEK.out]; exact k3) (by rw [HEK.out]; rw [HE4.out] at r3; exact r3)
      rw [HHF.out, HL.out] at hu
      have HU := Lib.hid hu
      clear hu r3 k3
      go_wp2
      go_roundw
      case rel => exact ⟨j + 1, hlt, by go_num, by rw [HST.out, nextK, ← HE4.out], HU.out.1, HK.out.tr HU.out.2⟩
      case measure => simp [intOf]; omega
    · obtain rfl : j = ns.length := by omega
      have e : halfNs ns 1 ns.length = markNs ns 1 := by simp [halfNs]
      rw [e] at hO
      rw [List.take_length]
      have HO := Lib.hid hO
      have HK := Lib.hid hk
      clear hO hk e
      go_wp2
      go_ret
      exact ⟨rfl, HO.out, HK.out⟩

end Go.Proofs.YtdkjfppjbkdelaaGreatDoor

/- laws.heldRx tells that the marks stand in a pattern; laws.markRx and laws.heldRx whole. Conditions: at most 1048576 elements. -/
namespace Go.Proofs.YtdkjfppjbkdelaaGreatDoor
set_option linter.unusedVariables false
open Go.RowKit

theorem markNs_get : ∀ (ns : List Nd) (k : Int) (j : Nat) (h : j < ns.length), (markNs ns k)[j]'(by rw [markNs_length]; exact h) = markNd ns[j] (endK (ns.take j) k)
  | [], k, j, h => absurd h (by simp)
  | n :: r, k, 0, h => by simp [markNs, endK]
  | n :: r, k, j + 1, h => by
    have := markNs_get r (nextK n k) j (by simpa using h)
    simpa [markNs, endK] using this

set_option maxHeartbeats 1000000 in
theorem markRx_any (B : Nat) (nv : Value) (ns : List Nd) (xs : List (Value × Value)) (w : World) (hlen : ns.length + bulks ns ≤ 1048576) (h : Own6 w B nv ns xs) :
    Calls Tryz.prog 47 #[.agg #[nv], .int .i64 1] w fun e w' => e = .returned (.int .i64 (endK ns 1)) ∧ Own6 w' B nv (markNs ns 1) xs ∧ Keep (foot nv xs) w w' := by
  have hr := h.range
  have HO : ∀ a, Hid (Own6 (w.alloc a) B nv ns xs) := fun a => h.keep ((Keep.refl [] w).alloc a) (by simp)
  have HK : ∀ a, Keep (foot nv xs) w (w.alloc a) := fun a => (Keep.refl _ w).alloc a
  clear h
  go_enter Tryz.func47, Tryz.ntmps47
  go_wp2_with fail
  refine (markNodes_any B nv ns xs _ hlen (HO _).out).mono ?_
  rintro e w1 ⟨rfl, o1, k1⟩
  have O1 := Lib.hid o1
  have K1 := Lib.hid ((HK _).tr k1)
  clear o1 k1 HO HK
  go_wp2
  go_ret
  exact ⟨rfl, O1.out, K1.out⟩

end Go.Proofs.YtdkjfppjbkdelaaGreatDoor
