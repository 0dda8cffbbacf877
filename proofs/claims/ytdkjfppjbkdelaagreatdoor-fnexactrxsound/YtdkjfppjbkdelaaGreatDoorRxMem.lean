/- A pattern's nodes in memory: six cells a node, two of them rows of ints; the law's own helpers over them. Conditions: at most 1048576 elements in all. -/
import Derived.Test.YtdkjfppjbkdelaaGreatDoorRows
import Derived.Test.YtdkjfppjbkdelaaGreatDoorMem
import Derived.Test.YtdkjfppjbkdelaaGreatDoorRxMathA
import Derived.Test.YtdkjfppjbkdelaaGreatDoorInts
import Derived.Deep.QuietTactic
import Derived.Deep.RegionWith
import Derived.BigQuiet
import Derived.Lib.Hide
import Derived.IntWalk
namespace Go.Proofs.YtdkjfppjbkdelaaGreatDoor
set_option linter.unusedVariables false
open Go.RowKit

/-- A node as a value. -/
def ndv (nd : Nd) (sa : Option Addr) (sc : Nat) (ka : Option Addr) (kc : Nat) : Value :=
  .agg #[.int .i64 nd.kind, .int .i64 nd.lo, .int .i64 nd.hi, .bool nd.neg, .slice sa nd.set.length sc, .slice ka nd.kids.length kc]

/-- Six cells from an offset on are those of a node. -/
structure SixAt (w : World) (b o : Nat) (nd : Nd) (sa : Option Addr) (sc : Nat) (ka : Option Addr) (kc : Nat) : Prop where
  c0 : w.cell? ⟨b, o, none⟩ = some (.int .i64 nd.kind)
  c1 : w.cell? ⟨b, o + 1, none⟩ = some (.int .i64 nd.lo)
  c2 : w.cell? ⟨b, o + 2, none⟩ = some (.int .i64 nd.hi)
  c3 : w.cell? ⟨b, o + 3, none⟩ = some (.bool nd.neg)
  c4 : w.cell? ⟨b, o + 4, none⟩ = some (.slice sa nd.set.length sc)
  c5 : w.cell? ⟨b, o + 5, none⟩ = some (.slice ka nd.kids.length kc)

/-- A slice of nodes at address A reads as ns, all of it below block B. -/
def Nodes (w : World) (B : Nat) (A : Option Addr) (ns : List Nd) : Prop :=
  ∀ j, (h : j < ns.length) → ∃ b o sa sc ka kc, A = some ⟨b, o, none⟩ ∧ b < B ∧ SixAt w b (o + j * 6) ns[j] sa sc ka kc ∧ Nums .i64 w B sa ns[j].set ∧ Nums .i64 w B ka ns[j].kids

theorem SixAt.move {w w' : World} {b o : Nat} {nd : Nd} {sa ka : Option Addr} {sc kc : Nat} (h : SixAt w b o nd sa sc ka kc) (hk : ∀ i, w'.cell? ⟨b, i, none⟩ = w.cell? ⟨b, i, none⟩) : SixAt w' b o nd sa sc ka kc :=
  ⟨(hk _).trans h.c0, (hk _).trans h.c1, (hk _).trans h.c2, (hk _).trans h.c3, (hk _).trans h.c4, (hk _).trans h.c5⟩

theorem Nodes.move {w w' : World} {B B' : Nat} {A : Option Addr} {ns : List Nd} (h : Nodes w B A ns) (hB : B ≤ B') (hk : ∀ p : Addr, p.block < B → w'.cell? p = w.cell? p) : Nodes w' B' A ns := fun j hj => by
  obtain ⟨b, o, sa, sc, ka, kc, e, hb, hs, hn, hm⟩ := h j hj
  exact ⟨b, o, sa, sc, ka, kc, e, by omega, hs.move fun i => hk ⟨b, i, none⟩ hb, hn.move hB hk, hm.move hB hk⟩
theorem Nodes.below {w w' : World} {B : Nat} {A : Option Addr} {ns : List Nd} (h : Nodes w B A ns) (hb : Below B w w') : Nodes w' B A ns := h.move (Nat.le_refl _) fun _ hp => hb.cell hp
theorem Nodes.up {w : World} {B B' : Nat} {A : Option Addr} {ns : List Nd} (h : Nodes w B A ns) (hB : B ≤ B') : Nodes w B' A ns := h.move hB fun _ _ => rfl
theorem Nodes.nil (w : World) (B : Nat) (A : Option Addr) : Nodes w B A [] := fun j hj => absurd hj (by simp)

/-- How much there is. -/
def bulk (ns : List Nd) : Nat := ns.length + (ns.map fun n => n.set.length + n.kids.length).sum
def bulkOf (n : Nd) : Nat := n.set.length + n.kids.length
def bulks (ns : List Nd) : Nat := (ns.map bulkOf).sum

/-- What is left. -/
def leftIs (need left : Nat) : Int := if need ≤ left then ((left - need : Nat) : Int) else -1

set_option maxHeartbeats 400000 in
theorem szInts_any (A : Option Addr) (n c : Nat) (left : Nat) (w : World) (hn : n ≤ maxLen) (hl : left ≤ 1048576) :
    Calls Tryz.prog 163 #[.slice A n c, .int .i64 left] w fun e w' => e = .returned (.int .i64 (leftIs n left)) ∧ w = w' := by
  unfold maxLen at hn
  unfold leftIs
  by_cases h : n ≤ left
  · rw [if_pos h]
    have hi : ¬ ((left : Int) - (n : Int)) < 0 := by omega
    have hj : (left : Int) - (n : Int) = ((left - n : Nat) : Int) := by omega
    go_enter Tryz.func163, Tryz.ntmps163
    go_wp2
    go_ret
    exact ⟨by rw [← hj]; rfl, rfl⟩
  · rw [if_neg h]
    have hi : ((left : Int) - (n : Int)) < 0 := by omega
    go_enter Tryz.func163, Tryz.ntmps163
    go_wp2
    go_ret
    exact ⟨rfl, rfl⟩

theorem leftIs_neg {need left : Nat} (h : ¬ need ≤ left) : leftIs need left = -1 := if_neg h
theorem leftIs_pos {need left : Nat} (h : need ≤ left) : leftIs need left = ((left - need : Nat) : Int) := if_pos h

set_option maxHeartbeats 1000000 in
theorem szNode_any (nd : Nd) (sa : Option Addr) (sc : Nat) (ka : Option Addr) (kc : Nat) (left : Nat) (w : World) (h1 : nd.set.length ≤ maxLen) (h2 : nd.kids.length ≤ maxLen) (hl : left ≤ 1048576) :
    Calls Tryz.prog 128 #[ndv nd sa sc ka kc, .int .i64 left] w fun e w' => e = .returned (.int .i64 (leftIs (bulkOf nd) left)) ∧ Below w.heap.size w w' := by
  unfold ndv bulkOf
  have cI : ∀ (A : Option Addr) (n c left : Nat) (W : World), n ≤ maxLen → left ≤ 1048576 → Calls Tryz.prog 163 #[.slice A n c, .int .i64 left] W fun e w' => e = .returned (.int .i64 (leftIs n left)) ∧ W = w' := szInts_any
  have B0 : Below w.heap.size w (w.alloc (.cells #[.int .i64 nd.kind, .int .i64 nd.lo, .int .i64 nd.hi, .bool nd.neg, .slice sa nd.set.length sc, .slice ka nd.kids.length kc] 169)) := (Below.refl _ _).alloc (Nat.le_refl _) _
  go_enter Tryz.func128, Tryz.ntmps128
  go_wp2_with fail
  refine (cI _ _ _ _ _ h1 hl).mono ?_
  rintro e w1 ⟨rfl, rfl⟩
  by_cases q1 : nd.set.length ≤ left
  · rw [leftIs_pos q1]
    have hi : ¬ ((left - nd.set.length : Nat) : Int) < 0 := by omega
    go_wp2_with fail
    refine (cI _ _ _ _ _ h2 (by omega)).mono ?_
    rintro e w2 ⟨rfl, rfl⟩
    clear cI
    by_cases q2 : nd.kids.length ≤ left - nd.set.length
    · rw [leftIs_pos q2]
      have hj : ¬ ((left - nd.set.length - nd.kids.length : Nat) : Int) < 0 := by omega
      go_wp2
      go_ret
      exact ⟨by rw [leftIs_pos (show nd.set.length + nd.kids.length ≤ left by omega), Nat.sub_sub]; rfl, B0⟩
    · rw [leftIs_neg q2]
      go_wp2
      go_ret
      exact ⟨by rw [leftIs_neg (show ¬ nd.set.length + nd.kids.length ≤ left by omega)]; rfl, B0⟩
  · rw [leftIs_neg q1]
    clear cI
    go_wp2
    go_ret
    exact ⟨by rw [leftIs_neg (show ¬ nd.set.length + nd.kids.length ≤ left by omega)]; rfl, B0⟩

def Fits (ns : List Nd) : Prop := ∀ n ∈ ns, n.set.length ≤ maxLen ∧ n.kids.length ≤ maxLen

theorem bulks_take {ns : List Nd} {k : Nat} (h : k < ns.length) : bulks (ns.take (k + 1)) = bulks (ns.take k) + bulkOf ns[k] := by
  unfold bulks
  rw [take_succ_get h, List.map_append, List.sum_append]
  simp only [List.map_cons, List.map_nil, List.sum_cons, List.sum_nil, Nat.add_zero]
theorem bulks_le (ns : List Nd) (k : Nat) : bulks (ns.take k) ≤ bulks ns := by
  have e : bulks (ns.take k ++ ns.drop k) = bulks (ns.take k) + bulks (ns.drop k) := by unfold bulks; rw [List.map_append, List.sum_append]
  rw [List.take_append_drop] at e
  omega
theorem leftIs_sub {a b left : Nat} (h : a ≤ left) : leftIs b (left - a) = leftIs (a + b) left := by
  unfold leftIs
  by_cases q : a + b ≤ left
  · rw [if_pos q, if_pos (by omega)]; omega
  · rw [if_neg q, if_neg (by omega)]

set_option maxHeartbeats 2000000 in
set_option maxRecDepth 100000 in
theorem szNodes_any (A : Option Addr) (c : Nat) (ns : List Nd) (left : Nat) (w : World) (hN : Nodes w w.heap.size A ns) (hF : Fits ns) (hn : ns.length ≤ maxLen) (hl : left ≤ 1048576) :
    Calls Tryz.prog 87 #[.slice A ns.length c, .int .i64 left] w fun e w' => e = .returned (.int .i64 (leftIs (ns.length + bulks ns) left)) ∧ Below w.heap.size w w' := by
  have hn' := hn
  unfold maxLen at hn'
  by_cases h : ns.length ≤ left
  · have hi : ¬ ((left : Int) - (ns.length : Int)) < 0 := by omega
    have hj : (left : Int) - (ns.length : Int) = ((left - ns.length : Nat) : Int) := by omega
    obtain ⟨L, hL⟩ : ∃ L, left - ns.length = L := ⟨_, rfl⟩
    rw [hL] at hj
    have hLl : L ≤ 1048576 := by omega
    have HL := Lib.hid hL
    clear hL
    go_enter Tryz.func87, Tryz.ntmps87
    go_wp2
    clear hi hj
    go_loopw [1, 5] (fun l i wr => ∃ k : Nat, k ≤ ns.length ∧ i = .int .i64 k ∧ bulks (ns.take k) ≤ L ∧ l = .int .i64 ((L - bulks (ns.take k) : Nat) : Int) ∧ Below w.heap.size w wr) (fun _ i _ => ns.length - (intOf i).toNat)
    case atStart => exact ⟨0, Nat.zero_le _, rfl, by simp [bulks], by simp [bulks], Below.refl _ _⟩
    case round =>
      obtain ⟨k, hk, rfl, hb, rfl, hbel⟩ := hrel
      by_cases hlt : k < ns.length
      · obtain ⟨b, o, sa, sc, ka, kc, rfl, hbb, hs, hn1, hn2⟩ := hN k hlt
        have hs' := hs.move (w' := wr) fun i => hbel.cell (p := ⟨b, i, none⟩) hbb
        have f := hF _ (List.getElem_mem hlt)
        obtain ⟨X, hX⟩ : ∃ X, bulks (ns.take k) = X := ⟨_, rfl⟩
        rw [hX] at hb
        have cN := szNode_any ns[k] sa sc ka kc (L - X) wr f.1 f.2 (by omega)
        have hT := bulks_take hlt
        rw [hX] at hT
        obtain ⟨nd, hnd⟩ : ∃ nd, ns[k] = nd := ⟨_, rfl⟩
        rw [hnd] at hs' cN hT
        obtain ⟨c0, c1, c2, c3, c4, c5⟩ := hs'
        unfold ndv at cN
        have HX := Lib.hid hX
        have HT := Lib.hid hT
        have HN := Lib.hid hnd
        clear hs hN hF f hX hT hnd hn1 hn2
        rw [HX.out]
        go_wp2_with fail
        refine cN.mono ?_
        rintro e w2 ⟨rfl, b2⟩
        have B2 : Below w.heap.size w w2 := hbel.trans (b2.mono hbel.size)
        clear cN b2
        by_cases q : bulkOf nd ≤ L - X
        · rw [leftIs_pos q]
          have hi : ¬ ((L - X - bulkOf nd : Nat) : Int) < 0 := by omega
          go_wp2
          go_roundw
          case rel => exact ⟨k + 1, hlt, by go_num, by rw [HT.out]; omega, by rw [HT.out, Nat.sub_sub], B2⟩
          case measure => simp [intOf]; omega
        · rw [leftIs_neg q]
          have hle := bulks_le ns (k + 1)
          have HE := Lib.hid hle
          clear hle
          go_wp2
          go_ret
          refine ⟨?_, B2⟩
          have := HE.out
          rw [HT.out] at this
          rw [leftIs_neg (by have := HL.out; omega)]
          rfl
      · have hkn : k = ns.length := by omega
        have HK := Lib.hid hkn
        clear hkn
        go_wp2
        go_ret
        refine ⟨?_, hbel⟩
        have h1 := HK.out
        rw [h1, List.take_length] at hb ⊢
        rw [leftIs_pos (by have := HL.out; omega)]
        have := HL.out
        rw [← this, Nat.sub_sub]
        rfl
  · have hi : ((left : Int) - (ns.length : Int)) < 0 := by omega
    go_enter Tryz.func87, Tryz.ntmps87
    go_wp2
    go_ret
    exact ⟨by rw [leftIs_neg (by omega)]; rfl, Below.refl _ _⟩

set_option maxHeartbeats 1000000 in
theorem szRx_any (A : Option Addr) (c : Nat) (ns : List Nd) (w : World) (hN : Nodes w w.heap.size A ns) (hF : Fits ns) (hn : ns.length ≤ maxLen) :
    Calls Tryz.prog 39 #[.agg #[.slice A ns.length c], .int .i64 1048576] w fun e w' => e = .returned (.int .i64 (leftIs (ns.length + bulks ns) 1048576)) ∧ Below w.heap.size w w' := by
  have B0 : Below w.heap.size w (w.alloc (.cells #[.slice A ns.length c] 62)) := (Below.refl _ _).alloc (Nat.le_refl _) _
  have N0 := (hN.below B0).up B0.size
  have cN := szNodes_any A c ns 1048576 _ N0 hF hn (Nat.le_refl _)
  clear N0 hN
  go_enter Tryz.func39, Tryz.ntmps39
  go_wp2_with fail
  refine cN.mono ?_
  rintro e w1 ⟨rfl, b1⟩
  have B1 : Below w.heap.size w w1 := B0.trans (b1.mono B0.size)
  clear cN b1 B0
  by_cases q : ns.length + bulks ns ≤ 1048576
  · rw [leftIs_pos q]
    have hi : ¬ ((1048576 - (ns.length + bulks ns) : Nat) : Int) < 0 := by omega
    go_wp2
    go_ret
    exact ⟨by rw [leftIs_pos q]; rfl, B1⟩
  · rw [leftIs_neg q]
    go_wp2
    go_ret
    exact ⟨by rw [leftIs_neg q]; rfl, B1⟩

end Go.Proofs.YtdkjfppjbkdelaaGreatDoor
