/- A pattern's nodes in memory: six cells a node, two of them rows of ints; the law's own helpers over them. Conditions: at most 1048576 elements in all. -/
import Derived.Test.YtikbinmddgmllaaRows
import Derived.Test.YtikbinmddgmllaaMem
import Derived.Test.YtikbinmddgmllaaRxMath
import Derived.Test.YtikbinmddgmllaaInts
import Derived.Deep.QuietTactic
import Derived.Deep.RegionWith
import Derived.BigQuiet
import Derived.Lib.Hide
import Derived.IntWalk
namespace Go.Proofs.Ytikbinmddgmllaa
set_option linter.unusedVariables false
open Go.RowKit

/-- A node as a value. -/
def ndv (nd : Nd) (sa : Option Addr) (sc : Nat) (ka : Option Addr) (kc : Nat) : Value :=
  .agg #[.int .i64 nd.kind, .int .i64 nd.lo, .int .i64 nd.hi, .bool nd.neg, .slice sa nd.set.length sc, .slice ka nd.kids.length kc]

/-- Six cells from an offset on are those of a node. -/
structure SixAt (w : World) (b o : Nat) (nd : Nd) (sa : Option Addr) (sc : Nat) (ka : Option Addr) (kc : Nat) : Prop where
  c0 : w.cell? ⟨b, o, none⟩ = some (.int .i64 nd.kind)
  c1 : w.cell? ⟨b, o + 1, none⟩ = some (.int .i64 nd.lo)
  c2 : w.cell? ⟨b, o + 2, none⟩ = some (.int .i64 nd.hi)
  c3 : w.cell? ⟨b, o + 3, none⟩ = some (.bool nd.neg)
  c4 : w.cell? ⟨b, o + 4, none⟩ = some (.slice sa nd.set.length sc)
  c5 : w.cell? ⟨b, o + 5, none⟩ = some (.slice ka nd.kids.length kc)

/-- A slice of nodes at address A reads as ns, all of it below block B. -/
def Nodes (w : World) (B : Nat) (A : Option Addr) (ns : List Nd) : Prop :=
  ∀ j, (h : j < ns.length) → ∃ b o sa sc ka kc, A = some ⟨b, o, none⟩ ∧ b < B ∧ SixAt w b (o + j * 6) ns[j] sa sc ka kc ∧ Nums .i64 w B sa ns[j].set ∧ Nums .i64 w B ka ns[j].kids

theorem SixAt.move {w w' : World} {b o : Nat} {nd : Nd} {sa ka : Option Addr} {sc kc : Nat} (h : SixAt w b o nd sa sc ka kc) (hk : ∀ i, w'.cell? ⟨b, i, none⟩ = w.cell? ⟨b, i, none⟩) : SixAt w' b o nd sa sc ka kc :=
  ⟨(hk _).trans h.c0, (hk _).trans h.c1, (hk _).trans h.c2, (hk _).trans h.c3, (hk _).trans h.c4, (hk _).trans h.c5⟩

theorem Nodes.move {w w' : World} {B B' : Nat} {A : Option Addr} {ns : List Nd} (h : Nodes w B A ns) (hB : B ≤ B') (hk : ∀ p : Addr, p.block < B → w'.cell? p = w.cell? p) : Nodes w' B' A ns := fun j hj => by
  obtain ⟨b, o, sa, sc, ka, kc, e, hb, hs, hn, hm⟩ := h j hj
  exact ⟨b, o, sa, sc, ka, kc, e, by omega, hs.move fun i => hk ⟨b, i, none⟩ hb, hn.move hB hk, hm.move hB hk⟩
theorem Nodes.below {w w' : World} {B : Nat} {A : Option Addr} {ns : List Nd} (h : Nodes w B A ns) (hb : Below B w w') : Nodes w' B A ns := h.move (Nat.le_refl _) fun _ hp => hb.cell hp
theorem Nodes.up {w : World} {B B' : Nat} {A : Option Addr} {ns : List Nd} (h : Nodes w B A ns) (hB : B ≤ B') : Nodes w B' A ns := h.move hB fun _ _ => rfl
theorem Nodes.nil (w : World) (B : Nat) (A : Option Addr) : Nodes w B A [] := fun j hj => absurd hj (by simp)

/-- How much there is. -/
def bulk (ns : List Nd) : Nat := ns.length + (ns.map fun n => n.set.length + n.kids.length).sum
def bulkOf (n : Nd) : Nat := n.set.length + n.kids.length
def bulks (ns : List Nd) : Nat := (ns.map bulkOf).sum

/-- What is left. -/
def leftIs (need left : Nat) : Int := if need ≤ left then ((left - need : Nat) : Int) else -1

set_option maxHeartbeats 400000 in
theorem szInts_any (A : Option Addr) (n c : Nat) (left : Nat) (w : World) (hn : n ≤ maxLen) (hl : left ≤ 1048576) :
    Calls Try.prog 21 #[.slice A n c, .int .i64 left] w fun e w' => e = .returned (.int .i64 (leftIs n left)) ∧ w = w' := by
  unfold maxLen at hn
  unfold leftIs
  by_cases h : n ≤ left
  · rw [if_pos h]
    have hi : ¬ ((left : Int) - (n : Int)) < 0 := by omega
    have hj : (left : Int) - (n : Int) = ((left - n : Nat) : Int) := by omega
    go_enter Try.func21, Try.ntmps21
    go_wp2
    go_ret
    exact ⟨by rw [← hj]; rfl, rfl⟩
  · rw [if_neg h]
    have hi : ((left : Int) - (n : Int)) < 0 := by omega
    go_enter Try.func21, Try.ntmps21
    go_wp2
    go_ret
    exact ⟨rfl, rfl⟩

theorem leftIs_neg {need left : Nat} (h : ¬ need ≤ left) : leftIs need left = -1 := if_neg h
theorem leftIs_pos {need left : Nat} (h : need ≤ left) : leftIs need left = ((left - need : Nat) : Int) := if_pos h

def Fits (ns : List Nd) : Prop := ∀ n ∈ ns, n.set.length ≤ maxLen ∧ n.kids.length ≤ maxLen

theorem bulks_take {ns : List Nd} {k : Nat} (h : k < ns.length) : bulks (ns.take (k + 1)) = bulks (ns.take k) + bulkOf ns[k] := by
  unfold bulks
  rw [take_succ_get h, List.map_append, List.sum_append]
  simp only [List.map_cons, List.map_nil, List.sum_cons, List.sum_nil, Nat.add_zero]
theorem bulks_le (ns : List Nd) (k : Nat) : bulks (ns.take k) ≤ bulks ns := by
  have e : bulks (ns.take k ++ ns.drop k) = bulks (ns.take k) + bulks (ns.drop k) := by unfold bulks; rw [List.map_append, List.sum_append]
  rw [List.take_append_drop] at e
  omega
theorem leftIs_sub {a b left : Nat} (h : a ≤ left) : leftIs b (left - a) = leftIs (a + b) left := by
  unfold leftIs
  by_cases q : a + b ≤ left
  · rw [if_pos q, if_pos (by omega)]; omega
  · rw [if_neg q, if_neg (by omega)]

end Go.Proofs.Ytikbinmddgmllaa
