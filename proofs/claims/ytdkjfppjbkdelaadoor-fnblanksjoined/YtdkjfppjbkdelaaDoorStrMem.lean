/- Lists of strings in memory: a slice value that reads as a list of strings, and the law's own helpers over such lists. Conditions: at most 1048576 elements. -/
import Derived.Test.YtdkjfppjbkdelaaDoorRows
import Derived.Test.YtdkjfppjbkdelaaDoorMem
import Derived.Test.YtdkjfppjbkdelaaDoorSpecRunesA
import Derived.Deep.QuietTactic
import Derived.Deep.RegionWith
import Derived.BigQuiet
import Derived.Lib.Hide
import Derived.IntWalk
namespace Go.Proofs.YtdkjfppjbkdelaaDoor
set_option linter.unusedVariables false
open Go.RowKit

/-- A slice value at address A with as many elements as xs: each of them reads as xs says, in a block below B. -/
def Strs (w : World) (B : Nat) (A : Option Addr) (xs : List ByteArray) : Prop :=
  ∀ j, (h : j < xs.length) → ∃ b o, A = some ⟨b, o, none⟩ ∧ b < B ∧ w.cell? ⟨b, o + j, none⟩ = some (.string xs[j])
theorem Strs.move {w w' : World} {B B' : Nat} {A : Option Addr} {xs : List ByteArray} (h : Strs w B A xs) (hB : B ≤ B') (hk : ∀ p : Addr, p.block < B → w'.cell? p = w.cell? p) : Strs w' B' A xs := fun j hj => by
  obtain ⟨b, o, e, hb, hc⟩ := h j hj
  exact ⟨b, o, e, by omega, (hk ⟨b, o + j, none⟩ hb).trans hc⟩
theorem Strs.below {w w' : World} {B : Nat} {A : Option Addr} {xs : List ByteArray} (h : Strs w B A xs) (hb : Below B w w') : Strs w' B A xs := h.move (Nat.le_refl _) fun _ hp => hb.cell hp
theorem Strs.up {w : World} {B B' : Nat} {A : Option Addr} {xs : List ByteArray} (h : Strs w B A xs) (hB : B ≤ B') : Strs w B' A xs := h.move hB fun _ _ => rfl
theorem Strs.own {w : World} {base : Nat} {e : TypeId} {A : Option Addr} {n c : Nat} {xs : List ByteArray} (h : w.ownsRow base e 1 (.slice A n c) n (xs.map Value.string)) : Strs w w.heap.size A xs := fun j hj => by
  have hl : xs.length = n := by have := h.1; simpa using this
  rcases h.2 with ⟨_, h0⟩ | ⟨g, cap, cur, hv, hb, hg, _⟩
  · omega
  · injection hv with hA _ _
    subst hA
    have hlt : g < w.heap.size := (Array.getElem?_eq_some_iff.1 hg).1
    refine ⟨g, 0, rfl, hlt, ?_⟩
    have := h.cells (g := g) rfl j (.string xs[j]) (by simp [hj])
    simpa [Addr.add_lit] using this

theorem drewS {B : Nat} {w w1 : World} (h : Below B w w1) : Below B w w1.drew := ⟨h.os, h.tape, h.output, h.size, h.block⟩

/-- A list of strings in new memory. -/
def StrsAre (l : List ByteArray) (w : World) (e : Ending) (w' : World) : Prop :=
  ∃ v, e = .returned v ∧ w'.ownsRow w.heap.size 9 1 v l.length (l.map Value.string) ∧ Below w.heap.size w w'

/-! ### What the law writes -/
/-- The digits of a number, none for 0. -/
def digB (n : Nat) : List UInt8 := if h : n = 0 then [] else digB (n / 10) ++ [UInt8.ofNat (48 + n % 10)]
termination_by n
decreasing_by omega
theorem digB_zero : digB 0 = [] := by rw [digB, dif_pos rfl]
theorem digB_step {n : Nat} (h : n ≠ 0) : digB n = digB (n / 10) ++ [UInt8.ofNat (48 + n % 10)] := by rw [digB, dif_neg h]
theorem digB_len : ∀ (f n : Nat), n ≤ f → (digB n).length ≤ n
  | _, 0, h => by rw [digB_zero]; simp
  | f + 1, n + 1, h => by
    rw [digB_step (by omega)]
    have := digB_len f ((n + 1) / 10) (by omega)
    simp
    omega
/-- The mark of a number. -/
def markB (k : Nat) : ByteArray := ⟨(109 :: digB k).toArray⟩
/-- What a marked list holds behind k of its places. -/
def markedS (xs : List ByteArray) (k : Nat) : List ByteArray := (List.range k).map (fun j : Nat => markB (j + 1)) ++ xs.drop k
theorem markedS_length (xs : List ByteArray) (k : Nat) (h : k ≤ xs.length) : (markedS xs k).length = xs.length := by simp [markedS]; omega
theorem markedS_step (xs : List ByteArray) (k : Nat) (h : k < xs.length) :
    ((markedS xs k).map Value.string).set k (.string (markB (k + 1))) = (markedS xs (k + 1)).map Value.string := by
  apply List.ext_getElem?
  intro j
  simp only [markedS, List.getElem?_set, List.getElem?_map, List.getElem?_append, List.length_map, List.length_append, List.length_range, List.length_drop, List.getElem?_drop]
  by_cases h1 : k = j
  · subst h1
    simp [show k < k + (xs.length - k) by omega]
  · rcases Nat.lt_or_gt_of_ne h1 with h2 | h2
    · simp [h1, show ¬ j < k by omega, show ¬ j < k + 1 by omega, show k + (j - k) = j by omega, show k + 1 + (j - (k + 1)) = j by omega]
    · simp [h1, h2, show j < k + 1 by omega]

end Go.Proofs.YtdkjfppjbkdelaaDoor
