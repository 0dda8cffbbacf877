/- cmp.Compare at int and byte; impl's compare; impl.NatCmp. Conditions: at most 1048576 bytes. -/
import Derived.Test.YtpkmhojcccpolabDoorImplNat3
namespace Go.Proofs.YtpkmhojcccpolabDoor
set_option linter.unusedVariables false
open Go.RowKit
open Go.Lib (byteCells)

def sgnI (x y : Int) : Int := if x < y then -1 else if x = y then 0 else 1

theorem len_less {a b : Nat} (h : len a < len b) : a < b := by
  have h1 := lt_len a
  have h0 : b ≠ 0 := fun e => by subst e; rw [len_zero] at h; omega
  have h2 := le_of_len h0
  have h3 : 10 ^ len a ≤ 10 ^ (len b - 1) := Nat.pow_le_pow_right (by omega) (by omega)
  omega
theorem sgn_len {a b : Nat} (h : len a ≠ len b) : sgnI (len a : Int) (len b : Int) = cmpN a b := by
  unfold sgnI cmpN
  rcases Nat.lt_or_gt_of_ne h with h1 | h1
  · rw [if_pos (by omega), if_pos (len_less h1)]
  · have := len_less h1
    rw [if_neg (by omega), if_neg (by omega), if_neg (by omega), if_neg (by omega)]
theorem dgt_div (v p : Nat) : v / 10 ^ p = 10 * (v / 10 ^ (p + 1)) + dgt v p := by
  unfold dgt
  rw [Nat.pow_succ, ← Nat.div_div_eq_div_mul]
  omega
theorem sgn_dgt {a b p : Nat} (h : a / 10 ^ (p + 1) = b / 10 ^ (p + 1)) (hd : dgt a p ≠ dgt b p) : sgnI (dgt a p : Int) (dgt b p : Int) = cmpN a b := by
  have ha := dgt_div a p
  have hb := dgt_div b p
  have lt_of : ∀ {x y : Nat}, x / 10 ^ p < y / 10 ^ p → x < y := fun {x y} h => by
    rcases Nat.lt_or_ge x y with h1 | h1
    · exact h1
    · exact absurd (Nat.div_le_div_right (c := 10 ^ p) h1) (by omega)
  unfold sgnI cmpN
  rcases Nat.lt_or_gt_of_ne hd with h1 | h1
  · rw [if_pos (by omega), if_pos (lt_of (by omega))]
  · have := lt_of (x := b) (y := a) (by omega)
    rw [if_neg (by omega), if_neg (by omega), if_neg (by omega), if_neg (by omega)]

/-- Two naturals that came by value, laid into two variables. -/
def two (w : World) (C D : Array Value) : World := (((w.alloc (.cells zeroCells 60)).alloc (.cells zeroCells 60)).setRow w.heap.size C).setRow (w.heap.size + 1) D
theorem two_first (w : World) : ((w.alloc (.cells zeroCells 60)).alloc (.cells zeroCells 60)).heap[w.heap.size]? = some (.cells zeroCells 60 (0, 0)) := heap_alloc2_old w _ _
theorem two_second (w : World) (C : Array Value) : (((w.alloc (.cells zeroCells 60)).alloc (.cells zeroCells 60)).setRow w.heap.size C).heap[w.heap.size + 1]? = some (.cells zeroCells 60 (0, 0)) :=
  (setRow_other _ _ _ _ (by omega)).trans (heap_alloc2_new w _ _)
theorem two_is {w w1 : World} {C D : Array Value} {a n b m : Nat} (B : Below w.heap.size w w1) (IC : IsNat C a n) (ID : IsNat D b m) :
    NatAt (two w1 C D) w1.heap.size a n ∧ NatAt (two w1 C D) (w1.heap.size + 1) b m ∧ Below w.heap.size w (two w1 C D) ∧ (two w1 C D).heap.size = w1.heap.size + 2 := by
  have hs := B.size
  refine ⟨⟨C, ?_, IC⟩, ⟨D, setRow_heap _ _ _ _ _ _ (two_second w1 C), ID⟩, below_row (below_row ((B.alloc hs _).alloc (by simp; omega) _) hs _) (by omega) _, by simp [two]⟩
  exact (setRow_other _ _ _ _ (by omega)).trans (setRow_heap _ _ _ _ _ _ (two_first w1))

theorem ofV_bad {s t : ByteArray} (h : (okS s && okS t) = true) : NatS s ∧ NatS t := by
  simp only [Bool.and_eq_true] at h
  exact ⟨of_decide_eq_true h.1, of_decide_eq_true h.2⟩
theorem ofV_not {s t : ByteArray} (h : (okS s && okS t) = false) : ¬ (NatS s ∧ NatS t) := fun g => by
  unfold okS at h
  rw [decide_eq_true g.1, decide_eq_true g.2] at h
  cases h
theorem ofV_eq {s : ByteArray} (h : NatS s) : ofV s = nv s := by unfold ofV; rw [if_pos h]


end Go.Proofs.YtpkmhojcccpolabDoor
