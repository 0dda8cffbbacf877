/- impl.Runes hands back the code points of a text. Conditions: at most 1048576 bytes; utf8's tables hold what Go's text lays. -/
import Derived.Test.YtjklnfcoaakkgaaDoorSpecRunesA
import Derived.Test.YtjklnfcoaakkgaaDoorImplOk
import Derived.WalkSmall
import Derived.Lib.TrimU
namespace Go.Proofs.YtjklnfcoaakkgaaDoor
open Go.RowKit

/-- The code points from a place of a text on: there is one there, and the decoder reads it. -/
theorem step_of {s : ByteArray} {f pos : Nat} {acc l : List Int} (hf : s.size ≤ pos + f) (hp : pos < s.size) (h : (runesFrom s f pos).map (acc ++ ·) = some l) :
    nx s pos = Utf8.decode s pos ∧ 1 ≤ (nx s pos).2 ∧ pos + (nx s pos).2 ≤ s.size ∧ (nx s pos).1 ≤ 1114111 ∧
      (runesFrom s (f - 1) (pos + (nx s pos).2)).map ((acc ++ [((nx s pos).1 : Int)]) ++ ·) = some l := by
  by_cases h0 : (nx s pos).2 = 0
  · rw [runesFrom_no hf hp h0] at h; cases h
  · have hd := (nx_point h0).1
    refine ⟨hd, by omega, nx_fits hp, by rw [hd]; exact Lib.rune_le s pos, ?_⟩
    rw [← h, runesFrom_on hf hp h0, map_snoc]

/-- Where the iterator of a range over a string stands. -/
def IterIs (w : World) (K : Nat) (s : ByteArray) (pos : Nat) : Prop := w.heap[K]? = some (.stringIter s pos)

def ImplRel (s : ByteArray) (l : List Int) (K : Nat) (w : World) (v : Value) (wr : World) : Prop :=
  ∃ (pos f : Nat) (acc : List Int), pos ≤ s.size ∧ IterIs wr K s pos ∧ wr.ownsRow (K + 1) 3 1 v acc.length (acc.map (Value.int .i64)) ∧ acc.length ≤ pos ∧ s.size ≤ pos + f ∧
    (runesFrom s f pos).map (acc ++ ·) = some l ∧ Below w.heap.size w wr ∧ K + 1 ≤ wr.heap.size

theorem iter_kept {w w' : World} {K base : Nat} {s : ByteArray} {pos : Nat} {e : TypeId} {size n : Nat} {v : Value} {xs : List Value} (h : IterIs w K s pos) (hown : w.ownsRow base e size v n xs) (hb : K < base)
    (hg : w.grownBy w' v.ownBlock) : IterIs w' K s pos := by
  have hlt : K < w.heap.size := (Array.getElem?_eq_some_iff.1 h).1
  exact (hg.block K hlt (fun e => by have := (hown.lt K e.symm).1; omega)).trans h

theorem own_low {w : World} {base base' : Nat} {e : TypeId} {size : Nat} {v : Value} {n : Nat} {xs : List Value} (h : w.ownsRow base e size v n xs) (hb : base' ≤ base) : w.ownsRow base' e size v n xs := by
  refine ⟨h.1, ?_⟩
  rcases h.2 with h0 | ⟨g, cap, cur, hv, hg, r⟩
  · exact .inl h0
  · exact .inr ⟨g, cap, cur, hv, Nat.le_trans hb hg, r⟩


end Go.Proofs.YtjklnfcoaakkgaaDoor
