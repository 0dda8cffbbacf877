/- Rows of cells that came in as an argument of a law, read. No condition. -/
import Derived.Test.YtjklnfcoaakkgaaDoorRwMem
import Derived.Test.YtjklnfcoaakkgaaDoorOpenStrs
namespace Go.Proofs.YtjklnfcoaakkgaaDoor
set_option linter.unusedVariables false
open Go.ChangeShapes Go.WideShapes Go.ChangeAt Go.RowKit Go.Deep

theorem add_plainR (b o i : Nat) : (⟨b, o, none⟩ : Addr).add i = ⟨b, o + i, none⟩ := by unfold Addr.add; split <;> simp_all

section
variable {H : Type} {enc : TypeId × Value → H} {W : World} {base : Nat} {spare : Nat → Bool} {held : Bool} {fuel : Nat}
theorem open_strsT {cs : List Value} {x : DataW H × List MemPlace} (h : DataW.trod enc Tryd.prog W base spare held fuel 44 cs = some x) :
    ∃ (A : Option Addr) (xs : List ByteArray) (c : Nat), cs = [.slice A xs.length c] ∧ Strs W W.heap.size A xs ∧ xs.length ≤ maxLen ∧ ∀ x ∈ xs, x.size ≤ maxLen := by
  rcases open_strs Tryd.underlying44 Tryd.underlying9 (by kernel_rfl) h with ⟨rfl, _⟩ | ⟨a, l, c, m, Sx, rfl, _, hl, hm, hmm, _, hcell⟩
  · exact ⟨none, [], 0, rfl, fun j hj => absurd hj (by simp), by simp, fun x hx => by cases hx⟩
  · have hlm : l ≤ m := by rw [hmm]; split <;> omega
    have e : ((List.range l).map Sx).length = l := by simp
    refine ⟨some a, (List.range l).map Sx, c, by rw [e], fun j hj => ?_, by rw [e]; omega, fun y hy => ?_⟩
    · have hj' : j < l := by simpa using hj
      obtain ⟨b, off, spot⟩ := a
      have hc := (hcell j (by omega)).1
      have hspot : spot = none := by simpa [Addr.add] using World.cell?_spot (hcell 0 (by omega)).1
      subst hspot
      rw [Addr.add_lit] at hc
      refine ⟨b, off, rfl, World.block_lt_of_cell? W _ hc, ?_⟩
      rw [hc]
      simp
    · simp at hy
      obtain ⟨i, hi, rfl⟩ := hy
      exact (hcell i (by omega)).2

theorem Tryd.cellsStrsR : Tryd.prog.cellsOf 44 = 1 := by kernel_rfl
theorem Tryd.cellsRowR : Tryd.prog.cellsOf 59 = 1 := by kernel_rfl

set_option maxRecDepth 100000 in
theorem open_rowT {cs : List Value} {x : DataW H × List MemPlace} (h : DataW.trod enc Tryd.prog W base spare held fuel 59 cs = some x) :
    ∃ (A : Option Addr) (xs : List ByteArray) (c : Nat), cs = [.slice A xs.length c] ∧ Strs W W.heap.size A xs ∧ xs.length ≤ maxLen ∧ ∀ x ∈ xs, x.size ≤ maxLen := by
  obtain ⟨xs, n, _, _, hl, hlen, hf⟩ := DataW.trod_struct Tryd.underlying59 h
  rw [Tryd.cellsRowR] at hl
  match cs, hl with
  | [v0], _ =>
  match xs, hlen with
  | [y0], _ =>
  have h0 := hf 0 _ rfl
  simp [Tryd.cellsStrsR] at h0
  exact open_strsT h0

set_option maxRecDepth 100000 in
theorem open_rowsV {a : Option Addr} {len cap : Nat} {d : DataW H} {ps : List MemPlace} (h : DataW.Trod enc Tryd.prog W base spare held 34 (.slice a len cap) d ps) :
    ∃ rs : List (List ByteArray), rs.length = len ∧ Rws W W.heap.size a rs ∧ rs.length ≤ maxLen ∧ FitR rs := by
  obtain ⟨fuel, hf⟩ := h
  rcases open_slice Tryd.underlying34 hf with ⟨e, _⟩ | ⟨x, l, c, m, n, D, Pl, e, hb, hl, hm, hmm, _, hx⟩
  · simp [Value.cells] at e
    obtain ⟨rfl, rfl, rfl⟩ := e
    exact ⟨[], rfl, Rws.nil _ _ _, by simp, fun n hn => (by cases hn)⟩
  · simp [Value.cells] at e
    obtain ⟨rfl, rfl, rfl⟩ := e
    have hlm : len ≤ m := by rw [hmm]; split <;> omega
    have key : ∀ i, i < len → ∃ xs : List ByteArray, ∃ A c, W.cells? base (x.add (i * 1)) 1 = some [.slice A xs.length c] ∧ Strs W W.heap.size A xs ∧ xs.length ≤ maxLen ∧ ∀ x ∈ xs, x.size ≤ maxLen := fun i hi => by
      obtain ⟨cs', q1, q2⟩ := hx i (by omega)
      rw [Tryd.cellsRowR] at q1
      obtain ⟨A, xs, c, rfl, r⟩ := open_rowT q2
      exact ⟨xs, A, c, q1, r⟩
    obtain ⟨f, hfn⟩ := choose_lt key
    have e : ((List.range len).map f).length = len := by simp
    refine ⟨(List.range len).map f, e, fun j hj => ?_, by rw [e]; omega, fun y hy => ?_⟩
    · have hj' : j < len := by simpa using hj
      obtain ⟨A, c, q1, q2, _⟩ := hfn j hj'
      obtain ⟨_, _, q4⟩ := World.cells?_some q1
      obtain ⟨b, off, spot⟩ := x
      have hspot : spot = none := by
        obtain ⟨_, _, r1, _⟩ := hfn 0 (by omega)
        have h2 := (World.cells?_some r1).2.2 0 (by omega)
        simp [Addr.add] at h2
        exact World.cell?_spot h2
      subst hspot
      have g : W.cell? ⟨b, off + j, none⟩ = some (.slice A (f j).length c) := by
        have := q4 0 (by omega)
        rw [Deep.add_add, add_plainR, Nat.mul_one, Nat.add_zero] at this
        exact this
      have ef : ((List.range len).map f)[j] = f j := by simp
      rw [ef]
      exact ⟨b, off, A, c, rfl, World.block_lt_of_cell? W _ g, g, q2⟩
    · obtain ⟨i, hi, rfl⟩ := List.mem_map.1 hy
      obtain ⟨_, _, _, _, q⟩ := hfn i (by simpa using hi)
      exact q
end

end Go.Proofs.YtjklnfcoaakkgaaDoor
