/- An automaton that came in as an argument of a law: its operations, read. No condition. -/
import Derived.Test.YtikbinmddgmllaaNfMem
import Derived.Test.YtikbinmddgmllaaOpenRx
namespace Go.Proofs.Ytikbinmddgmllaa
set_option linter.unusedVariables false
open Go.ChangeShapes Go.WideShapes Go.ChangeAt Go.RowKit Go.Deep

instance : Inhabited No := ⟨⟨0, 0, 0, false, []⟩⟩

/-- The numbers of an operation are ints. -/
def No.wf (n : No) : Prop := (Lit.int .i64 n.op).wf = true ∧ (Lit.int .i64 n.a).wf = true ∧ (Lit.int .i64 n.b).wf = true ∧ ∀ x ∈ n.set, (Lit.int .i64 x).wf = true

section
variable {H : Type} {enc : TypeId × Value → H} {W : World} {base : Nat} {spare : Nat → Bool} {held : Bool} {fuel : Nat}

theorem Try.cellsOpR : Try.prog.cellsOf 42 = 5 := by kernel_rfl
theorem Try.cellsOpsR : Try.prog.cellsOf 22 = 1 := by kernel_rfl
theorem Try.cellsNfaR : Try.prog.cellsOf 24 = 1 := by kernel_rfl

set_option maxRecDepth 100000 in
theorem open_op {cs : List Value} {x : DataW H × List MemPlace} (h : DataW.trod enc Try.prog W base spare held fuel 42 cs = some x) :
    ∃ (nd : No) (sa : Option Addr) (sc : Nat), cs = [.int .i64 nd.op, .int .i64 nd.a, .int .i64 nd.b, .bool nd.neg, .slice sa nd.set.length sc] ∧
      Nums .i64 W W.heap.size sa nd.set ∧ nd.set.length ≤ maxLen ∧ nd.wf := by
  obtain ⟨xs, n, _, _, hl, hlen, hf⟩ := DataW.trod_struct Try.underlying42 h
  rw [Try.cellsOpR] at hl
  match cs, hl with
  | [v0, v1, v2, v3, v4], _ =>
  match xs, hlen with
  | [y0, y1, y2, y3, y4], _ =>
  have h0 := hf 0 _ rfl
  have h1 := hf 1 _ rfl
  have h2 := hf 2 _ rfl
  have h3 := hf 3 _ rfl
  have h4 := hf 4 _ rfl
  simp [Try.cellsIntS, Try.cellsIntR, Try.cellsBoolR] at h0 h1 h2 h3 h4
  obtain ⟨a0, e0, _, w0⟩ := DataW.trod_int Try.underlying3 h0
  obtain ⟨a1, e1, _, w1⟩ := DataW.trod_int Try.underlying3 h1
  obtain ⟨a2, e2, _, w2⟩ := DataW.trod_int Try.underlying3 h2
  obtain ⟨a3, e3, _⟩ := DataW.trod_bool Try.underlying4 h3
  obtain ⟨A4, z4, c4, e4, n4, l4, w4⟩ := open_nums h4
  simp at e0 e1 e2 e3 e4
  subst e0 e1 e2 e3 e4
  exact ⟨⟨a0, a1, a2, a3, z4⟩, A4, c4, rfl, n4, l4, w0, w1, w2, w4⟩

set_option maxRecDepth 100000 in
theorem open_nfa {r : Reach} {b0 : Nat} {v : Value} {d : DataW H} {ps : List MemPlace}
    (hv : Value.okWide Try.prog W r b0 24 v) (hd : DataW.Trod enc Try.prog W base spare held 24 v d ps) :
    ∃ (A : Option Addr) (ns : List No) (c : Nat), v = .agg #[.slice A ns.length c] ∧ Ops W W.heap.size A ns ∧ OFits ns ∧ ns.length ≤ maxLen ∧ ∀ n ∈ ns, n.wf := by
  obtain ⟨cs, rfl, hsz⟩ := okWide_struct Try.underlying24 hv
  rw [Try.cellsNfaR] at hsz
  obtain ⟨l⟩ := cs
  match l, hsz with
  | [v0], _ =>
  obtain ⟨fuel, hf⟩ := hd
  obtain ⟨xs, n, _, _, hl, hlen, hff⟩ := DataW.trod_struct Try.underlying24 hf
  match xs, hlen with
  | [y0], _ =>
  have h0 := hff 0 _ rfl
  simp [Value.cells, Try.cellsOpsR] at h0
  rcases open_slice Try.underlying22 h0 with ⟨e, _⟩ | ⟨a, len, cap, m, n, D, Pl, e, hb, hl, hm, hmm, _, hx⟩
  · simp at e
    subst e
    exact ⟨none, [], 0, rfl, Ops.nil _ _ _, fun n hn => (by cases hn), by simp, fun n hn => (by cases hn)⟩
  · simp at e
    subst e
    have hlm : len ≤ m := by rw [hmm]; split <;> omega
    have key : ∀ i, i < len → ∃ nd : No, ∃ sa sc, W.cells? base (a.add (i * 5)) 5 = some [.int .i64 nd.op, .int .i64 nd.a, .int .i64 nd.b, .bool nd.neg, .slice sa nd.set.length sc] ∧
        Nums .i64 W W.heap.size sa nd.set ∧ nd.set.length ≤ maxLen ∧ nd.wf := fun i hi => by
      obtain ⟨cs', q1, q2⟩ := hx i (by omega)
      rw [Try.cellsOpR] at q1
      obtain ⟨nd, sa, sc, rfl, r⟩ := open_op q2
      exact ⟨nd, sa, sc, q1, r⟩
    obtain ⟨f, hfn⟩ := choose_lt key
    have e : ((List.range len).map f).length = len := by simp
    refine ⟨some a, (List.range len).map f, cap, by rw [e], fun j hj => ?_, fun x hx' => ?_, by rw [e]; omega, fun x hx' => ?_⟩
    · have hj' : j < len := by simpa using hj
      obtain ⟨sa, sc, q1, q2, _⟩ := hfn j hj'
      obtain ⟨_, _, q4⟩ := World.cells?_some q1
      obtain ⟨b, off, spot⟩ := a
      have hspot : spot = none := by
        obtain ⟨_, _, r1, _⟩ := hfn 0 (by omega)
        have h2 := (World.cells?_some r1).2.2 0 (by omega)
        simp [Addr.add] at h2
        exact World.cell?_spot h2
      subst hspot
      have g : ∀ i, i < 5 → W.cell? ⟨b, off + j * 5 + i, none⟩ = ([.int .i64 (f j).op, .int .i64 (f j).a, .int .i64 (f j).b, .bool (f j).neg, .slice sa (f j).set.length sc] : List Value)[i]? := fun i hi => by
        have := q4 i hi
        rw [Deep.add_add, add_plain', ← Nat.add_assoc] at this
        exact this
      have ef : ((List.range len).map f)[j] = f j := by simp
      rw [ef]
      have g0 : W.cell? ⟨b, off + j * 5, none⟩ = some (.int .i64 (f j).op) := g 0 (by omega)
      refine ⟨b, off, sa, sc, rfl, World.block_lt_of_cell? W _ g0, ⟨g0, g 1 (by omega), g 2 (by omega), g 3 (by omega), g 4 (by omega)⟩, q2⟩
    · obtain ⟨i, hi, rfl⟩ := List.mem_map.1 hx'
      obtain ⟨_, _, _, _, q, _⟩ := hfn i (by simpa using hi)
      exact q
    · obtain ⟨i, hi, rfl⟩ := List.mem_map.1 hx'
      obtain ⟨_, _, _, _, _, q⟩ := hfn i (by simpa using hi)
      exact q
end

end Go.Proofs.Ytikbinmddgmllaa
