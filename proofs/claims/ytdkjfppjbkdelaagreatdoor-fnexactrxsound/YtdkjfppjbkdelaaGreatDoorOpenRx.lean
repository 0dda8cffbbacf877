/- A pattern that came in as an argument of a law: its nodes, read. No condition. -/
import Derived.Test.YtdkjfppjbkdelaaGreatDoorRxMem
import Derived.WalkKit
import Derived.ProofKit
import Derived.OpenShut
import Derived.ShutString
import Derived.ChangeOld
import Derived.Below
import Derived.Deep.Slices
import Derived.Deep.Strs
namespace Go.Proofs.YtdkjfppjbkdelaaGreatDoor
set_option linter.unusedVariables false
open Go.ChangeShapes Go.WideShapes Go.ChangeAt Go.RowKit Go.Deep

instance : Inhabited Nd := ⟨⟨0, 0, 0, false, [], []⟩⟩

/-- The numbers of a node are ints. -/
def Nd.wf (n : Nd) : Prop := (Lit.int .i64 n.kind).wf = true ∧ (Lit.int .i64 n.lo).wf = true ∧ (Lit.int .i64 n.hi).wf = true ∧ (∀ x ∈ n.set, (Lit.int .i64 x).wf = true) ∧ ∀ x ∈ n.kids, (Lit.int .i64 x).wf = true

theorem add_plain' (b o i : Nat) : (⟨b, o, none⟩ : Addr).add i = ⟨b, o + i, none⟩ := by unfold Addr.add; split <;> simp_all

section
variable {H : Type} {enc : TypeId × Value → H} {W : World} {base : Nat} {spare : Nat → Bool} {held : Bool} {fuel : Nat}

theorem open_nums {cs : List Value} {x : DataW H × List MemPlace} (h : DataW.trod enc Tryz.prog W base spare held fuel 45 cs = some x) :
    ∃ (A : Option Addr) (zs : List Int) (c : Nat), cs = [.slice A zs.length c] ∧ Nums .i64 W W.heap.size A zs ∧ zs.length ≤ maxLen ∧ ∀ n ∈ zs, (Lit.int .i64 n).wf = true := by
  rcases open_ints Tryz.underlying45 Tryz.underlying3 (by kernel_rfl) h with ⟨rfl, _⟩ | ⟨a, l, c, zs, rfl, _, hl, hm, hz, _, hcell, hwz⟩
  · exact ⟨none, [], 0, rfl, fun j hj => absurd hj (by simp), by simp, fun n hn => by cases hn⟩
  · have hlz : l ≤ zs.length := by rw [hz]; split <;> omega
    have e : (zs.take l).length = l := by simp; omega
    refine ⟨some a, zs.take l, c, by rw [e], fun j hj => ?_, by rw [e]; omega, fun n hn => hwz n (List.mem_of_mem_take hn)⟩
    have hj' : j < l := by omega
    obtain ⟨b, off, spot⟩ := a
    have hc := hcell j (by omega)
    have hspot : spot = none := by simpa [Addr.add] using World.cell?_spot (hcell 0 (by omega))
    subst hspot
    rw [Addr.add_lit] at hc
    refine ⟨b, off, rfl, World.block_lt_of_cell? W _ hc, ?_⟩
    rw [hc]
    simp [List.getD, show j < zs.length by omega]

theorem Tryz.cellsIntS : Tryz.prog.cellsOf 45 = 1 := by kernel_rfl
theorem Tryz.cellsIntR : Tryz.prog.cellsOf 3 = 1 := by kernel_rfl
theorem Tryz.cellsBoolR : Tryz.prog.cellsOf 4 = 1 := by kernel_rfl
theorem Tryz.cellsNodeR : Tryz.prog.cellsOf 169 = 6 := by kernel_rfl
theorem Tryz.cellsNodesR : Tryz.prog.cellsOf 60 = 1 := by kernel_rfl
theorem Tryz.cellsRxR : Tryz.prog.cellsOf 62 = 1 := by kernel_rfl

set_option maxRecDepth 100000 in
theorem open_node {cs : List Value} {x : DataW H × List MemPlace} (h : DataW.trod enc Tryz.prog W base spare held fuel 169 cs = some x) :
    ∃ (nd : Nd) (sa : Option Addr) (sc : Nat) (ka : Option Addr) (kc : Nat), cs = [.int .i64 nd.kind, .int .i64 nd.lo, .int .i64 nd.hi, .bool nd.neg, .slice sa nd.set.length sc, .slice ka nd.kids.length kc] ∧
      Nums .i64 W W.heap.size sa nd.set ∧ Nums .i64 W W.heap.size ka nd.kids ∧ (nd.set.length ≤ maxLen ∧ nd.kids.length ≤ maxLen) ∧ nd.wf := by
  obtain ⟨xs, n, _, _, hl, hlen, hf⟩ := DataW.trod_struct Tryz.underlying169 h
  rw [Tryz.cellsNodeR] at hl
  match cs, hl with
  | [v0, v1, v2, v3, v4, v5], _ =>
  match xs, hlen with
  | [y0, y1, y2, y3, y4, y5], _ =>
  have h0 := hf 0 _ rfl
  have h1 := hf 1 _ rfl
  have h2 := hf 2 _ rfl
  have h3 := hf 3 _ rfl
  have h4 := hf 4 _ rfl
  have h5 := hf 5 _ rfl
  simp [Tryz.cellsIntS, Tryz.cellsIntR, Tryz.cellsBoolR] at h0 h1 h2 h3 h4 h5
  obtain ⟨a0, e0, _, w0⟩ := DataW.trod_int Tryz.underlying3 h0
  obtain ⟨a1, e1, _, w1⟩ := DataW.trod_int Tryz.underlying3 h1
  obtain ⟨a2, e2, _, w2⟩ := DataW.trod_int Tryz.underlying3 h2
  obtain ⟨a3, e3, _⟩ := DataW.trod_bool Tryz.underlying4 h3
  obtain ⟨A4, z4, c4, e4, n4, l4, w4⟩ := open_nums h4
  obtain ⟨A5, z5, c5, e5, n5, l5, w5⟩ := open_nums h5
  simp at e0 e1 e2 e3 e4 e5
  subst e0 e1 e2 e3 e4 e5
  exact ⟨⟨a0, a1, a2, a3, z4, z5⟩, A4, c4, A5, c5, rfl, n4, n5, ⟨l4, l5⟩, w0, w1, w2, w4, w5⟩

set_option maxRecDepth 100000 in
theorem open_rx {r : Reach} {b0 : Nat} {v : Value} {d : DataW H} {ps : List MemPlace}
    (hv : Value.okWide Tryz.prog W r b0 62 v) (hd : DataW.Trod enc Tryz.prog W base spare held 62 v d ps) :
    ∃ (A : Option Addr) (ns : List Nd) (c : Nat), v = .agg #[.slice A ns.length c] ∧ Nodes W W.heap.size A ns ∧ Fits ns ∧ ns.length ≤ maxLen ∧ ∀ n ∈ ns, n.wf := by
  obtain ⟨cs, rfl, hsz⟩ := okWide_struct Tryz.underlying62 hv
  rw [Tryz.cellsRxR] at hsz
  obtain ⟨l⟩ := cs
  match l, hsz with
  | [v0], _ =>
  obtain ⟨fuel, hf⟩ := hd
  obtain ⟨xs, n, _, _, hl, hlen, hff⟩ := DataW.trod_struct Tryz.underlying62 hf
  match xs, hlen with
  | [y0], _ =>
  have h0 := hff 0 _ rfl
  simp [Value.cells, Tryz.cellsNodesR] at h0
  rcases open_slice Tryz.underlying60 h0 with ⟨e, _⟩ | ⟨a, len, cap, m, n, D, Pl, e, hb, hl, hm, hmm, _, hx⟩
  · simp at e
    subst e
    exact ⟨none, [], 0, rfl, Nodes.nil _ _ _, fun n hn => (by cases hn), by simp, fun n hn => (by cases hn)⟩
  · simp at e
    subst e
    have hlm : len ≤ m := by rw [hmm]; split <;> omega
    have key : ∀ i, i < len → ∃ nd : Nd, ∃ sa sc ka kc, W.cells? base (a.add (i * 6)) 6 = some [.int .i64 nd.kind, .int .i64 nd.lo, .int .i64 nd.hi, .bool nd.neg, .slice sa nd.set.length sc, .slice ka nd.kids.length kc] ∧
        Nums .i64 W W.heap.size sa nd.set ∧ Nums .i64 W W.heap.size ka nd.kids ∧ (nd.set.length ≤ maxLen ∧ nd.kids.length ≤ maxLen) ∧ nd.wf := fun i hi => by
      obtain ⟨cs', q1, q2⟩ := hx i (by omega)
      rw [Tryz.cellsNodeR] at q1
      obtain ⟨nd, sa, sc, ka, kc, rfl, r⟩ := open_node q2
      exact ⟨nd, sa, sc, ka, kc, q1, r⟩
    obtain ⟨f, hfn⟩ := choose_lt key
    have e : ((List.range len).map f).length = len := by simp
    refine ⟨some a, (List.range len).map f, cap, by rw [e], fun j hj => ?_, fun x hx' => ?_, by rw [e]; omega, fun x hx' => ?_⟩
    · have hj' : j < len := by simpa using hj
      obtain ⟨sa, sc, ka, kc, q1, q2, q3, _⟩ := hfn j hj'
      obtain ⟨_, _, q4⟩ := World.cells?_some q1
      obtain ⟨b, off, spot⟩ := a
      have hspot : spot = none := by
        obtain ⟨_, _, _, _, r1, _⟩ := hfn 0 (by omega)
        have h2 := (World.cells?_some r1).2.2 0 (by omega)
        simp [Addr.add] at h2
        exact World.cell?_spot h2
      subst hspot
      have g : ∀ i, i < 6 → W.cell? ⟨b, off + j * 6 + i, none⟩ = ([.int .i64 (f j).kind, .int .i64 (f j).lo, .int .i64 (f j).hi, .bool (f j).neg, .slice sa (f j).set.length sc, .slice ka (f j).kids.length kc] : List Value)[i]? := fun i hi => by
        have := q4 i hi
        rw [Deep.add_add, add_plain', ← Nat.add_assoc] at this
        exact this
      have ef : ((List.range len).map f)[j] = f j := by simp
      rw [ef]
      have g0 : W.cell? ⟨b, off + j * 6, none⟩ = some (.int .i64 (f j).kind) := g 0 (by omega)
      refine ⟨b, off, sa, sc, ka, kc, rfl, World.block_lt_of_cell? W _ g0, ⟨g0, g 1 (by omega), g 2 (by omega), g 3 (by omega), g 4 (by omega), g 5 (by omega)⟩, q2, q3⟩
    · obtain ⟨i, hi, rfl⟩ := List.mem_map.1 hx'
      obtain ⟨_, _, _, _, _, _, _, q, _⟩ := hfn i (by simpa using hi)
      exact q
    · obtain ⟨i, hi, rfl⟩ := List.mem_map.1 hx'
      obtain ⟨_, _, _, _, _, _, _, _, q⟩ := hfn i (by simpa using hi)
      exact q
end

end Go.Proofs.YtdkjfppjbkdelaaGreatDoor
