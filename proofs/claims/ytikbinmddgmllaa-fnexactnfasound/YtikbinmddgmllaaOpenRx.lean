/- A pattern that came in as an argument of a law: its nodes, read. No condition. -/
import Derived.Test.YtikbinmddgmllaaRxMem
import Derived.WalkKit
import Derived.ProofKit
import Derived.OpenShut
import Derived.ShutString
import Derived.ChangeOld
import Derived.Below
import Derived.Deep.Slices
import Derived.Deep.Strs
namespace Go.Proofs.Ytikbinmddgmllaa
set_option linter.unusedVariables false
open Go.ChangeShapes Go.WideShapes Go.ChangeAt Go.RowKit Go.Deep

instance : Inhabited Nd := ⟨⟨0, 0, 0, false, [], []⟩⟩

/-- The numbers of a node are ints. -/
def Nd.wf (n : Nd) : Prop := (Lit.int .i64 n.kind).wf = true ∧ (Lit.int .i64 n.lo).wf = true ∧ (Lit.int .i64 n.hi).wf = true ∧ (∀ x ∈ n.set, (Lit.int .i64 x).wf = true) ∧ ∀ x ∈ n.kids, (Lit.int .i64 x).wf = true

theorem add_plain' (b o i : Nat) : (⟨b, o, none⟩ : Addr).add i = ⟨b, o + i, none⟩ := by unfold Addr.add; split <;> simp_all

section
variable {H : Type} {enc : TypeId × Value → H} {W : World} {base : Nat} {spare : Nat → Bool} {held : Bool} {fuel : Nat}

theorem open_nums {cs : List Value} {x : DataW H × List MemPlace} (h : DataW.trod enc Try.prog W base spare held fuel 34 cs = some x) :
    ∃ (A : Option Addr) (zs : List Int) (c : Nat), cs = [.slice A zs.length c] ∧ Nums .i64 W W.heap.size A zs ∧ zs.length ≤ maxLen ∧ ∀ n ∈ zs, (Lit.int .i64 n).wf = true := by
  rcases open_ints Try.underlying34 Try.underlying3 (by kernel_rfl) h with ⟨rfl, _⟩ | ⟨a, l, c, zs, rfl, _, hl, hm, hz, _, hcell, hwz⟩
  · exact ⟨none, [], 0, rfl, fun j hj => absurd hj (by simp), by simp, fun n hn => by cases hn⟩
  · have hlz : l ≤ zs.length := by rw [hz]; split <;> omega
    have e : (zs.take l).length = l := by simp; omega
    refine ⟨some a, zs.take l, c, by rw [e], fun j hj => ?_, by rw [e]; omega, fun n hn => hwz n (List.mem_of_mem_take hn)⟩
    have hj' : j < l := by omega
    obtain ⟨b, off, spot⟩ := a
    have hc := hcell j (by omega)
    have hspot : spot = none := by simpa [Addr.add] using World.cell?_spot (hcell 0 (by omega))
    subst hspot
    rw [Addr.add_lit] at hc
    refine ⟨b, off, rfl, World.block_lt_of_cell? W _ hc, ?_⟩
    rw [hc]
    simp [List.getD, show j < zs.length by omega]

theorem Try.cellsIntS : Try.prog.cellsOf 34 = 1 := by kernel_rfl
theorem Try.cellsIntR : Try.prog.cellsOf 3 = 1 := by kernel_rfl
theorem Try.cellsBoolR : Try.prog.cellsOf 4 = 1 := by kernel_rfl
end

end Go.Proofs.Ytikbinmddgmllaa
