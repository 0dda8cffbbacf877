/- A decimal that came in as an argument: its fields, and its reading behind the call. No condition. -/
import Derived.Test.YtpkmhojcccpolaaDoorDecAt
import Derived.WalkKit
import Derived.ProofKit
import Derived.OpenShut
import Derived.ShutString
import Derived.ChangeOld
import Derived.ChangeMaps5
import Derived.Below
import Derived.Deep.Strs
namespace Go.Proofs.YtpkmhojcccpolaaDoor
set_option linter.unusedVariables false
open Go.ChangeShapes Go.WideShapes Go.ChangeAt Go.RowKit Go.Deep
open Go.ChangeMaps (open_string shut_string)

theorem Tryd.cellsBoolD : Tryd.prog.cellsOf 4 = 1 := by kernel_rfl
theorem Tryd.cellsStringD : Tryd.prog.cellsOf 9 = 1 := by kernel_rfl
theorem Tryd.cellsIntD : Tryd.prog.cellsOf 3 = 1 := by kernel_rfl
theorem Tryd.cellsDecD : Tryd.prog.cellsOf 23 = 3 := by kernel_rfl

set_option maxRecDepth 100000 in
theorem open_dec {H : Type} {enc : TypeId × Value → H} {W : World} {r : Reach} {b0 base : Nat} {spare : Nat → Bool} {held : Bool} {v : Value} {d : DataW H} {ps : List MemPlace}
    (hv : Value.okWide Tryd.prog W r b0 23 v) (hd : DataW.Trod enc Tryd.prog W base spare held 23 v d ps) :
    ∃ (n : Bool) (s : ByteArray) (e : Int), v = .agg #[.bool n, .string s, .int .i64 e] ∧ d = .agg [.lit (.bool n), .lit (.string s.data.toList), .lit (.int .i64 e)] ∧ ps = [] ∧ s.size ≤ maxLen ∧ (Lit.int .i64 e).wf = true := by
  obtain ⟨cs, rfl, hsz⟩ := okWide_struct Tryd.underlying23 hv
  rw [Tryd.cellsDecD] at hsz
  obtain ⟨l⟩ := cs
  match l, hsz with
  | [c0, c1, c2], _ =>
  obtain ⟨fuel, hf⟩ := hd
  obtain ⟨y0, y1, y2, m, hx, _, hy0, hy1, hy2⟩ := trod_struct3 Tryd.underlying23 hf
  simp [Value.cells, Tryd.cellsBoolD, Tryd.cellsStringD, Tryd.cellsIntD] at hy0 hy1 hy2
  obtain ⟨n, e0, rfl⟩ := DataW.trod_bool Tryd.underlying4 hy0
  obtain ⟨s, e1, rfl, hs⟩ := DataW.trod_string Tryd.underlying9 hy1
  obtain ⟨e, e2, rfl, he⟩ := DataW.trod_int Tryd.underlying3 hy2
  simp at e0 e1 e2
  subst e0 e1 e2
  simp only [Prod.mk.injEq] at hx
  obtain ⟨rfl, rfl⟩ := hx
  exact ⟨n, s, e, rfl, rfl, rfl, hs, he⟩

set_option maxRecDepth 100000 in
theorem shut_dec {H : Type} {enc : TypeId × Value → H} {W : World} {base : Nat} {spare : Nat → Bool} {held : Bool} {n : Bool} {s : ByteArray} {e : Int} (hs : s.size ≤ maxLen) (he : (Lit.int .i64 e).wf = true) :
    DataW.Trod enc Tryd.prog W base spare held 23 (.agg #[.bool n, .string s, .int .i64 e]) (.agg [.lit (.bool n), .lit (.string s.data.toList), .lit (.int .i64 e)]) [] := ⟨2, by
  have f0 : DataW.trod enc Tryd.prog W base spare held 1 4 [.bool n] = some (.lit (.bool n), []) := by simp [DataW.trod, Tryd.underlying4]
  have f1 : DataW.trod enc Tryd.prog W base spare held 1 9 [.string s] = some (.lit (.string s.data.toList), []) := by simp [DataW.trod, Tryd.underlying9, hs]
  have f2 : DataW.trod enc Tryd.prog W base spare held 1 3 [.int .i64 e] = some (.lit (.int .i64 e), []) := by simp [DataW.trod, Tryd.underlying3, he]
  have := trod_struct3_mk (enc := enc) (w := W) (base := base) (spare := spare) (held := held) (n := 1) (cs := [.bool n, .string s, .int .i64 e]) Tryd.underlying23 (by simp [Tryd.cellsDecD]) (by simpa [Tryd.cellsBoolD] using f0) (by simpa [Tryd.cellsStringD] using f1) (by simpa [Tryd.cellsIntD] using f2)
  simpa [Value.cells] using this⟩

end Go.Proofs.YtpkmhojcccpolaaDoor
