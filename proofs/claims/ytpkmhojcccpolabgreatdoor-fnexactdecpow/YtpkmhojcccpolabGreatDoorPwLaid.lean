/- A decimal that came in as an argument: its fields, and its reading behind the call. No condition. -/
import Derived.Test.YtpkmhojcccpolabGreatDoorDecAt
import Derived.WalkKit
import Derived.ProofKit
import Derived.OpenShut
import Derived.ShutString
import Derived.ChangeOld
import Derived.ChangeMaps5
import Derived.Below
import Derived.Deep.Strs
import Derived.Test.YtpkmhojcccpolabGreatDoorCards
import Derived.Test.YtpkmhojcccpolabGreatDoorTie
import Derived.Test.YtpkmhojcccpolabGreatDoorShelf
import Derived.Lib.LaidU8T
import Derived.PinnedBridge
import Derived.Lib.LaidIn
import Derived.Lib.LaidTab
import Derived.Lib.AppendIntMem
import Derived.Deep.DeepHandedRow
import Derived.Deep.DeepWitnessRowRef
import Derived.SizedLaws
import Derived.SevenTiedAt
import Derived.WalkSmall
namespace Go.Proofs.YtpkmhojcccpolabGreatDoor
set_option linter.unusedVariables false
open Go.ChangeShapes Go.WideShapes Go.ChangeAt Go.RowKit Go.Deep
open Go.ChangeMaps (open_string shut_string)

theorem Tryz.cellsBoolD : Tryz.prog.cellsOf 4 = 1 := by kernel_rfl
theorem Tryz.cellsStringD : Tryz.prog.cellsOf 9 = 1 := by kernel_rfl
theorem Tryz.cellsIntD : Tryz.prog.cellsOf 3 = 1 := by kernel_rfl
theorem Tryz.cellsDecD : Tryz.prog.cellsOf 23 = 3 := by kernel_rfl

set_option maxRecDepth 100000 in
theorem open_dec {H : Type} {enc : TypeId × Value → H} {W : World} {r : Reach} {b0 base : Nat} {spare : Nat → Bool} {held : Bool} {v : Value} {d : DataW H} {ps : List MemPlace}
    (hv : Value.okWide Tryz.prog W r b0 23 v) (hd : DataW.Trod enc Tryz.prog W base spare held 23 v d ps) :
    ∃ (n : Bool) (s : ByteArray) (e : Int), v = .agg #[.bool n, .string s, .int .i64 e] ∧ d = .agg [.lit (.bool n), .lit (.string s.data.toList), .lit (.int .i64 e)] ∧ ps = [] ∧ s.size ≤ maxLen ∧ (Lit.int .i64 e).wf = true := by
  obtain ⟨cs, rfl, hsz⟩ := okWide_struct Tryz.underlying23 hv
  rw [Tryz.cellsDecD] at hsz
  obtain ⟨l⟩ := cs
  match l, hsz with
  | [c0, c1, c2], _ =>
  obtain ⟨fuel, hf⟩ := hd
  obtain ⟨y0, y1, y2, m, hx, _, hy0, hy1, hy2⟩ := trod_struct3 Tryz.underlying23 hf
  simp [Value.cells, Tryz.cellsBoolD, Tryz.cellsStringD, Tryz.cellsIntD] at hy0 hy1 hy2
  obtain ⟨n, e0, rfl⟩ := DataW.trod_bool Tryz.underlying4 hy0
  obtain ⟨s, e1, rfl, hs⟩ := DataW.trod_string Tryz.underlying9 hy1
  obtain ⟨e, e2, rfl, he⟩ := DataW.trod_int Tryz.underlying3 hy2
  simp at e0 e1 e2
  subst e0 e1 e2
  simp only [Prod.mk.injEq] at hx
  obtain ⟨rfl, rfl⟩ := hx
  exact ⟨n, s, e, rfl, rfl, rfl, hs, he⟩

set_option maxRecDepth 100000 in
theorem shut_dec {H : Type} {enc : TypeId × Value → H} {W : World} {base : Nat} {spare : Nat → Bool} {held : Bool} {n : Bool} {s : ByteArray} {e : Int} (hs : s.size ≤ maxLen) (he : (Lit.int .i64 e).wf = true) :
    DataW.Trod enc Tryz.prog W base spare held 23 (.agg #[.bool n, .string s, .int .i64 e]) (.agg [.lit (.bool n), .lit (.string s.data.toList), .lit (.int .i64 e)]) [] := ⟨2, by
  have f0 : DataW.trod enc Tryz.prog W base spare held 1 4 [.bool n] = some (.lit (.bool n), []) := by simp [DataW.trod, Tryz.underlying4]
  have f1 : DataW.trod enc Tryz.prog W base spare held 1 9 [.string s] = some (.lit (.string s.data.toList), []) := by simp [DataW.trod, Tryz.underlying9, hs]
  have f2 : DataW.trod enc Tryz.prog W base spare held 1 3 [.int .i64 e] = some (.lit (.int .i64 e), []) := by simp [DataW.trod, Tryz.underlying3, he]
  have := trod_struct3_mk (enc := enc) (w := W) (base := base) (spare := spare) (held := held) (n := 1) (cs := [.bool n, .string s, .int .i64 e]) Tryz.underlying23 (by simp [Tryz.cellsDecD]) (by simpa [Tryz.cellsBoolD] using f0) (by simpa [Tryz.cellsStringD] using f1) (by simpa [Tryz.cellsIntD] using f2)
  simpa [Value.cells] using this⟩

end Go.Proofs.YtpkmhojcccpolabGreatDoor

/- The three tables of strconv and math/bits that Itoa's road names, as Go's text lays them. -/
namespace Go.Proofs.YtpkmhojcccpolabGreatDoor
open Go.Shelf Go.RowKit

namespace Num
theorem own : ownKnob Tryz.prog.godebug = none := by kernel_rfl

abbrev numLaid : List (String × DataW Unit) := [("math/bits.deBruijn32tab", Rows.laid_math_bits_deBruijn32tab), ("math/bits.deBruijn64tab", Rows.laid_math_bits_deBruijn64tab), ("internal/strconv.uint64pow10", Rows.laid_internal_strconv_uint64pow10)]

/-- The cells of a table of integers. -/
def cellsOf : DataW Unit → Array Value
  | .agg l => (l.map fun | .lit (.int k n) => Value.int k n | _ => Value.bool false).toArray
  | _ => #[]

noncomputable def laidWorldN (os : Os) : World :=
  let w0 := World.holding Tryz.prog os ⟨#[], #[], []⟩
  let put (h : Array Obj) (g : Nat) (cs : Array Value) : Array Obj := h.modify g fun
    | .cells _ t frozen => .cells cs t frozen
    | o => o
  let h1 := put w0.heap 4 (cellsOf Rows.laid_math_bits_deBruijn32tab)
  let h2 := put h1 5 (cellsOf Rows.laid_math_bits_deBruijn64tab)
  let h3 := put h2 0 (cellsOf Rows.laid_internal_strconv_uint64pow10)
  { w0 with heap := h3 }

theorem laid_metN (os : Os) (args : Array Value) : laidMet Tryz.prog numLaid ((laidWorldN os).forCall (fun _ _ => 0) ⟨#[], args, []⟩).memory :=
  (LaidIn.of_run (l := numLaid) [4, 5, 0] 8 (by kernel_rfl) (by kernel_rfl) (by kernel_rfl) (by kernel_rfl)).met

theorem tab_of_reads {P : Program} {W : World} {name : String} {k : IntKind} {zs : List Int} {g : Nat} {t e : TypeId} {n : Nat}
    (hg : P.globalNamed name = some g) (hty : (P.globals[g]?).map (·.type) = some t) (ht : P.underlying t = some (.array n e)) (he : P.underlying e = some (.int k)) (hce : P.cellsOf e = 1) (hct : P.cellsOf t = n)
    (h : Lib.VarReads P W name (Lib.tabData k zs)) : Lib.TabIs P W name k zs := by
  obtain ⟨g', t', cs, fuel, p, hg', ht', hvar, hd⟩ := h
  obtain rfl := Option.some.inj (hg.symm.trans hg')
  obtain rfl := Option.some.inj (hty.symm.trans ht')
  unfold Lib.TabIs
  rw [hvar, ← Lib.cells_of_tab ht he hce hct hd]

theorem pow_eq : (Rows.laid_internal_strconv_uint64pow10 : DataW Unit) = Lib.tabData .u64 Lib.pow10Tab := by kernel_rfl

theorem tab_of_laidN {W : World} (hL : laidMet Tryz.prog numLaid W) : Lib.TabIs Tryz.prog W "internal/strconv.uint64pow10" .u64 Lib.pow10Tab :=
  tab_of_reads (g := 0) (t := 114) (e := 93) (n := 20) (by kernel_rfl) (by kernel_rfl) (by kernel_rfl) (by kernel_rfl) (by kernel_rfl) (by kernel_rfl) (by rw [← pow_eq]; exact Lib.laidMet.reads hL (.tail _ (.tail _ (.head _))))

/-- .. and the two tables of unicode/utf8 beside them. -/
abbrev numUtf : List (String × DataW Unit) := [("math/bits.deBruijn32tab", Rows.laid_math_bits_deBruijn32tab), ("math/bits.deBruijn64tab", Rows.laid_math_bits_deBruijn64tab), ("internal/strconv.uint64pow10", Rows.laid_internal_strconv_uint64pow10), ("unicode/utf8.acceptRanges", Rows.laid_unicode_utf8_acceptRanges), ("unicode/utf8.first", Rows.laid_unicode_utf8_first)]
noncomputable def laidWorldU (os : Os) : World :=
  let w0 := World.holding Tryz.prog os ⟨#[], #[], []⟩
  let put (h : Array Obj) (g : Nat) (cs : Array Value) : Array Obj := h.modify g fun
    | .cells _ t frozen => .cells cs t frozen
    | o => o
  let h1 := put w0.heap 4 (cellsOf Rows.laid_math_bits_deBruijn32tab)
  let h2 := put h1 5 (cellsOf Rows.laid_math_bits_deBruijn64tab)
  let h3 := put h2 0 (cellsOf Rows.laid_internal_strconv_uint64pow10)
  let h4 := put h3 2 (Lib.firstTab.map fun z => Value.int .u8 z).toArray
  let h5 := put h4 3 ((List.range 16).flatMap fun i => [Value.int .u8 (Lib.accLo i), Value.int .u8 (Lib.accHi i)]).toArray
  { w0 with heap := h5 }
theorem laid_metU (os : Os) (args : Array Value) : laidMet Tryz.prog numUtf ((laidWorldU os).forCall (fun _ _ => 0) ⟨#[], args, []⟩).memory :=
  (LaidIn.of_run (l := numUtf) [4, 5, 0, 3, 2] 8 (by kernel_rfl) (by kernel_rfl) (by kernel_rfl) (by kernel_rfl)).met
theorem tab_of_laidU {W : World} (hL : laidMet Tryz.prog numUtf W) : Lib.TabIs Tryz.prog W "internal/strconv.uint64pow10" .u64 Lib.pow10Tab :=
  tab_of_reads (g := 0) (t := 114) (e := 93) (n := 20) (by kernel_rfl) (by kernel_rfl) (by kernel_rfl) (by kernel_rfl) (by kernel_rfl) (by kernel_rfl) (by rw [← pow_eq]; exact Lib.laidMet.reads hL (.tail _ (.tail _ (.head _))))
/-- The table stays where memory grows. -/
theorem tab_below {w W : World} (hT : Lib.TabIs Tryz.prog w "internal/strconv.uint64pow10" .u64 Lib.pow10Tab) (hW : Below w.heap.size w W) : Lib.TabIs Tryz.prog W "internal/strconv.uint64pow10" .u64 Lib.pow10Tab := by
  have hg : Tryz.prog.globalNamed "internal/strconv.uint64pow10" = some 0 := by kernel_rfl
  have hc := Lib.TabIs.cell hT hg 0 (by rw [Lib.pow10Tab_length]; omega)
  exact var?_below hW hg (World.block_lt_of_cell? w _ hc) hT
end Num

end Go.Proofs.YtpkmhojcccpolabGreatDoor
