/- The tables and the two errors of strconv, and the two tables of unicode/utf8, as Go's text lays them. -/
import Derived.Test.YthijeckcjfnbcaaGreatDoorLaidND
import Derived.Test.YthijeckcjfnbcaaGreatDoorImplDec18
import Derived.Stop.LaidErr
import Derived.Deep.DeepLaidRun
namespace Go.Proofs.YthijeckcjfnbcaaGreatDoor
open Go.Shelf Go.RowKit
namespace Num
abbrev numAll : List (String × DataW Unit) := [("math/bits.deBruijn32tab", Rows.laid_math_bits_deBruijn32tab), ("math/bits.deBruijn64tab", Rows.laid_math_bits_deBruijn64tab), ("internal/strconv.uint64pow10", Rows.laid_internal_strconv_uint64pow10), ("unicode/utf8.acceptRanges", Rows.laid_unicode_utf8_acceptRanges), ("strconv.ErrRange", Rows.laid_strconv_ErrRange), ("strconv.ErrSyntax", Rows.laid_strconv_ErrSyntax), ("unicode/utf8.first", Rows.laid_unicode_utf8_first)]
noncomputable def lowI : Nat := (World.holding Tryz.prog default ⟨#[], #[], []⟩).heap.size
noncomputable def laidWorldI (os : Os) : World :=
  let w0 := World.holding Tryz.prog os ⟨#[.cells #[.string ⟨#[118, 97, 108, 117, 101, 32, 111, 117, 116, 32, 111, 102, 32, 114, 97, 110, 103, 101]⟩] 149, .cells #[.string ⟨#[105, 110, 118, 97, 108, 105, 100, 32, 115, 121, 110, 116, 97, 120]⟩] 149], #[], []⟩
  let put (h : Array Obj) (g : Nat) (cs : Array Value) : Array Obj := h.modify g fun
    | .cells _ t frozen => .cells cs t frozen
    | o => o
  let h1 := put w0.heap 6 (cellsOf Rows.laid_math_bits_deBruijn32tab)
  let h2 := put h1 7 (cellsOf Rows.laid_math_bits_deBruijn64tab)
  let h3 := put h2 3 (cellsOf Rows.laid_internal_strconv_uint64pow10)
  let h4 := put h3 2 #[.iface 147 (.pointer (some ⟨lowI, 0, none⟩))]
  let h5 := put h4 1 #[.iface 147 (.pointer (some ⟨lowI + 1, 0, none⟩))]
  let h6 := put h5 4 (Lib.firstTab.map fun z => Value.int .u8 z).toArray
  let h7 := put h6 5 ((List.range 16).flatMap fun i => [Value.int .u8 (Lib.accLo i), Value.int .u8 (Lib.accHi i)]).toArray
  { w0 with heap := h7 }
theorem laid_metI (os : Os) (args : Array Value) : laidMet Tryz.prog numAll ((laidWorldI os).forCall (fun _ _ => 0) ⟨#[], args, []⟩).memory :=
  laidMet_of_run3 8 (by kernel_rfl) (by kernel_rfl) (by kernel_rfl)
/-- What is known of such a world. -/
def WholeLaid (W : World) : Prop := Lib.TabIs Tryz.prog W "internal/strconv.uint64pow10" .u64 Lib.pow10Tab ∧ ErrAt W 1 ∧ ErrAt W 2
theorem star_err : "*" ++ "errors.errorString" = "*errors.errorString" := by decide
theorem row_err (u : TypeId) (h : Tryz.prog.typeName? 3 u = some "*errors.errorString") : u = 147 :=
  typeName_ptr_named (nm := "errors.errorString") (by rw [star_err]; kernel_rfl) (by kernel_rfl) (by decide) u (by rw [star_err]; exact h)
theorem cellsErr : Tryz.prog.cellsOf 149 = 1 := by kernel_rfl
theorem cellsStr : Tryz.prog.cellsOf 9 = 1 := by kernel_rfl
theorem tab_of_laidI {W : World} (hL : laidMet Tryz.prog numAll W) : WholeLaid W := by
  refine ⟨?_, ?_, ?_⟩
  · exact tab_of_reads (g := 3) (t := 143) (e := 119) (n := 20) (by kernel_rfl) (by kernel_rfl) (by kernel_rfl) (by kernel_rfl) (by kernel_rfl) (by kernel_rfl) (by rw [← pow_eq]; exact Lib.laidMet.reads hL (.tail _ (.tail _ (.head _))))
  · have hg : Tryz.prog.globalNamed "strconv.ErrSyntax" = some 1 := by kernel_rfl
    obtain ⟨a, s, hv, _⟩ := laid_sentinel hL.tail.tail.tail.tail.tail hg (by kernel_rfl) Tryz.underlying67 row_err Tryz.underlying147 Tryz.underlying149 rfl rfl Tryz.underlying9 cellsErr cellsStr
    exact ⟨_, by have := World.var?_cell hg hv 0; simpa using this, .inr ⟨_, _, rfl⟩⟩
  · have hg : Tryz.prog.globalNamed "strconv.ErrRange" = some 2 := by kernel_rfl
    obtain ⟨a, s, hv, _⟩ := laid_sentinel hL.tail.tail.tail.tail hg (by kernel_rfl) Tryz.underlying67 row_err Tryz.underlying147 Tryz.underlying149 rfl rfl Tryz.underlying9 cellsErr cellsStr
    exact ⟨_, by have := World.var?_cell hg hv 0; simpa using this, .inr ⟨_, _, rfl⟩⟩
end Num
end Go.Proofs.YthijeckcjfnbcaaGreatDoor
