/-
  NARROWER THAN 'FOR EVERY INPUT', by the rows' own cells (each row's printed sentence says how): FnCsvBack: laid · FnCsvOnce: laid · FnExactCsvRead: laid · FnExactCsvText: laid · FnExactRowsOk: laid.
  DERIVED. THE GIVEN ROWS OF THIS SEAT. 5 by the template 'for every input the law returns true; each argument reads behind the call as it read before'; 0 by the template 'total and deterministic' (their statements: YtjklnfcoaakkgaaDoorTotals.lean).
  GIVEN WITH THE SEED: the statements are not yours to turn. If you find one false, say at which input.
  Laid BY PROGRAM, IN A SANDBOX (cutbox-rows.mjs): the forced cells as the released guide's own fill.sh prints them over the translation b68c658fd4b6334f… (all of the seat's roots in one cut). By AI agents, Wed Nov 11 2026. No macro, syntax, notation, axiom, sorry.
-/
import Derived.Test.YtjklnfcoaakkgaaDoorChecked
import GoSem.PinnedTables
import GoSem.Claim
import GoSem.ClaimJoined
import GoSem.ClaimMapViews
import Derived.JoinedTies
import Derived.KernelRfl
namespace Go.Proofs.YtjklnfcoaakkgaaDoor
/- THE CELL 'sum', in the pinned program and in every row, IS THE sha256 OF THE DUMP (.gsa) THAT YtjklnfcoaakkgaaDoorProg.lean LOADS. Nothing in Lean hashes anything: it is a label: what it is worth is what the hold of that sum in a sandbox is worth. -/
noncomputable def Tryd.pinned : Pinned := { name := "ytjklnfcoaakkgaadoor", sum := "b68c658fd4b6334f63706e6a8c193cb25ec8e8d54c790da6dc98137d90408960", checked := Tryd.checked }
namespace Rows
def none {H : Type} : Left H := { results := [], args := [] }

/- WHAT THE LISTED PACKAGE-LEVEL VARIABLES READ AS WHEN THE CALL BEGINS. Each datum BY PROGRAM (the guide's laid-datum.mjs) off the statement by which the dump's own 'gosem.cut.vars' lays the variable. In a bare row this is a premise. The card (YtjklnfcoaakkgaaDoorCards.lean) ties it to the program's text. -/
def laid_unicode_utf8_acceptRanges {H : Type} : DataW H := .agg [.agg [.lit (.int .u8 128), .lit (.int .u8 191)], .agg [.lit (.int .u8 160), .lit (.int .u8 191)], .agg [.lit (.int .u8 128), .lit (.int .u8 159)], .agg [.lit (.int .u8 144), .lit (.int .u8 191)], .agg [.lit (.int .u8 128), .lit (.int .u8 143)], .agg [.lit (.int .u8 0), .lit (.int .u8 0)], .agg [.lit (.int .u8 0), .lit (.int .u8 0)], .agg [.lit (.int .u8 0), .lit (.int .u8 0)], .agg [.lit (.int .u8 0), .lit (.int .u8 0)], .agg [.lit (.int .u8 0), .lit (.int .u8 0)], .agg [.lit (.int .u8 0), .lit (.int .u8 0)], .agg [.lit (.int .u8 0), .lit (.int .u8 0)], .agg [.lit (.int .u8 0), .lit (.int .u8 0)], .agg [.lit (.int .u8 0), .lit (.int .u8 0)], .agg [.lit (.int .u8 0), .lit (.int .u8 0)], .agg [.lit (.int .u8 0), .lit (.int .u8 0)]]
/-- One of Go's own tables, pinned by name: the form's constant. -/
def laid_unicode_utf8_first : DataW Unit := Go.Pinned.utf8First

/-- 'laws.FnCsvBack': WHATEVER THE INPUT: true; the input reads as it did. -/
def fnCsvBackSpec : ChangeSpec := { name := "fnCsvBack", fn := fun _ => fun
  | [d] => { results := [.lit (.bool true)], args := [d] }
  | _ => none }
def fnCsvBackRow : OpenClaim := { program := "ytjklnfcoaakkgaadoor", sum := "b68c658fd4b6334f63706e6a8c193cb25ec8e8d54c790da6dc98137d90408960", func := "loop.example/g00417/laws.FnCsvBack", spec := "fnCsvBack", inPlace := ["internal/bytealg.IndexByteString", "internal/abi.NoEscape", "internal/bytealg.IndexString", "internal/bytealg.CountString", "internal/bytealg.MakeNoZero"], unfollowed := true, recurses := true, named := ["unicode/utf8.first", "unicode/utf8.acceptRanges", "internal/bytealg.MaxLen"], apart := false, laid := [("unicode/utf8.acceptRanges", laid_unicode_utf8_acceptRanges), ("unicode/utf8.first", laid_unicode_utf8_first)] }
def FnCsvBackSaid : Prop := fnCsvBackRow.holds Tryd.pinned (OpenSpec.ofChange fnCsvBackSpec)

/-- ITS FALSE NEIGHBOUR: 'it returns false'. Refute it at one input. -/
def fnCsvBackWrong : ChangeSpec := { name := "fnCsvBack", fn := fun _ => fun
  | [d] => { results := [.lit (.bool false)], args := [d] }
  | _ => none }
def FnCsvBackWrongFalsely : Prop := fnCsvBackRow.holds Tryd.pinned (OpenSpec.ofChange fnCsvBackWrong)

/-- 'laws.FnCsvOnce': WHATEVER THE INPUT: true; the input reads as it did. -/
def fnCsvOnceSpec : ChangeSpec := { name := "fnCsvOnce", fn := fun _ => fun
  | [d] => { results := [.lit (.bool true)], args := [d] }
  | _ => none }
def fnCsvOnceRow : OpenClaim := { program := "ytjklnfcoaakkgaadoor", sum := "b68c658fd4b6334f63706e6a8c193cb25ec8e8d54c790da6dc98137d90408960", func := "loop.example/g00417/laws.FnCsvOnce", spec := "fnCsvOnce", inPlace := ["internal/bytealg.IndexByteString", "internal/bytealg.IndexString", "internal/abi.NoEscape", "internal/bytealg.CountString", "internal/bytealg.MakeNoZero"], unfollowed := true, recurses := true, named := ["unicode/utf8.first", "unicode/utf8.acceptRanges", "internal/bytealg.MaxLen"], apart := false, laid := [("unicode/utf8.acceptRanges", laid_unicode_utf8_acceptRanges), ("unicode/utf8.first", laid_unicode_utf8_first)] }
def FnCsvOnceSaid : Prop := fnCsvOnceRow.holds Tryd.pinned (OpenSpec.ofChange fnCsvOnceSpec)

/-- ITS FALSE NEIGHBOUR: 'it returns false'. Refute it at one input. -/
def fnCsvOnceWrong : ChangeSpec := { name := "fnCsvOnce", fn := fun _ => fun
  | [d] => { results := [.lit (.bool false)], args := [d] }
  | _ => none }
def FnCsvOnceWrongFalsely : Prop := fnCsvOnceRow.holds Tryd.pinned (OpenSpec.ofChange fnCsvOnceWrong)

/-- 'laws.FnExactCsvRead': WHATEVER THE INPUT: true; the input reads as it did. -/
def fnExactCsvReadSpec : ChangeSpec := { name := "fnExactCsvRead", fn := fun _ => fun
  | [d] => { results := [.lit (.bool true)], args := [d] }
  | _ => none }
def fnExactCsvReadRow : OpenClaim := { program := "ytjklnfcoaakkgaadoor", sum := "b68c658fd4b6334f63706e6a8c193cb25ec8e8d54c790da6dc98137d90408960", func := "loop.example/g00417/laws.FnExactCsvRead", spec := "fnExactCsvRead", inPlace := ["internal/bytealg.IndexByteString", "internal/bytealg.IndexString"], unfollowed := true, recurses := true, named := ["unicode/utf8.first", "unicode/utf8.acceptRanges", "internal/bytealg.MaxLen"], apart := false, laid := [("unicode/utf8.acceptRanges", laid_unicode_utf8_acceptRanges), ("unicode/utf8.first", laid_unicode_utf8_first)] }
def FnExactCsvReadSaid : Prop := fnExactCsvReadRow.holds Tryd.pinned (OpenSpec.ofChange fnExactCsvReadSpec)

/-- ITS FALSE NEIGHBOUR: 'it returns false'. Refute it at one input. -/
def fnExactCsvReadWrong : ChangeSpec := { name := "fnExactCsvRead", fn := fun _ => fun
  | [d] => { results := [.lit (.bool false)], args := [d] }
  | _ => none }
def FnExactCsvReadWrongFalsely : Prop := fnExactCsvReadRow.holds Tryd.pinned (OpenSpec.ofChange fnExactCsvReadWrong)

/-- 'laws.FnExactCsvText': WHATEVER THE INPUT: true; the input reads as it did. -/
def fnExactCsvTextSpec : ChangeSpec := { name := "fnExactCsvText", fn := fun _ => fun
  | [d] => { results := [.lit (.bool true)], args := [d] }
  | _ => none }
def fnExactCsvTextRow : OpenClaim := { program := "ytjklnfcoaakkgaadoor", sum := "b68c658fd4b6334f63706e6a8c193cb25ec8e8d54c790da6dc98137d90408960", func := "loop.example/g00417/laws.FnExactCsvText", spec := "fnExactCsvText", inPlace := ["internal/bytealg.IndexByteString", "internal/abi.NoEscape", "internal/bytealg.IndexString", "internal/bytealg.CountString", "internal/bytealg.MakeNoZero"], unfollowed := true, recurses := true, named := ["unicode/utf8.first", "unicode/utf8.acceptRanges", "internal/bytealg.MaxLen"], apart := false, laid := [("unicode/utf8.acceptRanges", laid_unicode_utf8_acceptRanges), ("unicode/utf8.first", laid_unicode_utf8_first)] }
def FnExactCsvTextSaid : Prop := fnExactCsvTextRow.holds Tryd.pinned (OpenSpec.ofChange fnExactCsvTextSpec)

/-- ITS FALSE NEIGHBOUR: 'it returns false'. Refute it at one input. -/
def fnExactCsvTextWrong : ChangeSpec := { name := "fnExactCsvText", fn := fun _ => fun
  | [d] => { results := [.lit (.bool false)], args := [d] }
  | _ => none }
def FnExactCsvTextWrongFalsely : Prop := fnExactCsvTextRow.holds Tryd.pinned (OpenSpec.ofChange fnExactCsvTextWrong)

/-- 'laws.FnExactRowsOk': WHATEVER THE INPUT: true; the input reads as it did. -/
def fnExactRowsOkSpec : ChangeSpec := { name := "fnExactRowsOk", fn := fun _ => fun
  | [d] => { results := [.lit (.bool true)], args := [d] }
  | _ => none }
def fnExactRowsOkRow : OpenClaim := { program := "ytjklnfcoaakkgaadoor", sum := "b68c658fd4b6334f63706e6a8c193cb25ec8e8d54c790da6dc98137d90408960", func := "loop.example/g00417/laws.FnExactRowsOk", spec := "fnExactRowsOk", inPlace := ["internal/bytealg.IndexByteString"], named := ["unicode/utf8.first", "unicode/utf8.acceptRanges"], apart := false, laid := [("unicode/utf8.acceptRanges", laid_unicode_utf8_acceptRanges), ("unicode/utf8.first", laid_unicode_utf8_first)] }
def FnExactRowsOkSaid : Prop := fnExactRowsOkRow.holds Tryd.pinned (OpenSpec.ofChange fnExactRowsOkSpec)

/-- ITS FALSE NEIGHBOUR: 'it returns false'. Refute it at one input. -/
def fnExactRowsOkWrong : ChangeSpec := { name := "fnExactRowsOk", fn := fun _ => fun
  | [d] => { results := [.lit (.bool false)], args := [d] }
  | _ => none }
def FnExactRowsOkWrongFalsely : Prop := fnExactRowsOkRow.holds Tryd.pinned (OpenSpec.ofChange fnExactRowsOkWrong)

/- THE SECOND FORM. 'bulk': how many values and letters a reading holds, each counted each time it is reached (what is shared counts as often as it is met; a slice's spare places count too). A statement '..UptoSaid' is the law's where the arguments, and the package variables that the reading takes, are together of bulk at most 1048576: NARROWER than '..Said'. Prove '..Said' where nothing that the law and all that it calls make is longer than what came in: it says more and counts as full. Else prove '..UptoSaid'. A law counts once. -/
mutual
def uptoBulk {H : Type} : DataW H → Nat
  | .lit (.string bytes) => bytes.length + 1
  | .lit _ => 1
  | .nil => 1
  | .ptr d => uptoBulk d + 1
  | .slice elems spare => uptoBulkAll elems + uptoBulkAll spare + 1
  | .agg parts => uptoBulkAll parts + 1
  | .iface _ d => uptoBulk d + 1
  | .map entries => uptoBulkEntries entries + 1
  | .held _ => 1
def uptoBulkAll {H : Type} : List (DataW H) → Nat
  | [] => 0
  | d :: r => uptoBulk d + uptoBulkAll r
def uptoBulkEntries {H : Type} : List (Lit × DataW H) → Nat
  | [] => 0
  | x :: r => uptoBulkEntry x + uptoBulkEntries r
def uptoBulkEntry {H : Type} : Lit × DataW H → Nat
  | (.string bytes, d) => bytes.length + uptoBulk d + 1
  | (_, d) => uptoBulk d + 1
 end
def uptoSmall : (H : Type) → List (DataW H) → Bool := fun _ ds => decide (uptoBulkAll ds ≤ 1048576)
def OpenSpec.upto (s : _root_.Go.ChangeSpec) : _root_.Go.OpenSpec := { _root_.Go.OpenSpec.ofChange s with cond := some uptoSmall }

/-- 'laws.FnCsvBack', WHERE WHAT IT READS IS OF BULK AT MOST 1048576: true; the input reads as it did. -/
def fnCsvBackUptoRow : OpenClaim := { program := "ytjklnfcoaakkgaadoor", sum := "b68c658fd4b6334f63706e6a8c193cb25ec8e8d54c790da6dc98137d90408960", func := "loop.example/g00417/laws.FnCsvBack", spec := "fnCsvBack", inPlace := ["internal/bytealg.IndexByteString", "internal/abi.NoEscape", "internal/bytealg.IndexString", "internal/bytealg.CountString", "internal/bytealg.MakeNoZero"], unfollowed := true, recurses := true, named := ["unicode/utf8.first", "unicode/utf8.acceptRanges", "internal/bytealg.MaxLen"], apart := false, laid := [("unicode/utf8.acceptRanges", laid_unicode_utf8_acceptRanges), ("unicode/utf8.first", laid_unicode_utf8_first)], narrowed := true }
def FnCsvBackUptoSaid : Prop := fnCsvBackUptoRow.holds Tryd.pinned (OpenSpec.upto fnCsvBackSpec)

/-- 'laws.FnCsvOnce', WHERE WHAT IT READS IS OF BULK AT MOST 1048576: true; the input reads as it did. -/
def fnCsvOnceUptoRow : OpenClaim := { program := "ytjklnfcoaakkgaadoor", sum := "b68c658fd4b6334f63706e6a8c193cb25ec8e8d54c790da6dc98137d90408960", func := "loop.example/g00417/laws.FnCsvOnce", spec := "fnCsvOnce", inPlace := ["internal/bytealg.IndexByteString", "internal/bytealg.IndexString", "internal/abi.NoEscape", "internal/bytealg.CountString", "internal/bytealg.MakeNoZero"], unfollowed := true, recurses := true, named := ["unicode/utf8.first", "unicode/utf8.acceptRanges", "internal/bytealg.MaxLen"], apart := false, laid := [("unicode/utf8.acceptRanges", laid_unicode_utf8_acceptRanges), ("unicode/utf8.first", laid_unicode_utf8_first)], narrowed := true }
def FnCsvOnceUptoSaid : Prop := fnCsvOnceUptoRow.holds Tryd.pinned (OpenSpec.upto fnCsvOnceSpec)

/-- 'laws.FnExactCsvRead', WHERE WHAT IT READS IS OF BULK AT MOST 1048576: true; the input reads as it did. -/
def fnExactCsvReadUptoRow : OpenClaim := { program := "ytjklnfcoaakkgaadoor", sum := "b68c658fd4b6334f63706e6a8c193cb25ec8e8d54c790da6dc98137d90408960", func := "loop.example/g00417/laws.FnExactCsvRead", spec := "fnExactCsvRead", inPlace := ["internal/bytealg.IndexByteString", "internal/bytealg.IndexString"], unfollowed := true, recurses := true, named := ["unicode/utf8.first", "unicode/utf8.acceptRanges", "internal/bytealg.MaxLen"], apart := false, laid := [("unicode/utf8.acceptRanges", laid_unicode_utf8_acceptRanges), ("unicode/utf8.first", laid_unicode_utf8_first)], narrowed := true }
def FnExactCsvReadUptoSaid : Prop := fnExactCsvReadUptoRow.holds Tryd.pinned (OpenSpec.upto fnExactCsvReadSpec)

/-- 'laws.FnExactCsvText', WHERE WHAT IT READS IS OF BULK AT MOST 1048576: true; the input reads as it did. -/
def fnExactCsvTextUptoRow : OpenClaim := { program := "ytjklnfcoaakkgaadoor", sum := "b68c658fd4b6334f63706e6a8c193cb25ec8e8d54c790da6dc98137d90408960", func := "loop.example/g00417/laws.FnExactCsvText", spec := "fnExactCsvText", inPlace := ["internal/bytealg.IndexByteString", "internal/abi.NoEscape", "internal/bytealg.IndexString", "internal/bytealg.CountString", "internal/bytealg.MakeNoZero"], unfollowed := true, recurses := true, named := ["unicode/utf8.first", "unicode/utf8.acceptRanges", "internal/bytealg.MaxLen"], apart := false, laid := [("unicode/utf8.acceptRanges", laid_unicode_utf8_acceptRanges), ("unicode/utf8.first", laid_unicode_utf8_first)], narrowed := true }
def FnExactCsvTextUptoSaid : Prop := fnExactCsvTextUptoRow.holds Tryd.pinned (OpenSpec.upto fnExactCsvTextSpec)

/-- 'laws.FnExactRowsOk', WHERE WHAT IT READS IS OF BULK AT MOST 1048576: true; the input reads as it did. -/
def fnExactRowsOkUptoRow : OpenClaim := { program := "ytjklnfcoaakkgaadoor", sum := "b68c658fd4b6334f63706e6a8c193cb25ec8e8d54c790da6dc98137d90408960", func := "loop.example/g00417/laws.FnExactRowsOk", spec := "fnExactRowsOk", inPlace := ["internal/bytealg.IndexByteString"], named := ["unicode/utf8.first", "unicode/utf8.acceptRanges"], apart := false, laid := [("unicode/utf8.acceptRanges", laid_unicode_utf8_acceptRanges), ("unicode/utf8.first", laid_unicode_utf8_first)], narrowed := true }
def FnExactRowsOkUptoSaid : Prop := fnExactRowsOkUptoRow.holds Tryd.pinned (OpenSpec.upto fnExactRowsOkSpec)

end Rows
end Go.Proofs.YtjklnfcoaakkgaaDoor
