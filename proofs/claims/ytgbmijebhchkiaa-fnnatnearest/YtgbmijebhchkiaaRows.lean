/-
  No cell of these rows narrows 'for every input' (looked for: loops, veiled, ifaces, maps, wideKeys, modest, calm, conditions, laid).
  DERIVED. THE GIVEN ROWS OF THIS SEAT. 11 by the template 'for every input the law returns true; each argument reads behind the call as it read before'; 0 by the template 'total and deterministic' (their statements: YtgbmijebhchkiaaTotals.lean).
  GIVEN WITH THE SEED: the statements are not yours to turn. If you find one false, say at which input.
  Laid BY PROGRAM, IN A SANDBOX (cutbox-rows.mjs): the forced cells as the released guide's own fill.sh prints them over the translation 150d45a4b19630e5… (all of the seat's roots in one cut). By AI agents, Wed Nov 11 2026. No macro, syntax, notation, axiom, sorry.
-/
import Derived.Test.YtgbmijebhchkiaaChecked
import GoSem.Claim
import GoSem.ClaimJoined
import GoSem.ClaimMapViews
import Derived.JoinedTies
import Derived.KernelRfl
namespace Go.Proofs.Ytgbmijebhchkiaa
/- THE CELL 'sum', in the pinned program and in every row, IS THE sha256 OF THE DUMP (.gsa) THAT YtgbmijebhchkiaaProg.lean LOADS. Nothing in Lean hashes anything: it is a label: what it is worth is what the hold of that sum in a sandbox is worth. -/
noncomputable def Try.pinned : Pinned := { name := "ytgbmijebhchkiaa", sum := "150d45a4b19630e53cec6f44eda45ec5d797fa03272fab21e671d6de00f19b3d", checked := Try.checked }
namespace Rows
def none {H : Type} : Left H := { results := [], args := [] }

/-- 'laws.FnNatDivides': WHATEVER THE INPUT: true; the input reads as it did. -/
def fnNatDividesSpec : ChangeSpec := { name := "fnNatDivides", fn := fun _ => fun
  | [d] => { results := [.lit (.bool true)], args := [d] }
  | _ => none }
def fnNatDividesRow : OpenClaim := { program := "ytgbmijebhchkiaa", sum := "150d45a4b19630e53cec6f44eda45ec5d797fa03272fab21e671d6de00f19b3d", func := "loop.example/g00417/laws.FnNatDivides", spec := "fnNatDivides", apart := false }
def FnNatDividesSaid : Prop := fnNatDividesRow.holds Try.pinned (OpenSpec.ofChange fnNatDividesSpec)

/-- ITS FALSE NEIGHBOUR: 'it returns false'. Refute it at one input. -/
def fnNatDividesWrong : ChangeSpec := { name := "fnNatDivides", fn := fun _ => fun
  | [d] => { results := [.lit (.bool false)], args := [d] }
  | _ => none }
def FnNatDividesWrongFalsely : Prop := fnNatDividesRow.holds Try.pinned (OpenSpec.ofChange fnNatDividesWrong)

/-- 'laws.FnNatSums': WHATEVER THE INPUT: true; the input reads as it did. -/
def fnNatSumsSpec : ChangeSpec := { name := "fnNatSums", fn := fun _ => fun
  | [d] => { results := [.lit (.bool true)], args := [d] }
  | _ => none }
def fnNatSumsRow : OpenClaim := { program := "ytgbmijebhchkiaa", sum := "150d45a4b19630e53cec6f44eda45ec5d797fa03272fab21e671d6de00f19b3d", func := "loop.example/g00417/laws.FnNatSums", spec := "fnNatSums", apart := false }
def FnNatSumsSaid : Prop := fnNatSumsRow.holds Try.pinned (OpenSpec.ofChange fnNatSumsSpec)

/-- ITS FALSE NEIGHBOUR: 'it returns false'. Refute it at one input. -/
def fnNatSumsWrong : ChangeSpec := { name := "fnNatSums", fn := fun _ => fun
  | [d] => { results := [.lit (.bool false)], args := [d] }
  | _ => none }
def FnNatSumsWrongFalsely : Prop := fnNatSumsRow.holds Try.pinned (OpenSpec.ofChange fnNatSumsWrong)

/-- 'laws.FnNatNearest': WHATEVER THE INPUT: true; the input reads as it did. -/
def fnNatNearestSpec : ChangeSpec := { name := "fnNatNearest", fn := fun _ => fun
  | [d] => { results := [.lit (.bool true)], args := [d] }
  | _ => none }
def fnNatNearestRow : OpenClaim := { program := "ytgbmijebhchkiaa", sum := "150d45a4b19630e53cec6f44eda45ec5d797fa03272fab21e671d6de00f19b3d", func := "loop.example/g00417/laws.FnNatNearest", spec := "fnNatNearest", apart := false }
def FnNatNearestSaid : Prop := fnNatNearestRow.holds Try.pinned (OpenSpec.ofChange fnNatNearestSpec)

/-- ITS FALSE NEIGHBOUR: 'it returns false'. Refute it at one input. -/
def fnNatNearestWrong : ChangeSpec := { name := "fnNatNearest", fn := fun _ => fun
  | [d] => { results := [.lit (.bool false)], args := [d] }
  | _ => none }
def FnNatNearestWrongFalsely : Prop := fnNatNearestRow.holds Try.pinned (OpenSpec.ofChange fnNatNearestWrong)

/-- 'laws.FnExactNatOk': WHATEVER THE INPUT: true; the input reads as it did. -/
def fnExactNatOkSpec : ChangeSpec := { name := "fnExactNatOk", fn := fun _ => fun
  | [d] => { results := [.lit (.bool true)], args := [d] }
  | _ => none }
def fnExactNatOkRow : OpenClaim := { program := "ytgbmijebhchkiaa", sum := "150d45a4b19630e53cec6f44eda45ec5d797fa03272fab21e671d6de00f19b3d", func := "loop.example/g00417/laws.FnExactNatOk", spec := "fnExactNatOk", apart := false }
def FnExactNatOkSaid : Prop := fnExactNatOkRow.holds Try.pinned (OpenSpec.ofChange fnExactNatOkSpec)

/-- ITS FALSE NEIGHBOUR: 'it returns false'. Refute it at one input. -/
def fnExactNatOkWrong : ChangeSpec := { name := "fnExactNatOk", fn := fun _ => fun
  | [d] => { results := [.lit (.bool false)], args := [d] }
  | _ => none }
def FnExactNatOkWrongFalsely : Prop := fnExactNatOkRow.holds Try.pinned (OpenSpec.ofChange fnExactNatOkWrong)

/-- 'laws.FnExactNatCmp': WHATEVER THE INPUT: true; the input reads as it did. -/
def fnExactNatCmpSpec : ChangeSpec := { name := "fnExactNatCmp", fn := fun _ => fun
  | [d1, d2] => { results := [.lit (.bool true)], args := [d1, d2] }
  | _ => none }
def fnExactNatCmpRow : OpenClaim := { program := "ytgbmijebhchkiaa", sum := "150d45a4b19630e53cec6f44eda45ec5d797fa03272fab21e671d6de00f19b3d", func := "loop.example/g00417/laws.FnExactNatCmp", spec := "fnExactNatCmp", apart := false }
def FnExactNatCmpSaid : Prop := fnExactNatCmpRow.holds Try.pinned (OpenSpec.ofChange fnExactNatCmpSpec)

/-- ITS FALSE NEIGHBOUR: 'it returns false'. Refute it at one input. -/
def fnExactNatCmpWrong : ChangeSpec := { name := "fnExactNatCmp", fn := fun _ => fun
  | [d1, d2] => { results := [.lit (.bool false)], args := [d1, d2] }
  | _ => none }
def FnExactNatCmpWrongFalsely : Prop := fnExactNatCmpRow.holds Try.pinned (OpenSpec.ofChange fnExactNatCmpWrong)

/-- 'laws.FnExactNatAdd': WHATEVER THE INPUT: true; the input reads as it did. -/
def fnExactNatAddSpec : ChangeSpec := { name := "fnExactNatAdd", fn := fun _ => fun
  | [d1, d2] => { results := [.lit (.bool true)], args := [d1, d2] }
  | _ => none }
def fnExactNatAddRow : OpenClaim := { program := "ytgbmijebhchkiaa", sum := "150d45a4b19630e53cec6f44eda45ec5d797fa03272fab21e671d6de00f19b3d", func := "loop.example/g00417/laws.FnExactNatAdd", spec := "fnExactNatAdd", apart := false }
def FnExactNatAddSaid : Prop := fnExactNatAddRow.holds Try.pinned (OpenSpec.ofChange fnExactNatAddSpec)

/-- ITS FALSE NEIGHBOUR: 'it returns false'. Refute it at one input. -/
def fnExactNatAddWrong : ChangeSpec := { name := "fnExactNatAdd", fn := fun _ => fun
  | [d1, d2] => { results := [.lit (.bool false)], args := [d1, d2] }
  | _ => none }
def FnExactNatAddWrongFalsely : Prop := fnExactNatAddRow.holds Try.pinned (OpenSpec.ofChange fnExactNatAddWrong)

/-- 'laws.FnExactNatSub': WHATEVER THE INPUT: true; the input reads as it did. -/
def fnExactNatSubSpec : ChangeSpec := { name := "fnExactNatSub", fn := fun _ => fun
  | [d1, d2] => { results := [.lit (.bool true)], args := [d1, d2] }
  | _ => none }
def fnExactNatSubRow : OpenClaim := { program := "ytgbmijebhchkiaa", sum := "150d45a4b19630e53cec6f44eda45ec5d797fa03272fab21e671d6de00f19b3d", func := "loop.example/g00417/laws.FnExactNatSub", spec := "fnExactNatSub", apart := false }
def FnExactNatSubSaid : Prop := fnExactNatSubRow.holds Try.pinned (OpenSpec.ofChange fnExactNatSubSpec)

/-- ITS FALSE NEIGHBOUR: 'it returns false'. Refute it at one input. -/
def fnExactNatSubWrong : ChangeSpec := { name := "fnExactNatSub", fn := fun _ => fun
  | [d1, d2] => { results := [.lit (.bool false)], args := [d1, d2] }
  | _ => none }
def FnExactNatSubWrongFalsely : Prop := fnExactNatSubRow.holds Try.pinned (OpenSpec.ofChange fnExactNatSubWrong)

/-- 'laws.FnExactNatMul': WHATEVER THE INPUT: true; the input reads as it did. -/
def fnExactNatMulSpec : ChangeSpec := { name := "fnExactNatMul", fn := fun _ => fun
  | [d1, d2] => { results := [.lit (.bool true)], args := [d1, d2] }
  | _ => none }
def fnExactNatMulRow : OpenClaim := { program := "ytgbmijebhchkiaa", sum := "150d45a4b19630e53cec6f44eda45ec5d797fa03272fab21e671d6de00f19b3d", func := "loop.example/g00417/laws.FnExactNatMul", spec := "fnExactNatMul", apart := false }
def FnExactNatMulSaid : Prop := fnExactNatMulRow.holds Try.pinned (OpenSpec.ofChange fnExactNatMulSpec)

/-- ITS FALSE NEIGHBOUR: 'it returns false'. Refute it at one input. -/
def fnExactNatMulWrong : ChangeSpec := { name := "fnExactNatMul", fn := fun _ => fun
  | [d1, d2] => { results := [.lit (.bool false)], args := [d1, d2] }
  | _ => none }
def FnExactNatMulWrongFalsely : Prop := fnExactNatMulRow.holds Try.pinned (OpenSpec.ofChange fnExactNatMulWrong)

/-- 'laws.FnExactNatDiv': WHATEVER THE INPUT: true; the input reads as it did. -/
def fnExactNatDivSpec : ChangeSpec := { name := "fnExactNatDiv", fn := fun _ => fun
  | [d1, d2] => { results := [.lit (.bool true)], args := [d1, d2] }
  | _ => none }
def fnExactNatDivRow : OpenClaim := { program := "ytgbmijebhchkiaa", sum := "150d45a4b19630e53cec6f44eda45ec5d797fa03272fab21e671d6de00f19b3d", func := "loop.example/g00417/laws.FnExactNatDiv", spec := "fnExactNatDiv", apart := false }
def FnExactNatDivSaid : Prop := fnExactNatDivRow.holds Try.pinned (OpenSpec.ofChange fnExactNatDivSpec)

/-- ITS FALSE NEIGHBOUR: 'it returns false'. Refute it at one input. -/
def fnExactNatDivWrong : ChangeSpec := { name := "fnExactNatDiv", fn := fun _ => fun
  | [d1, d2] => { results := [.lit (.bool false)], args := [d1, d2] }
  | _ => none }
def FnExactNatDivWrongFalsely : Prop := fnExactNatDivRow.holds Try.pinned (OpenSpec.ofChange fnExactNatDivWrong)

/-- 'laws.FnExactNatShift': WHATEVER THE INPUT: true; the input reads as it did. -/
def fnExactNatShiftSpec : ChangeSpec := { name := "fnExactNatShift", fn := fun _ => fun
  | [d1, d2] => { results := [.lit (.bool true)], args := [d1, d2] }
  | _ => none }
def fnExactNatShiftRow : OpenClaim := { program := "ytgbmijebhchkiaa", sum := "150d45a4b19630e53cec6f44eda45ec5d797fa03272fab21e671d6de00f19b3d", func := "loop.example/g00417/laws.FnExactNatShift", spec := "fnExactNatShift", apart := false }
def FnExactNatShiftSaid : Prop := fnExactNatShiftRow.holds Try.pinned (OpenSpec.ofChange fnExactNatShiftSpec)

/-- ITS FALSE NEIGHBOUR: 'it returns false'. Refute it at one input. -/
def fnExactNatShiftWrong : ChangeSpec := { name := "fnExactNatShift", fn := fun _ => fun
  | [d1, d2] => { results := [.lit (.bool false)], args := [d1, d2] }
  | _ => none }
def FnExactNatShiftWrongFalsely : Prop := fnExactNatShiftRow.holds Try.pinned (OpenSpec.ofChange fnExactNatShiftWrong)

/-- 'laws.FnExactNatRound': WHATEVER THE INPUT: true; the input reads as it did. -/
def fnExactNatRoundSpec : ChangeSpec := { name := "fnExactNatRound", fn := fun _ => fun
  | [d1, d2] => { results := [.lit (.bool true)], args := [d1, d2] }
  | _ => none }
def fnExactNatRoundRow : OpenClaim := { program := "ytgbmijebhchkiaa", sum := "150d45a4b19630e53cec6f44eda45ec5d797fa03272fab21e671d6de00f19b3d", func := "loop.example/g00417/laws.FnExactNatRound", spec := "fnExactNatRound", apart := false }
def FnExactNatRoundSaid : Prop := fnExactNatRoundRow.holds Try.pinned (OpenSpec.ofChange fnExactNatRoundSpec)

/-- ITS FALSE NEIGHBOUR: 'it returns false'. Refute it at one input. -/
def fnExactNatRoundWrong : ChangeSpec := { name := "fnExactNatRound", fn := fun _ => fun
  | [d1, d2] => { results := [.lit (.bool false)], args := [d1, d2] }
  | _ => none }
def FnExactNatRoundWrongFalsely : Prop := fnExactNatRoundRow.holds Try.pinned (OpenSpec.ofChange fnExactNatRoundWrong)

/- THE SECOND FORM. 'bulk': how many values and letters a reading holds, each counted each time it is reached (what is shared counts as often as it is met; a slice's spare places count too). A statement '..UptoSaid' is the law's where the arguments, and the package variables that the reading takes, are together of bulk at most 1048576: NARROWER than '..Said'. Prove '..Said' where nothing that the law and all that it calls make is longer than what came in: it says more and counts as full. Else prove '..UptoSaid'. A law counts once. -/
mutual
def uptoBulk {H : Type} : DataW H → Nat
  | .lit (.string bytes) => bytes.length + 1
  | .lit _ => 1
  | .nil => 1
  | .ptr d => uptoBulk d + 1
  | .slice elems spare => uptoBulkAll elems + uptoBulkAll spare + 1
  | .agg parts => uptoBulkAll parts + 1
  | .iface _ d => uptoBulk d + 1
  | .map entries => uptoBulkEntries entries + 1
  | .held _ => 1
def uptoBulkAll {H : Type} : List (DataW H) → Nat
  | [] => 0
  | d :: r => uptoBulk d + uptoBulkAll r
def uptoBulkEntries {H : Type} : List (Lit × DataW H) → Nat
  | [] => 0
  | x :: r => uptoBulkEntry x + uptoBulkEntries r
def uptoBulkEntry {H : Type} : Lit × DataW H → Nat
  | (.string bytes, d) => bytes.length + uptoBulk d + 1
  | (_, d) => uptoBulk d + 1
 end
def uptoSmall : (H : Type) → List (DataW H) → Bool := fun _ ds => decide (uptoBulkAll ds ≤ 1048576)
def OpenSpec.upto (s : _root_.Go.ChangeSpec) : _root_.Go.OpenSpec := { _root_.Go.OpenSpec.ofChange s with cond := some uptoSmall }

/-- 'laws.FnNatDivides', WHERE WHAT IT READS IS OF BULK AT MOST 1048576: true; the input reads as it did. -/
def fnNatDividesUptoRow : OpenClaim := { program := "ytgbmijebhchkiaa", sum := "150d45a4b19630e53cec6f44eda45ec5d797fa03272fab21e671d6de00f19b3d", func := "loop.example/g00417/laws.FnNatDivides", spec := "fnNatDivides", apart := false, narrowed := true }
def FnNatDividesUptoSaid : Prop := fnNatDividesUptoRow.holds Try.pinned (OpenSpec.upto fnNatDividesSpec)

/-- 'laws.FnNatSums', WHERE WHAT IT READS IS OF BULK AT MOST 1048576: true; the input reads as it did. -/
def fnNatSumsUptoRow : OpenClaim := { program := "ytgbmijebhchkiaa", sum := "150d45a4b19630e53cec6f44eda45ec5d797fa03272fab21e671d6de00f19b3d", func := "loop.example/g00417/laws.FnNatSums", spec := "fnNatSums", apart := false, narrowed := true }
def FnNatSumsUptoSaid : Prop := fnNatSumsUptoRow.holds Try.pinned (OpenSpec.upto fnNatSumsSpec)

/-- 'laws.FnNatNearest', WHERE WHAT IT READS IS OF BULK AT MOST 1048576: true; the input reads as it did. -/
def fnNatNearestUptoRow : OpenClaim := { program := "ytgbmijebhchkiaa", sum := "150d45a4b19630e53cec6f44eda45ec5d797fa03272fab21e671d6de00f19b3d", func := "loop.example/g00417/laws.FnNatNearest", spec := "fnNatNearest", apart := false, narrowed := true }
def FnNatNearestUptoSaid : Prop := fnNatNearestUptoRow.holds Try.pinned (OpenSpec.upto fnNatNearestSpec)

/-- 'laws.FnExactNatOk', WHERE WHAT IT READS IS OF BULK AT MOST 1048576: true; the input reads as it did. -/
def fnExactNatOkUptoRow : OpenClaim := { program := "ytgbmijebhchkiaa", sum := "150d45a4b19630e53cec6f44eda45ec5d797fa03272fab21e671d6de00f19b3d", func := "loop.example/g00417/laws.FnExactNatOk", spec := "fnExactNatOk", apart := false, narrowed := true }
def FnExactNatOkUptoSaid : Prop := fnExactNatOkUptoRow.holds Try.pinned (OpenSpec.upto fnExactNatOkSpec)

/-- 'laws.FnExactNatCmp', WHERE WHAT IT READS IS OF BULK AT MOST 1048576: true; the input reads as it did. -/
def fnExactNatCmpUptoRow : OpenClaim := { program := "ytgbmijebhchkiaa", sum := "150d45a4b19630e53cec6f44eda45ec5d797fa03272fab21e671d6de00f19b3d", func := "loop.example/g00417/laws.FnExactNatCmp", spec := "fnExactNatCmp", apart := false, narrowed := true }
def FnExactNatCmpUptoSaid : Prop := fnExactNatCmpUptoRow.holds Try.pinned (OpenSpec.upto fnExactNatCmpSpec)

/-- 'laws.FnExactNatAdd', WHERE WHAT IT READS IS OF BULK AT MOST 1048576: true; the input reads as it did. -/
def fnExactNatAddUptoRow : OpenClaim := { program := "ytgbmijebhchkiaa", sum := "150d45a4b19630e53cec6f44eda45ec5d797fa03272fab21e671d6de00f19b3d", func := "loop.example/g00417/laws.FnExactNatAdd", spec := "fnExactNatAdd", apart := false, narrowed := true }
def FnExactNatAddUptoSaid : Prop := fnExactNatAddUptoRow.holds Try.pinned (OpenSpec.upto fnExactNatAddSpec)

/-- 'laws.FnExactNatSub', WHERE WHAT IT READS IS OF BULK AT MOST 1048576: true; the input reads as it did. -/
def fnExactNatSubUptoRow : OpenClaim := { program := "ytgbmijebhchkiaa", sum := "150d45a4b19630e53cec6f44eda45ec5d797fa03272fab21e671d6de00f19b3d", func := "loop.example/g00417/laws.FnExactNatSub", spec := "fnExactNatSub", apart := false, narrowed := true }
def FnExactNatSubUptoSaid : Prop := fnExactNatSubUptoRow.holds Try.pinned (OpenSpec.upto fnExactNatSubSpec)

/-- 'laws.FnExactNatMul', WHERE WHAT IT READS IS OF BULK AT MOST 1048576: true; the input reads as it did. -/
def fnExactNatMulUptoRow : OpenClaim := { program := "ytgbmijebhchkiaa", sum := "150d45a4b19630e53cec6f44eda45ec5d797fa03272fab21e671d6de00f19b3d", func := "loop.example/g00417/laws.FnExactNatMul", spec := "fnExactNatMul", apart := false, narrowed := true }
def FnExactNatMulUptoSaid : Prop := fnExactNatMulUptoRow.holds Try.pinned (OpenSpec.upto fnExactNatMulSpec)

/-- 'laws.FnExactNatDiv', WHERE WHAT IT READS IS OF BULK AT MOST 1048576: true; the input reads as it did. -/
def fnExactNatDivUptoRow : OpenClaim := { program := "ytgbmijebhchkiaa", sum := "150d45a4b19630e53cec6f44eda45ec5d797fa03272fab21e671d6de00f19b3d", func := "loop.example/g00417/laws.FnExactNatDiv", spec := "fnExactNatDiv", apart := false, narrowed := true }
def FnExactNatDivUptoSaid : Prop := fnExactNatDivUptoRow.holds Try.pinned (OpenSpec.upto fnExactNatDivSpec)

/-- 'laws.FnExactNatShift', WHERE WHAT IT READS IS OF BULK AT MOST 1048576: true; the input reads as it did. -/
def fnExactNatShiftUptoRow : OpenClaim := { program := "ytgbmijebhchkiaa", sum := "150d45a4b19630e53cec6f44eda45ec5d797fa03272fab21e671d6de00f19b3d", func := "loop.example/g00417/laws.FnExactNatShift", spec := "fnExactNatShift", apart := false, narrowed := true }
def FnExactNatShiftUptoSaid : Prop := fnExactNatShiftUptoRow.holds Try.pinned (OpenSpec.upto fnExactNatShiftSpec)

/-- 'laws.FnExactNatRound', WHERE WHAT IT READS IS OF BULK AT MOST 1048576: true; the input reads as it did. -/
def fnExactNatRoundUptoRow : OpenClaim := { program := "ytgbmijebhchkiaa", sum := "150d45a4b19630e53cec6f44eda45ec5d797fa03272fab21e671d6de00f19b3d", func := "loop.example/g00417/laws.FnExactNatRound", spec := "fnExactNatRound", apart := false, narrowed := true }
def FnExactNatRoundUptoSaid : Prop := fnExactNatRoundUptoRow.holds Try.pinned (OpenSpec.upto fnExactNatRoundSpec)

end Rows
end Go.Proofs.Ytgbmijebhchkiaa
