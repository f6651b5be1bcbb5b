/-
  NARROWER THAN 'FOR EVERY INPUT', by the rows' own cells (each row's printed sentence says how): CharrefNumbers: laid · CharrefOnes: laid · CharrefTexts: laid · CharrefBack: laid · CharrefNumeric: laid.
  DERIVED. THE GIVEN ROWS OF THIS SEAT. 5 by the template 'for every input the law returns true; each argument reads behind the call as it read before'; 0 by the template 'total and deterministic' (their statements: YtaadphifagimaaaDoorTotals.lean).
  GIVEN WITH THE SEED: the statements are not yours to turn. If you find one false, say at which input.
  Laid BY PROGRAM, IN A SANDBOX (cutbox-rows.mjs): the forced cells as the released guide's own fill.sh prints them over the translation 18de4ea7c6052757… (all of the seat's roots in one cut). By AI agents, Wed Nov 11 2026. No macro, syntax, notation, axiom, sorry.
-/
import Derived.Test.YtaadphifagimaaaDoorChecked
import GoSem.Claim
import GoSem.ClaimJoined
import GoSem.ClaimMapViews
import Derived.JoinedTies
import Derived.KernelRfl
namespace Go.Proofs.YtaadphifagimaaaDoor
/- THE CELL 'sum', in the pinned program and in every row, IS THE sha256 OF THE DUMP (.gsa) THAT YtaadphifagimaaaDoorProg.lean LOADS. Nothing in Lean hashes anything: it is a label: what it is worth is what the hold of that sum in a sandbox is worth. -/
noncomputable def Tryd.pinned : Pinned := { name := "ytaadphifagimaaadoor", sum := "18de4ea7c6052757c2854380132ab648ce0bf56830c3e1da9181c9a61893d79d", checked := Tryd.checked }
namespace Rows
def none {H : Type} : Left H := { results := [], args := [] }

/- WHAT THE LISTED PACKAGE-LEVEL VARIABLES READ AS WHEN THE CALL BEGINS. Each datum BY PROGRAM (the guide's laid-datum.mjs) off the statement by which the dump's own 'gosem.cut.vars' lays the variable. In a bare row this is a premise. The card (YtaadphifagimaaaDoorCards.lean) ties it to the program's text. -/
def laid_taffrail_charref_high {H : Type} : DataW H := .agg [.lit (.int .i32 8364), .lit (.int .i32 129), .lit (.int .i32 8218), .lit (.int .i32 402), .lit (.int .i32 8222), .lit (.int .i32 8230), .lit (.int .i32 8224), .lit (.int .i32 8225), .lit (.int .i32 710), .lit (.int .i32 8240), .lit (.int .i32 352), .lit (.int .i32 8249), .lit (.int .i32 338), .lit (.int .i32 141), .lit (.int .i32 381), .lit (.int .i32 143), .lit (.int .i32 144), .lit (.int .i32 8216), .lit (.int .i32 8217), .lit (.int .i32 8220), .lit (.int .i32 8221), .lit (.int .i32 8226), .lit (.int .i32 8211), .lit (.int .i32 8212), .lit (.int .i32 732), .lit (.int .i32 8482), .lit (.int .i32 353), .lit (.int .i32 8250), .lit (.int .i32 339), .lit (.int .i32 157), .lit (.int .i32 382), .lit (.int .i32 376)]

/-- 'taffraillaw06.CharrefNumbers': WHATEVER THE INPUT: true; the input reads as it did. -/
def charrefNumbersSpec : ChangeSpec := { name := "charrefNumbers", fn := fun _ => fun
  | [d] => { results := [.lit (.bool true)], args := [d] }
  | _ => none }
def charrefNumbersRow : OpenClaim := { program := "ytaadphifagimaaadoor", sum := "18de4ea7c6052757c2854380132ab648ce0bf56830c3e1da9181c9a61893d79d", func := "taffrail/taffraillaw06.CharrefNumbers", spec := "charrefNumbers", inPlace := ["internal/abi.NoEscape"], named := ["taffrail/charref.high"], apart := false, laid := [("taffrail/charref.high", laid_taffrail_charref_high)] }
def CharrefNumbersSaid : Prop := charrefNumbersRow.holds Tryd.pinned (OpenSpec.ofChange charrefNumbersSpec)

/-- ITS FALSE NEIGHBOUR: 'it returns false'. Refute it at one input. -/
def charrefNumbersWrong : ChangeSpec := { name := "charrefNumbers", fn := fun _ => fun
  | [d] => { results := [.lit (.bool false)], args := [d] }
  | _ => none }
def CharrefNumbersWrongFalsely : Prop := charrefNumbersRow.holds Tryd.pinned (OpenSpec.ofChange charrefNumbersWrong)

/-- 'taffraillaw06.CharrefOnes': WHATEVER THE INPUT: true; the input reads as it did. -/
def charrefOnesSpec : ChangeSpec := { name := "charrefOnes", fn := fun _ => fun
  | [d1, d2] => { results := [.lit (.bool true)], args := [d1, d2] }
  | _ => none }
def charrefOnesRow : OpenClaim := { program := "ytaadphifagimaaadoor", sum := "18de4ea7c6052757c2854380132ab648ce0bf56830c3e1da9181c9a61893d79d", func := "taffrail/taffraillaw06.CharrefOnes", spec := "charrefOnes", inPlace := ["internal/abi.NoEscape"], named := ["taffrail/charref.high"], apart := false, laid := [("taffrail/charref.high", laid_taffrail_charref_high)] }
def CharrefOnesSaid : Prop := charrefOnesRow.holds Tryd.pinned (OpenSpec.ofChange charrefOnesSpec)

/-- ITS FALSE NEIGHBOUR: 'it returns false'. Refute it at one input. -/
def charrefOnesWrong : ChangeSpec := { name := "charrefOnes", fn := fun _ => fun
  | [d1, d2] => { results := [.lit (.bool false)], args := [d1, d2] }
  | _ => none }
def CharrefOnesWrongFalsely : Prop := charrefOnesRow.holds Tryd.pinned (OpenSpec.ofChange charrefOnesWrong)

/-- 'taffraillaw06.CharrefTexts': WHATEVER THE INPUT: true; the input reads as it did. -/
def charrefTextsSpec : ChangeSpec := { name := "charrefTexts", fn := fun _ => fun
  | [d1, d2] => { results := [.lit (.bool true)], args := [d1, d2] }
  | _ => none }
def charrefTextsRow : OpenClaim := { program := "ytaadphifagimaaadoor", sum := "18de4ea7c6052757c2854380132ab648ce0bf56830c3e1da9181c9a61893d79d", func := "taffrail/taffraillaw06.CharrefTexts", spec := "charrefTexts", inPlace := ["internal/abi.NoEscape", "internal/bytealg.IndexByteString"], named := ["taffrail/charref.high"], apart := false, laid := [("taffrail/charref.high", laid_taffrail_charref_high)] }
def CharrefTextsSaid : Prop := charrefTextsRow.holds Tryd.pinned (OpenSpec.ofChange charrefTextsSpec)

/-- ITS FALSE NEIGHBOUR: 'it returns false'. Refute it at one input. -/
def charrefTextsWrong : ChangeSpec := { name := "charrefTexts", fn := fun _ => fun
  | [d1, d2] => { results := [.lit (.bool false)], args := [d1, d2] }
  | _ => none }
def CharrefTextsWrongFalsely : Prop := charrefTextsRow.holds Tryd.pinned (OpenSpec.ofChange charrefTextsWrong)

/-- 'taffraillaw06.CharrefBack': WHATEVER THE INPUT: true; the input reads as it did. -/
def charrefBackSpec : ChangeSpec := { name := "charrefBack", fn := fun _ => fun
  | [d1, d2] => { results := [.lit (.bool true)], args := [d1, d2] }
  | _ => none }
def charrefBackRow : OpenClaim := { program := "ytaadphifagimaaadoor", sum := "18de4ea7c6052757c2854380132ab648ce0bf56830c3e1da9181c9a61893d79d", func := "taffrail/taffraillaw06.CharrefBack", spec := "charrefBack", inPlace := ["internal/abi.NoEscape", "internal/bytealg.IndexByteString"], named := ["taffrail/charref.high"], apart := false, laid := [("taffrail/charref.high", laid_taffrail_charref_high)] }
def CharrefBackSaid : Prop := charrefBackRow.holds Tryd.pinned (OpenSpec.ofChange charrefBackSpec)

/-- ITS FALSE NEIGHBOUR: 'it returns false'. Refute it at one input. -/
def charrefBackWrong : ChangeSpec := { name := "charrefBack", fn := fun _ => fun
  | [d1, d2] => { results := [.lit (.bool false)], args := [d1, d2] }
  | _ => none }
def CharrefBackWrongFalsely : Prop := charrefBackRow.holds Tryd.pinned (OpenSpec.ofChange charrefBackWrong)

/-- 'taffraillaw06.CharrefNumeric': WHATEVER THE INPUT: true; the input reads as it did. -/
def charrefNumericSpec : ChangeSpec := { name := "charrefNumeric", fn := fun _ => fun
  | [d1, d2, d3] => { results := [.lit (.bool true)], args := [d1, d2, d3] }
  | _ => none }
def charrefNumericRow : OpenClaim := { program := "ytaadphifagimaaadoor", sum := "18de4ea7c6052757c2854380132ab648ce0bf56830c3e1da9181c9a61893d79d", func := "taffrail/taffraillaw06.CharrefNumeric", spec := "charrefNumeric", inPlace := ["internal/abi.NoEscape"], named := ["taffrail/charref.high"], apart := false, laid := [("taffrail/charref.high", laid_taffrail_charref_high)] }
def CharrefNumericSaid : Prop := charrefNumericRow.holds Tryd.pinned (OpenSpec.ofChange charrefNumericSpec)

/-- ITS FALSE NEIGHBOUR: 'it returns false'. Refute it at one input. -/
def charrefNumericWrong : ChangeSpec := { name := "charrefNumeric", fn := fun _ => fun
  | [d1, d2, d3] => { results := [.lit (.bool false)], args := [d1, d2, d3] }
  | _ => none }
def CharrefNumericWrongFalsely : Prop := charrefNumericRow.holds Tryd.pinned (OpenSpec.ofChange charrefNumericWrong)

/- THE SECOND FORM. 'bulk': how many values and letters a reading holds, each counted each time it is reached (what is shared counts as often as it is met; a slice's spare places count too). A statement '..UptoSaid' is the law's where the arguments, and the package variables that the reading takes, are together of bulk at most 1048576: NARROWER than '..Said'. Prove '..Said' where nothing that the law and all that it calls make is longer than what came in: it says more and counts as full. Else prove '..UptoSaid'. A law counts once. -/
mutual
def uptoBulk {H : Type} : DataW H → Nat
  | .lit (.string bytes) => bytes.length + 1
  | .lit _ => 1
  | .nil => 1
  | .ptr d => uptoBulk d + 1
  | .slice elems spare => uptoBulkAll elems + uptoBulkAll spare + 1
  | .agg parts => uptoBulkAll parts + 1
  | .iface _ d => uptoBulk d + 1
  | .map entries => uptoBulkEntries entries + 1
  | .held _ => 1
def uptoBulkAll {H : Type} : List (DataW H) → Nat
  | [] => 0
  | d :: r => uptoBulk d + uptoBulkAll r
def uptoBulkEntries {H : Type} : List (Lit × DataW H) → Nat
  | [] => 0
  | x :: r => uptoBulkEntry x + uptoBulkEntries r
def uptoBulkEntry {H : Type} : Lit × DataW H → Nat
  | (.string bytes, d) => bytes.length + uptoBulk d + 1
  | (_, d) => uptoBulk d + 1
 end
def uptoSmall : (H : Type) → List (DataW H) → Bool := fun _ ds => decide (uptoBulkAll ds ≤ 1048576)
def OpenSpec.upto (s : _root_.Go.ChangeSpec) : _root_.Go.OpenSpec := { _root_.Go.OpenSpec.ofChange s with cond := some uptoSmall }

/-- 'taffraillaw06.CharrefNumbers', WHERE WHAT IT READS IS OF BULK AT MOST 1048576: true; the input reads as it did. -/
def charrefNumbersUptoRow : OpenClaim := { program := "ytaadphifagimaaadoor", sum := "18de4ea7c6052757c2854380132ab648ce0bf56830c3e1da9181c9a61893d79d", func := "taffrail/taffraillaw06.CharrefNumbers", spec := "charrefNumbers", inPlace := ["internal/abi.NoEscape"], named := ["taffrail/charref.high"], apart := false, laid := [("taffrail/charref.high", laid_taffrail_charref_high)], narrowed := true }
def CharrefNumbersUptoSaid : Prop := charrefNumbersUptoRow.holds Tryd.pinned (OpenSpec.upto charrefNumbersSpec)

/-- 'taffraillaw06.CharrefOnes', WHERE WHAT IT READS IS OF BULK AT MOST 1048576: true; the input reads as it did. -/
def charrefOnesUptoRow : OpenClaim := { program := "ytaadphifagimaaadoor", sum := "18de4ea7c6052757c2854380132ab648ce0bf56830c3e1da9181c9a61893d79d", func := "taffrail/taffraillaw06.CharrefOnes", spec := "charrefOnes", inPlace := ["internal/abi.NoEscape"], named := ["taffrail/charref.high"], apart := false, laid := [("taffrail/charref.high", laid_taffrail_charref_high)], narrowed := true }
def CharrefOnesUptoSaid : Prop := charrefOnesUptoRow.holds Tryd.pinned (OpenSpec.upto charrefOnesSpec)

/-- 'taffraillaw06.CharrefTexts', WHERE WHAT IT READS IS OF BULK AT MOST 1048576: true; the input reads as it did. -/
def charrefTextsUptoRow : OpenClaim := { program := "ytaadphifagimaaadoor", sum := "18de4ea7c6052757c2854380132ab648ce0bf56830c3e1da9181c9a61893d79d", func := "taffrail/taffraillaw06.CharrefTexts", spec := "charrefTexts", inPlace := ["internal/abi.NoEscape", "internal/bytealg.IndexByteString"], named := ["taffrail/charref.high"], apart := false, laid := [("taffrail/charref.high", laid_taffrail_charref_high)], narrowed := true }
def CharrefTextsUptoSaid : Prop := charrefTextsUptoRow.holds Tryd.pinned (OpenSpec.upto charrefTextsSpec)

/-- 'taffraillaw06.CharrefBack', WHERE WHAT IT READS IS OF BULK AT MOST 1048576: true; the input reads as it did. -/
def charrefBackUptoRow : OpenClaim := { program := "ytaadphifagimaaadoor", sum := "18de4ea7c6052757c2854380132ab648ce0bf56830c3e1da9181c9a61893d79d", func := "taffrail/taffraillaw06.CharrefBack", spec := "charrefBack", inPlace := ["internal/abi.NoEscape", "internal/bytealg.IndexByteString"], named := ["taffrail/charref.high"], apart := false, laid := [("taffrail/charref.high", laid_taffrail_charref_high)], narrowed := true }
def CharrefBackUptoSaid : Prop := charrefBackUptoRow.holds Tryd.pinned (OpenSpec.upto charrefBackSpec)

/-- 'taffraillaw06.CharrefNumeric', WHERE WHAT IT READS IS OF BULK AT MOST 1048576: true; the input reads as it did. -/
def charrefNumericUptoRow : OpenClaim := { program := "ytaadphifagimaaadoor", sum := "18de4ea7c6052757c2854380132ab648ce0bf56830c3e1da9181c9a61893d79d", func := "taffrail/taffraillaw06.CharrefNumeric", spec := "charrefNumeric", inPlace := ["internal/abi.NoEscape"], named := ["taffrail/charref.high"], apart := false, laid := [("taffrail/charref.high", laid_taffrail_charref_high)], narrowed := true }
def CharrefNumericUptoSaid : Prop := charrefNumericUptoRow.holds Tryd.pinned (OpenSpec.upto charrefNumericSpec)

end Rows
end Go.Proofs.YtaadphifagimaaaDoor
