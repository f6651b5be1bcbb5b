/-
  NARROWER THAN 'FOR EVERY INPUT', by the rows' own cells (each row's printed sentence says how): TokenizerFeeds: laid · TokenizerCopies: laid · TokenizerSpans: laid · TokenizerPlain: laid · TokenizerAttrs: laid · TokenizerNone: laid.
  DERIVED. THE GIVEN ROWS OF THIS SEAT. 6 by the template 'for every input the law returns true; each argument reads behind the call as it read before'; 0 by the template 'total and deterministic' (their statements: YtjjfalbngcbfaaaGreatDoorTotals.lean).
  GIVEN WITH THE SEED: the statements are not yours to turn. If you find one false, say at which input.
  Laid BY PROGRAM, IN A SANDBOX (cutbox-rows.mjs): the forced cells as the released guide's own fill.sh prints them over the translation 01ac96d9c8c77e0c… (all of the seat's roots in one cut). By AI agents, Wed Nov 11 2026. No macro, syntax, notation, axiom, sorry.
-/
import Derived.Test.YtjjfalbngcbfaaaGreatDoorChecked
import GoSem.Claim
import GoSem.ClaimJoined
import GoSem.ClaimMapViews
import Derived.JoinedTies
import Derived.KernelRfl
namespace Go.Proofs.YtjjfalbngcbfaaaGreatDoor
/- THE CELL 'sum', in the pinned program and in every row, IS THE sha256 OF THE DUMP (.gsa) THAT YtjjfalbngcbfaaaGreatDoorProg.lean LOADS. Nothing in Lean hashes anything: it is a label: what it is worth is what the hold of that sum in a sandbox is worth. -/
noncomputable def Tryz.pinned : Pinned := { name := "ytjjfalbngcbfaaagreatdoor", sum := "01ac96d9c8c77e0c27c85d3aa357079d538a794032905bc0ae440c0d10a26835", checked := Tryz.checked }
namespace Rows
def none {H : Type} : Left H := { results := [], args := [] }

/- WHAT THE LISTED PACKAGE-LEVEL VARIABLES READ AS WHEN THE CALL BEGINS. Each datum BY PROGRAM (the guide's laid-datum.mjs) off the statement by which the dump's own 'gosem.cut.vars' lays the variable. In a bare row this is a premise. The card (YtjjfalbngcbfaaaGreatDoorCards.lean) ties it to the program's text. -/
def laid_taffrail_charref_high {H : Type} : DataW H := .agg [.lit (.int .i32 8364), .lit (.int .i32 129), .lit (.int .i32 8218), .lit (.int .i32 402), .lit (.int .i32 8222), .lit (.int .i32 8230), .lit (.int .i32 8224), .lit (.int .i32 8225), .lit (.int .i32 710), .lit (.int .i32 8240), .lit (.int .i32 352), .lit (.int .i32 8249), .lit (.int .i32 338), .lit (.int .i32 141), .lit (.int .i32 381), .lit (.int .i32 143), .lit (.int .i32 144), .lit (.int .i32 8216), .lit (.int .i32 8217), .lit (.int .i32 8220), .lit (.int .i32 8221), .lit (.int .i32 8226), .lit (.int .i32 8211), .lit (.int .i32 8212), .lit (.int .i32 732), .lit (.int .i32 8482), .lit (.int .i32 353), .lit (.int .i32 8250), .lit (.int .i32 339), .lit (.int .i32 157), .lit (.int .i32 382), .lit (.int .i32 376)]

/-- 'taffraillaw10.TokenizerFeeds': WHATEVER THE INPUT: true; the input reads as it did. -/
def tokenizerFeedsSpec : ChangeSpec := { name := "tokenizerFeeds", fn := fun _ => fun
  | [d1, d2, d3] => { results := [.lit (.bool true)], args := [d1, d2, d3] }
  | _ => none }
def tokenizerFeedsRow : OpenClaim := { program := "ytjjfalbngcbfaaagreatdoor", sum := "01ac96d9c8c77e0c27c85d3aa357079d538a794032905bc0ae440c0d10a26835", func := "taffrail/taffraillaw10.TokenizerFeeds", spec := "tokenizerFeeds", inPlace := ["internal/abi.NoEscape"], unfollowed := true, recurses := true, named := ["taffrail/charref.high"], apart := false, laid := [("taffrail/charref.high", laid_taffrail_charref_high)] }
def TokenizerFeedsSaid : Prop := tokenizerFeedsRow.holds Tryz.pinned (OpenSpec.ofChange tokenizerFeedsSpec)

/-- ITS FALSE NEIGHBOUR: 'it returns false'. Refute it at one input. -/
def tokenizerFeedsWrong : ChangeSpec := { name := "tokenizerFeeds", fn := fun _ => fun
  | [d1, d2, d3] => { results := [.lit (.bool false)], args := [d1, d2, d3] }
  | _ => none }
def TokenizerFeedsWrongFalsely : Prop := tokenizerFeedsRow.holds Tryz.pinned (OpenSpec.ofChange tokenizerFeedsWrong)

/-- 'taffraillaw10.TokenizerCopies': WHATEVER THE INPUT: true; the input reads as it did. -/
def tokenizerCopiesSpec : ChangeSpec := { name := "tokenizerCopies", fn := fun _ => fun
  | [d1, d2, d3] => { results := [.lit (.bool true)], args := [d1, d2, d3] }
  | _ => none }
def tokenizerCopiesRow : OpenClaim := { program := "ytjjfalbngcbfaaagreatdoor", sum := "01ac96d9c8c77e0c27c85d3aa357079d538a794032905bc0ae440c0d10a26835", func := "taffrail/taffraillaw10.TokenizerCopies", spec := "tokenizerCopies", inPlace := ["internal/abi.NoEscape", "maps.clone"], unfollowed := true, recurses := true, named := ["taffrail/charref.high"], apart := false, laid := [("taffrail/charref.high", laid_taffrail_charref_high)] }
def TokenizerCopiesSaid : Prop := tokenizerCopiesRow.holds Tryz.pinned (OpenSpec.ofChange tokenizerCopiesSpec)

/-- ITS FALSE NEIGHBOUR: 'it returns false'. Refute it at one input. -/
def tokenizerCopiesWrong : ChangeSpec := { name := "tokenizerCopies", fn := fun _ => fun
  | [d1, d2, d3] => { results := [.lit (.bool false)], args := [d1, d2, d3] }
  | _ => none }
def TokenizerCopiesWrongFalsely : Prop := tokenizerCopiesRow.holds Tryz.pinned (OpenSpec.ofChange tokenizerCopiesWrong)

/-- 'taffraillaw10.TokenizerSpans': WHATEVER THE INPUT: true; the input reads as it did. -/
def tokenizerSpansSpec : ChangeSpec := { name := "tokenizerSpans", fn := fun _ => fun
  | [d1, d2, d3] => { results := [.lit (.bool true)], args := [d1, d2, d3] }
  | _ => none }
def tokenizerSpansRow : OpenClaim := { program := "ytjjfalbngcbfaaagreatdoor", sum := "01ac96d9c8c77e0c27c85d3aa357079d538a794032905bc0ae440c0d10a26835", func := "taffrail/taffraillaw10.TokenizerSpans", spec := "tokenizerSpans", inPlace := ["internal/abi.NoEscape"], unfollowed := true, recurses := true, named := ["taffrail/charref.high"], apart := false, laid := [("taffrail/charref.high", laid_taffrail_charref_high)] }
def TokenizerSpansSaid : Prop := tokenizerSpansRow.holds Tryz.pinned (OpenSpec.ofChange tokenizerSpansSpec)

/-- ITS FALSE NEIGHBOUR: 'it returns false'. Refute it at one input. -/
def tokenizerSpansWrong : ChangeSpec := { name := "tokenizerSpans", fn := fun _ => fun
  | [d1, d2, d3] => { results := [.lit (.bool false)], args := [d1, d2, d3] }
  | _ => none }
def TokenizerSpansWrongFalsely : Prop := tokenizerSpansRow.holds Tryz.pinned (OpenSpec.ofChange tokenizerSpansWrong)

/-- 'taffraillaw10.TokenizerPlain': WHATEVER THE INPUT: true; the input reads as it did. -/
def tokenizerPlainSpec : ChangeSpec := { name := "tokenizerPlain", fn := fun _ => fun
  | [d] => { results := [.lit (.bool true)], args := [d] }
  | _ => none }
def tokenizerPlainRow : OpenClaim := { program := "ytjjfalbngcbfaaagreatdoor", sum := "01ac96d9c8c77e0c27c85d3aa357079d538a794032905bc0ae440c0d10a26835", func := "taffrail/taffraillaw10.TokenizerPlain", spec := "tokenizerPlain", inPlace := ["internal/abi.NoEscape"], unfollowed := true, recurses := true, named := ["taffrail/charref.high"], apart := false, laid := [("taffrail/charref.high", laid_taffrail_charref_high)] }
def TokenizerPlainSaid : Prop := tokenizerPlainRow.holds Tryz.pinned (OpenSpec.ofChange tokenizerPlainSpec)

/-- ITS FALSE NEIGHBOUR: 'it returns false'. Refute it at one input. -/
def tokenizerPlainWrong : ChangeSpec := { name := "tokenizerPlain", fn := fun _ => fun
  | [d] => { results := [.lit (.bool false)], args := [d] }
  | _ => none }
def TokenizerPlainWrongFalsely : Prop := tokenizerPlainRow.holds Tryz.pinned (OpenSpec.ofChange tokenizerPlainWrong)

/-- 'taffraillaw10.TokenizerAttrs': WHATEVER THE INPUT: true; the input reads as it did. -/
def tokenizerAttrsSpec : ChangeSpec := { name := "tokenizerAttrs", fn := fun _ => fun
  | [d1, d2] => { results := [.lit (.bool true)], args := [d1, d2] }
  | _ => none }
def tokenizerAttrsRow : OpenClaim := { program := "ytjjfalbngcbfaaagreatdoor", sum := "01ac96d9c8c77e0c27c85d3aa357079d538a794032905bc0ae440c0d10a26835", func := "taffrail/taffraillaw10.TokenizerAttrs", spec := "tokenizerAttrs", inPlace := ["internal/abi.NoEscape"], unfollowed := true, recurses := true, named := ["taffrail/charref.high"], apart := false, laid := [("taffrail/charref.high", laid_taffrail_charref_high)] }
def TokenizerAttrsSaid : Prop := tokenizerAttrsRow.holds Tryz.pinned (OpenSpec.ofChange tokenizerAttrsSpec)

/-- ITS FALSE NEIGHBOUR: 'it returns false'. Refute it at one input. -/
def tokenizerAttrsWrong : ChangeSpec := { name := "tokenizerAttrs", fn := fun _ => fun
  | [d1, d2] => { results := [.lit (.bool false)], args := [d1, d2] }
  | _ => none }
def TokenizerAttrsWrongFalsely : Prop := tokenizerAttrsRow.holds Tryz.pinned (OpenSpec.ofChange tokenizerAttrsWrong)

/-- 'taffraillaw10.TokenizerNone': WHATEVER THE INPUT: true; the input reads as it did. -/
def tokenizerNoneSpec : ChangeSpec := { name := "tokenizerNone", fn := fun _ => fun
  | [d] => { results := [.lit (.bool true)], args := [d] }
  | _ => none }
def tokenizerNoneRow : OpenClaim := { program := "ytjjfalbngcbfaaagreatdoor", sum := "01ac96d9c8c77e0c27c85d3aa357079d538a794032905bc0ae440c0d10a26835", func := "taffrail/taffraillaw10.TokenizerNone", spec := "tokenizerNone", inPlace := ["internal/abi.NoEscape", "maps.clone"], unfollowed := true, recurses := true, named := ["taffrail/charref.high"], apart := false, laid := [("taffrail/charref.high", laid_taffrail_charref_high)] }
def TokenizerNoneSaid : Prop := tokenizerNoneRow.holds Tryz.pinned (OpenSpec.ofChange tokenizerNoneSpec)

/-- ITS FALSE NEIGHBOUR: 'it returns false'. Refute it at one input. -/
def tokenizerNoneWrong : ChangeSpec := { name := "tokenizerNone", fn := fun _ => fun
  | [d] => { results := [.lit (.bool false)], args := [d] }
  | _ => none }
def TokenizerNoneWrongFalsely : Prop := tokenizerNoneRow.holds Tryz.pinned (OpenSpec.ofChange tokenizerNoneWrong)

/- THE SECOND FORM. 'bulk': how many values and letters a reading holds, each counted each time it is reached (what is shared counts as often as it is met; a slice's spare places count too). A statement '..UptoSaid' is the law's where the arguments, and the package variables that the reading takes, are together of bulk at most 1048576: NARROWER than '..Said'. Prove '..Said' where nothing that the law and all that it calls make is longer than what came in: it says more and counts as full. Else prove '..UptoSaid'. A law counts once. -/
mutual
def uptoBulk {H : Type} : DataW H → Nat
  | .lit (.string bytes) => bytes.length + 1
  | .lit _ => 1
  | .nil => 1
  | .ptr d => uptoBulk d + 1
  | .slice elems spare => uptoBulkAll elems + uptoBulkAll spare + 1
  | .agg parts => uptoBulkAll parts + 1
  | .iface _ d => uptoBulk d + 1
  | .map entries => uptoBulkEntries entries + 1
  | .held _ => 1
def uptoBulkAll {H : Type} : List (DataW H) → Nat
  | [] => 0
  | d :: r => uptoBulk d + uptoBulkAll r
def uptoBulkEntries {H : Type} : List (Lit × DataW H) → Nat
  | [] => 0
  | x :: r => uptoBulkEntry x + uptoBulkEntries r
def uptoBulkEntry {H : Type} : Lit × DataW H → Nat
  | (.string bytes, d) => bytes.length + uptoBulk d + 1
  | (_, d) => uptoBulk d + 1
 end
def uptoSmall : (H : Type) → List (DataW H) → Bool := fun _ ds => decide (uptoBulkAll ds ≤ 1048576)
def OpenSpec.upto (s : _root_.Go.ChangeSpec) : _root_.Go.OpenSpec := { _root_.Go.OpenSpec.ofChange s with cond := some uptoSmall }

/-- 'taffraillaw10.TokenizerFeeds', WHERE WHAT IT READS IS OF BULK AT MOST 1048576: true; the input reads as it did. -/
def tokenizerFeedsUptoRow : OpenClaim := { program := "ytjjfalbngcbfaaagreatdoor", sum := "01ac96d9c8c77e0c27c85d3aa357079d538a794032905bc0ae440c0d10a26835", func := "taffrail/taffraillaw10.TokenizerFeeds", spec := "tokenizerFeeds", inPlace := ["internal/abi.NoEscape"], unfollowed := true, recurses := true, named := ["taffrail/charref.high"], apart := false, laid := [("taffrail/charref.high", laid_taffrail_charref_high)], narrowed := true }
def TokenizerFeedsUptoSaid : Prop := tokenizerFeedsUptoRow.holds Tryz.pinned (OpenSpec.upto tokenizerFeedsSpec)

/-- 'taffraillaw10.TokenizerCopies', WHERE WHAT IT READS IS OF BULK AT MOST 1048576: true; the input reads as it did. -/
def tokenizerCopiesUptoRow : OpenClaim := { program := "ytjjfalbngcbfaaagreatdoor", sum := "01ac96d9c8c77e0c27c85d3aa357079d538a794032905bc0ae440c0d10a26835", func := "taffrail/taffraillaw10.TokenizerCopies", spec := "tokenizerCopies", inPlace := ["internal/abi.NoEscape", "maps.clone"], unfollowed := true, recurses := true, named := ["taffrail/charref.high"], apart := false, laid := [("taffrail/charref.high", laid_taffrail_charref_high)], narrowed := true }
def TokenizerCopiesUptoSaid : Prop := tokenizerCopiesUptoRow.holds Tryz.pinned (OpenSpec.upto tokenizerCopiesSpec)

/-- 'taffraillaw10.TokenizerSpans', WHERE WHAT IT READS IS OF BULK AT MOST 1048576: true; the input reads as it did. -/
def tokenizerSpansUptoRow : OpenClaim := { program := "ytjjfalbngcbfaaagreatdoor", sum := "01ac96d9c8c77e0c27c85d3aa357079d538a794032905bc0ae440c0d10a26835", func := "taffrail/taffraillaw10.TokenizerSpans", spec := "tokenizerSpans", inPlace := ["internal/abi.NoEscape"], unfollowed := true, recurses := true, named := ["taffrail/charref.high"], apart := false, laid := [("taffrail/charref.high", laid_taffrail_charref_high)], narrowed := true }
def TokenizerSpansUptoSaid : Prop := tokenizerSpansUptoRow.holds Tryz.pinned (OpenSpec.upto tokenizerSpansSpec)

/-- 'taffraillaw10.TokenizerPlain', WHERE WHAT IT READS IS OF BULK AT MOST 1048576: true; the input reads as it did. -/
def tokenizerPlainUptoRow : OpenClaim := { program := "ytjjfalbngcbfaaagreatdoor", sum := "01ac96d9c8c77e0c27c85d3aa357079d538a794032905bc0ae440c0d10a26835", func := "taffrail/taffraillaw10.TokenizerPlain", spec := "tokenizerPlain", inPlace := ["internal/abi.NoEscape"], unfollowed := true, recurses := true, named := ["taffrail/charref.high"], apart := false, laid := [("taffrail/charref.high", laid_taffrail_charref_high)], narrowed := true }
def TokenizerPlainUptoSaid : Prop := tokenizerPlainUptoRow.holds Tryz.pinned (OpenSpec.upto tokenizerPlainSpec)

/-- 'taffraillaw10.TokenizerAttrs', WHERE WHAT IT READS IS OF BULK AT MOST 1048576: true; the input reads as it did. -/
def tokenizerAttrsUptoRow : OpenClaim := { program := "ytjjfalbngcbfaaagreatdoor", sum := "01ac96d9c8c77e0c27c85d3aa357079d538a794032905bc0ae440c0d10a26835", func := "taffrail/taffraillaw10.TokenizerAttrs", spec := "tokenizerAttrs", inPlace := ["internal/abi.NoEscape"], unfollowed := true, recurses := true, named := ["taffrail/charref.high"], apart := false, laid := [("taffrail/charref.high", laid_taffrail_charref_high)], narrowed := true }
def TokenizerAttrsUptoSaid : Prop := tokenizerAttrsUptoRow.holds Tryz.pinned (OpenSpec.upto tokenizerAttrsSpec)

/-- 'taffraillaw10.TokenizerNone', WHERE WHAT IT READS IS OF BULK AT MOST 1048576: true; the input reads as it did. -/
def tokenizerNoneUptoRow : OpenClaim := { program := "ytjjfalbngcbfaaagreatdoor", sum := "01ac96d9c8c77e0c27c85d3aa357079d538a794032905bc0ae440c0d10a26835", func := "taffrail/taffraillaw10.TokenizerNone", spec := "tokenizerNone", inPlace := ["internal/abi.NoEscape", "maps.clone"], unfollowed := true, recurses := true, named := ["taffrail/charref.high"], apart := false, laid := [("taffrail/charref.high", laid_taffrail_charref_high)], narrowed := true }
def TokenizerNoneUptoSaid : Prop := tokenizerNoneUptoRow.holds Tryz.pinned (OpenSpec.upto tokenizerNoneSpec)

end Rows
end Go.Proofs.YtjjfalbngcbfaaaGreatDoor
