/-
  NARROWER THAN 'FOR EVERY INPUT', by the rows' own cells (each row's printed sentence says how): StackPlays: laid · StackCopies: laid · StackScopes: laid · StackImplied: laid · StackNone: laid.
  DERIVED. THE GIVEN ROWS OF THIS SEAT. 5 by the template 'for every input the law returns true; each argument reads behind the call as it read before'; 0 by the template 'total and deterministic' (their statements: YtkmghkfdegdikaaDoorTotals.lean).
  GIVEN WITH THE SEED: the statements are not yours to turn. If you find one false, say at which input.
  Laid BY PROGRAM, IN A SANDBOX (cutbox-rows.mjs): the forced cells as the released guide's own fill.sh prints them over the translation 7e8ccfdcc4260f1b… (all of the seat's roots in one cut). By AI agents, Wed Nov 11 2026. No macro, syntax, notation, axiom, sorry.
-/
import Derived.Test.YtkmghkfdegdikaaDoorChecked
import GoSem.Claim
import GoSem.ClaimJoined
import GoSem.ClaimMapViews
import Derived.JoinedTies
import Derived.KernelRfl
namespace Go.Proofs.YtkmghkfdegdikaaDoor
/- THE CELL 'sum', in the pinned program and in every row, IS THE sha256 OF THE DUMP (.gsa) THAT YtkmghkfdegdikaaDoorProg.lean LOADS. Nothing in Lean hashes anything: it is a label: what it is worth is what the hold of that sum in a sandbox is worth. -/
noncomputable def Tryd.pinned : Pinned := { name := "ytkmghkfdegdikaadoor", sum := "7e8ccfdcc4260f1b0953bc0f35413bada3192da8721eb4cf66be4bcba6a9eeb2", checked := Tryd.checked }
namespace Rows
def none {H : Type} : Left H := { results := [], args := [] }

/- WHAT THE LISTED PACKAGE-LEVEL VARIABLES READ AS WHEN THE CALL BEGINS. Each datum BY PROGRAM (the guide's laid-datum.mjs) off the statement by which the dump's own 'gosem.cut.vars' lays the variable. In a bare row this is a premise. The card (YtkmghkfdegdikaaDoorCards.lean) ties it to the program's text. -/
def laid_taffrail_vocab_lists {H : Type} : DataW H := .agg [.slice [.lit (.string [97, 114, 101, 97]), .lit (.string [98, 97, 115, 101]), .lit (.string [98, 114]), .lit (.string [99, 111, 108]), .lit (.string [101, 109, 98, 101, 100]), .lit (.string [104, 114]), .lit (.string [105, 109, 103]), .lit (.string [105, 110, 112, 117, 116]), .lit (.string [107, 101, 121, 103, 101, 110]), .lit (.string [108, 105, 110, 107]), .lit (.string [109, 101, 116, 97]), .lit (.string [112, 97, 114, 97, 109]), .lit (.string [115, 111, 117, 114, 99, 101]), .lit (.string [116, 114, 97, 99, 107]), .lit (.string [119, 98, 114])] [], .slice [.lit (.string [97]), .lit (.string [98]), .lit (.string [98, 105, 103]), .lit (.string [99, 111, 100, 101]), .lit (.string [101, 109]), .lit (.string [102, 111, 110, 116]), .lit (.string [105]), .lit (.string [110, 111, 98, 114]), .lit (.string [115]), .lit (.string [115, 109, 97, 108, 108]), .lit (.string [115, 116, 114, 105, 107, 101]), .lit (.string [115, 116, 114, 111, 110, 103]), .lit (.string [116, 116]), .lit (.string [117])] [], .slice [.lit (.string [100, 100]), .lit (.string [100, 116]), .lit (.string [108, 105]), .lit (.string [111, 112, 116, 103, 114, 111, 117, 112]), .lit (.string [111, 112, 116, 105, 111, 110]), .lit (.string [112]), .lit (.string [114, 98]), .lit (.string [114, 112]), .lit (.string [114, 116]), .lit (.string [114, 116, 99])] [], .slice [.lit (.string [104, 49]), .lit (.string [104, 50]), .lit (.string [104, 51]), .lit (.string [104, 52]), .lit (.string [104, 53]), .lit (.string [104, 54])] [], .slice [.lit (.string [97, 100, 100, 114, 101, 115, 115]), .lit (.string [97, 114, 116, 105, 99, 108, 101]), .lit (.string [97, 115, 105, 100, 101]), .lit (.string [98, 108, 111, 99, 107, 113, 117, 111, 116, 101]), .lit (.string [99, 101, 110, 116, 101, 114]), .lit (.string [100, 101, 116, 97, 105, 108, 115]), .lit (.string [100, 105, 97, 108, 111, 103]), .lit (.string [100, 105, 114]), .lit (.string [100, 105, 118]), .lit (.string [100, 108]), .lit (.string [102, 105, 101, 108, 100, 115, 101, 116]), .lit (.string [102, 105, 103, 99, 97, 112, 116, 105, 111, 110]), .lit (.string [102, 105, 103, 117, 114, 101]), .lit (.string [102, 111, 111, 116, 101, 114]), .lit (.string [104, 101, 97, 100, 101, 114]), .lit (.string [104, 103, 114, 111, 117, 112]), .lit (.string [109, 97, 105, 110]), .lit (.string [109, 101, 110, 117]), .lit (.string [110, 97, 118]), .lit (.string [111, 108]), .lit (.string [115, 101, 99, 116, 105, 111, 110]), .lit (.string [115, 117, 109, 109, 97, 114, 121]), .lit (.string [117, 108])] [], .slice [.lit (.string [97, 112, 112, 108, 101, 116]), .lit (.string [98, 111, 100, 121]), .lit (.string [98, 117, 116, 116, 111, 110]), .lit (.string [99, 97, 112, 116, 105, 111, 110]), .lit (.string [99, 111, 108, 103, 114, 111, 117, 112]), .lit (.string [100, 100]), .lit (.string [100, 116]), .lit (.string [102, 111, 114, 109]), .lit (.string [104, 101, 97, 100]), .lit (.string [104, 116, 109, 108]), .lit (.string [105, 102, 114, 97, 109, 101]), .lit (.string [108, 105]), .lit (.string [108, 105, 115, 116, 105, 110, 103]), .lit (.string [109, 97, 114, 113, 117, 101, 101]), .lit (.string [110, 111, 101, 109, 98, 101, 100]), .lit (.string [111, 98, 106, 101, 99, 116]), .lit (.string [112]), .lit (.string [112, 108, 97, 105, 110, 116, 101, 120, 116]), .lit (.string [112, 114, 101]), .lit (.string [115, 99, 114, 105, 112, 116]), .lit (.string [115, 101, 108, 101, 99, 116]), .lit (.string [115, 116, 121, 108, 101]), .lit (.string [116, 97, 98, 108, 101]), .lit (.string [116, 98, 111, 100, 121]), .lit (.string [116, 100]), .lit (.string [116, 101, 120, 116, 97, 114, 101, 97]), .lit (.string [116, 102, 111, 111, 116]), .lit (.string [116, 104]), .lit (.string [116, 104, 101, 97, 100]), .lit (.string [116, 105, 116, 108, 101]), .lit (.string [116, 114]), .lit (.string [120, 109, 112])] [], .slice [.lit (.string [102, 111, 114, 101, 105, 103, 110, 79, 98, 106, 101, 99, 116]), .lit (.string [100, 101, 115, 99]), .lit (.string [116, 105, 116, 108, 101])] [], .slice [.lit (.string [109, 105]), .lit (.string [109, 111]), .lit (.string [109, 110]), .lit (.string [109, 115]), .lit (.string [109, 116, 101, 120, 116])] [], .slice [.lit (.string [116, 105, 116, 108, 101]), .lit (.string [116, 101, 120, 116, 97, 114, 101, 97])] [], .slice [.lit (.string [115, 116, 121, 108, 101]), .lit (.string [115, 99, 114, 105, 112, 116]), .lit (.string [120, 109, 112]), .lit (.string [105, 102, 114, 97, 109, 101]), .lit (.string [110, 111, 101, 109, 98, 101, 100])] [], .slice [.lit (.string [112, 108, 97, 105, 110, 116, 101, 120, 116])] []]

/-- 'taffraillaw16.StackPlays': WHATEVER THE INPUT: true; the input reads as it did. -/
def stackPlaysSpec : ChangeSpec := { name := "stackPlays", fn := fun _ => fun
  | [d] => { results := [.lit (.bool true)], args := [d] }
  | _ => none }
def stackPlaysRow : OpenClaim := { program := "ytkmghkfdegdikaadoor", sum := "7e8ccfdcc4260f1b0953bc0f35413bada3192da8721eb4cf66be4bcba6a9eeb2", func := "taffrail/taffraillaw16.StackPlays", spec := "stackPlays", inPlace := ["slices.overlaps[taffrail/api.El]"], named := ["taffrail/vocab.lists"], apart := false, laid := [("taffrail/vocab.lists", laid_taffrail_vocab_lists)] }
def StackPlaysSaid : Prop := stackPlaysRow.holds Tryd.pinned (OpenSpec.ofChange stackPlaysSpec)

/-- ITS FALSE NEIGHBOUR: 'it returns false'. Refute it at one input. -/
def stackPlaysWrong : ChangeSpec := { name := "stackPlays", fn := fun _ => fun
  | [d] => { results := [.lit (.bool false)], args := [d] }
  | _ => none }
def StackPlaysWrongFalsely : Prop := stackPlaysRow.holds Tryd.pinned (OpenSpec.ofChange stackPlaysWrong)

/-- 'taffraillaw16.StackCopies': WHATEVER THE INPUT: true; the input reads as it did. -/
def stackCopiesSpec : ChangeSpec := { name := "stackCopies", fn := fun _ => fun
  | [d1, d2] => { results := [.lit (.bool true)], args := [d1, d2] }
  | _ => none }
def stackCopiesRow : OpenClaim := { program := "ytkmghkfdegdikaadoor", sum := "7e8ccfdcc4260f1b0953bc0f35413bada3192da8721eb4cf66be4bcba6a9eeb2", func := "taffrail/taffraillaw16.StackCopies", spec := "stackCopies", inPlace := ["slices.overlaps[taffrail/api.El]"], named := ["taffrail/vocab.lists"], apart := false, laid := [("taffrail/vocab.lists", laid_taffrail_vocab_lists)] }
def StackCopiesSaid : Prop := stackCopiesRow.holds Tryd.pinned (OpenSpec.ofChange stackCopiesSpec)

/-- ITS FALSE NEIGHBOUR: 'it returns false'. Refute it at one input. -/
def stackCopiesWrong : ChangeSpec := { name := "stackCopies", fn := fun _ => fun
  | [d1, d2] => { results := [.lit (.bool false)], args := [d1, d2] }
  | _ => none }
def StackCopiesWrongFalsely : Prop := stackCopiesRow.holds Tryd.pinned (OpenSpec.ofChange stackCopiesWrong)

/-- 'taffraillaw16.StackScopes': WHATEVER THE INPUT: true; the input reads as it did. -/
def stackScopesSpec : ChangeSpec := { name := "stackScopes", fn := fun _ => fun
  | [d1, d2] => { results := [.lit (.bool true)], args := [d1, d2] }
  | _ => none }
def stackScopesRow : OpenClaim := { program := "ytkmghkfdegdikaadoor", sum := "7e8ccfdcc4260f1b0953bc0f35413bada3192da8721eb4cf66be4bcba6a9eeb2", func := "taffrail/taffraillaw16.StackScopes", spec := "stackScopes", named := ["taffrail/vocab.lists"], apart := false, laid := [("taffrail/vocab.lists", laid_taffrail_vocab_lists)] }
def StackScopesSaid : Prop := stackScopesRow.holds Tryd.pinned (OpenSpec.ofChange stackScopesSpec)

/-- ITS FALSE NEIGHBOUR: 'it returns false'. Refute it at one input. -/
def stackScopesWrong : ChangeSpec := { name := "stackScopes", fn := fun _ => fun
  | [d1, d2] => { results := [.lit (.bool false)], args := [d1, d2] }
  | _ => none }
def StackScopesWrongFalsely : Prop := stackScopesRow.holds Tryd.pinned (OpenSpec.ofChange stackScopesWrong)

/-- 'taffraillaw16.StackImplied': WHATEVER THE INPUT: true; the input reads as it did. -/
def stackImpliedSpec : ChangeSpec := { name := "stackImplied", fn := fun _ => fun
  | [d1, d2] => { results := [.lit (.bool true)], args := [d1, d2] }
  | _ => none }
def stackImpliedRow : OpenClaim := { program := "ytkmghkfdegdikaadoor", sum := "7e8ccfdcc4260f1b0953bc0f35413bada3192da8721eb4cf66be4bcba6a9eeb2", func := "taffrail/taffraillaw16.StackImplied", spec := "stackImplied", named := ["taffrail/vocab.lists"], apart := false, laid := [("taffrail/vocab.lists", laid_taffrail_vocab_lists)] }
def StackImpliedSaid : Prop := stackImpliedRow.holds Tryd.pinned (OpenSpec.ofChange stackImpliedSpec)

/-- ITS FALSE NEIGHBOUR: 'it returns false'. Refute it at one input. -/
def stackImpliedWrong : ChangeSpec := { name := "stackImplied", fn := fun _ => fun
  | [d1, d2] => { results := [.lit (.bool false)], args := [d1, d2] }
  | _ => none }
def StackImpliedWrongFalsely : Prop := stackImpliedRow.holds Tryd.pinned (OpenSpec.ofChange stackImpliedWrong)

/-- 'taffraillaw16.StackNone': WHATEVER THE INPUT: true; the input reads as it did. -/
def stackNoneSpec : ChangeSpec := { name := "stackNone", fn := fun _ => fun
  | [d] => { results := [.lit (.bool true)], args := [d] }
  | _ => none }
def stackNoneRow : OpenClaim := { program := "ytkmghkfdegdikaadoor", sum := "7e8ccfdcc4260f1b0953bc0f35413bada3192da8721eb4cf66be4bcba6a9eeb2", func := "taffrail/taffraillaw16.StackNone", spec := "stackNone", inPlace := ["slices.overlaps[taffrail/api.El]"], named := ["taffrail/vocab.lists"], apart := false, laid := [("taffrail/vocab.lists", laid_taffrail_vocab_lists)] }
def StackNoneSaid : Prop := stackNoneRow.holds Tryd.pinned (OpenSpec.ofChange stackNoneSpec)

/-- ITS FALSE NEIGHBOUR: 'it returns false'. Refute it at one input. -/
def stackNoneWrong : ChangeSpec := { name := "stackNone", fn := fun _ => fun
  | [d] => { results := [.lit (.bool false)], args := [d] }
  | _ => none }
def StackNoneWrongFalsely : Prop := stackNoneRow.holds Tryd.pinned (OpenSpec.ofChange stackNoneWrong)

/- THE SECOND FORM. 'bulk': how many values and letters a reading holds, each counted each time it is reached (what is shared counts as often as it is met; a slice's spare places count too). A statement '..UptoSaid' is the law's where the arguments, and the package variables that the reading takes, are together of bulk at most 1048576: NARROWER than '..Said'. Prove '..Said' where nothing that the law and all that it calls make is longer than what came in: it says more and counts as full. Else prove '..UptoSaid'. A law counts once. -/
mutual
def uptoBulk {H : Type} : DataW H → Nat
  | .lit (.string bytes) => bytes.length + 1
  | .lit _ => 1
  | .nil => 1
  | .ptr d => uptoBulk d + 1
  | .slice elems spare => uptoBulkAll elems + uptoBulkAll spare + 1
  | .agg parts => uptoBulkAll parts + 1
  | .iface _ d => uptoBulk d + 1
  | .map entries => uptoBulkEntries entries + 1
  | .held _ => 1
def uptoBulkAll {H : Type} : List (DataW H) → Nat
  | [] => 0
  | d :: r => uptoBulk d + uptoBulkAll r
def uptoBulkEntries {H : Type} : List (Lit × DataW H) → Nat
  | [] => 0
  | x :: r => uptoBulkEntry x + uptoBulkEntries r
def uptoBulkEntry {H : Type} : Lit × DataW H → Nat
  | (.string bytes, d) => bytes.length + uptoBulk d + 1
  | (_, d) => uptoBulk d + 1
 end
def uptoSmall : (H : Type) → List (DataW H) → Bool := fun _ ds => decide (uptoBulkAll ds ≤ 1048576)
def OpenSpec.upto (s : _root_.Go.ChangeSpec) : _root_.Go.OpenSpec := { _root_.Go.OpenSpec.ofChange s with cond := some uptoSmall }

/-- 'taffraillaw16.StackPlays', WHERE WHAT IT READS IS OF BULK AT MOST 1048576: true; the input reads as it did. -/
def stackPlaysUptoRow : OpenClaim := { program := "ytkmghkfdegdikaadoor", sum := "7e8ccfdcc4260f1b0953bc0f35413bada3192da8721eb4cf66be4bcba6a9eeb2", func := "taffrail/taffraillaw16.StackPlays", spec := "stackPlays", inPlace := ["slices.overlaps[taffrail/api.El]"], named := ["taffrail/vocab.lists"], apart := false, laid := [("taffrail/vocab.lists", laid_taffrail_vocab_lists)], narrowed := true }
def StackPlaysUptoSaid : Prop := stackPlaysUptoRow.holds Tryd.pinned (OpenSpec.upto stackPlaysSpec)

/-- 'taffraillaw16.StackCopies', WHERE WHAT IT READS IS OF BULK AT MOST 1048576: true; the input reads as it did. -/
def stackCopiesUptoRow : OpenClaim := { program := "ytkmghkfdegdikaadoor", sum := "7e8ccfdcc4260f1b0953bc0f35413bada3192da8721eb4cf66be4bcba6a9eeb2", func := "taffrail/taffraillaw16.StackCopies", spec := "stackCopies", inPlace := ["slices.overlaps[taffrail/api.El]"], named := ["taffrail/vocab.lists"], apart := false, laid := [("taffrail/vocab.lists", laid_taffrail_vocab_lists)], narrowed := true }
def StackCopiesUptoSaid : Prop := stackCopiesUptoRow.holds Tryd.pinned (OpenSpec.upto stackCopiesSpec)

/-- 'taffraillaw16.StackScopes', WHERE WHAT IT READS IS OF BULK AT MOST 1048576: true; the input reads as it did. -/
def stackScopesUptoRow : OpenClaim := { program := "ytkmghkfdegdikaadoor", sum := "7e8ccfdcc4260f1b0953bc0f35413bada3192da8721eb4cf66be4bcba6a9eeb2", func := "taffrail/taffraillaw16.StackScopes", spec := "stackScopes", named := ["taffrail/vocab.lists"], apart := false, laid := [("taffrail/vocab.lists", laid_taffrail_vocab_lists)], narrowed := true }
def StackScopesUptoSaid : Prop := stackScopesUptoRow.holds Tryd.pinned (OpenSpec.upto stackScopesSpec)

/-- 'taffraillaw16.StackImplied', WHERE WHAT IT READS IS OF BULK AT MOST 1048576: true; the input reads as it did. -/
def stackImpliedUptoRow : OpenClaim := { program := "ytkmghkfdegdikaadoor", sum := "7e8ccfdcc4260f1b0953bc0f35413bada3192da8721eb4cf66be4bcba6a9eeb2", func := "taffrail/taffraillaw16.StackImplied", spec := "stackImplied", named := ["taffrail/vocab.lists"], apart := false, laid := [("taffrail/vocab.lists", laid_taffrail_vocab_lists)], narrowed := true }
def StackImpliedUptoSaid : Prop := stackImpliedUptoRow.holds Tryd.pinned (OpenSpec.upto stackImpliedSpec)

/-- 'taffraillaw16.StackNone', WHERE WHAT IT READS IS OF BULK AT MOST 1048576: true; the input reads as it did. -/
def stackNoneUptoRow : OpenClaim := { program := "ytkmghkfdegdikaadoor", sum := "7e8ccfdcc4260f1b0953bc0f35413bada3192da8721eb4cf66be4bcba6a9eeb2", func := "taffrail/taffraillaw16.StackNone", spec := "stackNone", inPlace := ["slices.overlaps[taffrail/api.El]"], named := ["taffrail/vocab.lists"], apart := false, laid := [("taffrail/vocab.lists", laid_taffrail_vocab_lists)], narrowed := true }
def StackNoneUptoSaid : Prop := stackNoneUptoRow.holds Tryd.pinned (OpenSpec.upto stackNoneSpec)

end Rows
end Go.Proofs.YtkmghkfdegdikaaDoor
