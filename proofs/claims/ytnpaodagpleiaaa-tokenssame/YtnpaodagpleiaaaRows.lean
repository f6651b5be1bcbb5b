/-
  No cell of these rows narrows 'for every input' (looked for: loops, veiled, ifaces, maps, wideKeys, modest, calm, conditions, laid).
  DERIVED. THE GIVEN ROWS OF THIS SEAT. 4 by the template 'for every input the law returns true; each argument reads behind the call as it read before'; 0 by the template 'total and deterministic' (their statements: YtnpaodagpleiaaaTotals.lean).
  GIVEN WITH THE SEED: the statements are not yours to turn. If you find one false, say at which input.
  Laid BY PROGRAM, IN A SANDBOX (cutbox-rows.mjs): the forced cells as the released guide's own fill.sh prints them over the translation e2fcc87d96e9d799… (all of the seat's roots in one cut). By AI agents, Wed Nov 11 2026. No macro, syntax, notation, axiom, sorry.
-/
import Derived.Test.YtnpaodagpleiaaaChecked
import GoSem.Claim
import GoSem.ClaimJoined
import GoSem.ClaimMapViews
import Derived.JoinedTies
import Derived.KernelRfl
namespace Go.Proofs.Ytnpaodagpleiaaa
/- THE CELL 'sum', in the pinned program and in every row, IS THE sha256 OF THE DUMP (.gsa) THAT YtnpaodagpleiaaaProg.lean LOADS. Nothing in Lean hashes anything: it is a label: what it is worth is what the hold of that sum in a sandbox is worth. -/
noncomputable def Try.pinned : Pinned := { name := "ytnpaodagpleiaaa", sum := "e2fcc87d96e9d799d2bd275c30670d39aed5ddd1657ad2ee534b11e2bd2cfe01", checked := Try.checked }
namespace Rows
def none {H : Type} : Left H := { results := [], args := [] }

/-- 'taffraillaw09.TokensShows': WHATEVER THE INPUT: true; the input reads as it did. -/
def tokensShowsSpec : ChangeSpec := { name := "tokensShows", fn := fun _ => fun
  | [d] => { results := [.lit (.bool true)], args := [d] }
  | _ => none }
def tokensShowsRow : OpenClaim := { program := "ytnpaodagpleiaaa", sum := "e2fcc87d96e9d799d2bd275c30670d39aed5ddd1657ad2ee534b11e2bd2cfe01", func := "taffrail/taffraillaw09.TokensShows", spec := "tokensShows", inPlace := ["internal/abi.NoEscape"], apart := false }
def TokensShowsSaid : Prop := tokensShowsRow.holds Try.pinned (OpenSpec.ofChange tokensShowsSpec)

/-- ITS FALSE NEIGHBOUR: 'it returns false'. Refute it at one input. -/
def tokensShowsWrong : ChangeSpec := { name := "tokensShows", fn := fun _ => fun
  | [d] => { results := [.lit (.bool false)], args := [d] }
  | _ => none }
def TokensShowsWrongFalsely : Prop := tokensShowsRow.holds Try.pinned (OpenSpec.ofChange tokensShowsWrong)

/-- 'taffraillaw09.TokensSame': WHATEVER THE INPUT: true; the input reads as it did. -/
def tokensSameSpec : ChangeSpec := { name := "tokensSame", fn := fun _ => fun
  | [d1, d2] => { results := [.lit (.bool true)], args := [d1, d2] }
  | _ => none }
def tokensSameRow : OpenClaim := { program := "ytnpaodagpleiaaa", sum := "e2fcc87d96e9d799d2bd275c30670d39aed5ddd1657ad2ee534b11e2bd2cfe01", func := "taffrail/taffraillaw09.TokensSame", spec := "tokensSame", inPlace := ["internal/abi.NoEscape"], unfollowed := true, recurses := true, apart := false }
def TokensSameSaid : Prop := tokensSameRow.holds Try.pinned (OpenSpec.ofChange tokensSameSpec)

/-- ITS FALSE NEIGHBOUR: 'it returns false'. Refute it at one input. -/
def tokensSameWrong : ChangeSpec := { name := "tokensSame", fn := fun _ => fun
  | [d1, d2] => { results := [.lit (.bool false)], args := [d1, d2] }
  | _ => none }
def TokensSameWrongFalsely : Prop := tokensSameRow.holds Try.pinned (OpenSpec.ofChange tokensSameWrong)

/-- 'taffraillaw09.TokensShifts': WHATEVER THE INPUT: true; the input reads as it did. -/
def tokensShiftsSpec : ChangeSpec := { name := "tokensShifts", fn := fun _ => fun
  | [d1, d2] => { results := [.lit (.bool true)], args := [d1, d2] }
  | _ => none }
def tokensShiftsRow : OpenClaim := { program := "ytnpaodagpleiaaa", sum := "e2fcc87d96e9d799d2bd275c30670d39aed5ddd1657ad2ee534b11e2bd2cfe01", func := "taffrail/taffraillaw09.TokensShifts", spec := "tokensShifts", inPlace := ["internal/abi.NoEscape"], apart := false }
def TokensShiftsSaid : Prop := tokensShiftsRow.holds Try.pinned (OpenSpec.ofChange tokensShiftsSpec)

/-- ITS FALSE NEIGHBOUR: 'it returns false'. Refute it at one input. -/
def tokensShiftsWrong : ChangeSpec := { name := "tokensShifts", fn := fun _ => fun
  | [d1, d2] => { results := [.lit (.bool false)], args := [d1, d2] }
  | _ => none }
def TokensShiftsWrongFalsely : Prop := tokensShiftsRow.holds Try.pinned (OpenSpec.ofChange tokensShiftsWrong)

/-- 'taffraillaw09.TokensFields': WHATEVER THE INPUT: true; the input reads as it did. -/
def tokensFieldsSpec : ChangeSpec := { name := "tokensFields", fn := fun _ => fun
  | [d1, d2, d3] => { results := [.lit (.bool true)], args := [d1, d2, d3] }
  | _ => none }
def tokensFieldsRow : OpenClaim := { program := "ytnpaodagpleiaaa", sum := "e2fcc87d96e9d799d2bd275c30670d39aed5ddd1657ad2ee534b11e2bd2cfe01", func := "taffrail/taffraillaw09.TokensFields", spec := "tokensFields", inPlace := ["internal/abi.NoEscape"], apart := false }
def TokensFieldsSaid : Prop := tokensFieldsRow.holds Try.pinned (OpenSpec.ofChange tokensFieldsSpec)

/-- ITS FALSE NEIGHBOUR: 'it returns false'. Refute it at one input. -/
def tokensFieldsWrong : ChangeSpec := { name := "tokensFields", fn := fun _ => fun
  | [d1, d2, d3] => { results := [.lit (.bool false)], args := [d1, d2, d3] }
  | _ => none }
def TokensFieldsWrongFalsely : Prop := tokensFieldsRow.holds Try.pinned (OpenSpec.ofChange tokensFieldsWrong)

/- THE SECOND FORM. 'bulk': how many values and letters a reading holds, each counted each time it is reached (what is shared counts as often as it is met; a slice's spare places count too). A statement '..UptoSaid' is the law's where the arguments, and the package variables that the reading takes, are together of bulk at most 1048576: NARROWER than '..Said'. Prove '..Said' where nothing that the law and all that it calls make is longer than what came in: it says more and counts as full. Else prove '..UptoSaid'. A law counts once. -/
mutual
def uptoBulk {H : Type} : DataW H → Nat
  | .lit (.string bytes) => bytes.length + 1
  | .lit _ => 1
  | .nil => 1
  | .ptr d => uptoBulk d + 1
  | .slice elems spare => uptoBulkAll elems + uptoBulkAll spare + 1
  | .agg parts => uptoBulkAll parts + 1
  | .iface _ d => uptoBulk d + 1
  | .map entries => uptoBulkEntries entries + 1
  | .held _ => 1
def uptoBulkAll {H : Type} : List (DataW H) → Nat
  | [] => 0
  | d :: r => uptoBulk d + uptoBulkAll r
def uptoBulkEntries {H : Type} : List (Lit × DataW H) → Nat
  | [] => 0
  | x :: r => uptoBulkEntry x + uptoBulkEntries r
def uptoBulkEntry {H : Type} : Lit × DataW H → Nat
  | (.string bytes, d) => bytes.length + uptoBulk d + 1
  | (_, d) => uptoBulk d + 1
 end
def uptoSmall : (H : Type) → List (DataW H) → Bool := fun _ ds => decide (uptoBulkAll ds ≤ 1048576)
def OpenSpec.upto (s : _root_.Go.ChangeSpec) : _root_.Go.OpenSpec := { _root_.Go.OpenSpec.ofChange s with cond := some uptoSmall }

/-- 'taffraillaw09.TokensShows', WHERE WHAT IT READS IS OF BULK AT MOST 1048576: true; the input reads as it did. -/
def tokensShowsUptoRow : OpenClaim := { program := "ytnpaodagpleiaaa", sum := "e2fcc87d96e9d799d2bd275c30670d39aed5ddd1657ad2ee534b11e2bd2cfe01", func := "taffrail/taffraillaw09.TokensShows", spec := "tokensShows", inPlace := ["internal/abi.NoEscape"], apart := false, narrowed := true }
def TokensShowsUptoSaid : Prop := tokensShowsUptoRow.holds Try.pinned (OpenSpec.upto tokensShowsSpec)

/-- 'taffraillaw09.TokensSame', WHERE WHAT IT READS IS OF BULK AT MOST 1048576: true; the input reads as it did. -/
def tokensSameUptoRow : OpenClaim := { program := "ytnpaodagpleiaaa", sum := "e2fcc87d96e9d799d2bd275c30670d39aed5ddd1657ad2ee534b11e2bd2cfe01", func := "taffrail/taffraillaw09.TokensSame", spec := "tokensSame", inPlace := ["internal/abi.NoEscape"], unfollowed := true, recurses := true, apart := false, narrowed := true }
def TokensSameUptoSaid : Prop := tokensSameUptoRow.holds Try.pinned (OpenSpec.upto tokensSameSpec)

/-- 'taffraillaw09.TokensShifts', WHERE WHAT IT READS IS OF BULK AT MOST 1048576: true; the input reads as it did. -/
def tokensShiftsUptoRow : OpenClaim := { program := "ytnpaodagpleiaaa", sum := "e2fcc87d96e9d799d2bd275c30670d39aed5ddd1657ad2ee534b11e2bd2cfe01", func := "taffrail/taffraillaw09.TokensShifts", spec := "tokensShifts", inPlace := ["internal/abi.NoEscape"], apart := false, narrowed := true }
def TokensShiftsUptoSaid : Prop := tokensShiftsUptoRow.holds Try.pinned (OpenSpec.upto tokensShiftsSpec)

/-- 'taffraillaw09.TokensFields', WHERE WHAT IT READS IS OF BULK AT MOST 1048576: true; the input reads as it did. -/
def tokensFieldsUptoRow : OpenClaim := { program := "ytnpaodagpleiaaa", sum := "e2fcc87d96e9d799d2bd275c30670d39aed5ddd1657ad2ee534b11e2bd2cfe01", func := "taffrail/taffraillaw09.TokensFields", spec := "tokensFields", inPlace := ["internal/abi.NoEscape"], apart := false, narrowed := true }
def TokensFieldsUptoSaid : Prop := tokensFieldsUptoRow.holds Try.pinned (OpenSpec.upto tokensFieldsSpec)

end Rows
end Go.Proofs.Ytnpaodagpleiaaa
