/-
  DERIVED. GIVEN WITH THE SEED: THE CARDS: each row of YtjjfalbngcbfaaaGreatDoorRows.lean that lists a variable, with what it lists TIED to the program's text (the seventh form; the later family's looks); each row that meets fmt, with fmt's text TOLD by the authors' own Lean function (tested against real Go, not proved from fmt's source: count such statements apart). THE CARD IS WHAT COUNTS. Prove the row's statement (the work); the ties are given (YtjjfalbngcbfaaaGreatDoorTie.lean); close each card by the builder's one call (the guide's Derived/Test/ToyasCard.lean, 'card_holds'). Laid BY PROGRAM, IN A SANDBOX (cutbox-door.mjs). By AI agents, Wed Nov 11 2026. No macro, syntax, notation, axiom, sorry.
-/
import Derived.Test.YtjjfalbngcbfaaaGreatDoorRows
import GoSem.ClaimSeven
namespace Go.Proofs.YtjjfalbngcbfaaaGreatDoor
namespace Rows

/-- THE TIED CARD OF 'taffraillaw10.TokenizerFeeds'. -/
def tokenizerFeedsCard : Claim7 := { stood := { row := tokenizerFeedsRow, standIns := [], harness := (true, "f2406911c706822dc7bb3cbdc1b42453bc0ce9200b6290b54449385d2fc44895"), looks := true }, kinds := [], alts := [], laidByText := true, laidKinds := [.data], laidTests := true, laidLooks := .later }
def TokenizerFeedsCardSaid : Prop := Claim7.holds Tryz.pinned (.plain (OpenSpec.ofChange tokenizerFeedsSpec)) tokenizerFeedsCard

/-- THE TIED CARD OF 'taffraillaw10.TokenizerCopies'. -/
def tokenizerCopiesCard : Claim7 := { stood := { row := tokenizerCopiesRow, standIns := [], harness := (true, "f2406911c706822dc7bb3cbdc1b42453bc0ce9200b6290b54449385d2fc44895"), looks := true }, kinds := [], alts := [], laidByText := true, laidKinds := [.data], laidTests := true, laidLooks := .later }
def TokenizerCopiesCardSaid : Prop := Claim7.holds Tryz.pinned (.plain (OpenSpec.ofChange tokenizerCopiesSpec)) tokenizerCopiesCard

/-- THE TIED CARD OF 'taffraillaw10.TokenizerSpans'. -/
def tokenizerSpansCard : Claim7 := { stood := { row := tokenizerSpansRow, standIns := [], harness := (true, "f2406911c706822dc7bb3cbdc1b42453bc0ce9200b6290b54449385d2fc44895"), looks := true }, kinds := [], alts := [], laidByText := true, laidKinds := [.data], laidTests := true, laidLooks := .later }
def TokenizerSpansCardSaid : Prop := Claim7.holds Tryz.pinned (.plain (OpenSpec.ofChange tokenizerSpansSpec)) tokenizerSpansCard

/-- THE TIED CARD OF 'taffraillaw10.TokenizerPlain'. -/
def tokenizerPlainCard : Claim7 := { stood := { row := tokenizerPlainRow, standIns := [], harness := (true, "f2406911c706822dc7bb3cbdc1b42453bc0ce9200b6290b54449385d2fc44895"), looks := true }, kinds := [], alts := [], laidByText := true, laidKinds := [.data], laidTests := true, laidLooks := .later }
def TokenizerPlainCardSaid : Prop := Claim7.holds Tryz.pinned (.plain (OpenSpec.ofChange tokenizerPlainSpec)) tokenizerPlainCard

/-- THE TIED CARD OF 'taffraillaw10.TokenizerAttrs'. -/
def tokenizerAttrsCard : Claim7 := { stood := { row := tokenizerAttrsRow, standIns := [], harness := (true, "f2406911c706822dc7bb3cbdc1b42453bc0ce9200b6290b54449385d2fc44895"), looks := true }, kinds := [], alts := [], laidByText := true, laidKinds := [.data], laidTests := true, laidLooks := .later }
def TokenizerAttrsCardSaid : Prop := Claim7.holds Tryz.pinned (.plain (OpenSpec.ofChange tokenizerAttrsSpec)) tokenizerAttrsCard

/-- THE TIED CARD OF 'taffraillaw10.TokenizerNone'. -/
def tokenizerNoneCard : Claim7 := { stood := { row := tokenizerNoneRow, standIns := [], harness := (true, "f2406911c706822dc7bb3cbdc1b42453bc0ce9200b6290b54449385d2fc44895"), looks := true }, kinds := [], alts := [], laidByText := true, laidKinds := [.data], laidTests := true, laidLooks := .later }
def TokenizerNoneCardSaid : Prop := Claim7.holds Tryz.pinned (.plain (OpenSpec.ofChange tokenizerNoneSpec)) tokenizerNoneCard

/-- THE SECOND FORM's CARD OF 'taffraillaw10.TokenizerFeeds'. -/
def tokenizerFeedsUptoCard : Claim7 := { stood := { row := tokenizerFeedsUptoRow, standIns := [], harness := (true, "f2406911c706822dc7bb3cbdc1b42453bc0ce9200b6290b54449385d2fc44895"), looks := true }, kinds := [], alts := [], laidByText := true, laidKinds := [.data], laidTests := true, laidLooks := .later }
def TokenizerFeedsUptoCardSaid : Prop := Claim7.holds Tryz.pinned (.plain (OpenSpec.upto tokenizerFeedsSpec)) tokenizerFeedsUptoCard

/-- THE SECOND FORM's CARD OF 'taffraillaw10.TokenizerCopies'. -/
def tokenizerCopiesUptoCard : Claim7 := { stood := { row := tokenizerCopiesUptoRow, standIns := [], harness := (true, "f2406911c706822dc7bb3cbdc1b42453bc0ce9200b6290b54449385d2fc44895"), looks := true }, kinds := [], alts := [], laidByText := true, laidKinds := [.data], laidTests := true, laidLooks := .later }
def TokenizerCopiesUptoCardSaid : Prop := Claim7.holds Tryz.pinned (.plain (OpenSpec.upto tokenizerCopiesSpec)) tokenizerCopiesUptoCard

/-- THE SECOND FORM's CARD OF 'taffraillaw10.TokenizerSpans'. -/
def tokenizerSpansUptoCard : Claim7 := { stood := { row := tokenizerSpansUptoRow, standIns := [], harness := (true, "f2406911c706822dc7bb3cbdc1b42453bc0ce9200b6290b54449385d2fc44895"), looks := true }, kinds := [], alts := [], laidByText := true, laidKinds := [.data], laidTests := true, laidLooks := .later }
def TokenizerSpansUptoCardSaid : Prop := Claim7.holds Tryz.pinned (.plain (OpenSpec.upto tokenizerSpansSpec)) tokenizerSpansUptoCard

/-- THE SECOND FORM's CARD OF 'taffraillaw10.TokenizerPlain'. -/
def tokenizerPlainUptoCard : Claim7 := { stood := { row := tokenizerPlainUptoRow, standIns := [], harness := (true, "f2406911c706822dc7bb3cbdc1b42453bc0ce9200b6290b54449385d2fc44895"), looks := true }, kinds := [], alts := [], laidByText := true, laidKinds := [.data], laidTests := true, laidLooks := .later }
def TokenizerPlainUptoCardSaid : Prop := Claim7.holds Tryz.pinned (.plain (OpenSpec.upto tokenizerPlainSpec)) tokenizerPlainUptoCard

/-- THE SECOND FORM's CARD OF 'taffraillaw10.TokenizerAttrs'. -/
def tokenizerAttrsUptoCard : Claim7 := { stood := { row := tokenizerAttrsUptoRow, standIns := [], harness := (true, "f2406911c706822dc7bb3cbdc1b42453bc0ce9200b6290b54449385d2fc44895"), looks := true }, kinds := [], alts := [], laidByText := true, laidKinds := [.data], laidTests := true, laidLooks := .later }
def TokenizerAttrsUptoCardSaid : Prop := Claim7.holds Tryz.pinned (.plain (OpenSpec.upto tokenizerAttrsSpec)) tokenizerAttrsUptoCard

/-- THE SECOND FORM's CARD OF 'taffraillaw10.TokenizerNone'. -/
def tokenizerNoneUptoCard : Claim7 := { stood := { row := tokenizerNoneUptoRow, standIns := [], harness := (true, "f2406911c706822dc7bb3cbdc1b42453bc0ce9200b6290b54449385d2fc44895"), looks := true }, kinds := [], alts := [], laidByText := true, laidKinds := [.data], laidTests := true, laidLooks := .later }
def TokenizerNoneUptoCardSaid : Prop := Claim7.holds Tryz.pinned (.plain (OpenSpec.upto tokenizerNoneSpec)) tokenizerNoneUptoCard
end Rows
end Go.Proofs.YtjjfalbngcbfaaaGreatDoor
