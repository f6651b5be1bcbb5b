/-
  DERIVED. GIVEN WITH THE SEED: THE CARDS: each row of YtmcjohpopfkjfaaDoorRows.lean that lists a variable, with what it lists TIED to the program's text (the seventh form; the later family's looks); each row that meets fmt, with fmt's text TOLD by the authors' own Lean function (tested against real Go, not proved from fmt's source: count such statements apart). THE CARD IS WHAT COUNTS. Prove the row's statement (the work); the ties are given (YtmcjohpopfkjfaaDoorTie.lean); close each card by the builder's one call (the guide's Derived/Test/ToyasCard.lean, 'card_holds'). Laid BY PROGRAM, IN A SANDBOX (cutbox-door.mjs). By AI agents, Wed Nov 11 2026. No macro, syntax, notation, axiom, sorry.
-/
import Derived.Test.YtmcjohpopfkjfaaDoorRows
import GoSem.ClaimSeven
namespace Go.Proofs.YtmcjohpopfkjfaaDoor
namespace Rows

/-- THE TIED CARD OF 'taffraillaw07.VocabNames'. -/
def vocabNamesCard : Claim7 := { stood := { row := vocabNamesRow, standIns := [], harness := (true, "0621485fa62099c35a7a22c72a31d02267d6bfbc52c03cf828d59530b9484fc5"), looks := false }, kinds := [], alts := [], laidByText := true, laidKinds := [.data], laidTests := true, laidLooks := .later }
def VocabNamesCardSaid : Prop := Claim7.holds Tryd.pinned (.plain (OpenSpec.ofChange vocabNamesSpec)) vocabNamesCard

/-- THE TIED CARD OF 'taffraillaw07.VocabSpecial'. -/
def vocabSpecialCard : Claim7 := { stood := { row := vocabSpecialRow, standIns := [], harness := (true, "0621485fa62099c35a7a22c72a31d02267d6bfbc52c03cf828d59530b9484fc5"), looks := false }, kinds := [], alts := [], laidByText := true, laidKinds := [.data], laidTests := true, laidLooks := .later }
def VocabSpecialCardSaid : Prop := Claim7.holds Tryd.pinned (.plain (OpenSpec.ofChange vocabSpecialSpec)) vocabSpecialCard

/-- THE TIED CARD OF 'taffraillaw07.VocabLower'. -/
def vocabLowerCard : Claim7 := { stood := { row := vocabLowerRow, standIns := [], harness := (true, "0621485fa62099c35a7a22c72a31d02267d6bfbc52c03cf828d59530b9484fc5"), looks := false }, kinds := [], alts := [], laidByText := true, laidKinds := [.data], laidTests := true, laidLooks := .later }
def VocabLowerCardSaid : Prop := Claim7.holds Tryd.pinned (.plain (OpenSpec.ofChange vocabLowerSpec)) vocabLowerCard

/-- THE TIED CARD OF 'taffraillaw07.VocabBlank'. -/
def vocabBlankCard : Claim7 := { stood := { row := vocabBlankRow, standIns := [], harness := (true, "0621485fa62099c35a7a22c72a31d02267d6bfbc52c03cf828d59530b9484fc5"), looks := false }, kinds := [], alts := [], laidByText := true, laidKinds := [.data], laidTests := true, laidLooks := .later }
def VocabBlankCardSaid : Prop := Claim7.holds Tryd.pinned (.plain (OpenSpec.ofChange vocabBlankSpec)) vocabBlankCard

/-- THE TIED CARD OF 'taffraillaw07.VocabApart'. -/
def vocabApartCard : Claim7 := { stood := { row := vocabApartRow, standIns := [], harness := (true, "0621485fa62099c35a7a22c72a31d02267d6bfbc52c03cf828d59530b9484fc5"), looks := false }, kinds := [], alts := [], laidByText := true, laidKinds := [.data], laidTests := true, laidLooks := .later }
def VocabApartCardSaid : Prop := Claim7.holds Tryd.pinned (.plain (OpenSpec.ofChange vocabApartSpec)) vocabApartCard

/-- THE SECOND FORM's CARD OF 'taffraillaw07.VocabNames'. -/
def vocabNamesUptoCard : Claim7 := { stood := { row := vocabNamesUptoRow, standIns := [], harness := (true, "0621485fa62099c35a7a22c72a31d02267d6bfbc52c03cf828d59530b9484fc5"), looks := false }, kinds := [], alts := [], laidByText := true, laidKinds := [.data], laidTests := true, laidLooks := .later }
def VocabNamesUptoCardSaid : Prop := Claim7.holds Tryd.pinned (.plain (OpenSpec.upto vocabNamesSpec)) vocabNamesUptoCard

/-- THE SECOND FORM's CARD OF 'taffraillaw07.VocabSpecial'. -/
def vocabSpecialUptoCard : Claim7 := { stood := { row := vocabSpecialUptoRow, standIns := [], harness := (true, "0621485fa62099c35a7a22c72a31d02267d6bfbc52c03cf828d59530b9484fc5"), looks := false }, kinds := [], alts := [], laidByText := true, laidKinds := [.data], laidTests := true, laidLooks := .later }
def VocabSpecialUptoCardSaid : Prop := Claim7.holds Tryd.pinned (.plain (OpenSpec.upto vocabSpecialSpec)) vocabSpecialUptoCard

/-- THE SECOND FORM's CARD OF 'taffraillaw07.VocabLower'. -/
def vocabLowerUptoCard : Claim7 := { stood := { row := vocabLowerUptoRow, standIns := [], harness := (true, "0621485fa62099c35a7a22c72a31d02267d6bfbc52c03cf828d59530b9484fc5"), looks := false }, kinds := [], alts := [], laidByText := true, laidKinds := [.data], laidTests := true, laidLooks := .later }
def VocabLowerUptoCardSaid : Prop := Claim7.holds Tryd.pinned (.plain (OpenSpec.upto vocabLowerSpec)) vocabLowerUptoCard

/-- THE SECOND FORM's CARD OF 'taffraillaw07.VocabBlank'. -/
def vocabBlankUptoCard : Claim7 := { stood := { row := vocabBlankUptoRow, standIns := [], harness := (true, "0621485fa62099c35a7a22c72a31d02267d6bfbc52c03cf828d59530b9484fc5"), looks := false }, kinds := [], alts := [], laidByText := true, laidKinds := [.data], laidTests := true, laidLooks := .later }
def VocabBlankUptoCardSaid : Prop := Claim7.holds Tryd.pinned (.plain (OpenSpec.upto vocabBlankSpec)) vocabBlankUptoCard

/-- THE SECOND FORM's CARD OF 'taffraillaw07.VocabApart'. -/
def vocabApartUptoCard : Claim7 := { stood := { row := vocabApartUptoRow, standIns := [], harness := (true, "0621485fa62099c35a7a22c72a31d02267d6bfbc52c03cf828d59530b9484fc5"), looks := false }, kinds := [], alts := [], laidByText := true, laidKinds := [.data], laidTests := true, laidLooks := .later }
def VocabApartUptoCardSaid : Prop := Claim7.holds Tryd.pinned (.plain (OpenSpec.upto vocabApartSpec)) vocabApartUptoCard
end Rows
end Go.Proofs.YtmcjohpopfkjfaaDoor
