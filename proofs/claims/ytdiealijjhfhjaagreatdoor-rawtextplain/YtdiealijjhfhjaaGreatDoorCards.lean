/-
  DERIVED. GIVEN WITH THE SEED: THE CARDS: each row of YtdiealijjhfhjaaGreatDoorRows.lean that lists a variable, with what it lists TIED to the program's text (the seventh form; the later family's looks); each row that meets fmt, with fmt's text TOLD by the authors' own Lean function (tested against real Go, not proved from fmt's source: count such statements apart). THE CARD IS WHAT COUNTS. Prove the row's statement (the work); the ties are given (YtdiealijjhfhjaaGreatDoorTie.lean); close each card by the builder's one call (the guide's Derived/Test/ToyasCard.lean, 'card_holds'). Laid BY PROGRAM, IN A SANDBOX (cutbox-door.mjs). By AI agents, Wed Nov 11 2026. No macro, syntax, notation, axiom, sorry.
-/
import Derived.Test.YtdiealijjhfhjaaGreatDoorRows
import GoSem.ClaimSeven
namespace Go.Proofs.YtdiealijjhfhjaaGreatDoor
namespace Rows

/-- THE TIED CARD OF 'taffraillaw11.RawtextTokens'. -/
def rawtextTokensCard : Claim7 := { stood := { row := rawtextTokensRow, standIns := [], harness := (true, "3e0ee21714597ee0a4e222d7772e3cc9aa077e726a0b0a2424cfdc289307d508"), looks := false }, kinds := [], alts := [], laidByText := true, laidKinds := [.data, .data], laidTests := true, laidLooks := .later }
def RawtextTokensCardSaid : Prop := Claim7.holds Tryz.pinned (.plain (OpenSpec.ofChange rawtextTokensSpec)) rawtextTokensCard

/-- THE TIED CARD OF 'taffraillaw11.RawtextData'. -/
def rawtextDataCard : Claim7 := { stood := { row := rawtextDataRow, standIns := [], harness := (true, "3e0ee21714597ee0a4e222d7772e3cc9aa077e726a0b0a2424cfdc289307d508"), looks := false }, kinds := [], alts := [], laidByText := true, laidKinds := [.data, .data], laidTests := true, laidLooks := .later }
def RawtextDataCardSaid : Prop := Claim7.holds Tryz.pinned (.plain (OpenSpec.ofChange rawtextDataSpec)) rawtextDataCard

/-- THE TIED CARD OF 'taffraillaw11.RawtextEnds'. -/
def rawtextEndsCard : Claim7 := { stood := { row := rawtextEndsRow, standIns := [], harness := (true, "3e0ee21714597ee0a4e222d7772e3cc9aa077e726a0b0a2424cfdc289307d508"), looks := false }, kinds := [], alts := [], laidByText := true, laidKinds := [.data, .data], laidTests := true, laidLooks := .later }
def RawtextEndsCardSaid : Prop := Claim7.holds Tryz.pinned (.plain (OpenSpec.ofChange rawtextEndsSpec)) rawtextEndsCard

/-- THE TIED CARD OF 'taffraillaw11.RawtextPlain'. -/
def rawtextPlainCard : Claim7 := { stood := { row := rawtextPlainRow, standIns := [], harness := (true, "3e0ee21714597ee0a4e222d7772e3cc9aa077e726a0b0a2424cfdc289307d508"), looks := false }, kinds := [], alts := [], laidByText := true, laidKinds := [.data, .data], laidTests := true, laidLooks := .later }
def RawtextPlainCardSaid : Prop := Claim7.holds Tryz.pinned (.plain (OpenSpec.ofChange rawtextPlainSpec)) rawtextPlainCard

/-- THE TIED CARD OF 'taffraillaw11.RawtextWhole'. -/
def rawtextWholeCard : Claim7 := { stood := { row := rawtextWholeRow, standIns := [], harness := (true, "3e0ee21714597ee0a4e222d7772e3cc9aa077e726a0b0a2424cfdc289307d508"), looks := false }, kinds := [], alts := [], laidByText := true, laidKinds := [.data, .data], laidTests := true, laidLooks := .later }
def RawtextWholeCardSaid : Prop := Claim7.holds Tryz.pinned (.plain (OpenSpec.ofChange rawtextWholeSpec)) rawtextWholeCard

/-- THE SECOND FORM's CARD OF 'taffraillaw11.RawtextTokens'. -/
def rawtextTokensUptoCard : Claim7 := { stood := { row := rawtextTokensUptoRow, standIns := [], harness := (true, "3e0ee21714597ee0a4e222d7772e3cc9aa077e726a0b0a2424cfdc289307d508"), looks := false }, kinds := [], alts := [], laidByText := true, laidKinds := [.data, .data], laidTests := true, laidLooks := .later }
def RawtextTokensUptoCardSaid : Prop := Claim7.holds Tryz.pinned (.plain (OpenSpec.upto rawtextTokensSpec)) rawtextTokensUptoCard

/-- THE SECOND FORM's CARD OF 'taffraillaw11.RawtextData'. -/
def rawtextDataUptoCard : Claim7 := { stood := { row := rawtextDataUptoRow, standIns := [], harness := (true, "3e0ee21714597ee0a4e222d7772e3cc9aa077e726a0b0a2424cfdc289307d508"), looks := false }, kinds := [], alts := [], laidByText := true, laidKinds := [.data, .data], laidTests := true, laidLooks := .later }
def RawtextDataUptoCardSaid : Prop := Claim7.holds Tryz.pinned (.plain (OpenSpec.upto rawtextDataSpec)) rawtextDataUptoCard

/-- THE SECOND FORM's CARD OF 'taffraillaw11.RawtextEnds'. -/
def rawtextEndsUptoCard : Claim7 := { stood := { row := rawtextEndsUptoRow, standIns := [], harness := (true, "3e0ee21714597ee0a4e222d7772e3cc9aa077e726a0b0a2424cfdc289307d508"), looks := false }, kinds := [], alts := [], laidByText := true, laidKinds := [.data, .data], laidTests := true, laidLooks := .later }
def RawtextEndsUptoCardSaid : Prop := Claim7.holds Tryz.pinned (.plain (OpenSpec.upto rawtextEndsSpec)) rawtextEndsUptoCard

/-- THE SECOND FORM's CARD OF 'taffraillaw11.RawtextPlain'. -/
def rawtextPlainUptoCard : Claim7 := { stood := { row := rawtextPlainUptoRow, standIns := [], harness := (true, "3e0ee21714597ee0a4e222d7772e3cc9aa077e726a0b0a2424cfdc289307d508"), looks := false }, kinds := [], alts := [], laidByText := true, laidKinds := [.data, .data], laidTests := true, laidLooks := .later }
def RawtextPlainUptoCardSaid : Prop := Claim7.holds Tryz.pinned (.plain (OpenSpec.upto rawtextPlainSpec)) rawtextPlainUptoCard

/-- THE SECOND FORM's CARD OF 'taffraillaw11.RawtextWhole'. -/
def rawtextWholeUptoCard : Claim7 := { stood := { row := rawtextWholeUptoRow, standIns := [], harness := (true, "3e0ee21714597ee0a4e222d7772e3cc9aa077e726a0b0a2424cfdc289307d508"), looks := false }, kinds := [], alts := [], laidByText := true, laidKinds := [.data, .data], laidTests := true, laidLooks := .later }
def RawtextWholeUptoCardSaid : Prop := Claim7.holds Tryz.pinned (.plain (OpenSpec.upto rawtextWholeSpec)) rawtextWholeUptoCard
end Rows
end Go.Proofs.YtdiealijjhfhjaaGreatDoor
