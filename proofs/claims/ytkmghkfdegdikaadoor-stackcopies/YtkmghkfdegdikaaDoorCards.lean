/-
  DERIVED. GIVEN WITH THE SEED: THE CARDS: each row of YtkmghkfdegdikaaDoorRows.lean that lists a variable, with what it lists TIED to the program's text (the seventh form; the later family's looks); each row that meets fmt, with fmt's text TOLD by the authors' own Lean function (tested against real Go, not proved from fmt's source: count such statements apart). THE CARD IS WHAT COUNTS. Prove the row's statement (the work); the ties are given (YtkmghkfdegdikaaDoorTie.lean); close each card by the builder's one call (the guide's Derived/Test/ToyasCard.lean, 'card_holds'). Laid BY PROGRAM, IN A SANDBOX (cutbox-door.mjs). By AI agents, Wed Nov 11 2026. No macro, syntax, notation, axiom, sorry.
-/
import Derived.Test.YtkmghkfdegdikaaDoorRows
import GoSem.ClaimSeven
namespace Go.Proofs.YtkmghkfdegdikaaDoor
namespace Rows

/-- THE TIED CARD OF 'taffraillaw16.StackPlays'. -/
def stackPlaysCard : Claim7 := { stood := { row := stackPlaysRow, standIns := [], harness := (true, "18715e34ab71ab14f35b47dcaba70c710b41fa0e087e5fbc725ae328e641eef1"), looks := false }, kinds := [], alts := [], laidByText := true, laidKinds := [.data], laidTests := true, laidLooks := .later }
def StackPlaysCardSaid : Prop := Claim7.holds Tryd.pinned (.plain (OpenSpec.ofChange stackPlaysSpec)) stackPlaysCard

/-- THE TIED CARD OF 'taffraillaw16.StackCopies'. -/
def stackCopiesCard : Claim7 := { stood := { row := stackCopiesRow, standIns := [], harness := (true, "18715e34ab71ab14f35b47dcaba70c710b41fa0e087e5fbc725ae328e641eef1"), looks := false }, kinds := [], alts := [], laidByText := true, laidKinds := [.data], laidTests := true, laidLooks := .later }
def StackCopiesCardSaid : Prop := Claim7.holds Tryd.pinned (.plain (OpenSpec.ofChange stackCopiesSpec)) stackCopiesCard

/-- THE TIED CARD OF 'taffraillaw16.StackScopes'. -/
def stackScopesCard : Claim7 := { stood := { row := stackScopesRow, standIns := [], harness := (true, "18715e34ab71ab14f35b47dcaba70c710b41fa0e087e5fbc725ae328e641eef1"), looks := false }, kinds := [], alts := [], laidByText := true, laidKinds := [.data], laidTests := true, laidLooks := .later }
def StackScopesCardSaid : Prop := Claim7.holds Tryd.pinned (.plain (OpenSpec.ofChange stackScopesSpec)) stackScopesCard

/-- THE TIED CARD OF 'taffraillaw16.StackImplied'. -/
def stackImpliedCard : Claim7 := { stood := { row := stackImpliedRow, standIns := [], harness := (true, "18715e34ab71ab14f35b47dcaba70c710b41fa0e087e5fbc725ae328e641eef1"), looks := false }, kinds := [], alts := [], laidByText := true, laidKinds := [.data], laidTests := true, laidLooks := .later }
def StackImpliedCardSaid : Prop := Claim7.holds Tryd.pinned (.plain (OpenSpec.ofChange stackImpliedSpec)) stackImpliedCard

/-- THE TIED CARD OF 'taffraillaw16.StackNone'. -/
def stackNoneCard : Claim7 := { stood := { row := stackNoneRow, standIns := [], harness := (true, "18715e34ab71ab14f35b47dcaba70c710b41fa0e087e5fbc725ae328e641eef1"), looks := false }, kinds := [], alts := [], laidByText := true, laidKinds := [.data], laidTests := true, laidLooks := .later }
def StackNoneCardSaid : Prop := Claim7.holds Tryd.pinned (.plain (OpenSpec.ofChange stackNoneSpec)) stackNoneCard

/-- THE SECOND FORM's CARD OF 'taffraillaw16.StackPlays'. -/
def stackPlaysUptoCard : Claim7 := { stood := { row := stackPlaysUptoRow, standIns := [], harness := (true, "18715e34ab71ab14f35b47dcaba70c710b41fa0e087e5fbc725ae328e641eef1"), looks := false }, kinds := [], alts := [], laidByText := true, laidKinds := [.data], laidTests := true, laidLooks := .later }
def StackPlaysUptoCardSaid : Prop := Claim7.holds Tryd.pinned (.plain (OpenSpec.upto stackPlaysSpec)) stackPlaysUptoCard

/-- THE SECOND FORM's CARD OF 'taffraillaw16.StackCopies'. -/
def stackCopiesUptoCard : Claim7 := { stood := { row := stackCopiesUptoRow, standIns := [], harness := (true, "18715e34ab71ab14f35b47dcaba70c710b41fa0e087e5fbc725ae328e641eef1"), looks := false }, kinds := [], alts := [], laidByText := true, laidKinds := [.data], laidTests := true, laidLooks := .later }
def StackCopiesUptoCardSaid : Prop := Claim7.holds Tryd.pinned (.plain (OpenSpec.upto stackCopiesSpec)) stackCopiesUptoCard

/-- THE SECOND FORM's CARD OF 'taffraillaw16.StackScopes'. -/
def stackScopesUptoCard : Claim7 := { stood := { row := stackScopesUptoRow, standIns := [], harness := (true, "18715e34ab71ab14f35b47dcaba70c710b41fa0e087e5fbc725ae328e641eef1"), looks := false }, kinds := [], alts := [], laidByText := true, laidKinds := [.data], laidTests := true, laidLooks := .later }
def StackScopesUptoCardSaid : Prop := Claim7.holds Tryd.pinned (.plain (OpenSpec.upto stackScopesSpec)) stackScopesUptoCard

/-- THE SECOND FORM's CARD OF 'taffraillaw16.StackImplied'. -/
def stackImpliedUptoCard : Claim7 := { stood := { row := stackImpliedUptoRow, standIns := [], harness := (true, "18715e34ab71ab14f35b47dcaba70c710b41fa0e087e5fbc725ae328e641eef1"), looks := false }, kinds := [], alts := [], laidByText := true, laidKinds := [.data], laidTests := true, laidLooks := .later }
def StackImpliedUptoCardSaid : Prop := Claim7.holds Tryd.pinned (.plain (OpenSpec.upto stackImpliedSpec)) stackImpliedUptoCard

/-- THE SECOND FORM's CARD OF 'taffraillaw16.StackNone'. -/
def stackNoneUptoCard : Claim7 := { stood := { row := stackNoneUptoRow, standIns := [], harness := (true, "18715e34ab71ab14f35b47dcaba70c710b41fa0e087e5fbc725ae328e641eef1"), looks := false }, kinds := [], alts := [], laidByText := true, laidKinds := [.data], laidTests := true, laidLooks := .later }
def StackNoneUptoCardSaid : Prop := Claim7.holds Tryd.pinned (.plain (OpenSpec.upto stackNoneSpec)) stackNoneUptoCard
end Rows
end Go.Proofs.YtkmghkfdegdikaaDoor
