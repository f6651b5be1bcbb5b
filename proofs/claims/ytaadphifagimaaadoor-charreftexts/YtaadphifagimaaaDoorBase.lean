/- What the laws' proofs have in common at the margin of the program; the listed variable holds the program's table. -/
import Derived.Test.YtaadphifagimaaaDoorAwake
import Derived.Test.YtaadphifagimaaaDoorRows
import Derived.Test.YtaadphifagimaaaDoorCards
import Derived.Test.YtaadphifagimaaaDoorTie
import Derived.Lib.LaidTab
import Derived.LaidMore
import Derived.Stop.Joined
import Derived.SevenTiedAt
namespace Go.Proofs.YtaadphifagimaaaDoor
open Go.RowKit
theorem own : ownKnob Tryd.prog.godebug = none := by kernel_rfl
theorem laidOut : laidOutB Tryd.prog = true := by kernel_rfl

abbrev laidL : List (String × DataW Unit) := Rows.charrefNumbersRow.laid
def hname : String := Rows.charrefNumbersRow.named.headD ""
theorem gHigh : Tryd.prog.globalNamed hname = some 0 := by kernel_rfl
theorem tHigh : (Tryd.prog.globals[0]?).map (·.type) = some 68 := by kernel_rfl
theorem c21 : Tryd.prog.cellsOf 21 = 1 := by kernel_rfl
theorem c68 : Tryd.prog.cellsOf 68 = 32 := by kernel_rfl

theorem hi_of_laid {W : World} (h : laidMetH Tryd.prog laidL W) : Hi W := by
  rw [MakeChecks.laidMetH_plain _ _ _ (by kernel_rfl)] at h
  have hT : Lib.TabIs Tryd.prog W hname .i32 tabL := Lib.tabIs_of_head gHigh tHigh Tryd.underlying68 Tryd.underlying21 c21 c68 (rest := []) h
  exact fun i hi => hT.cell gHigh i hi
theorem door_met (os : Os) (args : Array Value) : laidMetH Tryd.prog laidL ((World.doorLaid Tryd.prog 14 os).forCall (fun _ _ => 0) ⟨#[], args, []⟩).memory :=
  laidMetH_of_parts3 (fuel := 8) (laidMet_of_run' 8 (by kernel_rfl) (by kernel_rfl)) (by kernel_rfl) (by kernel_rfl)
theorem i64_of_wf {n : Int} (h : (Lit.int .i64 n).wf = true) : -9223372036854775808 ≤ n ∧ n ≤ 9223372036854775807 := by
  simp [Lit.wf, IntKind.min, IntKind.max, IntKind.signed, IntKind.bits] at h
  omega
end Go.Proofs.YtaadphifagimaaaDoor
