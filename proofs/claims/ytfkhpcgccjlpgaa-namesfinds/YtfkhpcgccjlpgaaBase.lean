/- What the laws' proofs have in common at the margin of the program. -/
import Derived.Test.YtfkhpcgccjlpgaaAwake
import Derived.Test.YtfkhpcgccjlpgaaRows
namespace Go.Proofs.Ytfkhpcgccjlpgaa
theorem own : ownKnob Try.prog.godebug = none := by kernel_rfl
theorem laidOut : laidOutB Try.prog = true := by kernel_rfl
end Go.Proofs.Ytfkhpcgccjlpgaa
