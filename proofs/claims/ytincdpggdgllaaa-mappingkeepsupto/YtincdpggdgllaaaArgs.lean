/- What the arguments' readings tell: an edit's three cells, and its text's length. -/
import Derived.Test.YtincdpggdgllaaaEd
import Derived.ProofKit
import Derived.OpenShut
import Derived.ShutString
import Derived.ChangeOld
import Derived.Lib.SmallJoins
import Derived.SizedLaws
namespace Go.Proofs.Ytincdpggdgllaaa
open Go.ChangeShapes Go.WideShapes Go.ChangeAt Go.RowKit Go.Joins

theorem own : ownKnob Try.prog.godebug = none := by kernel_rfl
theorem laidOut : laidOutB Try.prog = true := by kernel_rfl
theorem cells23 : Try.prog.cellsOf 23 = 3 := by kernel_rfl

/-- An edit's text is no longer than the form's reach. -/
theorem ed_bound {H : Type} {ts : List TypeId} {ds : List (DataW H)} (hz : (DataW.weightsEach Try.prog ts ds).all (· ≤ reachBytes) = true) {j : Nat} {p0 p1 : DataW H} {s : ByteArray}
    (ht : ts[j]? = some 23) (hd : ds[j]? = some (.agg [p0, p1, .lit (.string s.data.toList)])) : s.size ≤ 140737488355328 := by
  have h1 : s.data.toList.length ∈ (DataW.agg [p0, p1, .lit (.string s.data.toList)]).weights Try.prog 23 := by
    simp [DataW.weights, Try.underlying23, DataW.weightsEach]
  have h2 := List.all_eq_true.1 hz _ (DataW.weights_mem_each ht hd _ h1)
  have h3 : s.data.toList.length = s.size := Array.length_toList
  rw [h3] at h2
  have h4 := of_decide_eq_true h2
  have h5 : reachBytes = 140737488351232 := by decide
  omega

theorem i64_bounds {n : Int} (h : (Lit.int .i64 n).wf = true) : -9223372036854775808 ≤ n ∧ n ≤ 9223372036854775807 := bounds_i64 h
end Go.Proofs.Ytincdpggdgllaaa
