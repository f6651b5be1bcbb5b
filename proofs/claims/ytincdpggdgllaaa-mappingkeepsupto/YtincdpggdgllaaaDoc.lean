/- The document's own answers: Check, and the edit that does nothing in the place of one that is none. -/
import Derived.Test.YtincdpggdgllaaaExt
import Derived.Handy
namespace Go.Proofs.Ytincdpggdgllaaa
open Go.RowKit

/-- The error's number. -/
def chk (x y n : Int) : Int := if 0 ≤ x ∧ x ≤ n ∧ 0 ≤ y ∧ y ≤ n - x then 0 else 1

set_option maxHeartbeats 400000 in
theorem check_any (x y : Int) (s : ByteArray) (n : Int) (hn : -9223372036854775808 ≤ n ∧ n ≤ 9223372036854775807) (w : World) :
    Calls Try.prog 12 #[.agg #[.int .i64 x, .int .i64 y, .string s], .int .i64 n] w fun e w' => e = .returned (.int .i64 (chk x y n)) ∧ Below w.heap.size w w' := by
  have hb0 : Below w.heap.size w (w.alloc (.cells #[.int .i64 x, .int .i64 y, .string s] 23)) := (Below.refl _ _).alloc (Nat.le_refl _) _
  have hw : 0 ≤ x → x ≤ n → IntKind.i64.wrap (n - x) = n - x := by intro h1 h2; rw [IntKind.wrap_i64]; omega
  go_enter Try.func12, Try.ntmps12
  go_wp2
  all_goals
    go_ret
    refine ⟨?_, hb0⟩
    refine congrArg (fun z => Ending.returned (Value.int .i64 z)) ?_
    unfold chk
    split <;> first | rfl | omega

set_option maxHeartbeats 400000 in
theorem may_ok (x y : Int) (s : ByteArray) (h : Ok x y) (w : World) :
    Calls Try.prog 26 #[.agg #[.int .i64 x, .int .i64 y, .string s]] w fun e w' => e = .returned (.agg #[.int .i64 x, .int .i64 y, .string s]) ∧ Below w.heap.size w w' := by
  have hb0 : Below w.heap.size w (w.alloc (.cells #[.int .i64 x, .int .i64 y, .string s] 23)) := (Below.refl _ _).alloc (Nat.le_refl _) _
  unfold Ok at h
  go_enter Try.func26, Try.ntmps26
  go_wp2
  all_goals
    go_returns
    refine ⟨rfl, ?_⟩
    go_grown

set_option maxHeartbeats 400000 in
theorem may_no (x y : Int) (s : ByteArray) (h : ¬ Ok x y) (w : World) :
    Calls Try.prog 26 #[.agg #[.int .i64 x, .int .i64 y, .string s]] w fun e w' => e = .returned (.agg #[.int .i64 0, .int .i64 0, .string ⟨#[]⟩]) ∧ Below w.heap.size w w' := by
  have hb0 : Below w.heap.size w (w.alloc (.cells #[.int .i64 x, .int .i64 y, .string s] 23)) := (Below.refl _ _).alloc (Nat.le_refl _) _
  have d : (decide (x < 0) || decide (y < 0) || decide (1099511627776 < x) || decide (1099511627776 < y)) = true := by
    unfold Ok at h
    simp only [Bool.or_eq_true, decide_eq_true_eq]; omega
  go_enter Try.func26, Try.ntmps26
  go_wp2
  all_goals
    go_returns
    refine ⟨rfl, ?_⟩
    go_grown
end Go.Proofs.Ytincdpggdgllaaa
