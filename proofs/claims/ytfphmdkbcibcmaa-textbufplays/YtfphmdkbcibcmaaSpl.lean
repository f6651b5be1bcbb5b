/- (textbuf.Buf).Splice where it is refused. -/
import Derived.Test.YtfphmdkbcibcmaaNew
import Derived.Deep.QuietTactic
import Derived.BigQuiet
namespace Go.Proofs.Ytfphmdkbcibcmaa
open Go.RowKit

set_option maxHeartbeats 400000 in
theorem splice_range1 (b : Nat) (x y : Int) (s : ByteArray) (n : Nat) (w : World) (_hbw : b < w.heap.size) (_k1 : w.cell? ⟨b, 1, none⟩ = some (.int .i64 n)) (h1 : x < 0) :
    Calls Try.prog 12 #[.pointer (some ⟨b, 0, none⟩), .agg #[.int .i64 x, .int .i64 y, .string s]] w fun e w' => e = .returned (.int .i64 1) ∧ Below w.heap.size w w' := by
  have d1 : decide (x < 0) = true := decide_eq_true h1
  go_enter Try.func12, Try.ntmps12
  go_wp2_with fail
  go_quiet (fail)
  go_wp2_with fail
  go_ret
  exact ⟨rfl, below_drewN ((Below.refl _ _).alloc (Nat.le_refl _) _) _⟩
set_option maxHeartbeats 400000 in
theorem splice_range2 (b : Nat) (x y : Int) (s : ByteArray) (n : Nat) (w : World) (hbw : b < w.heap.size) (k1 : w.cell? ⟨b, 1, none⟩ = some (.int .i64 n)) (h1 : 0 ≤ x) (h2 : (n : Int) < x) :
    Calls Try.prog 12 #[.pointer (some ⟨b, 0, none⟩), .agg #[.int .i64 x, .int .i64 y, .string s]] w fun e w' => e = .returned (.int .i64 1) ∧ Below w.heap.size w w' := by
  have d1 : decide (x < 0) = false := decide_eq_false (by omega)
  have d2 : decide ((n : Int) < x) = true := decide_eq_true h2
  go_enter Try.func12, Try.ntmps12
  go_wp2_with fail
  go_quiet (fail)
  go_wp2_with fail
  go_ret
  exact ⟨rfl, below_drewN ((Below.refl _ _).alloc (Nat.le_refl _) _) _⟩
set_option maxHeartbeats 400000 in
theorem splice_range3 (b : Nat) (x y : Int) (s : ByteArray) (n : Nat) (w : World) (hbw : b < w.heap.size) (k1 : w.cell? ⟨b, 1, none⟩ = some (.int .i64 n)) (h1 : 0 ≤ x) (h2 : x ≤ (n : Int)) (h3 : y < 0) :
    Calls Try.prog 12 #[.pointer (some ⟨b, 0, none⟩), .agg #[.int .i64 x, .int .i64 y, .string s]] w fun e w' => e = .returned (.int .i64 1) ∧ Below w.heap.size w w' := by
  have d1 : decide (x < 0) = false := decide_eq_false (by omega)
  have d2 : decide ((n : Int) < x) = false := decide_eq_false (by omega)
  have d3 : decide (y < 0) = true := decide_eq_true h3
  go_enter Try.func12, Try.ntmps12
  go_wp2_with fail
  go_quiet (fail)
  go_wp2_with fail
  go_ret
  exact ⟨rfl, below_drewN ((Below.refl _ _).alloc (Nat.le_refl _) _) _⟩
set_option maxHeartbeats 400000 in
theorem splice_range4 (b : Nat) (x y : Int) (s : ByteArray) (n : Nat) (w : World) (hbw : b < w.heap.size) (k1 : w.cell? ⟨b, 1, none⟩ = some (.int .i64 n)) (hn : n ≤ 65536) (h1 : 0 ≤ x) (h2 : x ≤ (n : Int)) (h3 : 0 ≤ y) (h4 : (n : Int) - x < y) :
    Calls Try.prog 12 #[.pointer (some ⟨b, 0, none⟩), .agg #[.int .i64 x, .int .i64 y, .string s]] w fun e w' => e = .returned (.int .i64 1) ∧ Below w.heap.size w w' := by
  have d1 : decide (x < 0) = false := decide_eq_false (by omega)
  have d2 : decide ((n : Int) < x) = false := decide_eq_false (by omega)
  have d3 : decide (y < 0) = false := decide_eq_false (by omega)
  have d4 : decide ((n : Int) - x < y) = true := decide_eq_true h4
  have hw : IntKind.i64.wrap ((n : Int) - x) = (n : Int) - x := by rw [IntKind.wrap_i64]; omega
  go_enter Try.func12, Try.ntmps12
  go_wp2_with fail
  go_quiet (fail)
  go_wp2_with fail
  go_ret
  exact ⟨rfl, below_drewN ((Below.refl _ _).alloc (Nat.le_refl _) _) _⟩
set_option maxHeartbeats 400000 in
theorem splice_size1 (b : Nat) (x y most : Int) (s : ByteArray) (n : Nat) (w : World) (hbw : b < w.heap.size) (k0 : w.cell? ⟨b, 0, none⟩ = some (.int .i64 most)) (k1 : w.cell? ⟨b, 1, none⟩ = some (.int .i64 n)) (hn : n ≤ 65536) (hm0 : 0 ≤ most) (hm1 : most ≤ 65536)
    (h1 : 0 ≤ x) (h2 : x ≤ (n : Int)) (h3 : 0 ≤ y) (h4 : y ≤ (n : Int) - x) (h5 : most - ((n : Int) - y) < (s.size : Int)) :
    Calls Try.prog 12 #[.pointer (some ⟨b, 0, none⟩), .agg #[.int .i64 x, .int .i64 y, .string s]] w fun e w' => e = .returned (.int .i64 2) ∧ Below w.heap.size w w' := by
  have d1 : decide (x < 0) = false := decide_eq_false (by omega)
  have d2 : decide ((n : Int) < x) = false := decide_eq_false (by omega)
  have d3 : decide (y < 0) = false := decide_eq_false (by omega)
  have d4 : decide ((n : Int) - x < y) = false := decide_eq_false (by omega)
  have d5 : decide (most - ((n : Int) - y) < (s.size : Int)) = true := decide_eq_true h5
  have hw : IntKind.i64.wrap ((n : Int) - x) = (n : Int) - x := by rw [IntKind.wrap_i64]; omega
  have hw2 : IntKind.i64.wrap ((n : Int) - y) = (n : Int) - y := by rw [IntKind.wrap_i64]; omega
  have hw3 : IntKind.i64.wrap (most - ((n : Int) - y)) = most - ((n : Int) - y) := by rw [IntKind.wrap_i64]; omega
  go_enter Try.func12, Try.ntmps12
  go_wp2_with fail
  go_quiet (fail)
  go_wp2_with fail
  go_quiet (fail)
  go_wp2_with fail
  go_ret
  refine ⟨rfl, ?_⟩
  exact below_drewN (below_drewN ((Below.refl _ _).alloc (Nat.le_refl _) _) _) _
end Go.Proofs.Ytfphmdkbcibcmaa
