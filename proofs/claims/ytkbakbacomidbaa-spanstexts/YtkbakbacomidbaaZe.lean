/- A number's character, the program's and the document's. -/
import Derived.Test.YtkbakbacomidbaaProg
import Derived.BigQuiet
import Derived.BigRegion
import Derived.Deep.QuietTactic
import Derived.Deep.RegionLaw
import Derived.WalkArith
import Derived.WalkKit
import Derived.WalkLawsBesides
import Derived.WalkMore
import Derived.WalkSpells
namespace Go.Proofs.Ytkbakbacomidbaa.G6
open Go.RowKit
def tabL : List Int := [8364, 129, 8218, 402, 8222, 8230, 8224, 8225, 710, 8240, 352, 8249, 338, 141, 381, 143, 144, 8216, 8217, 8220, 8221, 8226, 8211, 8212, 732, 8482, 353, 8250, 339, 157, 382, 376]
def ctl (r : Int) : Bool := decide ((r < 32 ∧ r ≠ 9 ∧ r ≠ 10 ∧ r ≠ 12) ∨ r = 127)
def nonch (r : Int) : Bool := decide ((64976 ≤ r ∧ r ≤ 65007) ∨ r % 65536 = 65534 ∨ r % 65536 = 65535)
/-- A number's character and its fault's code. -/
def chrP (n : Int) : Int × Int :=
  if n ≤ 0 ∨ n > 1114111 ∨ (55296 ≤ n ∧ n ≤ 57343) then (65533, 20)
  else if 128 ≤ n ∧ n ≤ 159 then (tabL.getD (n - 128).toNat 0, 20)
  else if ctl n = true ∨ nonch n = true then (n, 20) else (n, 0)
theorem ret_int {a b : Int} {k : IntKind} (h : a = b) : Ending.returned (.int k a) = .returned (.int k b) := by rw [h]
theorem ret_bool {a b : Bool} (h : a = b) : Ending.returned (.bool a) = .returned (.bool b) := by rw [h]
theorem tab_ok : ∀ i : Nat, i < 32 → 0 < tabL.getD i 0 ∧ tabL.getD i 0 < 55296 := by decide
theorem chrP_ok (n : Int) : 0 < (chrP n).1 ∧ (chrP n).1 ≤ 1114111 ∧ ((chrP n).1 < 55296 ∨ 57343 < (chrP n).1) := by
  unfold chrP
  split
  · decide
  split
  · rename_i h1 h2
    have := tab_ok (n - 128).toNat (by omega)
    show 0 < tabL.getD (n - 128).toNat 0 ∧ tabL.getD (n - 128).toNat 0 ≤ 1114111 ∧ (tabL.getD (n - 128).toNat 0 < 55296 ∨ 57343 < tabL.getD (n - 128).toNat 0)
    omega
  split
  · show 0 < n ∧ n ≤ 1114111 ∧ (n < 55296 ∨ 57343 < n); omega
  · show 0 < n ∧ n ≤ 1114111 ∧ (n < 55296 ∨ 57343 < n); omega
def mayB (r : Int) : Bool := decide (0 ≤ r ∧ r ≤ 1114111 ∧ (r < 55296 ∨ 57343 < r))
set_option maxHeartbeats 1000000 in
theorem may_any (r : Int) (w : World) : Calls Try.prog 73 #[.int .i64 r] w fun e w' => e = .returned (.bool (mayB r)) ∧ w' = w := by
  go_enter Try.func73, Try.ntmps73
  go_wp2
  all_goals
    go_ret
    refine ⟨ret_bool ?_, rfl⟩
    (try simp only [beq_iff_eq, beq_eq_false_iff_ne, ne_eq, decide_eq_true_eq, decide_eq_false_iff_not] at *)
    unfold mayB
    first | (symm; apply decide_eq_true; omega) | (symm; apply decide_eq_false; omega) | (rw [Bool.eq_iff_iff]; simp; omega)
/-- What Bad tells of a character: nothing at all, or a fault. -/
def badB (r : Int) : Bool := decide (¬ (r = 9 ∨ r = 10 ∨ r = 12 ∨ r = 13) ∧ (r ≤ 31 ∨ (127 ≤ r ∧ r ≤ 159) ∨ (64976 ≤ r ∧ r ≤ 65007) ∨ r % 65536 = 65534 ∨ r % 65536 = 65535))
end Go.Proofs.Ytkbakbacomidbaa.G6
