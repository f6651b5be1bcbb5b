/- Bad, the program's and the document's, of characters. -/
import Derived.Test.YtkphiopeclgffaaEq
import Derived.Test.YtkphiopeclgffaaFlow
namespace Go.Proofs.Ytkphiopeclgffaa
open Go.RowKit

theorem i64_and16 (x : Int) (h₀ : 0 ≤ x) (h₁ : x ≤ 1000000000) : bits .and .i64 x 65535 = x % 65536 := bits_mask .i64 63 (by decide) wraps_i64 16 (by decide) x h₀ (by omega)
theorem nat_and (a : Nat) : a &&& 65534 = 2 * ((a / 2) % 32768) := by
  have h1 : (a &&& 65534) / 2 = (a / 2) % 32768 := by
    rw [Nat.and_div_two]
    exact Nat.and_two_pow_sub_one_eq_mod (a / 2) 15
  have h2 : (a &&& 65534) % 2 = 0 := by
    have h := @Nat.and_mod_two_eq_one a 65534
    have h3 : ¬ (a &&& 65534) % 2 = 1 := fun e => by have := (h.1 e).2; omega
    omega
  omega
theorem i64_andE (x : Int) (h₀ : 0 ≤ x) (h₁ : x ≤ 1000000000) : bits .and .i64 x 65534 = 2 * ((x / 2) % 32768) := by
  obtain ⟨a, rfl⟩ := Int.eq_ofNat_of_zero_le h₀
  have := (bits_nat .i64 63 (by decide) wraps_i64 a 65534 (by omega) (by decide)).1
  rw [nat_and] at this
  rw [show (65534 : Int) = ((65534 : Nat) : Int) from rfl, this]
  omega

set_option maxHeartbeats 1000000 in
theorem bad_any (r : Int) (w : World) (h₀ : 0 ≤ r) (h₁ : r ≤ 1000000000) : Calls Try.prog 29 #[.int .i64 r] w fun e w' => e = .returned (.int .i64 (badN r)) ∧ w' = w := by
  have hm := i64_andE r h₀ h₁
  go_enter Try.func29, Try.ntmps29
  go_wp2
  all_goals
    go_ret
    refine ⟨ret_int ?_, rfl⟩
    (try simp only [beq_iff_eq, beq_eq_false_iff_ne, ne_eq] at *)
    unfold badN
    repeat' split
    all_goals omega

set_option maxHeartbeats 1000000 in
theorem rbad_any (r : Int) (w : World) (h₀ : 0 ≤ r) (h₁ : r ≤ 1000000000) : Calls Try.prog 19 #[.int .i64 r] w fun e w' => e = .returned (.int .i64 (badN r)) ∧ w' = w := by
  have hm := i64_and16 r h₀ h₁
  go_enter Try.func19, Try.ntmps19
  go_wp2
  all_goals
    go_ret
    refine ⟨ret_int ?_, rfl⟩
    (try simp only [beq_iff_eq, beq_eq_false_iff_ne, ne_eq] at *)
    unfold badN
    repeat' split
    all_goals omega
end Go.Proofs.Ytkphiopeclgffaa
