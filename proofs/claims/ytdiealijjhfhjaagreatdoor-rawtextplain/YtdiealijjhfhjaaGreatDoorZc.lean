/- A number's character, the program's and the document's. -/
import Derived.Test.YtdiealijjhfhjaaGreatDoorProg
import Derived.WalkKit
import Derived.WalkSpells
import Derived.WalkLawsBesides
import Derived.Deep.RegionLaw
import Derived.Deep.QuietTactic
import Derived.BigQuiet
import Derived.BigRegion
import Derived.WalkMore
import Derived.WalkArith
namespace Go.Proofs.YtdiealijjhfhjaaGreatDoor.G6
open Go.RowKit
def tabL : List Int := [8364, 129, 8218, 402, 8222, 8230, 8224, 8225, 710, 8240, 352, 8249, 338, 141, 381, 143, 144, 8216, 8217, 8220, 8221, 8226, 8211, 8212, 732, 8482, 353, 8250, 339, 157, 382, 376]
def Hi (w : World) : Prop := ∀ i : Nat, i < 32 → w.cell? ⟨1, i, none⟩ = some (.int .i32 (tabL.getD i 0))
def ctl (r : Int) : Bool := decide ((r < 32 ∧ r ≠ 9 ∧ r ≠ 10 ∧ r ≠ 12) ∨ r = 127)
def nonch (r : Int) : Bool := decide ((64976 ≤ r ∧ r ≤ 65007) ∨ r % 65536 = 65534 ∨ r % 65536 = 65535)
def chrP (n : Int) : Int × Int :=
  if n ≤ 0 ∨ n > 1114111 ∨ (55296 ≤ n ∧ n ≤ 57343) then (65533, 20)
  else if 128 ≤ n ∧ n ≤ 159 then (tabL.getD (n - 128).toNat 0, 20)
  else if ctl n = true ∨ nonch n = true then (n, 20) else (n, 0)
theorem ret_int {a b : Int} {k : IntKind} (h : a = b) : Ending.returned (.int k a) = .returned (.int k b) := by rw [h]
theorem ret_bool {a b : Bool} (h : a = b) : Ending.returned (.bool a) = .returned (.bool b) := by rw [h]
theorem nat_and (a : Nat) : a &&& 65534 = 2 * ((a / 2) % 32768) := by
  have h1 : (a &&& 65534) / 2 = (a / 2) % 32768 := by
    rw [Nat.and_div_two]
    exact Nat.and_two_pow_sub_one_eq_mod (a / 2) 15
  have h2 : (a &&& 65534) % 2 = 0 := by
    have h := @Nat.and_mod_two_eq_one a 65534
    have h3 : ¬ (a &&& 65534) % 2 = 1 := fun e => by have := (h.1 e).2; omega
    omega
  omega
theorem i32_andE (x : Int) (h₀ : 0 ≤ x) (h₁ : x ≤ 1114111) : bits .and .i32 x 65534 = 2 * ((x / 2) % 32768) := by
  obtain ⟨a, rfl⟩ := Int.eq_ofNat_of_zero_le h₀
  have := (bits_nat .i32 31 (by decide) wraps_i32 a 65534 (by omega) (by decide)).1
  rw [nat_and] at this
  rw [show (65534 : Int) = ((65534 : Nat) : Int) from rfl, this]
  omega
set_option maxHeartbeats 1000000 in
theorem control_any (r : Int) (w : World) : Calls Tryz.prog 213 #[.int .i32 r] w fun e w' => e = .returned (.bool (ctl r)) ∧ w' = w := by
  go_enter Tryz.func213, Tryz.ntmps213
  go_wp2
  all_goals
    go_ret
    refine ⟨ret_bool ?_, rfl⟩
    (try simp only [beq_iff_eq, beq_eq_false_iff_ne, ne_eq, decide_eq_true_eq, decide_eq_false_iff_not] at *)
    unfold ctl
    first | (symm; apply decide_eq_true; omega) | (symm; apply decide_eq_false; omega) | (rw [Bool.eq_iff_iff]; simp; omega)
set_option maxHeartbeats 1000000 in
theorem nonchar_any (r : Int) (w : World) (h₀ : 0 ≤ r) (h₁ : r ≤ 1114111) : Calls Tryz.prog 214 #[.int .i32 r] w fun e w' => e = .returned (.bool (nonch r)) ∧ w' = w := by
  have hm := i32_andE r h₀ h₁
  go_enter Tryz.func214, Tryz.ntmps214
  go_wp2
  all_goals
    go_ret
    refine ⟨ret_bool ?_, rfl⟩
    (try simp only [beq_iff_eq, beq_eq_false_iff_ne, ne_eq, decide_eq_true_eq, decide_eq_false_iff_not] at *)
    unfold nonch
    first | (symm; apply decide_eq_true; omega) | (symm; apply decide_eq_false; omega) | (rw [Bool.eq_iff_iff]; simp; omega)
set_option maxHeartbeats 1000000 in
set_option maxRecDepth 10000 in
theorem character_any (n : Int) (w : World) (H : Hi w) (hn : -9223372036854775808 ≤ n ∧ n ≤ 9223372036854775807) :
    Calls Tryz.prog 191 #[.int .i64 n] w fun e w' => e = .returned (.tuple #[.int .i32 (chrP n).1, .int .i64 (chrP n).2]) ∧ w' = w := by
  have HH : Hid (Hi w) := H
  clear H
  by_cases h1 : n ≤ 0
  · have HP : Hid (chrP n = (65533, 20)) := by show chrP n = _; unfold chrP; rw [if_pos (Or.inl h1)]
    go_enter Tryz.func191, Tryz.ntmps191
    go_wp2
    go_ret2
    rw [HP.out]; exact ⟨rfl, rfl⟩
  by_cases h2 : n > 1114111
  · have HP : Hid (chrP n = (65533, 20)) := by show chrP n = _; unfold chrP; rw [if_pos (Or.inr (Or.inl h2))]
    go_enter Tryz.func191, Tryz.ntmps191
    go_wp2
    go_ret2
    rw [HP.out]; exact ⟨rfl, rfl⟩
  by_cases h3 : 55296 ≤ n ∧ n ≤ 57343
  · have HP : Hid (chrP n = (65533, 20)) := by show chrP n = _; unfold chrP; rw [if_pos (Or.inr (Or.inr h3))]
    obtain ⟨h3, h4⟩ := h3
    go_enter Tryz.func191, Tryz.ntmps191
    go_wp2
    go_ret2
    rw [HP.out]; exact ⟨rfl, rfl⟩
  have hn0 : ¬ (n ≤ 0 ∨ n > 1114111 ∨ (55296 ≤ n ∧ n ≤ 57343)) := by omega
  by_cases h4 : 128 ≤ n ∧ n ≤ 159
  · have HP : Hid (chrP n = (tabL.getD (n - 128).toNat 0, 20)) := by show chrP n = _; unfold chrP; rw [if_neg hn0, if_pos h4]
    obtain ⟨i, hi⟩ : ∃ i : Nat, n = i + 128 := ⟨(n - 128).toNat, by omega⟩
    subst hi
    have hc := HH.out i (by omega)
    rw [show ((i : Int) + 128 - 128).toNat = i by omega] at HP
    obtain ⟨z, hz⟩ : ∃ z, tabL.getD i 0 = z := ⟨_, rfl⟩
    rw [hz] at hc HP
    clear hz h3 hn0
    go_enter Tryz.func191, Tryz.ntmps191
    go_wp2
    all_goals
      go_ret2
      rw [HP.out]; exact ⟨rfl, rfl⟩
  have h5 : (0 < n ∧ n < 128) ∨ (159 < n ∧ n < 55296) ∨ (57343 < n ∧ n ≤ 1114111) := by omega
  obtain ⟨bc, hbc⟩ : ∃ bc, ctl n = bc := ⟨_, rfl⟩
  obtain ⟨bn, hbn⟩ : ∃ bn, nonch n = bn := ⟨_, rfl⟩
  have HP : Hid (chrP n = (n, if bc || bn then 20 else 0)) := by
    show chrP n = _
    unfold chrP
    rw [if_neg hn0, if_neg h4, hbc, hbn]
    cases bc <;> cases bn <;> rfl
  have k1 := control_any n
  have k2 := fun w => nonchar_any n w (by omega) (by omega)
  rw [hbc] at k1
  rw [hbn] at k2
  clear hbc hbn h3 hn0 h4
  rcases h5 with ⟨h5, h6⟩ | ⟨h5, h6⟩ | ⟨h5, h6⟩
  all_goals
    cases bc <;> cases bn
    all_goals
      go_enter Tryz.func191, Tryz.ntmps191
      go_wp2_with (first | (go_at_call 213; refine (k1 _).mono ?_; rintro e w' ⟨rfl, rfl⟩) | (go_at_call 214; refine (k2 _).mono ?_; rintro e w' ⟨rfl, rfl⟩))
      go_ret2
      rw [HP.out]; exact ⟨rfl, rfl⟩
theorem tab_ok : ∀ i : Nat, i < 32 → 0 < tabL.getD i 0 ∧ tabL.getD i 0 < 55296 := by decide
theorem chrP_ok (n : Int) : 0 < (chrP n).1 ∧ (chrP n).1 ≤ 1114111 ∧ ((chrP n).1 < 55296 ∨ 57343 < (chrP n).1) := by
  unfold chrP
  split
  · decide
  split
  · rename_i h1 h2
    have := tab_ok (n - 128).toNat (by omega)
    show 0 < tabL.getD (n - 128).toNat 0 ∧ tabL.getD (n - 128).toNat 0 ≤ 1114111 ∧ (tabL.getD (n - 128).toNat 0 < 55296 ∨ 57343 < tabL.getD (n - 128).toNat 0)
    omega
  split
  · show 0 < n ∧ n ≤ 1114111 ∧ (n < 55296 ∨ 57343 < n); omega
  · show 0 < n ∧ n ≤ 1114111 ∧ (n < 55296 ∨ 57343 < n); omega
end Go.Proofs.YtdiealijjhfhjaaGreatDoor.G6
