/- The document's need, second; a decoder's New, Copy. -/
import Derived.Test.YtkphiopeclgffaaSmall
namespace Go.Proofs.Ytkphiopeclgffaa
open Go.RowKit

theorem ret_bool {a b : Bool} (h : a = b) : Ending.returned (.bool a) = .returned (.bool b) := by rw [h]
theorem ret_int {a b : Int} (h : a = b) : Ending.returned (.int .i64 a) = .returned (.int .i64 b) := by rw [h]

set_option maxHeartbeats 400000 in
set_option maxRecDepth 10000 in
theorem need_any (b : UInt8) (w : World) : Calls Try.prog 34 #[.int .u8 (b.toNat : Nat)] w fun e w' => e = .returned (.int .i64 (need b.toNat : Nat)) ∧ w' = w := by
  have hb := UInt8.toNat_lt b
  obtain ⟨n, hn⟩ : ∃ n, b.toNat = n := ⟨_, rfl⟩
  rw [hn] at hb ⊢
  clear hn
  go_enter Try.func34, Try.ntmps34
  go_wp2
  all_goals
    go_ret
    refine ⟨?_, rfl⟩
    unfold need
    repeat' split
    all_goals first | rfl | (exfalso; omega)

def secB (a c : Nat) : Bool := decide (lo2 a ≤ c ∧ c ≤ hi2 a)

set_option maxHeartbeats 400000 in
theorem second_any (a c : UInt8) (w : World) : Calls Try.prog 35 #[.int .u8 (a.toNat : Nat), .int .u8 (c.toNat : Nat)] w fun e w' => e = .returned (.bool (secB a.toNat c.toNat)) ∧ w' = w := by
  have ha := UInt8.toNat_lt a
  have hc := UInt8.toNat_lt c
  obtain ⟨n, hn⟩ : ∃ n, a.toNat = n := ⟨_, rfl⟩
  obtain ⟨m, hm⟩ : ∃ n, c.toNat = n := ⟨_, rfl⟩
  rw [hn] at ha ⊢
  rw [hm] at hc ⊢
  clear hn hm
  go_enter Try.func35, Try.ntmps35
  go_wp2
  all_goals
    go_ret
    refine ⟨ret_bool (Bool.eq_iff_iff.2 ?_), rfl⟩
    (try simp only [beq_iff_eq, beq_eq_false_iff_ne, ne_eq] at *)
    unfold secB lo2 hi2
    simp only [decide_eq_true_eq, Bool.false_eq_true, false_iff]
    repeat' split
    all_goals omega

set_option maxHeartbeats 400000 in
theorem new_ok (p : Int) (h0 : 0 ≤ p) (h1 : p ≤ 1099511627776) (w : World) : Calls Try.prog 20 #[.int .i64 p] w fun e w' => e = .returned (.pointer (some ⟨w.heap.size, 0, none⟩)) ∧ DecIs w.heap.size p p F0 w' ∧ Below w.heap.size w w' ∧ w'.heap.size = w.heap.size + 1 := by
  go_enter Try.func20, Try.ntmps20
  go_wp2
  go_ret
  exact ⟨rfl, heap_alloc_new _ _, (Below.refl _ _).alloc (Nat.le_refl _) _, by simp⟩
set_option maxHeartbeats 400000 in
theorem new_no (p : Int) (h : p < 0 ∨ 1099511627776 < p) (w : World) : Calls Try.prog 20 #[.int .i64 p] w fun e w' => e = .returned (.pointer (some ⟨w.heap.size, 0, none⟩)) ∧ DecIs w.heap.size 0 0 F0 w' ∧ Below w.heap.size w w' ∧ w'.heap.size = w.heap.size + 1 := by
  rcases h with h | h
  · go_enter Try.func20, Try.ntmps20
    go_wp2
    go_ret
    exact ⟨rfl, heap_alloc_new _ _, (Below.refl _ _).alloc (Nat.le_refl _) _, by simp⟩
  · have h' : ¬ p < 0 := by omega
    go_enter Try.func20, Try.ntmps20
    go_wp2
    go_ret
    exact ⟨rfl, heap_alloc_new _ _, (Below.refl _ _).alloc (Nat.le_refl _) _, by simp⟩

set_option maxHeartbeats 400000 in
theorem copy_any {d : Nat} {p q : Int} {f : F} {w : World} (h : DecIs d p q f w) : Calls Try.prog 21 #[.pointer (some ⟨d, 0, none⟩)] w fun e w' => e = .returned (.pointer (some ⟨w.heap.size, 0, none⟩)) ∧ DecIs w.heap.size p q f w' ∧ Below w.heap.size w w' ∧ w'.heap.size = w.heap.size + 1 := by
  obtain ⟨hdw, d0, d1, d2, d3, d4, d5, hfz⟩ := dec_cells h
  clear h hfz
  go_enter Try.func21, Try.ntmps21
  go_wp2
  go_ret
  exact ⟨rfl, heap_alloc_new _ _, (Below.refl _ _).alloc (Nat.le_refl _) _, by simp⟩

end Go.Proofs.Ytkphiopeclgffaa
