/- The law's own look at chapter 2's examples is true. -/
import Derived.Test.YtincdpggdgllaaaRef
namespace Go.Proofs.Ytincdpggdgllaaa
open Go.RowKit

/-- The example's edit lies in block E. -/
structure ExAt (E : Nat) (w : World) : Prop where
  at_ : w.heap[E]? = some (.cells #[.int .i64 2, .int .i64 3, .string ⟨#[97, 98]⟩] 23 (0, 0))
  lt : E < w.heap.size

theorem ExAt.below {E : Nat} {w w' : World} (h : ExAt E w) (b : Below w.heap.size w w') : ExAt E w' :=
  ⟨(b.block _ h.lt).trans h.at_, Nat.lt_of_lt_of_le h.lt b.size⟩

theorem ex_point {E : Nat} {w : World} (h : ExAt E w) (q : Int) (after : Bool) (v : Int) (hv : pt 2 3 2 q after = v) :
    Calls Try.prog 10 #[.agg #[.int .i64 2, .int .i64 3, .string ⟨#[97, 98]⟩], .int .i64 q, .bool after] w fun e w' => e = .returned (.int .i64 v) ∧ Below w.heap.size w w' ∧ ExAt E w' ∧ w'.cell? ⟨E, 0, none⟩ = some (.int .i64 2) ∧ w'.cell? ⟨E, 1, none⟩ = some (.int .i64 3) ∧ w'.cell? ⟨E, 2, none⟩ = some (.string ⟨#[97, 98]⟩) := by
  refine (point_any 2 3 ⟨#[97, 98]⟩ (by decide) q after w).mono ?_
  rintro e w' ⟨he, b⟩
  subst hv
  exact ⟨he, b, h.below b, ed_cells (h.below b).at_⟩

theorem ex_back {E : Nat} {w : World} (h : ExAt E w) (q : Int) (v : Int) (o : Bool) (hv : bk 2 3 2 q = (v, o)) :
    Calls Try.prog 8 #[.agg #[.int .i64 2, .int .i64 3, .string ⟨#[97, 98]⟩], .int .i64 q] w fun e w' => e = .returned (.tuple #[.int .i64 v, .bool o]) ∧ Below w.heap.size w w' ∧ ExAt E w' ∧ w'.cell? ⟨E, 0, none⟩ = some (.int .i64 2) ∧ w'.cell? ⟨E, 1, none⟩ = some (.int .i64 3) ∧ w'.cell? ⟨E, 2, none⟩ = some (.string ⟨#[97, 98]⟩) := by
  refine (back_any 2 3 ⟨#[97, 98]⟩ (by decide) q w).mono ?_
  rintro e w' ⟨he, b⟩
  have hv' : bk 2 3 ((ByteArray.mk #[97, 98]).size : Nat) q = (v, o) := hv
  rw [hv'] at he
  exact ⟨he, b, h.below b, ed_cells (h.below b).at_⟩

theorem ex_check {E : Nat} {w : World} (h : ExAt E w) (n : Int) (v : Int) (hn : -9223372036854775808 ≤ n ∧ n ≤ 9223372036854775807) (hv : chk 2 3 n = v) :
    Calls Try.prog 12 #[.agg #[.int .i64 2, .int .i64 3, .string ⟨#[97, 98]⟩], .int .i64 n] w fun e w' => e = .returned (.int .i64 v) ∧ Below w.heap.size w w' ∧ ExAt E w' ∧ w'.cell? ⟨E, 0, none⟩ = some (.int .i64 2) ∧ w'.cell? ⟨E, 1, none⟩ = some (.int .i64 3) ∧ w'.cell? ⟨E, 2, none⟩ = some (.string ⟨#[97, 98]⟩) := by
  refine (check_any 2 3 ⟨#[97, 98]⟩ n hn w).mono ?_
  rintro e w' ⟨he, b⟩
  subst hv
  exact ⟨he, b, h.below b, ed_cells (h.below b).at_⟩

set_option maxHeartbeats 1000000 in
theorem awake_any (w : World) : Calls Try.prog 14 #[] w fun e w' => e = .returned (.bool true) ∧ Below w.heap.size w w' := by
  have hb0 : Below w.heap.size w (w.alloc (.cells #[.int .i64 2, .int .i64 3, .string ⟨#[97, 98]⟩] 23)) := (Below.refl _ _).alloc (Nat.le_refl _) _
  have x0 : ExAt w.heap.size (w.alloc (.cells #[.int .i64 2, .int .i64 3, .string ⟨#[97, 98]⟩] 23)) := ⟨heap_alloc_new _ _, by simp⟩
  go_enter Try.func14, Try.ntmps14
  go_wp2_with fail
  refine (ex_back x0 4 5 true (by decide)).mono ?_
  rintro e w1 ⟨rfl, b1, x1, c0, c1, c2⟩
  have hb1 := hb0.trans (b1.mono (Nat.le_of_lt x0.lt))
  clear b1
  go_wp2_with fail
  refine (ex_back x1 3 2 false (by decide)).mono ?_
  rintro e w2 ⟨rfl, b2, x2, c0, c1, c2⟩
  have hb2 := hb1.trans (b2.mono (Nat.le_of_lt x1.lt))
  clear b2
  go_wp2_with fail
  refine (ex_point x2 1 false 1 (by decide)).mono ?_
  rintro e w3 ⟨rfl, b3, x3, c0, c1, c2⟩
  have hb3 := hb2.trans (b3.mono (Nat.le_of_lt x2.lt))
  clear b3
  go_wp2_with fail
  refine (ex_point x3 2 false 2 (by decide)).mono ?_
  rintro e w4 ⟨rfl, b4, x4, c0, c1, c2⟩
  have hb4 := hb3.trans (b4.mono (Nat.le_of_lt x3.lt))
  clear b4
  go_wp2_with fail
  refine (ex_point x4 2 true 4 (by decide)).mono ?_
  rintro e w5 ⟨rfl, b5, x5, c0, c1, c2⟩
  have hb5 := hb4.trans (b5.mono (Nat.le_of_lt x4.lt))
  clear b5
  go_wp2_with fail
  refine (ex_point x5 3 false 2 (by decide)).mono ?_
  rintro e w6 ⟨rfl, b6, x6, c0, c1, c2⟩
  have hb6 := hb5.trans (b6.mono (Nat.le_of_lt x5.lt))
  clear b6
  go_wp2_with fail
  refine (ex_point x6 5 false 4 (by decide)).mono ?_
  rintro e w7 ⟨rfl, b7, x7, c0, c1, c2⟩
  have hb7 := hb6.trans (b7.mono (Nat.le_of_lt x6.lt))
  clear b7
  go_wp2_with fail
  refine (ex_point x7 9 false 8 (by decide)).mono ?_
  rintro e w8 ⟨rfl, b8, x8, c0, c1, c2⟩
  have hb8 := hb7.trans (b8.mono (Nat.le_of_lt x7.lt))
  clear b8
  go_wp2_with fail
  refine (ex_check x8 5 0 (by decide) (by decide)).mono ?_
  rintro e w9 ⟨rfl, b9, x9, c0, c1, c2⟩
  have hb9 := hb8.trans (b9.mono (Nat.le_of_lt x8.lt))
  clear b9
  go_wp2_with fail
  refine (ex_check x9 4 1 (by decide) (by decide)).mono ?_
  rintro e w10 ⟨rfl, b10, x10, c0, c1, c2⟩
  have hb10 := hb9.trans (b10.mono (Nat.le_of_lt x9.lt))
  clear b10
  go_wp2_with fail
  go_ret
  exact ⟨rfl, hb10⟩
end Go.Proofs.Ytincdpggdgllaaa
