/- The calls of mapping and of the document, with the edit that came in kept in its block. -/
import Derived.Test.YtincdpggdgllaaaAwake
namespace Go.Proofs.Ytincdpggdgllaaa
open Go.RowKit

/-- The edit that came in lies in block E. -/
structure EdAt (E : Nat) (x y : Int) (s : ByteArray) (w : World) : Prop where
  at_ : w.heap[E]? = some (.cells #[.int .i64 x, .int .i64 y, .string s] 23 (0, 0))
  lt : E < w.heap.size

theorem EdAt.below {E : Nat} {x y : Int} {s : ByteArray} {w w' : World} (h : EdAt E x y s w) (b : Below w.heap.size w w') : EdAt E x y s w' :=
  ⟨(b.block _ h.lt).trans h.at_, Nat.lt_of_lt_of_le h.lt b.size⟩

theorem point_as {E : Nat} {x y : Int} {s : ByteArray} {w : World} (h : EdAt E x y s w) (hs : s.size ≤ 140737488355328) (q : Int) (after : Bool) (v : Int) (hv : pt x y s.size q after = v) :
    Calls Try.prog 10 #[.agg #[.int .i64 x, .int .i64 y, .string s], .int .i64 q, .bool after] w fun e w' => e = .returned (.int .i64 v) ∧ Below w.heap.size w w' ∧ EdAt E x y s w' ∧ w'.cell? ⟨E, 0, none⟩ = some (.int .i64 x) ∧ w'.cell? ⟨E, 1, none⟩ = some (.int .i64 y) ∧ w'.cell? ⟨E, 2, none⟩ = some (.string s) := by
  refine (point_any x y s hs q after w).mono ?_
  rintro e w' ⟨he, b⟩
  rw [hv] at he
  exact ⟨he, b, h.below b, ed_cells (h.below b).at_⟩

theorem rpoint_as {E : Nat} {x y : Int} {s : ByteArray} {w : World} (h : EdAt E x y s w) (hs : s.size ≤ 140737488355328) (q : Int) (after : Bool) (v : Int) (hv : pt x y s.size q after = v) :
    Calls Try.prog 11 #[.agg #[.int .i64 x, .int .i64 y, .string s], .int .i64 q, .bool after] w fun e w' => e = .returned (.int .i64 v) ∧ Below w.heap.size w w' ∧ EdAt E x y s w' ∧ w'.cell? ⟨E, 0, none⟩ = some (.int .i64 x) ∧ w'.cell? ⟨E, 1, none⟩ = some (.int .i64 y) ∧ w'.cell? ⟨E, 2, none⟩ = some (.string s) := by
  refine (rpoint_any x y s hs q after w).mono ?_
  rintro e w' ⟨he, b⟩
  rw [hv] at he
  exact ⟨he, b, h.below b, ed_cells (h.below b).at_⟩

theorem back_as {E : Nat} {x y : Int} {s : ByteArray} {w : World} (h : EdAt E x y s w) (hs : s.size ≤ 140737488355328) (q : Int) (v : Int) (o : Bool) (hv : bk x y s.size q = (v, o)) :
    Calls Try.prog 8 #[.agg #[.int .i64 x, .int .i64 y, .string s], .int .i64 q] w fun e w' => e = .returned (.tuple #[.int .i64 v, .bool o]) ∧ Below w.heap.size w w' ∧ EdAt E x y s w' ∧ w'.cell? ⟨E, 0, none⟩ = some (.int .i64 x) ∧ w'.cell? ⟨E, 1, none⟩ = some (.int .i64 y) ∧ w'.cell? ⟨E, 2, none⟩ = some (.string s) := by
  refine (back_any x y s hs q w).mono ?_
  rintro e w' ⟨he, b⟩
  rw [hv] at he
  exact ⟨he, b, h.below b, ed_cells (h.below b).at_⟩

theorem rback_as {E : Nat} {x y : Int} {s : ByteArray} {w : World} (h : EdAt E x y s w) (hs : s.size ≤ 140737488355328) (q : Int) (v : Int) (o : Bool) (hv : bk x y s.size q = (v, o)) :
    Calls Try.prog 9 #[.agg #[.int .i64 x, .int .i64 y, .string s], .int .i64 q] w fun e w' => e = .returned (.tuple #[.int .i64 v, .bool o]) ∧ Below w.heap.size w w' ∧ EdAt E x y s w' ∧ w'.cell? ⟨E, 0, none⟩ = some (.int .i64 x) ∧ w'.cell? ⟨E, 1, none⟩ = some (.int .i64 y) ∧ w'.cell? ⟨E, 2, none⟩ = some (.string s) := by
  refine (rback_any x y s hs q w).mono ?_
  rintro e w' ⟨he, b⟩
  rw [hv] at he
  exact ⟨he, b, h.below b, ed_cells (h.below b).at_⟩

theorem check_as {E : Nat} {x y : Int} {s : ByteArray} {w : World} (h : EdAt E x y s w) (n : Int) (hn : -9223372036854775808 ≤ n ∧ n ≤ 9223372036854775807) (v : Int) (hv : chk x y n = v) :
    Calls Try.prog 12 #[.agg #[.int .i64 x, .int .i64 y, .string s], .int .i64 n] w fun e w' => e = .returned (.int .i64 v) ∧ Below w.heap.size w w' ∧ EdAt E x y s w' ∧ w'.cell? ⟨E, 0, none⟩ = some (.int .i64 x) ∧ w'.cell? ⟨E, 1, none⟩ = some (.int .i64 y) ∧ w'.cell? ⟨E, 2, none⟩ = some (.string s) := by
  refine (check_any x y s n hn w).mono ?_
  rintro e w' ⟨he, b⟩
  rw [hv] at he
  exact ⟨he, b, h.below b, ed_cells (h.below b).at_⟩

theorem rcheck_as {E : Nat} {x y : Int} {s : ByteArray} {w : World} (h : EdAt E x y s w) (n : Int) (hn : -9223372036854775808 ≤ n ∧ n ≤ 9223372036854775807) (v : Int) (hv : chk x y n = v) :
    Calls Try.prog 13 #[.agg #[.int .i64 x, .int .i64 y, .string s], .int .i64 n] w fun e w' => e = .returned (.int .i64 v) ∧ Below w.heap.size w w' ∧ EdAt E x y s w' ∧ w'.cell? ⟨E, 0, none⟩ = some (.int .i64 x) ∧ w'.cell? ⟨E, 1, none⟩ = some (.int .i64 y) ∧ w'.cell? ⟨E, 2, none⟩ = some (.string s) := by
  refine (rcheck_any x y s n hn w).mono ?_
  rintro e w' ⟨he, b⟩
  rw [hv] at he
  exact ⟨he, b, h.below b, ed_cells (h.below b).at_⟩

/-- What a region keeps: the edit's cells, its block, all that was there at the call. -/
structure Held (E : Nat) (x y : Int) (s : ByteArray) (w0 w : World) : Prop where
  ed : EdAt E x y s w
  below : Below w0.heap.size w0 w

theorem keeps_of {E : Nat} {x y : Int} {s : ByteArray} {w0 w : World} (h : Held E x y s w0 w) :
    w.cell? ⟨E, 0, none⟩ = some (.int .i64 x) ∧ w.cell? ⟨E, 1, none⟩ = some (.int .i64 y) ∧ w.cell? ⟨E, 2, none⟩ = some (.string s) ∧ Held E x y s w0 w := by
  obtain ⟨a, b, c⟩ := ed_cells h.ed.at_
  exact ⟨a, b, c, h⟩

theorem held_of {E : Nat} {x y : Int} {s : ByteArray} {w0 w : World}
    (h : w.cell? ⟨E, 0, none⟩ = some (.int .i64 x) ∧ w.cell? ⟨E, 1, none⟩ = some (.int .i64 y) ∧ w.cell? ⟨E, 2, none⟩ = some (.string s) ∧ Held E x y s w0 w) : Held E x y s w0 w := h.2.2.2

theorem Held.drew {E : Nat} {x y : Int} {s : ByteArray} {w0 w : World} (h : Held E x y s w0 w) : Held E x y s w0 w.drew := ⟨⟨h.ed.at_, h.ed.lt⟩, h.below.drew⟩

theorem Held.on {E : Nat} {x y : Int} {s : ByteArray} {w0 w w' : World} (h : Held E x y s w0 w) (b : Below w.heap.size w w') : Held E x y s w0 w' :=
  ⟨h.ed.below b, h.below.trans (b.mono h.below.size)⟩

/-- Any call that turns nothing that was there, within a region that keeps the edit. -/
theorem call_held {E : Nat} {x y : Int} {s : ByteArray} {w0 w : World} {f : FuncId} {args : Array Value} {v : Value} (h : Held E x y s w0 w)
    (hc : Calls Try.prog f args w fun e w' => e = .returned v ∧ Below w.heap.size w w') :
    Calls Try.prog f args w fun e w' => e = .returned v ∧ w'.cell? ⟨E, 0, none⟩ = some (.int .i64 x) ∧ w'.cell? ⟨E, 1, none⟩ = some (.int .i64 y) ∧ w'.cell? ⟨E, 2, none⟩ = some (.string s) ∧ Held E x y s w0 w' := by
  refine hc.mono ?_
  rintro e w' ⟨he, b⟩
  exact ⟨he, keeps_of (h.on b)⟩

theorem point_held {E : Nat} {x y : Int} {s : ByteArray} {w0 w : World} (h : Held E x y s w0 w) (hs : s.size ≤ 140737488355328) (q : Int) (after : Bool) (v : Int) (hv : pt x y s.size q after = v) :
    Calls Try.prog 10 #[.agg #[.int .i64 x, .int .i64 y, .string s], .int .i64 q, .bool after] w fun e w' => e = .returned (.int .i64 v) ∧ w'.cell? ⟨E, 0, none⟩ = some (.int .i64 x) ∧ w'.cell? ⟨E, 1, none⟩ = some (.int .i64 y) ∧ w'.cell? ⟨E, 2, none⟩ = some (.string s) ∧ Held E x y s w0 w' :=
  call_held h (hv ▸ point_any x y s hs q after w)
theorem rpoint_held {E : Nat} {x y : Int} {s : ByteArray} {w0 w : World} (h : Held E x y s w0 w) (hs : s.size ≤ 140737488355328) (q : Int) (after : Bool) (v : Int) (hv : pt x y s.size q after = v) :
    Calls Try.prog 11 #[.agg #[.int .i64 x, .int .i64 y, .string s], .int .i64 q, .bool after] w fun e w' => e = .returned (.int .i64 v) ∧ w'.cell? ⟨E, 0, none⟩ = some (.int .i64 x) ∧ w'.cell? ⟨E, 1, none⟩ = some (.int .i64 y) ∧ w'.cell? ⟨E, 2, none⟩ = some (.string s) ∧ Held E x y s w0 w' :=
  call_held h (hv ▸ rpoint_any x y s hs q after w)
theorem check_held {E : Nat} {x y : Int} {s : ByteArray} {w0 w : World} (h : Held E x y s w0 w) (n : Int) (hn : -9223372036854775808 ≤ n ∧ n ≤ 9223372036854775807) (v : Int) (hv : chk x y n = v) :
    Calls Try.prog 12 #[.agg #[.int .i64 x, .int .i64 y, .string s], .int .i64 n] w fun e w' => e = .returned (.int .i64 v) ∧ w'.cell? ⟨E, 0, none⟩ = some (.int .i64 x) ∧ w'.cell? ⟨E, 1, none⟩ = some (.int .i64 y) ∧ w'.cell? ⟨E, 2, none⟩ = some (.string s) ∧ Held E x y s w0 w' :=
  call_held h (hv ▸ check_any x y s n hn w)
theorem rcheck_held {E : Nat} {x y : Int} {s : ByteArray} {w0 w : World} (h : Held E x y s w0 w) (n : Int) (hn : -9223372036854775808 ≤ n ∧ n ≤ 9223372036854775807) (v : Int) (hv : chk x y n = v) :
    Calls Try.prog 13 #[.agg #[.int .i64 x, .int .i64 y, .string s], .int .i64 n] w fun e w' => e = .returned (.int .i64 v) ∧ w'.cell? ⟨E, 0, none⟩ = some (.int .i64 x) ∧ w'.cell? ⟨E, 1, none⟩ = some (.int .i64 y) ∧ w'.cell? ⟨E, 2, none⟩ = some (.string s) ∧ Held E x y s w0 w' :=
  call_held h (hv ▸ rcheck_any x y s n hn w)
theorem awake_held {E : Nat} {x y : Int} {s : ByteArray} {w0 w : World} (h : Held E x y s w0 w) :
    Calls Try.prog 14 #[] w fun e w' => e = .returned (.bool true) ∧ w'.cell? ⟨E, 0, none⟩ = some (.int .i64 x) ∧ w'.cell? ⟨E, 1, none⟩ = some (.int .i64 y) ∧ w'.cell? ⟨E, 2, none⟩ = some (.string s) ∧ Held E x y s w0 w' :=
  call_held h (awake_any w)
end Go.Proofs.Ytincdpggdgllaaa
