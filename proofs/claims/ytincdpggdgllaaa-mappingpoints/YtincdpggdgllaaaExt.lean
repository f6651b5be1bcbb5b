/- Spans as complex numbers: laying one, and reading its beginning, its length and its end; what an edit takes out and puts in. -/
import Derived.Test.YtincdpggdgllaaaRows
import Derived.Test.YtincdpggdgllaaaNum
import Derived.WalkKit
import Derived.WalkSpells
import Derived.WalkLawsBesides
import Derived.Deep.Upon
import Derived.Deep.RegionWith
import Derived.Deep.RegionHeld3
import Derived.BigQuiet
import Derived.Deep.QuietTactic
namespace Go.Proofs.Ytincdpggdgllaaa
open Go.RowKit

theorem ed_cells {W : World} {E : Nat} {x y z : Value} (h : W.heap[E]? = some (.cells #[x, y, z] 23 (0, 0))) : W.cell? ⟨E, 0, none⟩ = some x ∧ W.cell? ⟨E, 1, none⟩ = some y ∧ W.cell? ⟨E, 2, none⟩ = some z := by
  refine ⟨?_, ?_, ?_⟩ <;> simp [World.cell?, h]
theorem ed_frozen {W : World} {E : Nat} {x y z : Value} (h : W.heap[E]? = some (.cells #[x, y, z] 23 (0, 0))) : W.frozen? ⟨E, 0, none⟩ = false ∧ W.frozen? ⟨E, 1, none⟩ = false ∧ W.frozen? ⟨E, 2, none⟩ = false := by
  refine ⟨?_, ?_, ?_⟩ <;> simp [World.frozen?, h]

theorem conv_fl (a : Int) (h : a.natAbs < 2 ^ 53) (w : World) : (convert 50 3 (.float .f64 (fl a))).run Try.prog w = .ok (.int .i64 a) w :=
  run_convert_float_int w 50 3 .f64 .i64 (fl a) a (by rw [Try.underlying50]; rfl) Try.underlying3 (floatToInt_fl a h)

set_option maxHeartbeats 400000 in
theorem lay_any (a b : Int) (w : World) :
    Calls Try.prog 28 #[.int .i64 a, .int .i64 b] w fun e w' => e = .returned (.complex .f64 (fl a) (fl b)) ∧ w' = w := by
  go_enter Try.func28, Try.ntmps28
  go_wp2
  go_ret
  exact ⟨rfl, rfl⟩

set_option maxHeartbeats 400000 in
theorem told_any (a : Int) (w : World) :
    Calls Try.prog 21 #[.int .i64 a] w fun e w' => e = .returned (.bool (decide (-1099511627776 ≤ a ∧ a ≤ 1099511627776))) ∧ w' = w := by
  by_cases h : -1099511627776 ≤ a
  · have d : decide (-1099511627776 ≤ a) = true := decide_eq_true h
    go_enter Try.func21, Try.ntmps21
    go_wp2
    all_goals
      go_ret
      exact ⟨by simp_all, rfl⟩
  · have d : decide (-1099511627776 ≤ a) = false := decide_eq_false h
    go_enter Try.func21, Try.ntmps21
    go_wp2
    all_goals
      go_ret
      exact ⟨by simp_all, rfl⟩

set_option maxHeartbeats 400000 in
theorem from_any (a b : Int) (h : a.natAbs < 2 ^ 53) (w : World) :
    Calls Try.prog 23 #[.complex .f64 (fl a) (fl b)] w fun e w' => e = .returned (.int .i64 a) ∧ w' = w := by
  have hc := conv_fl a h
  go_enter Try.func23, Try.ntmps23
  go_wp2_with (simp only [hc])
  go_ret
  exact ⟨rfl, rfl⟩

set_option maxHeartbeats 400000 in
theorem length_any (a b : Int) (h : b.natAbs < 2 ^ 53) (w : World) :
    Calls Try.prog 25 #[.complex .f64 (fl a) (fl b)] w fun e w' => e = .returned (.int .i64 b) ∧ w' = w := by
  have hc := conv_fl b h
  go_enter Try.func25, Try.ntmps25
  go_wp2_with (simp only [hc])
  go_ret
  exact ⟨rfl, rfl⟩

set_option maxHeartbeats 400000 in
theorem to_any (a b : Int) (h1 : a.natAbs < 2 ^ 53) (h2 : b.natAbs < 2 ^ 53) (w : World) :
    Calls Try.prog 24 #[.complex .f64 (fl a) (fl b)] w fun e w' => e = .returned (.int .i64 (a + b)) ∧ w' = w := by
  have hw : IntKind.i64.wrap (a + b) = a + b := by
    have p53 : (2:Nat) ^ 53 = 9007199254740992 := by decide
    rw [p53] at h1 h2
    rw [IntKind.wrap_i64]; omega
  go_enter Try.func24, Try.ntmps24
  go_wp2_with (first
    | (go_at_call 23; refine (from_any _ _ h1 _).mono ?_; rintro e w' ⟨rfl, rfl⟩)
    | (go_at_call 25; refine (length_any _ _ h2 _).mono ?_; rintro e w' ⟨rfl, rfl⟩))
  go_ret
  exact ⟨rfl, rfl⟩

/-- An edit that is one. -/
def Ok (x y : Int) : Prop := 0 ≤ x ∧ x ≤ 1099511627776 ∧ 0 ≤ y ∧ y ≤ 1099511627776
def decOk (x y : Int) : Decidable (Ok x y) := by unfold Ok; infer_instance

set_option maxHeartbeats 400000 in
theorem extents_ok (x y : Int) (s : ByteArray) (h : Ok x y) (w : World) :
    Calls Try.prog 22 #[.agg #[.int .i64 x, .int .i64 y, .string s]] w fun e w' => e = .returned (.tuple #[.complex .f64 (fl x) (fl y), .complex .f64 (fl x) (fl (s.size : Int))]) ∧ Below w.heap.size w w' := by
  have hb0 : Below w.heap.size w (w.alloc (.cells #[.int .i64 x, .int .i64 y, .string s] 23)) := (Below.refl _ _).alloc (Nat.le_refl _) _
  have hE0 : (w.alloc (.cells #[.int .i64 x, .int .i64 y, .string s] 23)).heap[w.heap.size]? = some (.cells #[.int .i64 x, .int .i64 y, .string s] 23 (0, 0)) := heap_alloc_new _ _
  unfold Ok at h
  go_enter Try.func22, Try.ntmps22
  go_wp2_with fail
  go_region_held3 (fun w' => w'.cell? ⟨w.heap.size, 0, none⟩ = some (.int .i64 x) ∧ w'.cell? ⟨w.heap.size, 1, none⟩ = some (.int .i64 y) ∧ w'.cell? ⟨w.heap.size, 2, none⟩ = some (.string s)) (go_keep)
      (first | (go_at_call 28; refine (lay_any _ _ _).mono ?_; rintro e w' ⟨rfl, rfl⟩))
  all_goals
    go_wp2_with fail
    go_ret2
    exact ⟨rfl, below_drewN hb0 _⟩

set_option maxHeartbeats 400000 in
theorem extents_no (x y : Int) (s : ByteArray) (h : ¬ Ok x y) (w : World) :
    Calls Try.prog 22 #[.agg #[.int .i64 x, .int .i64 y, .string s]] w fun e w' => e = .returned (.tuple #[.complex .f64 (fl 0) (fl 0), .complex .f64 (fl 0) (fl 0)]) ∧ Below w.heap.size w w' := by
  have hb0 : Below w.heap.size w (w.alloc (.cells #[.int .i64 x, .int .i64 y, .string s] 23)) := (Below.refl _ _).alloc (Nat.le_refl _) _
  have d : (decide (x < 0) || decide (1099511627776 < x) || decide (y < 0) || decide (1099511627776 < y)) = true := by
    unfold Ok at h
    simp only [Bool.or_eq_true, decide_eq_true_eq]; omega
  go_enter Try.func22, Try.ntmps22
  go_wp2_with (go_at_call 28; refine (lay_any _ _ _).mono ?_; rintro e w' ⟨rfl, rfl⟩)
  all_goals
    go_ret2
    exact ⟨rfl, hb0⟩
end Go.Proofs.Ytincdpggdgllaaa
