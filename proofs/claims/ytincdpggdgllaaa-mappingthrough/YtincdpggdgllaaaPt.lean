/- Where a place is behind an edit, and where it was: the program's Point and Back answer what the document says, whatever place and edit, for texts of at most 2^47 bytes. -/
import Derived.Test.YtincdpggdgllaaaExt
namespace Go.Proofs.Ytincdpggdgllaaa
open Go.RowKit

/-- A place behind an edit that is one. -/
def core (a d l x : Int) (after : Bool) : Int :=
  if x < a then x else if a + d < x ∨ (x = a + d ∧ 0 < d) then x + (l - d) else if after then a + l else a

def Near (x : Int) : Prop := -1099511627776 ≤ x ∧ x ≤ 1099511627776
def decNear (x : Int) : Decidable (Near x) := by unfold Near; infer_instance

/-- A place behind any edit. -/
def pt (x y l at_ : Int) (after : Bool) : Int :=
  haveI := decNear at_
  haveI := decOk x y
  if Near at_ then (if Ok x y then core x y l at_ after else core 0 0 0 at_ after) else 0

/-- The numbers of an edit, as it is taken. -/
structure Sane (a d l : Int) : Prop where
  a0 : 0 ≤ a
  a1 : a ≤ 1099511627776
  d0 : 0 ≤ d
  d1 : d ≤ 1099511627776
  l0 : 0 ≤ l
  l1 : l ≤ 140737488355328

theorem csub_run {a d l : Int} (h : Sane a d l) (w : World) : (binOp .sub 43 (.complex .f64 (fl a) (fl l)) (.complex .f64 (fl a) (fl d))).run Try.prog w = .ok (.complex .f64 (fl (a - a)) (fl (l - d))) w := by
  obtain ⟨a0, a1, d0, d1, l0, l1⟩ := h
  refine run_complex_sum w .sub (Or.inr rfl) 43 .f64 _ _ _ _ _ _ (csub_fl a l a d ?_ ?_ ?_ ?_ ?_ ?_) <;> omega

theorem csub_run' {a d l : Int} (h : Sane a d l) (w : World) : (binOp .sub 43 (.complex .f64 (fl a) (fl d)) (.complex .f64 (fl a) (fl l))).run Try.prog w = .ok (.complex .f64 (fl (a - a)) (fl (d - l))) w := by
  obtain ⟨a0, a1, d0, d1, l0, l1⟩ := h
  refine run_complex_sum w .sub (Or.inr rfl) 43 .f64 _ _ _ _ _ _ (csub_fl a d a l ?_ ?_ ?_ ?_ ?_ ?_) <;> omega

/-- What the spans of an edit answer, with letters for the floats. -/
structure Laid (a d l : Int) (fa fd fl_ f0 fp fm : Nat) : Prop where
  fromD : ∀ w, Calls Try.prog 23 #[.complex .f64 fa fd] w fun e w' => e = .returned (.int .i64 a) ∧ w' = w
  fromL : ∀ w, Calls Try.prog 23 #[.complex .f64 fa fl_] w fun e w' => e = .returned (.int .i64 a) ∧ w' = w
  toD : ∀ w, Calls Try.prog 24 #[.complex .f64 fa fd] w fun e w' => e = .returned (.int .i64 (a + d)) ∧ w' = w
  toL : ∀ w, Calls Try.prog 24 #[.complex .f64 fa fl_] w fun e w' => e = .returned (.int .i64 (a + l)) ∧ w' = w
  lenD : ∀ w, Calls Try.prog 25 #[.complex .f64 fa fd] w fun e w' => e = .returned (.int .i64 d) ∧ w' = w
  lenP : ∀ w, Calls Try.prog 25 #[.complex .f64 f0 fp] w fun e w' => e = .returned (.int .i64 (l - d)) ∧ w' = w
  lenM : ∀ w, Calls Try.prog 25 #[.complex .f64 f0 fm] w fun e w' => e = .returned (.int .i64 (d - l)) ∧ w' = w
  opP : ∀ w, (binOp .sub 43 (.complex .f64 fa fl_) (.complex .f64 fa fd)).run Try.prog w = .ok (.complex .f64 f0 fp) w
  opM : ∀ w, (binOp .sub 43 (.complex .f64 fa fd) (.complex .f64 fa fl_)).run Try.prog w = .ok (.complex .f64 f0 fm) w

theorem laid {a d l : Int} (h : Sane a d l) : Laid a d l (fl a) (fl d) (fl l) (fl (a - a)) (fl (l - d)) (fl (d - l)) := by
  have hP := csub_run h
  have hM := csub_run' h
  obtain ⟨a0, a1, d0, d1, l0, l1⟩ := h
  have ha : a.natAbs < 2 ^ 53 := by omega
  have hd : d.natAbs < 2 ^ 53 := by omega
  have hl : l.natAbs < 2 ^ 53 := by omega
  exact ⟨from_any a d ha, from_any a l ha, to_any a d ha hd, to_any a l ha hl, length_any a d hd, length_any _ _ (by omega), length_any _ _ (by omega), hP, hM⟩

set_option maxHeartbeats 1000000 in
theorem point_laid (x y : Int) (s : ByteArray) (a d l q : Int) (after : Bool) (fa fd fl_ f0 fp fm : Nat) (hL : Laid a d l fa fd fl_ f0 fp fm) (hs : Sane a d l) (hq : Near q)
    (hext : ∀ w, Calls Try.prog 22 #[.agg #[.int .i64 x, .int .i64 y, .string s]] w fun e w' => e = .returned (.tuple #[.complex .f64 fa fd, .complex .f64 fa fl_]) ∧ Below w.heap.size w w') (w : World) :
    Calls Try.prog 10 #[.agg #[.int .i64 x, .int .i64 y, .string s], .int .i64 q, .bool after] w fun e w' => e = .returned (.int .i64 (core a d l q after)) ∧ Below w.heap.size w w' := by
  have hop := hL.opP
  have dt : decide (-1099511627776 ≤ q ∧ q ≤ 1099511627776) = true := decide_eq_true hq
  have hb0 : Below w.heap.size w (w.alloc (.cells #[.int .i64 x, .int .i64 y, .string s] 23)) := (Below.refl _ _).alloc (Nat.le_refl _) _
  have hw1 : IntKind.i64.wrap (q + (l - d)) = q + (l - d) := by
    obtain ⟨a0, a1, d0, d1, l0, l1⟩ := hs
    unfold Near at hq
    rw [IntKind.wrap_i64]; omega
  have hw2 : IntKind.i64.wrap (a + d + (l - d)) = a + d + (l - d) := by
    obtain ⟨a0, a1, d0, d1, l0, l1⟩ := hs
    rw [IntKind.wrap_i64]; omega
  clear hs hq
  go_enter Try.func10, Try.ntmps10
  go_wp2_with (go_at_call 21; refine (told_any _ _).mono ?_; rintro e w' ⟨rfl, rfl⟩)
  refine (hext _).mono ?_
  rintro e w1 ⟨rfl, b1⟩
  have hb1 := hb0.trans (b1.mono (by simp))
  clear hext b1 hb0
  go_wp2_with (first
    | (go_at_call 23; refine (hL.fromD _).mono ?_; rintro e w' ⟨rfl, rfl⟩)
    | (go_at_call 23; refine (hL.fromL _).mono ?_; rintro e w' ⟨rfl, rfl⟩)
    | (go_at_call 24; refine (hL.toD _).mono ?_; rintro e w' ⟨rfl, rfl⟩)
    | (go_at_call 24; refine (hL.toL _).mono ?_; rintro e w' ⟨rfl, rfl⟩)
    | (go_at_call 25; refine (hL.lenD _).mono ?_; rintro e w' ⟨rfl, rfl⟩)
    | (go_at_call 25; refine (hL.lenP _).mono ?_; rintro e w' ⟨rfl, rfl⟩)
    | fail)
  all_goals
    go_ret
    refine ⟨?_, hb1⟩
    refine congrArg (fun z => Ending.returned (Value.int .i64 z)) ?_
    unfold core
    (repeat' split) <;> first | rfl | omega | (simp_all; done) | (simp_all; omega)

/-- Where a place was ahead of an edit that is one; whether the edit put it in. -/
def bcore (a d l q : Int) : Int × Bool := if q < a then (q, true) else if a + l ≤ q then (q + (d - l), true) else (a, false)

set_option maxHeartbeats 1000000 in
theorem back_laid (x y : Int) (s : ByteArray) (a d l q : Int) (fa fd fl_ f0 fp fm : Nat) (hL : Laid a d l fa fd fl_ f0 fp fm) (hs : Sane a d l) (hq : Near q)
    (hext : ∀ w, Calls Try.prog 22 #[.agg #[.int .i64 x, .int .i64 y, .string s]] w fun e w' => e = .returned (.tuple #[.complex .f64 fa fd, .complex .f64 fa fl_]) ∧ Below w.heap.size w w') (w : World) :
    Calls Try.prog 8 #[.agg #[.int .i64 x, .int .i64 y, .string s], .int .i64 q] w fun e w' => e = .returned (.tuple #[.int .i64 (bcore a d l q).1, .bool (bcore a d l q).2]) ∧ Below w.heap.size w w' := by
  have hop := hL.opM
  have dt : decide (-1099511627776 ≤ q ∧ q ≤ 1099511627776) = true := decide_eq_true hq
  have hb0 : Below w.heap.size w (w.alloc (.cells #[.int .i64 x, .int .i64 y, .string s] 23)) := (Below.refl _ _).alloc (Nat.le_refl _) _
  have hw1 : IntKind.i64.wrap (q + (d - l)) = q + (d - l) := by
    obtain ⟨a0, a1, d0, d1, l0, l1⟩ := hs
    unfold Near at hq
    rw [IntKind.wrap_i64]; omega
  clear hs hq
  go_enter Try.func8, Try.ntmps8
  go_wp2_with (go_at_call 21; refine (told_any _ _).mono ?_; rintro e w' ⟨rfl, rfl⟩)
  refine (hext _).mono ?_
  rintro e w1 ⟨rfl, b1⟩
  have hb1 := hb0.trans (b1.mono (by simp))
  clear hext b1 hb0
  go_wp2_with (first
    | (go_at_call 23; refine (hL.fromD _).mono ?_; rintro e w' ⟨rfl, rfl⟩)
    | (go_at_call 23; refine (hL.fromL _).mono ?_; rintro e w' ⟨rfl, rfl⟩)
    | (go_at_call 24; refine (hL.toD _).mono ?_; rintro e w' ⟨rfl, rfl⟩)
    | (go_at_call 24; refine (hL.toL _).mono ?_; rintro e w' ⟨rfl, rfl⟩)
    | (go_at_call 25; refine (hL.lenM _).mono ?_; rintro e w' ⟨rfl, rfl⟩)
    | fail)
  all_goals
    go_ret2
    refine ⟨?_, hb1⟩
    refine congrArg (fun z : Int × Bool => Ending.returned (Value.tuple #[Value.int .i64 z.1, Value.bool z.2])) (a₁ := (_, _)) ?_
    unfold bcore
    (repeat' split) <;> first | rfl | omega | (simp_all; done) | (simp_all; omega)

set_option maxHeartbeats 400000 in
theorem point_far (x y : Int) (s : ByteArray) (q : Int) (after : Bool) (hq : ¬ Near q) (w : World) :
    Calls Try.prog 10 #[.agg #[.int .i64 x, .int .i64 y, .string s], .int .i64 q, .bool after] w fun e w' => e = .returned (.int .i64 0) ∧ Below w.heap.size w w' := by
  have dt : decide (-1099511627776 ≤ q ∧ q ≤ 1099511627776) = false := decide_eq_false hq
  have hb0 : Below w.heap.size w (w.alloc (.cells #[.int .i64 x, .int .i64 y, .string s] 23)) := (Below.refl _ _).alloc (Nat.le_refl _) _
  go_enter Try.func10, Try.ntmps10
  go_wp2_with (go_at_call 21; refine (told_any _ _).mono ?_; rintro e w' ⟨rfl, rfl⟩)
  go_ret
  exact ⟨rfl, hb0⟩

set_option maxHeartbeats 400000 in
theorem back_far (x y : Int) (s : ByteArray) (q : Int) (hq : ¬ Near q) (w : World) :
    Calls Try.prog 8 #[.agg #[.int .i64 x, .int .i64 y, .string s], .int .i64 q] w fun e w' => e = .returned (.tuple #[.int .i64 0, .bool false]) ∧ Below w.heap.size w w' := by
  have dt : decide (-1099511627776 ≤ q ∧ q ≤ 1099511627776) = false := decide_eq_false hq
  have hb0 : Below w.heap.size w (w.alloc (.cells #[.int .i64 x, .int .i64 y, .string s] 23)) := (Below.refl _ _).alloc (Nat.le_refl _) _
  go_enter Try.func8, Try.ntmps8
  go_wp2_with (go_at_call 21; refine (told_any _ _).mono ?_; rintro e w' ⟨rfl, rfl⟩)
  go_ret2
  exact ⟨rfl, hb0⟩

/-- Where a place was ahead of any edit. -/
def bk (x y l q : Int) : Int × Bool :=
  haveI := decNear q
  haveI := decOk x y
  if Near q then (if Ok x y then bcore x y l q else bcore 0 0 0 q) else (0, false)

theorem sane_zero : Sane 0 0 0 := ⟨by decide, by decide, by decide, by decide, by decide, by decide⟩
theorem sane_ok {x y : Int} {s : ByteArray} (h : Ok x y) (hs : s.size ≤ 140737488355328) : Sane x y (s.size : Int) := by
  unfold Ok at h
  exact ⟨by omega, by omega, by omega, by omega, by omega, by omega⟩

theorem point_any (x y : Int) (s : ByteArray) (hs : s.size ≤ 140737488355328) (q : Int) (after : Bool) (w : World) :
    Calls Try.prog 10 #[.agg #[.int .i64 x, .int .i64 y, .string s], .int .i64 q, .bool after] w fun e w' => e = .returned (.int .i64 (pt x y s.size q after)) ∧ Below w.heap.size w w' := by
  unfold pt
  by_cases hq : Near q
  · rw [if_pos hq]
    by_cases h : Ok x y
    · rw [if_pos h]
      exact point_laid x y s x y s.size q after _ _ _ _ _ _ (laid (sane_ok h hs)) (sane_ok h hs) hq (extents_ok x y s h) w
    · rw [if_neg h]
      exact point_laid x y s 0 0 0 q after _ _ _ _ _ _ (laid sane_zero) sane_zero hq (extents_no x y s h) w
  · rw [if_neg hq]
    exact point_far x y s q after hq w

theorem back_any (x y : Int) (s : ByteArray) (hs : s.size ≤ 140737488355328) (q : Int) (w : World) :
    Calls Try.prog 8 #[.agg #[.int .i64 x, .int .i64 y, .string s], .int .i64 q] w fun e w' => e = .returned (.tuple #[.int .i64 (bk x y s.size q).1, .bool (bk x y s.size q).2]) ∧ Below w.heap.size w w' := by
  unfold bk
  by_cases hq : Near q
  · rw [if_pos hq]
    by_cases h : Ok x y
    · rw [if_pos h]
      exact back_laid x y s x y s.size q _ _ _ _ _ _ (laid (sane_ok h hs)) (sane_ok h hs) hq (extents_ok x y s h) w
    · rw [if_neg h]
      exact back_laid x y s 0 0 0 q _ _ _ _ _ _ (laid sane_zero) sane_zero hq (extents_no x y s h) w
  · rw [if_neg hq]
    exact back_far x y s q hq w
end Go.Proofs.Ytincdpggdgllaaa
