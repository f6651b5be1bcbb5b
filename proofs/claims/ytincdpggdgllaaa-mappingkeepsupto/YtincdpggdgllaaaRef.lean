/- The document's own Point and Back. -/
import Derived.Test.YtincdpggdgllaaaPt
import Derived.Test.YtincdpggdgllaaaDoc
namespace Go.Proofs.Ytincdpggdgllaaa
open Go.RowKit

set_option maxHeartbeats 400000 in
theorem rcheck_any (x y : Int) (s : ByteArray) (n : Int) (hn : -9223372036854775808 ≤ n ∧ n ≤ 9223372036854775807) (w : World) :
    Calls Try.prog 13 #[.agg #[.int .i64 x, .int .i64 y, .string s], .int .i64 n] w fun e w' => e = .returned (.int .i64 (chk x y n)) ∧ Below w.heap.size w w' := by
  have hb0 : Below w.heap.size w (w.alloc (.cells #[.int .i64 x, .int .i64 y, .string s] 23)) := (Below.refl _ _).alloc (Nat.le_refl _) _
  have hw : 0 ≤ x → x ≤ n → IntKind.i64.wrap (n - x) = n - x := by intro h1 h2; rw [IntKind.wrap_i64]; omega
  go_enter Try.func13, Try.ntmps13
  go_wp2
  all_goals
    go_ret
    refine ⟨?_, hb0⟩
    refine congrArg (fun z => Ending.returned (Value.int .i64 z)) ?_
    unfold chk
    split <;> first | rfl | omega

set_option maxHeartbeats 1000000 in
theorem rpoint_laid (x y : Int) (s t : ByteArray) (a d l q : Int) (after : Bool) (hl : (t.size : Int) = l) (hs : Sane a d l) (hq : Near q)
    (hmay : ∀ w, Calls Try.prog 26 #[.agg #[.int .i64 x, .int .i64 y, .string s]] w fun e w' => e = .returned (.agg #[.int .i64 a, .int .i64 d, .string t]) ∧ Below w.heap.size w w') (w : World) :
    Calls Try.prog 11 #[.agg #[.int .i64 x, .int .i64 y, .string s], .int .i64 q, .bool after] w fun e w' => e = .returned (.int .i64 (core a d l q after)) ∧ Below w.heap.size w w' := by
  have hb0 : Below w.heap.size w (w.alloc (.cells #[.int .i64 x, .int .i64 y, .string s] 23)) := (Below.refl _ _).alloc (Nat.le_refl _) _
  have hE0 : (w.alloc (.cells #[.int .i64 x, .int .i64 y, .string s] 23)).heap[w.heap.size]? = some (.cells #[.int .i64 x, .int .i64 y, .string s] 23 (0, 0)) := heap_alloc_new _ _
  unfold Near at hq
  have hw1 : IntKind.i64.wrap (q + l) = q + l := by
    obtain ⟨a0, a1, d0, d1, l0, l1⟩ := hs
    rw [IntKind.wrap_i64]; omega
  have hw2 : IntKind.i64.wrap (q + l - d) = q + l - d := by
    obtain ⟨a0, a1, d0, d1, l0, l1⟩ := hs
    rw [IntKind.wrap_i64]; omega
  have hw3 : IntKind.i64.wrap (a + d) = a + d := by
    obtain ⟨a0, a1, d0, d1, l0, l1⟩ := hs
    rw [IntKind.wrap_i64]; omega
  have hw4 : IntKind.i64.wrap (a + l) = a + l := by
    obtain ⟨a0, a1, d0, d1, l0, l1⟩ := hs
    rw [IntKind.wrap_i64]; omega
  have hw5 : IntKind.i64.wrap (a + d + l) = a + d + l := by
    obtain ⟨a0, a1, d0, d1, l0, l1⟩ := hs
    rw [IntKind.wrap_i64]; omega
  have hw6 : IntKind.i64.wrap (a + d + l - d) = a + d + l - d := by
    obtain ⟨a0, a1, d0, d1, l0, l1⟩ := hs
    rw [IntKind.wrap_i64]; omega
  clear hs
  go_enter Try.func11, Try.ntmps11
  go_wp2_with fail
  refine (hmay _).mono ?_
  rintro e w1 ⟨rfl, b1⟩
  have hE1 : w1.heap[w.heap.size]? = some (.cells #[.int .i64 x, .int .i64 y, .string s] 23 (0, 0)) := (b1.block _ (by simp)).trans hE0
  obtain ⟨c0, c1, c2⟩ := ed_cells hE1
  obtain ⟨g0, g1, g2⟩ := ed_frozen hE1
  have hb1 : Below w.heap.size w w1 := hb0.trans (b1.mono (by simp))
  clear hmay hb0 hE0 b1 hE1
  go_wp2_with fail
  all_goals
    go_ret
    refine ⟨?_, ?_⟩
    · refine congrArg (fun z => Ending.returned (Value.int .i64 z)) ?_
      unfold core
      (repeat' split) <;> first | rfl | omega | (simp_all; done) | (simp_all; omega)
    · go_grown

set_option maxHeartbeats 1000000 in
theorem rback_laid (x y : Int) (s t : ByteArray) (a d l q : Int) (hl : (t.size : Int) = l) (hs : Sane a d l) (hq : Near q)
    (hmay : ∀ w, Calls Try.prog 26 #[.agg #[.int .i64 x, .int .i64 y, .string s]] w fun e w' => e = .returned (.agg #[.int .i64 a, .int .i64 d, .string t]) ∧ Below w.heap.size w w') (w : World) :
    Calls Try.prog 9 #[.agg #[.int .i64 x, .int .i64 y, .string s], .int .i64 q] w fun e w' => e = .returned (.tuple #[.int .i64 (bcore a d l q).1, .bool (bcore a d l q).2]) ∧ Below w.heap.size w w' := by
  have hb0 : Below w.heap.size w (w.alloc (.cells #[.int .i64 x, .int .i64 y, .string s] 23)) := (Below.refl _ _).alloc (Nat.le_refl _) _
  have hE0 : (w.alloc (.cells #[.int .i64 x, .int .i64 y, .string s] 23)).heap[w.heap.size]? = some (.cells #[.int .i64 x, .int .i64 y, .string s] 23 (0, 0)) := heap_alloc_new _ _
  unfold Near at hq
  have hw1 : IntKind.i64.wrap (q - a) = q - a := by
    obtain ⟨a0, a1, d0, d1, l0, l1⟩ := hs
    rw [IntKind.wrap_i64]; omega
  have hw2 : IntKind.i64.wrap (q - l) = q - l := by
    obtain ⟨a0, a1, d0, d1, l0, l1⟩ := hs
    rw [IntKind.wrap_i64]; omega
  have hw3 : IntKind.i64.wrap (q - l + d) = q - l + d := by
    obtain ⟨a0, a1, d0, d1, l0, l1⟩ := hs
    rw [IntKind.wrap_i64]; omega
  clear hs
  go_enter Try.func9, Try.ntmps9
  go_wp2_with fail
  refine (hmay _).mono ?_
  rintro e w1 ⟨rfl, b1⟩
  have hE1 : w1.heap[w.heap.size]? = some (.cells #[.int .i64 x, .int .i64 y, .string s] 23 (0, 0)) := (b1.block _ (by simp)).trans hE0
  obtain ⟨c0, c1, c2⟩ := ed_cells hE1
  obtain ⟨g0, g1, g2⟩ := ed_frozen hE1
  have hb1 : Below w.heap.size w w1 := hb0.trans (b1.mono (by simp))
  clear hmay hb0 hE0 b1 hE1
  go_wp2_with fail
  all_goals
    go_ret2
    refine ⟨?_, ?_⟩
    · refine congrArg (fun z : Int × Bool => Ending.returned (Value.tuple #[Value.int .i64 z.1, Value.bool z.2])) (a₁ := (_, _)) ?_
      unfold bcore
      (repeat' split) <;> first | rfl | omega | (simp_all; done) | (simp_all; omega)
    · go_grown

set_option maxHeartbeats 400000 in
theorem rpoint_far (x y : Int) (s : ByteArray) (q : Int) (after : Bool) (hq : ¬ Near q) (w : World) :
    Calls Try.prog 11 #[.agg #[.int .i64 x, .int .i64 y, .string s], .int .i64 q, .bool after] w fun e w' => e = .returned (.int .i64 0) ∧ Below w.heap.size w w' := by
  have dt : (decide (q < -1099511627776) || decide (1099511627776 < q)) = true := by
    unfold Near at hq
    simp only [Bool.or_eq_true, decide_eq_true_eq]; omega
  have hb0 : Below w.heap.size w (w.alloc (.cells #[.int .i64 x, .int .i64 y, .string s] 23)) := (Below.refl _ _).alloc (Nat.le_refl _) _
  go_enter Try.func11, Try.ntmps11
  go_wp2_with fail
  all_goals
    go_ret
    exact ⟨rfl, hb0⟩

set_option maxHeartbeats 400000 in
theorem rback_far (x y : Int) (s : ByteArray) (q : Int) (hq : ¬ Near q) (w : World) :
    Calls Try.prog 9 #[.agg #[.int .i64 x, .int .i64 y, .string s], .int .i64 q] w fun e w' => e = .returned (.tuple #[.int .i64 0, .bool false]) ∧ Below w.heap.size w w' := by
  have dt : (decide (q < -1099511627776) || decide (1099511627776 < q)) = true := by
    unfold Near at hq
    simp only [Bool.or_eq_true, decide_eq_true_eq]; omega
  have hb0 : Below w.heap.size w (w.alloc (.cells #[.int .i64 x, .int .i64 y, .string s] 23)) := (Below.refl _ _).alloc (Nat.le_refl _) _
  go_enter Try.func9, Try.ntmps9
  go_wp2_with fail
  all_goals
    go_ret2
    exact ⟨rfl, hb0⟩

theorem rpoint_any (x y : Int) (s : ByteArray) (hs : s.size ≤ 140737488355328) (q : Int) (after : Bool) (w : World) :
    Calls Try.prog 11 #[.agg #[.int .i64 x, .int .i64 y, .string s], .int .i64 q, .bool after] w fun e w' => e = .returned (.int .i64 (pt x y s.size q after)) ∧ Below w.heap.size w w' := by
  unfold pt
  by_cases hq : Near q
  · rw [if_pos hq]
    by_cases h : Ok x y
    · rw [if_pos h]
      exact rpoint_laid x y s s x y s.size q after rfl (sane_ok h hs) hq (may_ok x y s h) w
    · rw [if_neg h]
      exact rpoint_laid x y s ⟨#[]⟩ 0 0 0 q after rfl sane_zero hq (may_no x y s h) w
  · rw [if_neg hq]
    exact rpoint_far x y s q after hq w

theorem rback_any (x y : Int) (s : ByteArray) (hs : s.size ≤ 140737488355328) (q : Int) (w : World) :
    Calls Try.prog 9 #[.agg #[.int .i64 x, .int .i64 y, .string s], .int .i64 q] w fun e w' => e = .returned (.tuple #[.int .i64 (bk x y s.size q).1, .bool (bk x y s.size q).2]) ∧ Below w.heap.size w w' := by
  unfold bk
  by_cases hq : Near q
  · rw [if_pos hq]
    by_cases h : Ok x y
    · rw [if_pos h]
      exact rback_laid x y s s x y s.size q rfl (sane_ok h hs) hq (may_ok x y s h) w
    · rw [if_neg h]
      exact rback_laid x y s ⟨#[]⟩ 0 0 0 q rfl sane_zero hq (may_no x y s h) w
  · rw [if_neg hq]
    exact rback_far x y s q hq w

end Go.Proofs.Ytincdpggdgllaaa
