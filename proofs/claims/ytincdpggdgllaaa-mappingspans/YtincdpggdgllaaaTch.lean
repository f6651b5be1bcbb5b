/- Whether an edit and a span touch: the program's answer and the document's. -/
import Derived.Test.YtincdpggdgllaaaSp
namespace Go.Proofs.Ytincdpggdgllaaa
open Go.RowKit

/-- Have an edit that is one and a span a place in common? -/
def tcore (a d f t : Int) : Bool := decide (f ≤ t ∧ f ≤ a + d ∧ a ≤ t)
def tch (x y f t : Int) : Bool :=
  haveI := decOk x y
  if Ok x y then tcore x y f t else tcore 0 0 f t

set_option maxHeartbeats 1000000 in
theorem touches_laid (x y : Int) (s : ByteArray) (a d l f t : Int) (fa fd fl_ f0 fp fm : Nat) (hL : Laid a d l fa fd fl_ f0 fp fm)
    (hext : ∀ w, Calls Try.prog 22 #[.agg #[.int .i64 x, .int .i64 y, .string s]] w fun e w' => e = .returned (.tuple #[.complex .f64 fa fd, .complex .f64 fa fl_]) ∧ Below w.heap.size w w') (w : World) :
    Calls Try.prog 17 #[.agg #[.int .i64 x, .int .i64 y, .string s], .agg #[.int .i64 f, .int .i64 t]] w fun e w' => e = .returned (.bool (tcore a d f t)) ∧ Below w.heap.size w w' := by
  have k0 := two_new x y s f t w
  go_enter Try.func17, Try.ntmps17
  go_wp2_with fail
  refine (call_two k0 (hext _)).mono ?_
  rintro e w1 ⟨rfl, k1⟩
  clear k0 hext
  by_cases h1 : f ≤ t
  · have d1 : decide (f ≤ t) = true := decide_eq_true h1
    by_cases h2 : f ≤ a + d
    · have d2 : decide (f ≤ a + d) = true := decide_eq_true h2
      obtain ⟨o, d3⟩ : ∃ o, decide (a ≤ t) = o := ⟨_, rfl⟩
      have R : Hid (tcore a d f t = o) := by show _ = _; unfold tcore; rw [← d3]; exact decide_eq_decide.2 ⟨fun h => h.2.2, fun h => ⟨h1, h2, h⟩⟩
      have hb := (two_of k1).below
      have hbd := hb.drew
      go_wp2_with fail
      go_region_held3 (fun w' => w'.cell? ⟨w.heap.size, 0, none⟩ = some (.int .i64 x) ∧ w'.cell? ⟨w.heap.size, 1, none⟩ = some (.int .i64 y) ∧ w'.cell? ⟨w.heap.size, 2, none⟩ = some (.string s) ∧ w'.cell? ⟨w.heap.size + 1, 0, none⟩ = some (.int .i64 f) ∧ w'.cell? ⟨w.heap.size + 1, 1, none⟩ = some (.int .i64 t) ∧ Two w.heap.size (w.heap.size + 1) x y s f t w w')
          (first | assumption | exact two_cells (Two.drew (two_of (by assumption))) | go_keep)
          (first
            | (go_at_call 24; refine (hL.toD _).mono ?_; rintro e w' ⟨rfl, rfl⟩)
            | (go_at_call 23; refine (hL.fromD _).mono ?_; rintro e w' ⟨rfl, rfl⟩))
      all_goals
        go_wp2_with fail
        go_ret
        refine ⟨?_, by first | exact hb | exact hbd | exact below_drewN hb _⟩
        rw [R.out]
        try rfl
    · have d2 : decide (f ≤ a + d) = false := decide_eq_false h2
      have R : Hid (tcore a d f t = false) := decide_eq_false (fun h => h2 h.2.1)
      have hb := (two_of k1).below
      have hbd := hb.drew
      go_wp2_with fail
      first
        | (go_region_with (first
            | (go_at_call 24; refine (hL.toD _).mono ?_; rintro e w' ⟨rfl, rfl⟩)
            | (go_at_call 23; refine (hL.fromD _).mono ?_; rintro e w' ⟨rfl, rfl⟩)))
        | fail
      all_goals
        go_wp2_with fail
        go_ret
        refine ⟨?_, by first | exact hb | exact hbd | exact below_drewN hb _⟩
        rw [R.out]
        try rfl
  · have d1 : decide (f ≤ t) = false := decide_eq_false h1
    have R : Hid (tcore a d f t = false) := decide_eq_false (fun h => h1 h.1)
    have hb := (two_of k1).below
    have hbd := hb.drew
    go_wp2_with fail
    go_quiet (fail)
    all_goals
      go_wp2_with fail
      go_ret
      refine ⟨?_, by first | exact hb | exact hbd | exact below_drewN hb _⟩
      rw [R.out]
      try rfl

theorem touches_any (x y : Int) (s : ByteArray) (hs : s.size ≤ 140737488355328) (f t : Int) (w : World) :
    Calls Try.prog 17 #[.agg #[.int .i64 x, .int .i64 y, .string s], .agg #[.int .i64 f, .int .i64 t]] w fun e w' => e = .returned (.bool (tch x y f t)) ∧ Below w.heap.size w w' := by
  unfold tch
  by_cases h : Ok x y
  · rw [if_pos h]
    exact touches_laid x y s x y s.size f t _ _ _ _ _ _ (laid (sane_ok h hs)) (extents_ok x y s h) w
  · rw [if_neg h]
    exact touches_laid x y s 0 0 0 f t _ _ _ _ _ _ (laid sane_zero) (extents_no x y s h) w

set_option maxHeartbeats 1000000 in
theorem rtouches_laid (x y : Int) (s u : ByteArray) (a d f t : Int) (hw : IntKind.i64.wrap (a + d) = a + d)
    (hmay : ∀ w, Calls Try.prog 26 #[.agg #[.int .i64 x, .int .i64 y, .string s]] w fun e w' => e = .returned (.agg #[.int .i64 a, .int .i64 d, .string u]) ∧ Below w.heap.size w w') (w : World) :
    Calls Try.prog 18 #[.agg #[.int .i64 x, .int .i64 y, .string s], .agg #[.int .i64 f, .int .i64 t]] w fun e w' => e = .returned (.bool (tcore a d f t)) ∧ Below w.heap.size w w' := by
  have k0 := two_new x y s f t w
  go_enter Try.func18, Try.ntmps18
  go_wp2_with fail
  refine (call_two k0 (hmay _)).mono ?_
  rintro e w1 ⟨rfl, c0, c1, c2, c3, c4, k1⟩
  obtain ⟨g0, g1, g2⟩ := ed_frozen k1.ed.at_
  have hb := k1.below
  clear k0 hmay k1
  go_wp2_with fail
  all_goals
    go_ret
    refine ⟨?_, ?_⟩
    · refine congrArg (fun z => Ending.returned (Value.bool z)) ?_
      unfold tcore
      first | (simp_all; done) | (simp_all; omega)
    · go_grown

theorem rtouches_any (x y : Int) (s : ByteArray) (f t : Int) (w : World) :
    Calls Try.prog 18 #[.agg #[.int .i64 x, .int .i64 y, .string s], .agg #[.int .i64 f, .int .i64 t]] w fun e w' => e = .returned (.bool (tch x y f t)) ∧ Below w.heap.size w w' := by
  unfold tch
  by_cases h : Ok x y
  · rw [if_pos h]
    have hw : IntKind.i64.wrap (x + y) = x + y := by unfold Ok at h; rw [IntKind.wrap_i64]; omega
    exact rtouches_laid x y s s x y f t hw (may_ok x y s h) w
  · rw [if_neg h]
    exact rtouches_laid x y s ⟨#[]⟩ 0 0 f t (by decide) (may_no x y s h) w
end Go.Proofs.Ytincdpggdgllaaa
