/- The law MappingPoints holds for every edit, place and bool: the program's Point, Back and Check answer what the document says. No condition. -/
import Derived.Test.YtincdpggdgllaaaRows
import Derived.Test.YtincdpggdgllaaaArgs
namespace Go.Proofs.Ytincdpggdgllaaa
open Go.ChangeShapes Go.WideShapes Go.ChangeAt Go.RowKit Go.Joins

set_option maxHeartbeats 1000000 in
theorem points_walk (x y : Int) (s : ByteArray) (q : Int) (after : Bool) (w : World) (hs : s.size ≤ 140737488355328) (hq : -9223372036854775808 ≤ q ∧ q ≤ 9223372036854775807) :
    Calls Try.prog 3 #[.agg #[.int .i64 x, .int .i64 y, .string s], .int .i64 q, .bool after] w fun e w' => e = .returned (.bool true) ∧ Below w.heap.size w w' := by
  have hb0 : Below w.heap.size w (w.alloc (.cells #[.int .i64 x, .int .i64 y, .string s] 23)) := (Below.refl _ _).alloc (Nat.le_refl _) _
  have x0 : EdAt w.heap.size x y s (w.alloc (.cells #[.int .i64 x, .int .i64 y, .string s] 23)) := ⟨heap_alloc_new _ _, by simp⟩
  obtain ⟨vb, ob, hvb⟩ : ∃ i b, Hid (bk x y s.size q = (i, b)) := ⟨_, _, rfl⟩
  obtain ⟨vp, hvp⟩ : ∃ i, Hid (pt x y s.size q after = i) := ⟨_, rfl⟩
  obtain ⟨vc, hvc⟩ : ∃ i, Hid (chk x y q = i) := ⟨_, rfl⟩
  have HS : Hid (s.size ≤ 140737488355328) := hs
  have HQ : Hid (-9223372036854775808 ≤ q ∧ q ≤ 9223372036854775807) := hq
  clear hs hq
  go_enter Try.func3, Try.ntmps3
  go_wp2_with fail
  refine (back_as x0 HS.out q vb ob hvb.out).mono ?_
  rintro e w1 ⟨rfl, b1, x1, c0, c1, c2⟩
  have hb1 := hb0.trans (b1.mono (Nat.le_of_lt x0.lt))
  clear b1
  go_wp2_with fail
  refine (rback_as x1 HS.out q vb ob hvb.out).mono ?_
  rintro e w2 ⟨rfl, b2, x2, c0, c1, c2⟩
  have hb2 := hb1.trans (b2.mono (Nat.le_of_lt x1.lt))
  clear b2
  have k2 := keeps_of (w0 := w) ⟨x2, hb2⟩
  clear c0 c1 c2 x0 x1 x2 hb0 hb1 hb2
  go_wp2_with fail
  go_region_held3 (fun w' => w'.cell? ⟨w.heap.size, 0, none⟩ = some (.int .i64 x) ∧ w'.cell? ⟨w.heap.size, 1, none⟩ = some (.int .i64 y) ∧ w'.cell? ⟨w.heap.size, 2, none⟩ = some (.string s) ∧ Held w.heap.size x y s w w')
      (first | assumption | exact keeps_of (Held.drew (by obtain ⟨_, _, _, h⟩ := k2; exact h)) | go_keep)
      (first
        | (go_at_call 10; refine (point_held (E := w.heap.size) (w0 := w) (held_of (by assumption)) HS.out q after vp hvp.out).mono ?_; rintro e w' ⟨rfl, h⟩)
        | (go_at_call 11; refine (rpoint_held (E := w.heap.size) (w0 := w) (held_of (by assumption)) HS.out q after vp hvp.out).mono ?_; rintro e w' ⟨rfl, h⟩)
        | (go_at_call 12; refine (check_held (E := w.heap.size) (w0 := w) (held_of (by assumption)) q HQ.out vc hvc.out).mono ?_; rintro e w' ⟨rfl, h⟩)
        | (go_at_call 13; refine (rcheck_held (E := w.heap.size) (w0 := w) (held_of (by assumption)) q HQ.out vc hvc.out).mono ?_; rintro e w' ⟨rfl, h⟩)
        | (go_at_call 14; refine (awake_held (E := w.heap.size) (w0 := w) (held_of (by assumption))).mono ?_; rintro e w' ⟨rfl, h⟩))
  all_goals
    go_wp2_with fail
    go_ret
    rename_i hk
    exact ⟨rfl, hk.2.2.2.below⟩

set_option maxRecDepth 100000 in
theorem points_lifted (os : Os) (started : os.Started) (H : Type) (enc : TypeId × Value → H) :
    ReturnsInHanded {} Try.checked os 3 .any (Rows.mappingPointsSpec.pre6 enc Try.prog Try.f3 Rows.mappingPointsRow.domain false) (Rows.mappingPointsSpec.post enc Try.prog Try.f3 false true false false) := by
  refine returnsInHanded_of_change_sized (C := Try.checked) own started (by kernel_rfl) Try.func3
    (ChangeSpec.witness6 (enc := enc) (C := Try.checked) false ⟨#[], #[.agg #[.int .i64 0, .int .i64 0, .string ⟨#[]⟩], .int .i64 0, .bool false], []⟩ 8 (by kernel_rfl) (by kernel_rfl) (by kernel_rfl) (by kernel_rfl)) ?_
  intro W base args ds gs before hval0 hW hcnd hz0 _
  have hval : ∀ (j : Nat) t v, Try.f3.params[j]? = some t → args[j]? = some v → Value.okWide Try.prog W .any base t v := hval0
  have hz : (DataW.weightsEach Try.prog (Try.f3.params.toList ++ Rows.mappingPointsSpec.plain.varTypes Try.prog) (ds ++ gs)).all (· ≤ reachBytes) = true := hz0
  have hW' := hW
  obtain ⟨p, q, hA0, hV, rfl, hfz, hnd⟩ := hW
  have hA : DataW.TrodAll enc Try.prog W 0 (fun _ => true) true Try.f3.params.toList args.toList ds p := hA0
  rw [Try.params3] at hA hval hz
  obtain ⟨v0, vs0, d0, ds0, p0, q0, hargs, rfl, rfl, h0, r0⟩ := trodAll_cons hA
  obtain ⟨v1, vs1, d1, ds1, p1, q1, rfl, rfl, rfl, h1, r1⟩ := trodAll_cons r0
  obtain ⟨v2, vs2, d2, ds2, p2, q2, rfl, rfl, rfl, h2, r2⟩ := trodAll_cons r1
  obtain ⟨rfl, rfl, rfl⟩ := trodAll_nil r2
  obtain rfl : args = #[v0, v1, v2] := by cases args; simp_all
  obtain ⟨rfl, rfl⟩ := trodVars_none hV
  have k0 := h0
  have lt0 : ∀ x ∈ p0, x.block < W.heap.size := by obtain ⟨m, hm⟩ := k0; exact DataW.trod_lt m _ _ _ hm
  have k1 := h1
  have lt1 : ∀ x ∈ p1, x.block < W.heap.size := by obtain ⟨m, hm⟩ := k1; exact DataW.trod_lt m _ _ _ hm
  have k2 := h2
  have lt2 : ∀ x ∈ p2, x.block < W.heap.size := by obtain ⟨m, hm⟩ := k2; exact DataW.trod_lt m _ _ _ hm
  obtain ⟨c0, c1, c2, y0, y1, y2, m, hv0, hd0, _, hy0, hy1, hy2⟩ := open_agg3 Try.underlying23 (by kernel_rfl) cells23 (hval 0 23 v0 rfl rfl) h0
  obtain ⟨a, e0, _, wa⟩ := DataW.trod_int Try.underlying3 hy0
  obtain ⟨b, e1, _, wb⟩ := DataW.trod_int Try.underlying3 hy1
  obtain ⟨s, e2, g2, ws⟩ := DataW.trod_string Try.underlying9 hy2
  obtain ⟨k, hv1, _, _, wk⟩ := open_int Try.underlying3 (hval 1 3 v1 rfl rfl) h1
  obtain ⟨o, hv2, _⟩ := open_bool Try.underlying4 (hval 2 4 v2 rfl rfl) h2
  have hs : s.size ≤ 140737488355328 := ed_bound (j := 0) (p0 := y0.1) (p1 := y1.1) hz rfl (by subst g2; rw [hd0]; rfl)
  simp only [List.cons.injEq, and_true] at e0 e1 e2
  subst e0 e1 e2 hv0 hv1 hv2
  clear hA0 hval0
  refine (points_walk a b s k o W hs (i64_bounds wk)).mono fun e W' ⟨he, bel⟩ => ?_
  subst he
  exact ⟨_, rfl, _, _, _, [], _, [], hW', trodAll_mk1 (shut_bool Try.underlying4 _), (trodAll_cons_mk (Below.trod laidOut (by kernel_rfl) (of_decide_eq_true (by kernel_rfl)) k0 bel lt0) (trodAll_cons_mk (Below.trod laidOut (by kernel_rfl) (of_decide_eq_true (by kernel_rfl)) k1 bel lt1) (trodAll_cons_mk (Below.trod laidOut (by kernel_rfl) (of_decide_eq_true (by kernel_rfl)) k2 bel lt2) trodAll_mk0))), rfl, bel.frame _, fun h => by cases h⟩

theorem points_holds : Rows.MappingPointsSaid :=
  OpenClaim.holds_of_wide 3 Try.f3 rfl rfl rfl rfl rfl rfl rfl ⟨rfl, rfl, rfl, rfl, rfl⟩ rfl rfl rfl rfl rfl (by kernel_rfl) Try.func3 (by kernel_rfl)
    (of_decide_eq_true (by kernel_rfl)) (by unfold Func.isWrapper; first | (rw [if_pos (by decide +kernel)]; kernel_rfl) | (rw [if_neg (by decide +kernel)]; exact ⟨rfl, rfl⟩))
    (fun os started H enc _ => points_lifted os started H enc)
#print axioms points_holds
end Go.Proofs.Ytincdpggdgllaaa
