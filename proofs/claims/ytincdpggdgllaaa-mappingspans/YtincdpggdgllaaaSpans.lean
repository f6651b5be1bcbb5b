/- The law MappingSpans holds for every edit and every span: where a span is behind an edit, and whether they touch, are as the document says. No condition. -/
import Derived.Test.YtincdpggdgllaaaTch
import Derived.Test.YtincdpggdgllaaaArgs
namespace Go.Proofs.Ytincdpggdgllaaa
open Go.ChangeShapes Go.WideShapes Go.ChangeAt Go.RowKit Go.Joins

theorem cells33 : Try.prog.cellsOf 33 = 2 := by kernel_rfl

set_option maxHeartbeats 1000000 in
theorem spans_walk (x y : Int) (s : ByteArray) (f t : Int) (w : World) (hs : s.size ≤ 140737488355328) :
    Calls Try.prog 4 #[.agg #[.int .i64 x, .int .i64 y, .string s], .agg #[.int .i64 f, .int .i64 t]] w fun e w' => e = .returned (.bool true) ∧ Below w.heap.size w w' := by
  have k0 := two_cells (two_new x y s f t w)
  obtain ⟨a, ea⟩ : ∃ i, Hid ((sp x y s.size f t).1 = i) := ⟨_, rfl⟩
  obtain ⟨b, eb⟩ : ∃ i, Hid ((sp x y s.size f t).2 = i) := ⟨_, rfl⟩
  obtain ⟨o, eo⟩ : ∃ i, Hid (tch x y f t = i) := ⟨_, rfl⟩
  have C1 : ∀ w, Calls Try.prog 15 #[.agg #[.int .i64 x, .int .i64 y, .string s], .agg #[.int .i64 f, .int .i64 t]] w fun e w' => e = .returned (.agg #[.int .i64 a, .int .i64 b]) ∧ Below w.heap.size w w' := fun w => ea.out ▸ eb.out ▸ span_any x y s f t hs w
  have C2 : ∀ w, Calls Try.prog 16 #[.agg #[.int .i64 x, .int .i64 y, .string s], .agg #[.int .i64 f, .int .i64 t]] w fun e w' => e = .returned (.agg #[.int .i64 a, .int .i64 b]) ∧ Below w.heap.size w w' := fun w => ea.out ▸ eb.out ▸ rspan_any x y s f t hs w
  have C3 : ∀ w, Calls Try.prog 17 #[.agg #[.int .i64 x, .int .i64 y, .string s], .agg #[.int .i64 f, .int .i64 t]] w fun e w' => e = .returned (.bool o) ∧ Below w.heap.size w w' := fun w => eo.out ▸ touches_any x y s hs f t w
  have C4 : ∀ w, Calls Try.prog 18 #[.agg #[.int .i64 x, .int .i64 y, .string s], .agg #[.int .i64 f, .int .i64 t]] w fun e w' => e = .returned (.bool o) ∧ Below w.heap.size w w' := fun w => eo.out ▸ rtouches_any x y s f t w
  clear ea eb eo hs
  go_enter Try.func4, Try.ntmps4
  go_wp2_with fail
  go_region_held3 (fun w' => w'.cell? ⟨w.heap.size, 0, none⟩ = some (.int .i64 x) ∧ w'.cell? ⟨w.heap.size, 1, none⟩ = some (.int .i64 y) ∧ w'.cell? ⟨w.heap.size, 2, none⟩ = some (.string s) ∧ w'.cell? ⟨w.heap.size + 1, 0, none⟩ = some (.int .i64 f) ∧ w'.cell? ⟨w.heap.size + 1, 1, none⟩ = some (.int .i64 t) ∧ Two w.heap.size (w.heap.size + 1) x y s f t w w')
    (first | assumption | exact two_cells (Two.drew (two_of (by assumption))) | go_keep)
    (first
      | (go_at_call 15; refine (call_two (two_of (by assumption)) (C1 _)).mono ?_; rintro e w' ⟨rfl, h⟩)
      | (go_at_call 16; refine (call_two (two_of (by assumption)) (C2 _)).mono ?_; rintro e w' ⟨rfl, h⟩)
      | (go_at_call 17; refine (call_two (two_of (by assumption)) (C3 _)).mono ?_; rintro e w' ⟨rfl, h⟩)
      | (go_at_call 18; refine (call_two (two_of (by assumption)) (C4 _)).mono ?_; rintro e w' ⟨rfl, h⟩)
      | (go_at_call 14; refine (call_two (two_of (by assumption)) (awake_any _)).mono ?_; rintro e w' ⟨rfl, h⟩))
  all_goals
    go_wp2_with fail
    go_ret
    rename_i hk
    exact ⟨rfl, (two_of hk).below⟩

set_option maxRecDepth 100000 in
theorem spans_lifted (os : Os) (started : os.Started) (H : Type) (enc : TypeId × Value → H) :
    ReturnsInHanded {} Try.checked os 4 .any (Rows.mappingSpansSpec.pre6 enc Try.prog Try.f4 Rows.mappingSpansRow.domain false) (Rows.mappingSpansSpec.post enc Try.prog Try.f4 false true false false) := by
  refine returnsInHanded_of_change_sized (C := Try.checked) own started (by kernel_rfl) Try.func4
    (ChangeSpec.witness6 (enc := enc) (C := Try.checked) false ⟨#[], #[.agg #[.int .i64 0, .int .i64 0, .string ⟨#[]⟩], .agg #[.int .i64 0, .int .i64 0]], []⟩ 8 (by kernel_rfl) (by kernel_rfl) (by kernel_rfl) (by kernel_rfl)) ?_
  intro W base args ds gs before hval0 hW hcnd hz0 _
  have hval : ∀ (j : Nat) t v, Try.f4.params[j]? = some t → args[j]? = some v → Value.okWide Try.prog W .any base t v := hval0
  have hz : (DataW.weightsEach Try.prog (Try.f4.params.toList ++ Rows.mappingSpansSpec.plain.varTypes Try.prog) (ds ++ gs)).all (· ≤ reachBytes) = true := hz0
  have hW' := hW
  obtain ⟨p, q, hA0, hV, rfl, hfz, hnd⟩ := hW
  have hA : DataW.TrodAll enc Try.prog W 0 (fun _ => true) true Try.f4.params.toList args.toList ds p := hA0
  rw [Try.params4] at hA hval hz
  obtain ⟨v0, vs0, d0, ds0, p0, q0, hargs, rfl, rfl, h0, r0⟩ := trodAll_cons hA
  obtain ⟨v1, vs1, d1, ds1, p1, q1, rfl, rfl, rfl, h1, r1⟩ := trodAll_cons r0
  obtain ⟨rfl, rfl, rfl⟩ := trodAll_nil r1
  obtain rfl : args = #[v0, v1] := by cases args; simp_all
  obtain ⟨rfl, rfl⟩ := trodVars_none hV
  have k0 := h0
  have lt0 : ∀ x ∈ p0, x.block < W.heap.size := by obtain ⟨m, hm⟩ := k0; exact DataW.trod_lt m _ _ _ hm
  have k1 := h1
  have lt1 : ∀ x ∈ p1, x.block < W.heap.size := by obtain ⟨m, hm⟩ := k1; exact DataW.trod_lt m _ _ _ hm
  obtain ⟨c0, c1, c2, y0, y1, y2, m, hv0, hd0, _, hy0, hy1, hy2⟩ := open_agg3 Try.underlying23 (by kernel_rfl) cells23 (hval 0 23 v0 rfl rfl) h0
  obtain ⟨a, e0, _, wa⟩ := DataW.trod_int Try.underlying3 hy0
  obtain ⟨b, e1, _, wb⟩ := DataW.trod_int Try.underlying3 hy1
  obtain ⟨s, e2, g2, ws⟩ := DataW.trod_string Try.underlying9 hy2
  obtain ⟨b0, b1, z0, z1, m', hv1, _, _, hz0', hz1'⟩ := open_agg2 Try.underlying33 (by kernel_rfl) cells33 (hval 1 33 v1 rfl rfl) h1
  obtain ⟨f, e3, _, _⟩ := DataW.trod_int Try.underlying3 hz0'
  obtain ⟨t, e4, _, _⟩ := DataW.trod_int Try.underlying3 hz1'
  have hs : s.size ≤ 140737488355328 := ed_bound (j := 0) (p0 := y0.1) (p1 := y1.1) hz rfl (by subst g2; rw [hd0]; rfl)
  simp only [List.cons.injEq, and_true] at e0 e1 e2 e3 e4
  subst e0 e1 e2 e3 e4 hv0 hv1
  clear hA0 hval0
  refine (spans_walk a b s f t W hs).mono fun e W' ⟨he, bel⟩ => ?_
  subst he
  exact ⟨_, rfl, _, _, _, [], _, [], hW', trodAll_mk1 (shut_bool Try.underlying4 _), (trodAll_cons_mk (Below.trod laidOut (by kernel_rfl) (of_decide_eq_true (by kernel_rfl)) k0 bel lt0) (trodAll_cons_mk (Below.trod laidOut (by kernel_rfl) (of_decide_eq_true (by kernel_rfl)) k1 bel lt1) trodAll_mk0)), rfl, bel.frame _, fun h => by cases h⟩

theorem spans_holds : Rows.MappingSpansSaid :=
  OpenClaim.holds_of_wide 4 Try.f4 rfl rfl rfl rfl rfl rfl rfl ⟨rfl, rfl, rfl, rfl, rfl⟩ rfl rfl rfl rfl rfl (by kernel_rfl) Try.func4 (by kernel_rfl)
    (of_decide_eq_true (by kernel_rfl)) (by unfold Func.isWrapper; first | (rw [if_pos (by decide +kernel)]; kernel_rfl) | (rw [if_neg (by decide +kernel)]; exact ⟨rfl, rfl⟩))
    (fun os started H enc _ => spans_lifted os started H enc)
#print axioms spans_holds
end Go.Proofs.Ytincdpggdgllaaa
