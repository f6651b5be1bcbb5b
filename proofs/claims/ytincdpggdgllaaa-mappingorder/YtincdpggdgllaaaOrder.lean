/- The law MappingOrder holds for every edit and every two places: of two places the later one is not ahead behind an edit. No condition. -/
import Derived.Test.YtincdpggdgllaaaArgs
namespace Go.Proofs.Ytincdpggdgllaaa
open Go.ChangeShapes Go.WideShapes Go.ChangeAt Go.RowKit Go.Joins

theorem core_mono (a d l p q : Int) (o : Bool) (hd : 0 ≤ d) (hl : 0 ≤ l) (h : p ≤ q) : core a d l p o ≤ core a d l q o := by
  unfold core
  cases o <;> simp only [Bool.false_eq_true, if_false, if_true] <;> (repeat' split) <;> omega

theorem core_after (a d l p : Int) (hl : 0 ≤ l) : core a d l p false ≤ core a d l p true := by
  unfold core
  simp only [Bool.false_eq_true, if_false, if_true]
  (repeat' split) <;> omega

theorem pt_mono (x y : Int) (l p q : Int) (o : Bool) (hl : 0 ≤ l) (hp : Near p) (hq : Near q) (h : p ≤ q) : pt x y l p o ≤ pt x y l q o := by
  unfold pt
  rw [if_pos hp, if_pos hq]
  split
  · rename_i hk; exact core_mono _ _ _ _ _ _ hk.2.2.1 hl h
  · exact core_mono _ _ _ _ _ _ (Int.le_refl _) (Int.le_refl _) h

theorem pt_after (x y : Int) (l p : Int) (hl : 0 ≤ l) : pt x y l p false ≤ pt x y l p true := by
  unfold pt
  split
  · split
    · exact core_after _ _ _ _ hl
    · exact core_after _ _ _ _ (Int.le_refl _)
  · exact Int.le_refl _

set_option maxHeartbeats 1000000 in
theorem order_in (x y : Int) (s : ByteArray) (p q : Int) (w : World) (hs : s.size ≤ 140737488355328) (h1 : p ≤ q) (h2 : -1099511627776 ≤ p) (h3 : q ≤ 1099511627776) :
    Calls Try.prog 7 #[.agg #[.int .i64 x, .int .i64 y, .string s], .int .i64 p, .int .i64 q] w fun e w' => e = .returned (.bool true) ∧ Below w.heap.size w w' := by
  have hb0 : Below w.heap.size w (w.alloc (.cells #[.int .i64 x, .int .i64 y, .string s] 23)) := (Below.refl _ _).alloc (Nat.le_refl _) _
  have x0 : EdAt w.heap.size x y s (w.alloc (.cells #[.int .i64 x, .int .i64 y, .string s] 23)) := ⟨heap_alloc_new _ _, by simp⟩
  have np : Near p := ⟨h2, by omega⟩
  have nq : Near q := ⟨by omega, h3⟩
  have l1 := pt_mono x y s.size p q false (by omega) np nq h1
  have l2 := pt_mono x y s.size p q true (by omega) np nq h1
  have l3 := pt_after x y s.size p (by omega)
  have l4 := pt_after x y s.size q (by omega)
  have HS : Hid (s.size ≤ 140737488355328) := hs
  have k0 := keeps_of (w0 := w) ⟨x0, hb0⟩
  clear hs np nq x0 hb0
  go_enter Try.func7, Try.ntmps7
  go_wp2_with fail
  go_region_held3 (fun w' => w'.cell? ⟨w.heap.size, 0, none⟩ = some (.int .i64 x) ∧ w'.cell? ⟨w.heap.size, 1, none⟩ = some (.int .i64 y) ∧ w'.cell? ⟨w.heap.size, 2, none⟩ = some (.string s) ∧ Held w.heap.size x y s w w')
      (first | assumption | exact keeps_of (Held.drew (held_of (by assumption))) | go_keep)
      (first
        | (go_at_call 10; refine (point_held (E := w.heap.size) (w0 := w) (held_of (by assumption)) HS.out _ false _ rfl).mono ?_; rintro e w' ⟨rfl, h⟩))
  all_goals
    rename_i hk
  go_wp2_with fail
  go_region_held3 (fun w' => w'.cell? ⟨w.heap.size, 0, none⟩ = some (.int .i64 x) ∧ w'.cell? ⟨w.heap.size, 1, none⟩ = some (.int .i64 y) ∧ w'.cell? ⟨w.heap.size, 2, none⟩ = some (.string s) ∧ Held w.heap.size x y s w w')
      (first | assumption | exact keeps_of (Held.drew (held_of (by assumption))) | go_keep)
      (first
        | (go_at_call 10; refine (point_held (E := w.heap.size) (w0 := w) (held_of (by assumption)) HS.out _ true _ rfl).mono ?_; rintro e w' ⟨rfl, h⟩))
  rename_i hk2
  have hb := hk2.2.2.2.below
  have d1 : decide (pt x y s.size p false ≤ pt x y s.size q false) = true := decide_eq_true l1
  have d2 : decide (pt x y s.size p true ≤ pt x y s.size q true) = true := decide_eq_true l2
  have d3 : decide (pt x y s.size p false ≤ pt x y s.size p true) = true := decide_eq_true l3
  have d4 : decide (pt x y s.size q false ≤ pt x y s.size q true) = true := decide_eq_true l4
  go_wp2_with (go_at_call 14; refine (awake_any _).mono ?_; rintro e w9 ⟨rfl, b9⟩)
  all_goals
    go_ret
    exact ⟨rfl, hb.trans (b9.mono hb.size)⟩

set_option maxHeartbeats 400000 in
theorem order_out (x y : Int) (s : ByteArray) (p q : Int) (w : World) (h : ¬ (p ≤ q ∧ -1099511627776 ≤ p ∧ q ≤ 1099511627776)) :
    Calls Try.prog 7 #[.agg #[.int .i64 x, .int .i64 y, .string s], .int .i64 p, .int .i64 q] w fun e w' => e = .returned (.bool true) ∧ Below w.heap.size w w' := by
  have hb : Below w.heap.size w (w.alloc (.cells #[.int .i64 x, .int .i64 y, .string s] 23)) := (Below.refl _ _).alloc (Nat.le_refl _) _
  have d : (decide (q < p) || decide (p < -1099511627776) || decide (1099511627776 < q)) = true := by
    simp only [Bool.or_eq_true, decide_eq_true_eq]; omega
  go_enter Try.func7, Try.ntmps7
  go_wp2_with (go_at_call 14; refine (awake_any _).mono ?_; rintro e w9 ⟨rfl, b9⟩)
  all_goals
    go_ret
    exact ⟨rfl, hb.trans (b9.mono hb.size)⟩

theorem order_walk (x y : Int) (s : ByteArray) (p q : Int) (w : World) (hs : s.size ≤ 140737488355328) :
    Calls Try.prog 7 #[.agg #[.int .i64 x, .int .i64 y, .string s], .int .i64 p, .int .i64 q] w fun e w' => e = .returned (.bool true) ∧ Below w.heap.size w w' := by
  by_cases h : p ≤ q ∧ -1099511627776 ≤ p ∧ q ≤ 1099511627776
  · exact order_in x y s p q w hs h.1 h.2.1 h.2.2
  · exact order_out x y s p q w h

set_option maxRecDepth 100000 in
theorem order_lifted (os : Os) (started : os.Started) (H : Type) (enc : TypeId × Value → H) :
    ReturnsInHanded {} Try.checked os 7 .any (Rows.mappingOrderSpec.pre6 enc Try.prog Try.f7 Rows.mappingOrderRow.domain false) (Rows.mappingOrderSpec.post enc Try.prog Try.f7 false true false false) := by
  refine returnsInHanded_of_change_sized (C := Try.checked) own started (by kernel_rfl) Try.func7
    (ChangeSpec.witness6 (enc := enc) (C := Try.checked) false ⟨#[], #[.agg #[.int .i64 0, .int .i64 0, .string ⟨#[]⟩], .int .i64 0, .int .i64 0], []⟩ 8 (by kernel_rfl) (by kernel_rfl) (by kernel_rfl) (by kernel_rfl)) ?_
  intro W base args ds gs before hval0 hW hcnd hz0 _
  have hval : ∀ (j : Nat) t v, Try.f7.params[j]? = some t → args[j]? = some v → Value.okWide Try.prog W .any base t v := hval0
  have hz : (DataW.weightsEach Try.prog (Try.f7.params.toList ++ Rows.mappingOrderSpec.plain.varTypes Try.prog) (ds ++ gs)).all (· ≤ reachBytes) = true := hz0
  have hW' := hW
  obtain ⟨p, q, hA0, hV, rfl, hfz, hnd⟩ := hW
  have hA : DataW.TrodAll enc Try.prog W 0 (fun _ => true) true Try.f7.params.toList args.toList ds p := hA0
  rw [Try.params7] at hA hval hz
  obtain ⟨v0, vs0, d0, ds0, p0, q0, hargs, rfl, rfl, h0, r0⟩ := trodAll_cons hA
  obtain ⟨v1, vs1, d1, ds1, p1, q1, rfl, rfl, rfl, h1, r1⟩ := trodAll_cons r0
  obtain ⟨v2, vs2, d2, ds2, p2, q2, rfl, rfl, rfl, h2, r2⟩ := trodAll_cons r1
  obtain ⟨rfl, rfl, rfl⟩ := trodAll_nil r2
  obtain rfl : args = #[v0, v1, v2] := by cases args; simp_all
  obtain ⟨rfl, rfl⟩ := trodVars_none hV
  have k0 := h0
  have lt0 : ∀ x ∈ p0, x.block < W.heap.size := by obtain ⟨m, hm⟩ := k0; exact DataW.trod_lt m _ _ _ hm
  have k1 := h1
  have lt1 : ∀ x ∈ p1, x.block < W.heap.size := by obtain ⟨m, hm⟩ := k1; exact DataW.trod_lt m _ _ _ hm
  have k2 := h2
  have lt2 : ∀ x ∈ p2, x.block < W.heap.size := by obtain ⟨m, hm⟩ := k2; exact DataW.trod_lt m _ _ _ hm
  obtain ⟨c0, c1, c2, y0, y1, y2, m, hv0, hd0, _, hy0, hy1, hy2⟩ := open_agg3 Try.underlying23 (by kernel_rfl) cells23 (hval 0 23 v0 rfl rfl) h0
  obtain ⟨a, e0, _, wa⟩ := DataW.trod_int Try.underlying3 hy0
  obtain ⟨b, e1, _, wb⟩ := DataW.trod_int Try.underlying3 hy1
  obtain ⟨s, e2, g2, ws⟩ := DataW.trod_string Try.underlying9 hy2
  obtain ⟨k, hv1, _, _, wk⟩ := open_int Try.underlying3 (hval 1 3 v1 rfl rfl) h1
  obtain ⟨o, hv2, _, _, wo⟩ := open_int Try.underlying3 (hval 2 3 v2 rfl rfl) h2
  have hs : s.size ≤ 140737488355328 := ed_bound (j := 0) (p0 := y0.1) (p1 := y1.1) hz rfl (by subst g2; rw [hd0]; rfl)
  simp only [List.cons.injEq, and_true] at e0 e1 e2
  subst e0 e1 e2 hv0 hv1 hv2
  clear hA0 hval0
  refine (order_walk a b s k o W hs).mono fun e W' ⟨he, bel⟩ => ?_
  subst he
  exact ⟨_, rfl, _, _, _, [], _, [], hW', trodAll_mk1 (shut_bool Try.underlying4 _), (trodAll_cons_mk (Below.trod laidOut (by kernel_rfl) (of_decide_eq_true (by kernel_rfl)) k0 bel lt0) (trodAll_cons_mk (Below.trod laidOut (by kernel_rfl) (of_decide_eq_true (by kernel_rfl)) k1 bel lt1) (trodAll_cons_mk (Below.trod laidOut (by kernel_rfl) (of_decide_eq_true (by kernel_rfl)) k2 bel lt2) trodAll_mk0))), rfl, bel.frame _, fun h => by cases h⟩

theorem order_holds : Rows.MappingOrderSaid :=
  OpenClaim.holds_of_wide 7 Try.f7 rfl rfl rfl rfl rfl rfl rfl ⟨rfl, rfl, rfl, rfl, rfl⟩ rfl rfl rfl rfl rfl (by kernel_rfl) Try.func7 (by kernel_rfl)
    (of_decide_eq_true (by kernel_rfl)) (by unfold Func.isWrapper; first | (rw [if_pos (by decide +kernel)]; kernel_rfl) | (rw [if_neg (by decide +kernel)]; exact ⟨rfl, rfl⟩))
    (fun os started H enc _ => order_lifted os started H enc)
#print axioms order_holds
end Go.Proofs.Ytincdpggdgllaaa
