/- Where a span is behind an edit, and whether they touch: the program's answers and the document's, for texts of at most 2^47 bytes. -/
import Derived.Test.YtincdpggdgllaaaEd
namespace Go.Proofs.Ytincdpggdgllaaa
open Go.RowKit

/-- An edit lies in block E, a span in block G; all that was there at the call is as it was. -/
structure Two (E G : Nat) (x y : Int) (s : ByteArray) (f t : Int) (w0 w : World) : Prop where
  ed : EdAt E x y s w
  sp : w.heap[G]? = some (.cells #[.int .i64 f, .int .i64 t] 33 (0, 0))
  lt : G < w.heap.size
  below : Below w0.heap.size w0 w

theorem Two.drew {E G : Nat} {x y : Int} {s : ByteArray} {f t : Int} {w0 w : World} (h : Two E G x y s f t w0 w) : Two E G x y s f t w0 w.drew := ⟨⟨h.ed.at_, h.ed.lt⟩, h.sp, h.lt, h.below.drew⟩

theorem Two.on {E G : Nat} {x y : Int} {s : ByteArray} {f t : Int} {w0 w w' : World} (h : Two E G x y s f t w0 w) (b : Below w.heap.size w w') : Two E G x y s f t w0 w' :=
  ⟨h.ed.below b, (b.block _ h.lt).trans h.sp, Nat.lt_of_lt_of_le h.lt b.size, h.below.trans (b.mono h.below.size)⟩

theorem two_cells {E G : Nat} {x y : Int} {s : ByteArray} {f t : Int} {w0 w : World} (h : Two E G x y s f t w0 w) :
    w.cell? ⟨E, 0, none⟩ = some (.int .i64 x) ∧ w.cell? ⟨E, 1, none⟩ = some (.int .i64 y) ∧ w.cell? ⟨E, 2, none⟩ = some (.string s) ∧ w.cell? ⟨G, 0, none⟩ = some (.int .i64 f) ∧ w.cell? ⟨G, 1, none⟩ = some (.int .i64 t) ∧ Two E G x y s f t w0 w := by
  obtain ⟨a, b, c⟩ := ed_cells h.ed.at_
  have h1 := h.sp
  exact ⟨a, b, c, by simp [World.cell?, h1], by simp [World.cell?, h1], h⟩

theorem two_of {E G : Nat} {x y : Int} {s : ByteArray} {f t : Int} {w0 w : World}
    (h : w.cell? ⟨E, 0, none⟩ = some (.int .i64 x) ∧ w.cell? ⟨E, 1, none⟩ = some (.int .i64 y) ∧ w.cell? ⟨E, 2, none⟩ = some (.string s) ∧ w.cell? ⟨G, 0, none⟩ = some (.int .i64 f) ∧ w.cell? ⟨G, 1, none⟩ = some (.int .i64 t) ∧ Two E G x y s f t w0 w) : Two E G x y s f t w0 w := h.2.2.2.2.2

/-- Any call that turns nothing that was there keeps both. -/
theorem call_two {E G : Nat} {x y : Int} {s : ByteArray} {f t : Int} {w0 w : World} {fn : FuncId} {args : Array Value} {v : Value} (h : Two E G x y s f t w0 w)
    (hc : Calls Try.prog fn args w fun e w' => e = .returned v ∧ Below w.heap.size w w') :
    Calls Try.prog fn args w fun e w' => e = .returned v ∧ w'.cell? ⟨E, 0, none⟩ = some (.int .i64 x) ∧ w'.cell? ⟨E, 1, none⟩ = some (.int .i64 y) ∧ w'.cell? ⟨E, 2, none⟩ = some (.string s) ∧ w'.cell? ⟨G, 0, none⟩ = some (.int .i64 f) ∧ w'.cell? ⟨G, 1, none⟩ = some (.int .i64 t) ∧ Two E G x y s f t w0 w' := by
  refine hc.mono ?_
  rintro e w' ⟨he, b⟩
  exact ⟨he, two_cells (h.on b)⟩

/-- Where a span is. -/
def sp (x y l f t : Int) : Int × Int :=
  if f < 0 then (-1, -1) else if pt x y l t false < pt x y l f true then (pt x y l f false, pt x y l f false) else (pt x y l f true, pt x y l t false)

theorem pt_bound (x y l q : Int) (o : Bool) (h0 : 0 ≤ l) (h1 : l ≤ 140737488355328) : -1099511627776 ≤ pt x y l q o ∧ pt x y l q o ≤ 142936511610880 := by
  unfold pt core Near Ok
  cases o <;> simp only [Bool.false_eq_true, if_false, if_true] <;> (repeat' split) <;> omega

/-- The two blocks at the beginning of a call. -/
theorem two_new (x y : Int) (s : ByteArray) (f t : Int) (w : World) :
    Two w.heap.size (w.heap.size + 1) x y s f t w ((w.alloc (.cells #[.int .i64 x, .int .i64 y, .string s] 23)).alloc (.cells #[.int .i64 f, .int .i64 t] 33)) := by
  refine ⟨⟨?_, by simp; omega⟩, ?_, by simp, ?_⟩
  · rw [heap_alloc_old _ _ (by simp)]; exact heap_alloc_new _ _
  · have := heap_alloc_new (w.alloc (.cells #[.int .i64 x, .int .i64 y, .string s] 23)) (.cells #[.int .i64 f, .int .i64 t] 33)
    simpa using this
  · exact ((Below.refl _ _).alloc (Nat.le_refl _) _).alloc (by simp) _

set_option maxHeartbeats 400000 in
theorem none_any (w : World) : Calls Try.prog 27 #[] w fun e w' => e = .returned (.agg #[.int .i64 (-1), .int .i64 (-1)]) ∧ Below w.heap.size w w' := by
  go_enter Try.func27, Try.ntmps27
  go_wp2
  go_returns
  refine ⟨rfl, ?_⟩
  go_grown

/-- Beside both the answer's own block. -/
structure Three (E G R : Nat) (x y : Int) (s : ByteArray) (f t : Int) (w0 w : World) : Prop where
  two : Two E G x y s f t w0 w
  res : w.heap[R]? = some (.cells #[.int .i64 0, .int .i64 0] 33 (0, 0))
  lt : R < w.heap.size

theorem Three.drew {E G R : Nat} {x y : Int} {s : ByteArray} {f t : Int} {w0 w : World} (h : Three E G R x y s f t w0 w) : Three E G R x y s f t w0 w.drew := ⟨h.two.drew, h.res, h.lt⟩

theorem Three.on {E G R : Nat} {x y : Int} {s : ByteArray} {f t : Int} {w0 w w' : World} (h : Three E G R x y s f t w0 w) (b : Below w.heap.size w w') : Three E G R x y s f t w0 w' :=
  ⟨h.two.on b, (b.block _ h.lt).trans h.res, Nat.lt_of_lt_of_le h.lt b.size⟩

theorem three_new (x y : Int) (s : ByteArray) (f t : Int) (w : World) :
    Three w.heap.size (w.heap.size + 1) (w.heap.size + 1 + 1) x y s f t w (((w.alloc (.cells #[.int .i64 x, .int .i64 y, .string s] 23)).alloc (.cells #[.int .i64 f, .int .i64 t] 33)).alloc (.cells #[.int .i64 0, .int .i64 0] 33)) := by
  have h := two_new x y s f t w
  refine ⟨h.on ((Below.refl _ _).alloc (Nat.le_refl _) _), ?_, by simp⟩
  have := heap_alloc_new ((w.alloc (.cells #[.int .i64 x, .int .i64 y, .string s] 23)).alloc (.cells #[.int .i64 f, .int .i64 t] 33)) (.cells #[.int .i64 0, .int .i64 0] 33)
  simpa using this

theorem three_cells {E G R : Nat} {x y : Int} {s : ByteArray} {f t : Int} {w0 w : World} (h : Three E G R x y s f t w0 w) :
    w.cell? ⟨E, 0, none⟩ = some (.int .i64 x) ∧ w.cell? ⟨E, 1, none⟩ = some (.int .i64 y) ∧ w.cell? ⟨E, 2, none⟩ = some (.string s) ∧ w.cell? ⟨G, 0, none⟩ = some (.int .i64 f) ∧ w.cell? ⟨G, 1, none⟩ = some (.int .i64 t) ∧ Three E G R x y s f t w0 w := by
  obtain ⟨a, b, c, d, e, _⟩ := two_cells h.two
  exact ⟨a, b, c, d, e, h⟩

theorem three_of {E G R : Nat} {x y : Int} {s : ByteArray} {f t : Int} {w0 w : World}
    (h : w.cell? ⟨E, 0, none⟩ = some (.int .i64 x) ∧ w.cell? ⟨E, 1, none⟩ = some (.int .i64 y) ∧ w.cell? ⟨E, 2, none⟩ = some (.string s) ∧ w.cell? ⟨G, 0, none⟩ = some (.int .i64 f) ∧ w.cell? ⟨G, 1, none⟩ = some (.int .i64 t) ∧ Three E G R x y s f t w0 w) : Three E G R x y s f t w0 w := h.2.2.2.2.2

theorem call_three {E G R : Nat} {x y : Int} {s : ByteArray} {f t : Int} {w0 w : World} {fn : FuncId} {args : Array Value} {v : Value} (h : Three E G R x y s f t w0 w)
    (hc : Calls Try.prog fn args w fun e w' => e = .returned v ∧ Below w.heap.size w w') :
    Calls Try.prog fn args w fun e w' => e = .returned v ∧ w'.cell? ⟨E, 0, none⟩ = some (.int .i64 x) ∧ w'.cell? ⟨E, 1, none⟩ = some (.int .i64 y) ∧ w'.cell? ⟨E, 2, none⟩ = some (.string s) ∧ w'.cell? ⟨G, 0, none⟩ = some (.int .i64 f) ∧ w'.cell? ⟨G, 1, none⟩ = some (.int .i64 t) ∧ Three E G R x y s f t w0 w' := by
  refine hc.mono ?_
  rintro e w' ⟨he, b⟩
  exact ⟨he, three_cells (h.on b)⟩

/-- The answer's cells, ahead of the stores. -/
theorem three_res {E G R : Nat} {x y : Int} {s : ByteArray} {f t : Int} {w0 w : World} (h : Three E G R x y s f t w0 w) :
    w.cell? ⟨R, 0, none⟩ = some (.int .i64 0) ∧ w.cell? ⟨R, 1, none⟩ = some (.int .i64 0) ∧ w.frozen? ⟨R, 0, none⟩ = false ∧ w.frozen? ⟨R, 1, none⟩ = false := by
  have h1 := h.res
  refine ⟨?_, ?_, ?_, ?_⟩ <;> simp [World.cell?, World.frozen?, h1]

theorem res_stored {W : World} {R : Nat} {a b : Value} (h : W.heap[R]? = some (.cells #[a, b] 33 (0, 0))) (u v : Value) :
    ((W.setCell ⟨R, 0, none⟩ u).setCell ⟨R, 1, none⟩ v).heap[R]? = some (.cells #[u, v] 33 (0, 0)) := by
  simp [World.setCell, Array.getElem?_modify, h]

theorem info33 : (Try.prog.info? 33).map (·.size) = some 2 := by kernel_rfl

theorem three_ret {E G R : Nat} {x y : Int} {s : ByteArray} {f t : Int} {w0 w : World} (h : Three E G R x y s f t w0 w) (u v : Value) (fn : Func) (p : Tmp) (hr : fn.results = #[.cell p 33]) (tmps : Array Value) (hp : tmps.getD p undef = .pointer (some ⟨R, 0, none⟩)) :
    (results fn tmps).run Try.prog ((w.setCell ⟨R, 0, none⟩ u).setCell ⟨R, 1, none⟩ v) = .ok (.agg #[u, v]) ((w.setCell ⟨R, 0, none⟩ u).setCell ⟨R, 1, none⟩ v) :=
  results_cell_row hr tmps _ R 33 #[u, v] (0, 0) _ hp (res_stored h.res u v) Try.underlying33 rfl info33

set_option maxHeartbeats 400000 in
theorem span_none (x y : Int) (s : ByteArray) (f t : Int) (hf : f < 0) (w : World) :
    Calls Try.prog 15 #[.agg #[.int .i64 x, .int .i64 y, .string s], .agg #[.int .i64 f, .int .i64 t]] w fun e w' => e = .returned (.agg #[.int .i64 (-1), .int .i64 (-1)]) ∧ Below w.heap.size w w' := by
  have k0 := three_new x y s f t w
  go_enter Try.func15, Try.ntmps15
  go_wp2_with fail
  refine (call_three k0 (none_any _)).mono ?_
  rintro e w1 ⟨rfl, _, _, _, _, _, h1⟩
  obtain ⟨r0, r1, g0, g1⟩ := three_res h1
  have hb := h1.two.below
  clear k0
  go_wp2_with fail
  refine bodyPost_ret (three_ret h1 _ _ _ 4 Try.results15 _ rfl) rfl ?_
  refine ⟨rfl, ?_⟩
  go_grown

set_option maxHeartbeats 400000 in
theorem span_some (x y : Int) (s : ByteArray) (f t : Int) (hs : s.size ≤ 140737488355328) (hf : 0 ≤ f) (w : World) :
    Calls Try.prog 15 #[.agg #[.int .i64 x, .int .i64 y, .string s], .agg #[.int .i64 f, .int .i64 t]] w fun e w' => e = .returned (.agg #[.int .i64 (sp x y s.size f t).1, .int .i64 (sp x y s.size f t).2]) ∧ Below w.heap.size w w' := by
  have k0 := three_new x y s f t w
  have B1 := pt_bound x y s.size f true (by omega) (by omega)
  have B2 := pt_bound x y s.size t false (by omega) (by omega)
  have B3 := pt_bound x y s.size f false (by omega) (by omega)
  obtain ⟨a, ea⟩ : ∃ i, Hid (pt x y s.size f true = i) := ⟨_, rfl⟩
  obtain ⟨b, eb⟩ : ∃ i, Hid (pt x y s.size t false = i) := ⟨_, rfl⟩
  obtain ⟨c, ec⟩ : ∃ i, Hid (pt x y s.size f false = i) := ⟨_, rfl⟩
  rw [ea.out] at B1
  rw [eb.out] at B2
  rw [ec.out] at B3
  have hw : IntKind.i64.wrap (b - a) = b - a := by rw [IntKind.wrap_i64]; omega
  have C1 : ∀ w, Calls Try.prog 10 #[.agg #[.int .i64 x, .int .i64 y, .string s], .int .i64 f, .bool true] w fun e w' => e = .returned (.int .i64 a) ∧ Below w.heap.size w w' := fun w => ea.out ▸ point_any x y s hs f true w
  have C2 : ∀ w, Calls Try.prog 10 #[.agg #[.int .i64 x, .int .i64 y, .string s], .int .i64 t, .bool false] w fun e w' => e = .returned (.int .i64 b) ∧ Below w.heap.size w w' := fun w => eb.out ▸ point_any x y s hs t false w
  have C3 : ∀ w, Calls Try.prog 10 #[.agg #[.int .i64 x, .int .i64 y, .string s], .int .i64 f, .bool false] w fun e w' => e = .returned (.int .i64 c) ∧ Below w.heap.size w w' := fun w => ec.out ▸ point_any x y s hs f false w
  have D1 : Hid (a.natAbs < 2 ^ 53 ∧ (b - a).natAbs < 2 ^ 53 ∧ c.natAbs < 2 ^ 53) := by show _ ∧ _; omega
  have HS : Hid ((sp x y s.size f t) = if b < a then (c, c) else (a, b)) := by
    show _ = _
    unfold sp
    rw [if_neg (by omega), ea.out, eb.out, ec.out]
  clear B1 B2 B3 ea eb ec hs
  go_enter Try.func15, Try.ntmps15
  go_wp2_with fail
  refine (call_three k0 (C1 _)).mono ?_
  rintro e w1 ⟨rfl, k1⟩
  clear k0
  go_wp2_with fail
  refine (call_three (three_of k1) (C2 _)).mono ?_
  rintro e w2 ⟨rfl, k2⟩
  clear k1
  go_wp2_with fail
  refine (lay_any _ _ _).mono ?_
  rintro e w3 ⟨rfl, rfl⟩
  go_wp2_with fail
  refine (length_any _ _ D1.out.2.1 _).mono ?_
  rintro e w3 ⟨rfl, rfl⟩
  by_cases hc : b < a
  · have d : decide (b - a < 0) = true := decide_eq_true (by omega)
    rw [if_pos hc] at HS
    go_wp2_with fail
    refine (call_three (three_of k2) (C3 _)).mono ?_
    rintro e w4 ⟨rfl, k4⟩
    clear k2 C1 C2 C3
    go_wp2_with fail
    refine (lay_any _ _ _).mono ?_
    rintro e w5 ⟨rfl, rfl⟩
    go_wp2_with fail
    refine (from_any _ _ D1.out.2.2 _).mono ?_
    rintro e w5 ⟨rfl, rfl⟩
    go_wp2_with fail
    refine (to_any _ _ D1.out.2.2 (by decide) _).mono ?_
    rintro e w5 ⟨rfl, rfl⟩
    have h1 := three_of k4
    obtain ⟨r0, r1, g0, g1⟩ := three_res h1
    have hb := h1.two.below
    go_wp2_with fail
    refine bodyPost_ret (three_ret h1 _ _ _ 4 Try.results15 _ rfl) rfl ?_
    refine ⟨?_, ?_⟩
    · rw [HS.out]
    · go_grown
  · have d : decide (b - a < 0) = false := decide_eq_false (by omega)
    rw [if_neg hc] at HS
    clear C1 C2 C3
    go_wp2_with fail
    refine (from_any _ _ D1.out.1 _).mono ?_
    rintro e w5 ⟨rfl, rfl⟩
    go_wp2_with fail
    refine (to_any _ _ D1.out.1 D1.out.2.1 _).mono ?_
    rintro e w5 ⟨rfl, rfl⟩
    have h1 := three_of k2
    obtain ⟨r0, r1, g0, g1⟩ := three_res h1
    have hb := h1.two.below
    have hv : Hid (a + (b - a) = b) := by show _ = _; omega
    go_wp2_with fail
    refine bodyPost_ret (three_ret h1 _ _ _ 4 Try.results15 _ rfl) rfl ?_
    refine ⟨?_, ?_⟩
    · rw [HS.out, hv.out]
    · go_grown

theorem span_any (x y : Int) (s : ByteArray) (f t : Int) (hs : s.size ≤ 140737488355328) (w : World) :
    Calls Try.prog 15 #[.agg #[.int .i64 x, .int .i64 y, .string s], .agg #[.int .i64 f, .int .i64 t]] w fun e w' => e = .returned (.agg #[.int .i64 (sp x y s.size f t).1, .int .i64 (sp x y s.size f t).2]) ∧ Below w.heap.size w w' := by
  by_cases h : f < 0
  · have := span_none x y s f t h w
    have e : sp x y s.size f t = (-1, -1) := by unfold sp; rw [if_pos h]
    rw [e]; exact this
  · exact span_some x y s f t hs (by omega) w

set_option maxHeartbeats 400000 in
theorem rspan_none (x y : Int) (s : ByteArray) (f t : Int) (hf : f < 0) (w : World) :
    Calls Try.prog 16 #[.agg #[.int .i64 x, .int .i64 y, .string s], .agg #[.int .i64 f, .int .i64 t]] w fun e w' => e = .returned (.agg #[.int .i64 (-1), .int .i64 (-1)]) ∧ Below w.heap.size w w' := by
  have h1 := three_new x y s f t w
  have hb := h1.two.below
  obtain ⟨r0, r1, g0, g1⟩ := three_res h1
  go_enter Try.func16, Try.ntmps16
  go_wp2_with fail
  go_returns
  refine ⟨rfl, ?_⟩
  go_grown

set_option maxHeartbeats 400000 in
theorem rspan_some (x y : Int) (s : ByteArray) (f t : Int) (hs : s.size ≤ 140737488355328) (hf : 0 ≤ f) (w : World) :
    Calls Try.prog 16 #[.agg #[.int .i64 x, .int .i64 y, .string s], .agg #[.int .i64 f, .int .i64 t]] w fun e w' => e = .returned (.agg #[.int .i64 (sp x y s.size f t).1, .int .i64 (sp x y s.size f t).2]) ∧ Below w.heap.size w w' := by
  have k0 := three_cells (three_new x y s f t w)
  have hS : Hid ((sp x y s.size f t) = if pt x y s.size t false < pt x y s.size f true then (pt x y s.size f false, pt x y s.size f false) else (pt x y s.size f true, pt x y s.size t false)) := by
    show _ = _
    unfold sp
    rw [if_neg (by omega)]
  have HS : Hid (s.size ≤ 140737488355328) := hs
  clear hs
  go_enter Try.func16, Try.ntmps16
  go_wp2_with fail
  go_region_held3 (fun w' => w'.cell? ⟨w.heap.size, 0, none⟩ = some (.int .i64 x) ∧ w'.cell? ⟨w.heap.size, 1, none⟩ = some (.int .i64 y) ∧ w'.cell? ⟨w.heap.size, 2, none⟩ = some (.string s) ∧ w'.cell? ⟨w.heap.size + 1, 0, none⟩ = some (.int .i64 f) ∧ w'.cell? ⟨w.heap.size + 1, 1, none⟩ = some (.int .i64 t) ∧ Three w.heap.size (w.heap.size + 1) (w.heap.size + 1 + 1) x y s f t w w')
      (first | assumption | exact three_cells (Three.drew (three_of (by assumption))) | go_keep)
      (first
        | (go_at_call 11; refine (call_three (three_of (by assumption)) (rpoint_any x y s HS.out _ _ _)).mono ?_; rintro e w' ⟨rfl, h⟩))
  rename_i w2 _ k2
  clear k0
  by_cases hc : pt x y s.size t false < pt x y s.size f true
  · have d : decide (pt x y s.size t false < pt x y s.size f true) = true := decide_eq_true hc
    rw [if_pos hc] at hS
    go_wp2_with fail
    refine (call_three (three_of k2) (rpoint_any x y s HS.out _ _ _)).mono ?_
    rintro e w4 ⟨rfl, k4⟩
    clear k2
    have h1 := three_of k4
    obtain ⟨r0, r1, g0, g1⟩ := three_res h1
    have hb := h1.two.below
    go_wp2_with fail
    refine bodyPost_ret (three_ret h1 _ _ _ 4 Try.results16 _ rfl) rfl ?_
    refine ⟨?_, ?_⟩
    · rw [hS.out]
    · go_grown
  · have d : decide (pt x y s.size t false < pt x y s.size f true) = false := decide_eq_false hc
    rw [if_neg hc] at hS
    have h1 := three_of k2
    obtain ⟨r0, r1, g0, g1⟩ := three_res h1
    have hb := h1.two.below
    go_wp2_with fail
    refine bodyPost_ret (three_ret h1 _ _ _ 4 Try.results16 _ rfl) rfl ?_
    refine ⟨?_, ?_⟩
    · rw [hS.out]
    · go_grown

theorem rspan_any (x y : Int) (s : ByteArray) (f t : Int) (hs : s.size ≤ 140737488355328) (w : World) :
    Calls Try.prog 16 #[.agg #[.int .i64 x, .int .i64 y, .string s], .agg #[.int .i64 f, .int .i64 t]] w fun e w' => e = .returned (.agg #[.int .i64 (sp x y s.size f t).1, .int .i64 (sp x y s.size f t).2]) ∧ Below w.heap.size w w' := by
  by_cases h : f < 0
  · have := rspan_none x y s f t h w
    have e : sp x y s.size f t = (-1, -1) := by unfold sp; rw [if_pos h]
    rw [e]; exact this
  · exact rspan_some x y s f t hs (by omega) w
end Go.Proofs.Ytincdpggdgllaaa
