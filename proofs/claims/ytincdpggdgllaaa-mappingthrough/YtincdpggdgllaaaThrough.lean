/- The law MappingThrough holds for every row of edits, every place and bool: a place behind any edits, one behind the other, is where the document says. No condition. -/
import Derived.Test.YtincdpggdgllaaaThr
import Derived.Test.YtincdpggdgllaaaArgs
import Derived.Deep.Strs
namespace Go.Proofs.Ytincdpggdgllaaa
open Go.ChangeShapes Go.WideShapes Go.ChangeAt Go.RowKit Go.Joins

theorem EdRow.on {w w' : World} {lo : Option Addr} {len : Nat} {f : Nat → Edit} (h : EdRow w lo len f) (b : Below w.heap.size w w') : EdRow w' lo len f := by
  intro i hi
  obtain ⟨b0, off, h1, h2, h3, h4, h5, h6⟩ := h i hi
  exact ⟨b0, off, h1, Nat.lt_of_lt_of_le h2 b.size, h3, (b.cell (p := ⟨b0, _, none⟩) h2).trans h4, (b.cell (p := ⟨b0, _, none⟩) h2).trans h5, (b.cell (p := ⟨b0, _, none⟩) h2).trans h6⟩

theorem below_call {w0 w : World} {fn : FuncId} {args : Array Value} {v : Value} (h : Below w0.heap.size w0 w)
    (hc : Calls Try.prog fn args w fun e w' => e = .returned v ∧ Below w.heap.size w w') :
    Calls Try.prog fn args w fun e w' => e = .returned v ∧ Below w0.heap.size w0 w' := by
  refine hc.mono ?_
  rintro e w' ⟨he, b⟩
  exact ⟨he, h.trans (b.mono h.size)⟩

set_option maxHeartbeats 400000 in
theorem thr_long (lo : Option Addr) (len cap : Nat) (q : Int) (o : Bool) (w : World) (h : 1000 < len) :
    Calls Try.prog 5 #[.slice lo len cap, .int .i64 q, .bool o] w fun e w' => e = .returned (.bool true) ∧ Below w.heap.size w w' := by
  have h' : (1000 : Int) < (len : Int) := by omega
  go_enter Try.func5, Try.ntmps5
  go_wp2_with (go_at_call 14; refine (awake_any _).mono ?_; rintro e w9 ⟨rfl, b9⟩)
  go_ret
  exact ⟨rfl, b9⟩

set_option maxHeartbeats 1000000 in
theorem thr_short (lo : Option Addr) (len cap : Nat) (f : Nat → Edit) (q : Int) (o : Bool) (w : World) (h : len ≤ 1000) (hrow : EdRow w lo len f) :
    Calls Try.prog 5 #[.slice lo len cap, .int .i64 q, .bool o] w fun e w' => e = .returned (.bool true) ∧ Below w.heap.size w w' := by
  have h' : (len : Int) ≤ 1000 := by omega
  have HR : Hid (EdRow w lo len f) := hrow
  have HL : Hid (len ≤ 1000) := h
  have k0 := Below.refl w.heap.size w
  clear hrow
  go_enter Try.func5, Try.ntmps5
  generalize hv : thr f o q len = v
  go_wp2_with fail
  refine (through_any lo len cap f q o _ HL.out HR.out).mono ?_
  rintro e w1 ⟨rfl, b1⟩
  rw [hv]
  go_wp2_with fail
  refine (rthrough_any lo len cap f q o _ HL.out (HR.out.on b1)).mono ?_
  rintro e w2 ⟨rfl, b2⟩
  rw [hv]
  have hb2 := b1.trans (b2.mono b1.size)
  go_wp2_with fail
  refine (awake_any _).mono ?_
  rintro e w3 ⟨rfl, b3⟩
  have hb3 := hb2.trans (b3.mono hb2.size)
  go_wp2_with fail
  go_ret
  exact ⟨rfl, hb3⟩

theorem edit_cells {H : Type} {enc : TypeId × Value → H} {W : World} {n : Nat} {cs : List Value} {x : DataW H × List MemPlace} (h : DataW.trod enc Try.prog W 0 (fun _ => true) true n 23 cs = some x) :
    ∃ (e : Edit) (p0 p1 : DataW H), cs = [.int .i64 e.a, .int .i64 e.d, .string e.s] ∧ x.1 = .agg [p0, p1, .lit (.string e.s.data.toList)] := by
  obtain ⟨y0, y1, y2, m, hx, hl, h0, h1, h2⟩ := Go.Deep.trod_struct3 Try.underlying23 h
  rw [cells23] at hl
  obtain ⟨c0, c1, c2, rfl⟩ : ∃ c0 c1 c2, cs = [c0, c1, c2] := by
    match cs, hl with
    | [c0, c1, c2], _ => exact ⟨c0, c1, c2, rfl⟩
  have k3 : Try.prog.cellsOf 3 = 1 := by kernel_rfl
  have k9 : Try.prog.cellsOf 9 = 1 := by kernel_rfl
  simp only [k3, k9] at h0 h1 h2
  obtain ⟨a, e0, _, _⟩ := DataW.trod_int Try.underlying3 h0
  obtain ⟨b, e1, _, _⟩ := DataW.trod_int Try.underlying3 h1
  obtain ⟨s, e2, g2, _⟩ := DataW.trod_string Try.underlying9 h2
  simp at e0 e1 e2
  subst e0 e1 e2
  exact ⟨⟨a, b, s⟩, y0.1, y1.1, rfl, by rw [hx, g2]⟩

theorem weights_mem_all {H : Type} {P : Program} {e : TypeId} : ∀ {ds : List (DataW H)} {d : DataW H}, d ∈ ds → ∀ n ∈ d.weights P e, n ∈ DataW.weightsAll P e ds
  | d0 :: ds, d, hd, n, hn => by
    simp only [DataW.weightsAll, List.mem_append]
    rcases List.mem_cons.1 hd with rfl | h
    · exact Or.inl hn
    · exact Or.inr (weights_mem_all h n hn)

/-- A row of edits that came in, each text no longer than the form's reach. -/
theorem open_edits {H : Type} {enc : TypeId × Value → H} {W : World} {n : Nat} {lo : Option Addr} {len cap : Nat} {x : DataW H × List MemPlace} (h : DataW.trod enc Try.prog W 0 (fun _ => true) true n 36 [.slice lo len cap] = some x)
    (hw : ∀ k ∈ x.1.weights Try.prog 36, k ≤ reachBytes) : ∃ f, EdRow W lo len f := by
  rcases Go.Deep.open_slice Try.underlying36 h with ⟨h0, _⟩ | ⟨a, len', cap', m, k, D, Pl, hcs, _, hl, hm, hmm, hxd, hx⟩
  · simp only [List.cons.injEq, Value.slice.injEq, and_true] at h0
    obtain ⟨_, rfl, rfl⟩ := h0
    exact ⟨fun _ => ⟨0, 0, ⟨#[]⟩⟩, fun i hi => absurd hi (Nat.not_lt_zero _)⟩
  · simp only [List.cons.injEq, Value.slice.injEq, and_true] at hcs
    obtain ⟨rfl, rfl, rfl⟩ := hcs
    rw [if_pos rfl] at hmm
    have each : ∀ i, i < len → ∃ e : Edit, e.s.size ≤ 140737488355328 ∧ W.cell? (a.add (i * 3)) = some (.int .i64 e.a) ∧ W.cell? (a.add (i * 3 + 1)) = some (.int .i64 e.d) ∧ W.cell? (a.add (i * 3 + 2)) = some (.string e.s) := by
      intro i hi
      obtain ⟨cs', h1, h2⟩ := hx i (by omega)
      rw [cells23] at h1
      obtain ⟨_, hlen, hcell⟩ := World.cells?_some h1
      obtain ⟨e, p0, p1, rfl, hD⟩ := edit_cells h2
      refine ⟨e, ?_, ?_, ?_, ?_⟩
      · have g1 : e.s.data.toList.length ∈ (D i).weights Try.prog 23 := by
          have hD' : D i = .agg [p0, p1, .lit (.string e.s.data.toList)] := hD
          rw [hD']
          simp [DataW.weights, Try.underlying23, DataW.weightsEach]
        have g2 : D i ∈ (List.range len).map D := List.mem_map.2 ⟨i, List.mem_range.2 hi, rfl⟩
        have g3 := weights_mem_all (P := Try.prog) (e := 23) g2 _ g1
        have g4 : e.s.data.toList.length ≤ reachBytes := by
          apply hw
          rw [hxd]
          simp only [DataW.weights, Try.underlying36, List.mem_cons, List.mem_append]
          exact Or.inr (Or.inl g3)
        have g5 : e.s.data.toList.length = e.s.size := Array.length_toList
        have g6 : reachBytes = 140737488351232 := by decide
        omega
      · have := hcell 0 (by omega); rw [Go.Deep.add_add] at this; simpa using this
      · have := hcell 1 (by omega); rw [Go.Deep.add_add] at this; simpa using this
      · have := hcell 2 (by omega); rw [Go.Deep.add_add] at this; simpa using this
    obtain ⟨f, hf⟩ : ∃ f : Nat → Edit, ∀ i, i < len → (f i).s.size ≤ 140737488355328 ∧ W.cell? (a.add (i * 3)) = some (.int .i64 (f i).a) ∧ W.cell? (a.add (i * 3 + 1)) = some (.int .i64 (f i).d) ∧ W.cell? (a.add (i * 3 + 2)) = some (.string (f i).s) := by
      haveI : Inhabited Edit := ⟨⟨0, 0, ⟨#[]⟩⟩⟩
      exact Go.Deep.choose_lt each
    refine ⟨f, fun i hi => ?_⟩
    obtain ⟨gs, g0, g1, g2⟩ := hf i hi
    obtain ⟨b, off, spot⟩ := a
    have hspot : spot = none := by
      have := World.cell?_spot (hf 0 (by omega)).2.1
      simpa [Addr.add] using this
    subst hspot
    rw [Addr.add_lit] at g0 g1 g2
    exact ⟨b, off, rfl, World.block_lt_of_cell? W _ g0, gs, g0, by rw [Nat.add_assoc]; exact g1, by rw [Nat.add_assoc]; exact g2⟩

theorem thr_walk (lo : Option Addr) (len cap : Nat) (f : Nat → Edit) (q : Int) (o : Bool) (w : World) (hrow : EdRow w lo len f) :
    Calls Try.prog 5 #[.slice lo len cap, .int .i64 q, .bool o] w fun e w' => e = .returned (.bool true) ∧ Below w.heap.size w w' := by
  by_cases h : 1000 < len
  · exact thr_long lo len cap q o w h
  · exact thr_short lo len cap f q o w (by omega) hrow

set_option maxRecDepth 100000 in
theorem through_lifted (os : Os) (started : os.Started) (H : Type) (enc : TypeId × Value → H) :
    ReturnsInHanded {} Try.checked os 5 .any (Rows.mappingThroughSpec.pre6 enc Try.prog Try.f5 Rows.mappingThroughRow.domain false) (Rows.mappingThroughSpec.post enc Try.prog Try.f5 false true false false) := by
  refine returnsInHanded_of_change_sized (C := Try.checked) own started (by kernel_rfl) Try.func5
    (ChangeSpec.witness6 (enc := enc) (C := Try.checked) false ⟨#[], #[.slice none 0 0, .int .i64 0, .bool false], []⟩ 8 (by kernel_rfl) (by kernel_rfl) (by kernel_rfl) (by kernel_rfl)) ?_
  intro W base args ds gs before hval0 hW hcnd hz0 _
  have hval : ∀ (j : Nat) t v, Try.f5.params[j]? = some t → args[j]? = some v → Value.okWide Try.prog W .any base t v := hval0
  have hz : (DataW.weightsEach Try.prog (Try.f5.params.toList ++ Rows.mappingThroughSpec.plain.varTypes Try.prog) (ds ++ gs)).all (· ≤ reachBytes) = true := hz0
  have hW' := hW
  obtain ⟨p, q, hA0, hV, rfl, hfz, hnd⟩ := hW
  have hA : DataW.TrodAll enc Try.prog W 0 (fun _ => true) true Try.f5.params.toList args.toList ds p := hA0
  rw [Try.params5] at hA hval hz
  obtain ⟨v0, vs0, d0, ds0, p0, q0, hargs, rfl, rfl, h0, r0⟩ := trodAll_cons hA
  obtain ⟨v1, vs1, d1, ds1, p1, q1, rfl, rfl, rfl, h1, r1⟩ := trodAll_cons r0
  obtain ⟨v2, vs2, d2, ds2, p2, q2, rfl, rfl, rfl, h2, r2⟩ := trodAll_cons r1
  obtain ⟨rfl, rfl, rfl⟩ := trodAll_nil r2
  obtain rfl : args = #[v0, v1, v2] := by cases args; simp_all
  obtain ⟨rfl, rfl⟩ := trodVars_none hV
  have k0 := h0
  have lt0 : ∀ x ∈ p0, x.block < W.heap.size := by obtain ⟨m, hm⟩ := k0; exact DataW.trod_lt m _ _ _ hm
  have k1 := h1
  have lt1 : ∀ x ∈ p1, x.block < W.heap.size := by obtain ⟨m, hm⟩ := k1; exact DataW.trod_lt m _ _ _ hm
  have k2 := h2
  have lt2 : ∀ x ∈ p2, x.block < W.heap.size := by obtain ⟨m, hm⟩ := k2; exact DataW.trod_lt m _ _ _ hm
  obtain ⟨lo, len, cap, hv0⟩ := okWide_slice Try.underlying36 (hval 0 36 v0 rfl rfl)
  obtain ⟨k, hv1, _, _, wk⟩ := open_int Try.underlying3 (hval 1 3 v1 rfl rfl) h1
  obtain ⟨o, hv2, _⟩ := open_bool Try.underlying4 (hval 2 4 v2 rfl rfl) h2
  have hall : ∀ j ∈ d0.weights Try.prog 36, j ≤ reachBytes := fun j hj => by
    have := List.all_eq_true.1 hz _ (DataW.weights_mem_each (j := 0) (t := 36) (d := d0) rfl rfl j hj)
    exact of_decide_eq_true this
  subst hv0 hv1 hv2
  obtain ⟨fuel, hf⟩ := h0
  obtain ⟨f, hrow⟩ := open_edits (n := fuel) (by simpa [Value.cells] using hf) hall
  clear hA0 hval0
  refine (thr_walk lo len cap f k o W hrow).mono fun e W' ⟨he, bel⟩ => ?_
  subst he
  exact ⟨_, rfl, _, _, _, [], _, [], hW', trodAll_mk1 (shut_bool Try.underlying4 _), (trodAll_cons_mk (Below.trod laidOut (by kernel_rfl) (of_decide_eq_true (by kernel_rfl)) k0 bel lt0) (trodAll_cons_mk (Below.trod laidOut (by kernel_rfl) (of_decide_eq_true (by kernel_rfl)) k1 bel lt1) (trodAll_cons_mk (Below.trod laidOut (by kernel_rfl) (of_decide_eq_true (by kernel_rfl)) k2 bel lt2) trodAll_mk0))), rfl, bel.frame _, fun h => by cases h⟩

theorem through_holds : Rows.MappingThroughSaid :=
  OpenClaim.holds_of_wide 5 Try.f5 rfl rfl rfl rfl rfl rfl rfl ⟨rfl, rfl, rfl, rfl, rfl⟩ rfl rfl rfl rfl rfl (by kernel_rfl) Try.func5 (by kernel_rfl)
    (of_decide_eq_true (by kernel_rfl)) (by unfold Func.isWrapper; first | (rw [if_pos (by decide +kernel)]; kernel_rfl) | (rw [if_neg (by decide +kernel)]; exact ⟨rfl, rfl⟩))
    (fun os started H enc _ => through_lifted os started H enc)
#print axioms through_holds
end Go.Proofs.Ytincdpggdgllaaa
