/- The law ArenaNone holds for any deed: an arena that is none answers zero values, and does nothing. No condition. -/
import Derived.Test.YtcdaghlbfclpkaaBf
import Derived.Test.YtcdaghlbfclpkaaAn
namespace Go.Proofs.Ytcdaghlbfclpkaa
open Go.ChangeShapes Go.WideShapes Go.ChangeAt Go.RowKit Go.Joins

theorem field35 (w : World) (c0 c1 c2 : Int) (s3 s4 : ByteArray) (v5 : Value) (c6 c7 c8 c9 : Int) (v10 : Value) : (Instr.field 35 (.agg #[iv c0, iv c1, iv c2, .string s3, .string s4, v5, iv c6, iv c7, iv c8, iv c9, v10]) 0).run Try.prog w = .ok (iv c0) w := by
  simp [Instr.field, run_underlying Try.underlying35, part, asAgg, go_sem]
set_option maxHeartbeats 4000000 in
set_option maxRecDepth 20000 in
theorem none_walk (w : World) (T : Dd) (_ : DdIn w T) : Calls Try.prog 7 #[.agg T.arr] w fun e w' => e = .returned (.bool true) ∧ Below w.heap.size w w' := by
  obtain ⟨k, a, b, c, d, ao, ac, ko, kn, kc⟩ := T
  have b0 : Below w.heap.size w (w.alloc (.cells #[iv k, iv a, iv b, iv c, iv d.id, iv d.kind, iv d.space, .string d.name, .string d.text, .slice ao d.al.length ac, iv d.sf, iv d.st, iv d.ef, iv d.et, .slice ko kn kc] 37)) := (Below.refl _ _).alloc (Nat.le_refl _) _
  have n0 : (w.alloc (.cells #[iv k, iv a, iv b, iv c, iv d.id, iv d.kind, iv d.space, .string d.name, .string d.text, .slice ao d.al.length ac, iv d.sf, iv d.st, iv d.ef, iv d.et, .slice ko kn kc] 37)).heap[w.heap.size]? = some (.cells #[iv k, iv a, iv b, iv c, iv d.id, iv d.kind, iv d.space, .string d.name, .string d.text, .slice ao d.al.length ac, iv d.sf, iv d.st, iv d.ef, iv d.et, .slice ko kn kc] 37 (0, 0)) := heap_alloc_new w _
  obtain ⟨W0, hW0⟩ : ∃ W0, w.alloc (.cells #[iv k, iv a, iv b, iv c, iv d.id, iv d.kind, iv d.space, .string d.name, .string d.text, .slice ao d.al.length ac, iv d.sf, iv d.st, iv d.ef, iv d.et, .slice ko kn kc] 37) = W0 := ⟨_, rfl⟩
  have HW0 : Hid (w.alloc (.cells #[iv k, iv a, iv b, iv c, iv d.id, iv d.kind, iv d.space, .string d.name, .string d.text, .slice ao d.al.length ac, iv d.sf, iv d.st, iv d.ef, iv d.et, .slice ko kn kc] 37) = W0) := hW0
  rw [hW0] at b0 n0
  clear hW0
  have HB : Hid (Below w.heap.size w W0 ∧ W0.heap[w.heap.size]? = some (.cells #[iv k, iv a, iv b, iv c, iv d.id, iv d.kind, iv d.space, .string d.name, .string d.text, .slice ao d.al.length ac, iv d.sf, iv d.st, iv d.ef, iv d.et, .slice ko kn kc] 37 (0, 0)) ∧ w.heap.size < W0.heap.size) := ⟨b0, n0, (Array.getElem?_eq_some_iff.1 n0).1⟩
  have a1 : W0.cell? ⟨w.heap.size, 1, none⟩ = some (iv a) := by simp [World.cell?, n0]
  have CC : Hid (∀ w1 : World, Below W0.heap.size W0 w1 → w1.cell? ⟨w.heap.size, 1, none⟩ = some (iv a) ∧ w1.cell? ⟨w.heap.size, 2, none⟩ = some (iv b) ∧ w1.cell? ⟨w.heap.size, 3, none⟩ = some (iv c) ∧ w1.cell? ⟨w.heap.size, 4, none⟩ = some (iv d.id) ∧ w1.cell? ⟨w.heap.size, 5, none⟩ = some (iv d.kind) ∧ w1.cell? ⟨w.heap.size, 6, none⟩ = some (iv d.space) ∧ w1.cell? ⟨w.heap.size, 7, none⟩ = some (.string d.name) ∧ w1.cell? ⟨w.heap.size, 8, none⟩ = some (.string d.text) ∧ w1.cell? ⟨w.heap.size, 9, none⟩ = some (.slice ao d.al.length ac) ∧ w1.cell? ⟨w.heap.size, 10, none⟩ = some (iv d.sf) ∧ w1.cell? ⟨w.heap.size, 11, none⟩ = some (iv d.st) ∧ w1.cell? ⟨w.heap.size, 12, none⟩ = some (iv d.ef) ∧ w1.cell? ⟨w.heap.size, 13, none⟩ = some (iv d.et) ∧ w1.cell? ⟨w.heap.size, 14, none⟩ = some (.slice ko kn kc)) := fun w1 b1 => by
    have e := (b1.block _ HB.out.2.2).trans HB.out.2.1
    refine ⟨?_, ?_, ?_, ?_, ?_, ?_, ?_, ?_, ?_, ?_, ?_, ?_, ?_, ?_⟩ <;> simp [World.cell?, e]
  clear b0 n0
  show Calls Try.prog 7 #[.agg #[iv k, iv a, iv b, iv c, iv d.id, iv d.kind, iv d.space, .string d.name, .string d.text, .slice ao d.al.length ac, iv d.sf, iv d.st, iv d.ef, iv d.et, .slice ko kn kc]] w _
  go_enter Try.func7, Try.ntmps7
  go_upto_region 1 with fail
  rw [HW0.out]
  go_wp2_with fail
  refine (get_nil W0 a).mono ?_
  rintro e w1 ⟨rfl, b1⟩
  have b2 : Below W0.heap.size W0 (w1.alloc (.cells #[Value.int IntKind.i64 0, Value.int IntKind.i64 0, Value.int IntKind.i64 0, Value.string { data := #[] }, Value.string { data := #[] }, Value.slice none 0 0, Value.int IntKind.i64 0, Value.int IntKind.i64 0, Value.int IntKind.i64 0, Value.int IntKind.i64 0, Value.slice none 0 0] 35)) := b1.alloc b1.size _
  obtain ⟨W2, hW2⟩ : ∃ W2, w1.alloc (.cells #[Value.int IntKind.i64 0, Value.int IntKind.i64 0, Value.int IntKind.i64 0, Value.string { data := #[] }, Value.string { data := #[] }, Value.slice none 0 0, Value.int IntKind.i64 0, Value.int IntKind.i64 0, Value.int IntKind.i64 0, Value.int IntKind.i64 0, Value.slice none 0 0] 35) = W2 := ⟨_, rfl⟩
  have HW2 : Hid (w1.alloc (.cells #[Value.int IntKind.i64 0, Value.int IntKind.i64 0, Value.int IntKind.i64 0, Value.string { data := #[] }, Value.string { data := #[] }, Value.slice none 0 0, Value.int IntKind.i64 0, Value.int IntKind.i64 0, Value.int IntKind.i64 0, Value.int IntKind.i64 0, Value.slice none 0 0] 35) = W2) := hW2
  rw [hW2] at b2
  clear hW2
  obtain ⟨x1, x2, x3, x4, x5, x6, x7, x8, x9, x10, x11, x12, x13, x14⟩ := CC.out W2 b2
  clear b1 a1
  go_upto_region 3 with fail
  rw [HW2.out]
  go_wp2_with fail
  refine (make_nil W2 d ao ac ko kn kc).mono ?_
  rintro e w3 ⟨rfl, b3⟩
  clear x1 x2 x3 x4 x5 x6 x7 x8 x9 x10 x11 x12 x13 x14
  have b4 : Below W0.heap.size W0 w3 := b2.trans (b3.mono b2.size)
  obtain ⟨x1, x2, x3, x4, x5, x6, x7, x8, x9, x10, x11, x12, x13, x14⟩ := CC.out w3 b4
  clear b3 b2 HW2
  go_wp2_with fail
  refine (ins_nil _ a b c).mono ?_
  rintro e w' ⟨rfl, hw'⟩
  rw [hw']
  clear hw'
  go_wp2_with fail
  refine (det_nil _ a).mono ?_
  rintro e w' ⟨rfl, hw'⟩
  rw [hw']
  clear hw'
  go_wp2_with fail
  refine (par_nil _ a).mono ?_
  rintro e w' ⟨rfl, hw'⟩
  rw [hw']
  clear hw'
  go_wp2_with fail
  refine (kids_nil _ a).mono ?_
  rintro e w' ⟨rfl, hw'⟩
  rw [hw']
  clear hw'
  go_wp2_with fail
  refine (text_nil _ a ⟨#[120]⟩).mono ?_
  rintro e w' ⟨rfl, hw'⟩
  rw [hw']
  clear hw'
  go_wp2_with fail
  refine (attrs_nil _ a none 0 0).mono ?_
  rintro e w' ⟨rfl, hw'⟩
  rw [hw']
  clear hw'
  go_wp2_with fail
  refine (end_nil _ a 0 0).mono ?_
  rintro e w5 ⟨rfl, b5⟩
  go_wp2_with fail
  refine (tree_nil _ 0).mono ?_
  rintro e w6 ⟨rfl, b6⟩
  have ff := fun w => field35 w (-1) 0 0 ⟨#[]⟩ ⟨#[]⟩ (.slice none 0 0) 0 0 0 0 (.slice none 0 0)
  go_wp2_with fail
  refine (copy_nil _).mono ?_
  rintro e w' ⟨rfl, hw'⟩
  rw [hw']
  clear hw'
  go_wp2_with fail
  refine (len_nil _).mono ?_
  rintro e w' ⟨rfl, hw'⟩
  rw [hw']
  clear hw'
  go_wp2_with fail
  refine (awake_any _).mono ?_
  rintro e w7 ⟨rfl, b7⟩
  have HZ : Hid (Below w.heap.size w w7) := by
    have c1 := b5.trans (b6.mono b5.size)
    have c2 := c1.trans (b7.mono c1.size)
    have c3 := b4.trans (c2.mono b4.size)
    exact HB.out.1.trans (c3.mono HB.out.1.size)
  clear b5 b6 b7 b4 x1 x2 x3 x4 x5 x6 x7 x8 x9 x10 x11 x12 x13 x14
  go_wp2_with fail
  go_ret
  exact ⟨rfl, HZ.out⟩

set_option maxRecDepth 100000 in
theorem none_lifted (os : Os) (started : os.Started) (H : Type) (enc : TypeId × Value → H) :
    ReturnsInHanded {} Try.checked os 7 .any (Rows.arenaNoneSpec.pre6 enc Try.prog Try.f7 Rows.arenaNoneRow.domain false) (Rows.arenaNoneSpec.post enc Try.prog Try.f7 false true false false) := by
  refine returnsInHanded_of_change_sized (C := Try.checked) own started (by kernel_rfl) Try.func7
    (ChangeSpec.witness6 (enc := enc) (C := Try.checked) false ⟨#[], #[.agg #[.int .i64 0, .int .i64 0, .int .i64 0, .int .i64 0, .int .i64 0, .int .i64 0, .int .i64 0, .string ⟨#[]⟩, .string ⟨#[]⟩, .slice none 0 0, .int .i64 0, .int .i64 0, .int .i64 0, .int .i64 0, .slice none 0 0]], []⟩ 8 (by kernel_rfl) (by kernel_rfl) (by kernel_rfl) (by kernel_rfl)) ?_
  intro W base args ds gs before hval0 hW hcnd hz0 _
  have hval : ∀ (j : Nat) t v, Try.f7.params[j]? = some t → args[j]? = some v → Value.okWide Try.prog W .any base t v := hval0
  have hz : (DataW.weightsEach Try.prog (Try.f7.params.toList ++ Rows.arenaNoneSpec.plain.varTypes Try.prog) (ds ++ gs)).all (· ≤ reachBytes) = true := hz0
  have hW' := hW
  obtain ⟨p, q, hA0, hV, rfl, hfz, hnd⟩ := hW
  have hA : DataW.TrodAll enc Try.prog W 0 (fun _ => true) true Try.f7.params.toList args.toList ds p := hA0
  rw [Try.params7] at hA hval hz
  obtain ⟨v0, vs0, d0, ds0, p0, q0, hargs, rfl, rfl, h0, r0⟩ := trodAll_cons hA
  obtain ⟨rfl, rfl, rfl⟩ := trodAll_nil r0
  obtain rfl : args = #[v0] := by cases args; simp_all
  obtain ⟨rfl, rfl⟩ := trodVars_none hV
  have k0 := h0
  have lt0 : ∀ x ∈ p0, x.block < W.heap.size := by obtain ⟨m, hm⟩ := k0; exact DataW.trod_lt m _ _ _ hm
  obtain ⟨T0, hv0, hI0⟩ := open_deed (hval 0 37 v0 rfl rfl) h0
  subst hv0
  clear hA0 hval0 hz0
  refine (none_walk W T0 hI0).mono fun e W' ⟨he, bel⟩ => ?_
  subst he
  exact ⟨_, rfl, _, _, _, [], _, [], hW', trodAll_mk1 (shut_bool Try.underlying4 _), (trodAll_cons_mk (Below.trod laidOut (by kernel_rfl) (of_decide_eq_true (by kernel_rfl)) k0 bel lt0) trodAll_mk0), rfl, bel.frame _, fun h => by cases h⟩

theorem none_holds : Rows.ArenaNoneSaid :=
  OpenClaim.holds_of_wide 7 Try.f7 rfl rfl rfl rfl rfl rfl rfl ⟨rfl, rfl, rfl, rfl, rfl⟩ rfl rfl rfl rfl rfl (by kernel_rfl) Try.func7 (by kernel_rfl)
    (of_decide_eq_true (by kernel_rfl)) (by unfold Func.isWrapper; first | (rw [if_pos (by decide +kernel)]; kernel_rfl) | (rw [if_neg (by decide +kernel)]; exact ⟨rfl, rfl⟩))
    (fun os started H enc _ => none_lifted os started H enc)
#print axioms none_holds
end Go.Proofs.Ytcdaghlbfclpkaa
