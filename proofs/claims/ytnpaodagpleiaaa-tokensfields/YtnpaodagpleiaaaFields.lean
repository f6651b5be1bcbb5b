/- The law TokensFields holds for every token, every field and every number: a token of which one field is another is another token, both ways round, and the same as itself. No condition. -/
import Derived.Test.YtnpaodagpleiaaaFieldsx
namespace Go.Proofs.Ytnpaodagpleiaaa
open Go.ChangeShapes Go.WideShapes Go.ChangeAt Go.RowKit Go.Joins

/-- A token's texts are no longer than the form's reach. -/
theorem tok_str {H : Type} {ts : List TypeId} {ds : List (DataW H)} (hz : (DataW.weightsEach Try.prog ts ds).all (· ≤ reachBytes) = true) {j : Nat} {W : World} {T : Tk} {L : List At} {d : DataW H}
    (ht : ts[j]? = some 26) (hd : ds[j]? = some d) (h : TkIn W T L d) : T.nm.size ≤ 140737488351232 ∧ T.tx.size ≤ 140737488351232 := by
  obtain ⟨a, rfl, ha⟩ := h.da
  have h5 : reachBytes = 140737488351232 := by decide
  have e1 : T.nm.data.toList.length = T.nm.size := Array.length_toList
  have e2 : T.tx.data.toList.length = T.tx.size := Array.length_toList
  have h1 : T.nm.data.toList.length ∈ (DataW.agg [.lit (.int .i64 T.k), .lit (.int .i64 T.r), .lit (.string T.nm.data.toList), .lit (.string T.tx.data.toList), a, .lit (.bool T.s), .agg [.lit (.int .i64 T.f), .lit (.int .i64 T.t)]] : DataW H).weights Try.prog 26 := by
    simp [DataW.weights, Try.underlying26, DataW.weightsEach]
  have h2 : T.tx.data.toList.length ∈ (DataW.agg [.lit (.int .i64 T.k), .lit (.int .i64 T.r), .lit (.string T.nm.data.toList), .lit (.string T.tx.data.toList), a, .lit (.bool T.s), .agg [.lit (.int .i64 T.f), .lit (.int .i64 T.t)]] : DataW H).weights Try.prog 26 := by
    simp [DataW.weights, Try.underlying26, DataW.weightsEach]
  have q1 := of_decide_eq_true (List.all_eq_true.1 hz _ (DataW.weights_mem_each ht hd _ h1))
  have q2 := of_decide_eq_true (List.all_eq_true.1 hz _ (DataW.weights_mem_each ht hd _ h2))
  omega

theorem fields_walk (w : World) (T : Tk) (L : List At) (hT : TkOk w T L) (hL : L.length ≤ 4398046511000) (hnm : T.nm.size ≤ 140737488351232) (htx : T.tx.size ≤ 140737488351232) (x : Int) (_hx : -9223372036854775808 ≤ x ∧ x ≤ 9223372036854775807) (y : Int) (hy : -9223372036854775808 ≤ y ∧ y ≤ 9223372036854775807) :
    Calls Try.prog 6 #[T.val, .int .i64 x, .int .i64 y] w fun e w' => e = .returned (.bool true) ∧ Below w.heap.size w w' := by
  obtain ⟨h0, h7⟩ := eight x
  obtain ⟨m, hm⟩ : ∃ m, wrap64 ((IntKind.u64.wrap x).tmod 8) = m := ⟨_, rfl⟩
  rw [hm] at h0 h7
  have hh : m = 0 ∨ m = 1 ∨ m = 2 ∨ m = 3 ∨ m = 4 ∨ m = 5 ∨ m = 6 ∨ m = 7 := by omega
  rcases hh with rfl | rfl | rfl | rfl | rfl | rfl | rfl | rfl
  · exact fields_0 w T L hT hL hnm htx x y hy hm
  · exact fields_1 w T L hT hL hnm htx x y hy hm
  · exact fields_2 w T L hT hL hnm htx x y hy hm
  · exact fields_3 w T L hT hL hnm htx x y hy hm
  · exact fields_4 w T L hT hL hnm htx x y hy hm
  · exact fields_5 w T L hT hL hnm htx x y hy hm
  · exact fields_6 w T L hT hL hnm htx x y hy hm
  · exact fields_7 w T L hT hL hnm htx x y hy hm

set_option maxRecDepth 100000 in
theorem fields_lifted (os : Os) (started : os.Started) (H : Type) (enc : TypeId × Value → H) :
    ReturnsInHanded {} Try.checked os 6 .any (Rows.tokensFieldsSpec.pre6 enc Try.prog Try.f6 Rows.tokensFieldsRow.domain false) (Rows.tokensFieldsSpec.post enc Try.prog Try.f6 false true false false) := by
  refine returnsInHanded_of_change_sized (C := Try.checked) own started (by kernel_rfl) Try.func6
    (ChangeSpec.witness6 (enc := enc) (C := Try.checked) false ⟨#[], #[.agg #[.int .i64 0, .int .i64 0, .string ⟨#[]⟩, .string ⟨#[]⟩, .slice none 0 0, .bool false, .int .i64 0, .int .i64 0], .int .i64 0, .int .i64 0], []⟩ 8 (by kernel_rfl) (by kernel_rfl) (by kernel_rfl) (by kernel_rfl)) ?_
  intro W base args ds gs before hval0 hW hcnd hz0 _
  have hval : ∀ (j : Nat) t v, Try.f6.params[j]? = some t → args[j]? = some v → Value.okWide Try.prog W .any base t v := hval0
  have hz : (DataW.weightsEach Try.prog (Try.f6.params.toList ++ Rows.tokensFieldsSpec.plain.varTypes Try.prog) (ds ++ gs)).all (· ≤ reachBytes) = true := hz0
  have hW' := hW
  obtain ⟨p, q, hA0, hV, rfl, hfz, hnd⟩ := hW
  have hA : DataW.TrodAll enc Try.prog W 0 (fun _ => true) true Try.f6.params.toList args.toList ds p := hA0
  rw [Try.params6] at hA hval hz
  obtain ⟨v0, vs0, d0, ds0, p0, q0, hargs, rfl, rfl, h0, r0⟩ := trodAll_cons hA
  obtain ⟨v1, vs1, d1, ds1, p1, q1, rfl, rfl, rfl, h1, r1⟩ := trodAll_cons r0
  obtain ⟨v2, vs2, d2, ds2, p2, q2, rfl, rfl, rfl, h2, r2⟩ := trodAll_cons r1
  obtain ⟨rfl, rfl, rfl⟩ := trodAll_nil r2
  obtain rfl : args = #[v0, v1, v2] := by cases args; simp_all
  obtain ⟨rfl, rfl⟩ := trodVars_none hV
  have k0 := h0
  have lt0 : ∀ x ∈ p0, x.block < W.heap.size := by obtain ⟨m, hm⟩ := k0; exact DataW.trod_lt m _ _ _ hm
  have k1 := h1
  have lt1 : ∀ x ∈ p1, x.block < W.heap.size := by obtain ⟨m, hm⟩ := k1; exact DataW.trod_lt m _ _ _ hm
  have k2 := h2
  have lt2 : ∀ x ∈ p2, x.block < W.heap.size := by obtain ⟨m, hm⟩ := k2; exact DataW.trod_lt m _ _ _ hm
  obtain ⟨T0, L0, hv0, hI0⟩ := open_tok (hval 0 26 v0 rfl rfl) h0
  subst hv0
  have hb0 := tok_bound (j := 0) hz rfl rfl hI0
  have hs0 := tok_str (j := 0) hz rfl rfl hI0
  obtain ⟨x1, hv1, _, _, wx1⟩ := open_int Try.underlying3 (hval 1 3 v1 rfl rfl) h1
  subst hv1
  obtain ⟨x2, hv2, _, _, wx2⟩ := open_int Try.underlying3 (hval 2 3 v2 rfl rfl) h2
  subst hv2
  clear hA0 hval0 hz0
  refine (fields_walk W T0 L0 hI0.ok hb0 hs0.1 hs0.2 x1 (bounds_i64 wx1) x2 (bounds_i64 wx2)).mono fun e W' ⟨he, bel⟩ => ?_
  subst he
  exact ⟨_, rfl, _, _, _, [], _, [], hW', trodAll_mk1 (shut_bool Try.underlying4 _), (trodAll_cons_mk (Below.trod laidOut (by kernel_rfl) (of_decide_eq_true (by kernel_rfl)) k0 bel lt0) (trodAll_cons_mk (Below.trod laidOut (by kernel_rfl) (of_decide_eq_true (by kernel_rfl)) k1 bel lt1) (trodAll_cons_mk (Below.trod laidOut (by kernel_rfl) (of_decide_eq_true (by kernel_rfl)) k2 bel lt2) trodAll_mk0))), rfl, bel.frame _, fun h => by cases h⟩

theorem fields_holds : Rows.TokensFieldsSaid :=
  OpenClaim.holds_of_wide 6 Try.f6 rfl rfl rfl rfl rfl rfl rfl ⟨rfl, rfl, rfl, rfl, rfl⟩ rfl rfl rfl rfl rfl (by kernel_rfl) Try.func6 (by kernel_rfl)
    (of_decide_eq_true (by kernel_rfl)) (by unfold Func.isWrapper; first | (rw [if_pos (by decide +kernel)]; kernel_rfl) | (rw [if_neg (by decide +kernel)]; exact ⟨rfl, rfl⟩))
    (fun os started H enc _ => fields_lifted os started H enc)
#print axioms fields_holds
end Go.Proofs.Ytnpaodagpleiaaa
