/- The law TreeFinds holds for any tree and any number: the first node of it, and the tree stripped, are what the document says. No condition. -/
import Derived.Test.YtdpibnmbgjhohaaJa
import Derived.Test.YtdpibnmbgjhohaaHc
import Derived.Test.YtdpibnmbgjhohaaIb
import Derived.Test.YtdpibnmbgjhohaaEa
import Derived.Test.YtdpibnmbgjhohaaRows
namespace Go.Proofs.Ytdpibnmbgjhohaa
open Go.ChangeShapes Go.WideShapes Go.ChangeAt Go.RowKit Go.Joins


theorem sorts41 : Sorts41 := fun V lo l len cap hrow hlen hl => (rsorted_new len cap hrow hlen hl).mono (by
  rintro e w' ⟨ao, n, c, rfl, h1, h2, h3, h4⟩
  rw [sort_len, hlen] at h1
  subst h1
  exact ⟨ao, c, rfl, h3, h2, h4⟩)
theorem strips22 : Strips22 := fun _ _ _ _ h hs hn => (callsIn_wide (n := 0)).1 (strip_in 0 h hs hn)
theorem finds_all (w : World) (t : Tr) (av kv : Value) (ht : TrC w t av kv) (hok : Ok t) (i : Int) : Calls Try.prog 5 #[nv t.d av kv, iv i] w fun e w' => e = .returned (.bool true) ∧ Below w.heap.size w w' :=
  finds_walk awake_any strips22 sorts41 w t av kv ht hok (fun h => ⟨(tiny_of h).sml, by have := (tiny_of h).cnt; omega⟩) i
set_option maxRecDepth 100000 in
theorem finds_lifted (os : Os) (started : os.Started) (H : Type) (enc : TypeId × Value → H) :
    ReturnsInHanded {} Try.checked os 5 .any (Rows.treeFindsSpec.pre6 enc Try.prog Try.f5 Rows.treeFindsRow.domain false) (Rows.treeFindsSpec.post enc Try.prog Try.f5 false true false false) := by
  refine returnsInHanded_of_change_sized (C := Try.checked) own started (by kernel_rfl) Try.func5
    (ChangeSpec.witness6 (enc := enc) (C := Try.checked) false ⟨#[], #[.agg #[.int .i64 0, .int .i64 0, .int .i64 0, .string ⟨#[]⟩, .string ⟨#[]⟩, .slice none 0 0, .int .i64 0, .int .i64 0, .int .i64 0, .int .i64 0, .slice none 0 0], .int .i64 0], []⟩ 8 (by kernel_rfl) (by kernel_rfl) (by kernel_rfl) (by kernel_rfl)) ?_
  intro W base args ds gs before hval0 hW hcnd hz0 _
  have hval : ∀ (j : Nat) t v, Try.f5.params[j]? = some t → args[j]? = some v → Value.okWide Try.prog W .any base t v := hval0
  have hz : (DataW.weightsEach Try.prog (Try.f5.params.toList ++ Rows.treeFindsSpec.plain.varTypes Try.prog) (ds ++ gs)).all (· ≤ reachBytes) = true := hz0
  have hW' := hW
  obtain ⟨p, q, hA0, hV, rfl, hfz, hnd⟩ := hW
  have hA : DataW.TrodAll enc Try.prog W 0 (fun _ => true) true Try.f5.params.toList args.toList ds p := hA0
  rw [Try.params5] at hA hval hz
  obtain ⟨v0, vs0, d0, ds0, p0, q0, hargs, rfl, rfl, h0, r0⟩ := trodAll_cons hA
  obtain ⟨v1, vs1, d1, ds1, p1, q1, rfl, rfl, rfl, h1, r1⟩ := trodAll_cons r0
  obtain ⟨rfl, rfl, rfl⟩ := trodAll_nil r1
  obtain rfl : args = #[v0, v1] := by cases args; simp_all
  obtain ⟨rfl, rfl⟩ := trodVars_none hV
  have k0 := h0
  have lt0 : ∀ x ∈ p0, x.block < W.heap.size := by obtain ⟨m, hm⟩ := k0; exact DataW.trod_lt m _ _ _ hm
  have k1 := h1
  have lt1 : ∀ x ∈ p1, x.block < W.heap.size := by obtain ⟨m, hm⟩ := k1; exact DataW.trod_lt m _ _ _ hm
  obtain ⟨t0, av0, kv0, hv0, hT0, hO0⟩ := open_node (j := 0) hz rfl rfl (hval 0 27 v0 rfl rfl) h0
  subst hv0
  obtain ⟨i1, hv1⟩ := okWide_int Try.underlying3 (hval 1 3 v1 rfl rfl)
  subst hv1
  clear hA0 hval0 hz0
  refine (finds_all W t0 av0 kv0 hT0 hO0 i1).mono fun e W' ⟨he, bel⟩ => ?_
  subst he
  exact ⟨_, rfl, _, _, _, [], _, [], hW', trodAll_mk1 (shut_bool Try.underlying4 _), (trodAll_cons_mk (Below.trod laidOut (by kernel_rfl) (of_decide_eq_true (by kernel_rfl)) k0 bel lt0) (trodAll_cons_mk (Below.trod laidOut (by kernel_rfl) (of_decide_eq_true (by kernel_rfl)) k1 bel lt1) trodAll_mk0)), rfl, bel.frame _, fun h => by cases h⟩

theorem finds_holds : Rows.TreeFindsSaid :=
  OpenClaim.holds_of_wide 5 Try.f5 rfl rfl rfl rfl rfl rfl rfl ⟨rfl, rfl, rfl, rfl, rfl⟩ rfl rfl rfl rfl rfl (by kernel_rfl) Try.func5 (by kernel_rfl)
    (of_decide_eq_true (by kernel_rfl)) (by unfold Func.isWrapper; first | (rw [if_pos (by decide +kernel)]; kernel_rfl) | (rw [if_neg (by decide +kernel)]; exact ⟨rfl, rfl⟩))
    (fun os started H enc _ => finds_lifted os started H enc)
#print axioms finds_holds
end Go.Proofs.Ytdpibnmbgjhohaa
