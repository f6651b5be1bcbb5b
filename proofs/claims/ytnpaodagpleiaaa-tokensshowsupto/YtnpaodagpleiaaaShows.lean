/- The law TokensShows holds where the arguments hold together at most 1048576 values and letters: any token's text and class are the document's. -/
import Derived.Test.YtnpaodagpleiaaaShowsw
import Derived.JoinedCond
namespace Go.Proofs.Ytnpaodagpleiaaa
open Go.ChangeShapes Go.WideShapes Go.ChangeAt Go.RowKit Go.Joins

theorem at_bulk {H : Type} : ∀ L : List At, (atP L).length ≤ 2 * Rows.uptoBulkAll (L.map (atD (H := H)))
  | [] => Nat.zero_le _
  | x :: L => by
    have h := at_bulk (H := H) L
    have e1 : x.n.data.toList.length = x.n.size := Array.length_toList
    have e2 : x.v.data.toList.length = x.v.size := Array.length_toList
    have e3 := atB_len x
    have e4 : atP (x :: L) = atB x ++ atP L := rfl
    rw [e4, List.length_append, List.map_cons]
    simp only [Rows.uptoBulkAll, Rows.uptoBulk]
    omega
/-- What the bound gives: a text that is not too long. -/
theorem shows_few {H : Type} {W : World} {T : Tk} {L : List At} {d : DataW H} (h : TkIn W T L d) (hk : Rows.uptoSmall H [d] = true) : Few T L := by
  obtain ⟨a, rfl, ha⟩ := h.da
  have hb : Rows.uptoBulkAll [DataW.agg (H := H) [.lit (.int .i64 T.k), .lit (.int .i64 T.r), .lit (.string T.nm.data.toList), .lit (.string T.tx.data.toList), a, .lit (.bool T.s), .agg [.lit (.int .i64 T.f), .lit (.int .i64 T.t)]]] ≤ 1048576 := of_decide_eq_true hk
  simp only [Rows.uptoBulkAll, Rows.uptoBulk] at hb
  have e1 : T.nm.data.toList.length = T.nm.size := Array.length_toList
  have e2 : T.tx.data.toList.length = T.tx.size := Array.length_toList
  refine ⟨by omega, by omega, ?_⟩
  rcases ha with ⟨rfl, _⟩ | ⟨sp, rfl⟩
  · exact Nat.zero_le _
  · have h1 := at_bulk (H := H) L
    simp only [Rows.uptoBulk] at hb
    omega

set_option maxRecDepth 100000 in
theorem shows_lifted (os : Os) (started : os.Started) (H : Type) (enc : TypeId × Value → H) (F : Stop.Interp) :
    ReturnsInHanded {} Try.checked os 3 .any ((Rows.OpenSpec.upto Rows.tokensShowsSpec).pre6 enc Try.prog Try.f3 Rows.tokensShowsUptoRow.domain false) (((Rows.OpenSpec.upto Rows.tokensShowsSpec).at F).post enc Try.prog Try.f3 false true false false) := by
  refine returnsInHanded_of_cond (C := Try.checked) (s := Rows.OpenSpec.upto Rows.tokensShowsSpec) (k := Rows.uptoSmall) rfl own started (by kernel_rfl) Try.func3
    (OpenSpec.witness (enc := enc) (C := Try.checked) (s := Rows.OpenSpec.upto Rows.tokensShowsSpec) (k := Rows.uptoSmall) rfl false ⟨#[], #[.agg #[.int .i64 0, .int .i64 0, .string ⟨#[]⟩, .string ⟨#[]⟩, .slice none 0 0, .bool false, .int .i64 0, .int .i64 0]], []⟩ 8 (by kernel_rfl) (by kernel_rfl) (by kernel_rfl)
      (x := ([.agg [.lit (.int .i64 0), .lit (.int .i64 0), .lit (.string []), .lit (.string []), .nil, .lit (.bool false), .agg [.lit (.int .i64 0), .lit (.int .i64 0)]]], [], [])) (by kernel_rfl) rfl (by kernel_rfl)) ?_
  intro W base args ds gs before hval0 hW _ hk0 _
  have hval : ∀ (j : Nat) t v, Try.f3.params[j]? = some t → args[j]? = some v → Value.okWide Try.prog W .any base t v := hval0
  have hk : Rows.uptoSmall H (ds ++ gs) = true := hk0
  have hW' := hW
  obtain ⟨p, q, hA0, hV, rfl, hfz, hnd⟩ := hW
  have hA : DataW.TrodAll enc Try.prog W 0 (fun _ => true) true Try.f3.params.toList args.toList ds p := hA0
  rw [Try.params3] at hA hval
  obtain ⟨v0, vs0, d0, ds0, p0, q0, hargs, rfl, rfl, h0, r0⟩ := trodAll_cons hA
  obtain ⟨rfl, rfl, rfl⟩ := trodAll_nil r0
  obtain rfl : args = #[v0] := by cases args; simp_all
  obtain ⟨rfl, rfl⟩ := trodVars_none hV
  have k0 := h0
  have lt0 : ∀ x ∈ p0, x.block < W.heap.size := by obtain ⟨m, hm⟩ := k0; exact DataW.trod_lt m _ _ _ hm
  obtain ⟨T0, L0, hv0, hI0⟩ := open_tok (hval 0 26 v0 rfl rfl) h0
  subst hv0
  have hF := shows_few hI0 hk
  clear hA0 hval0
  refine (shows_walk W T0 L0 hI0.ok hF).mono fun e W' ⟨he, bel⟩ => ?_
  subst he
  exact ⟨_, rfl, _, _, _, [], _, [], hW', trodAll_mk1 (shut_bool Try.underlying4 _), (trodAll_cons_mk (Below.trod laidOut (by kernel_rfl) (of_decide_eq_true (by kernel_rfl)) k0 bel lt0) trodAll_mk0), rfl, bel.frame _, fun h => by cases h⟩

theorem shows_holds : Rows.TokensShowsUptoSaid :=
  OpenClaim.holds_of_cond 3 Try.f3 rfl rfl rfl rfl rfl rfl rfl ⟨rfl, rfl, rfl, rfl, rfl⟩ rfl rfl rfl rfl rfl (by kernel_rfl) Try.func3 (by kernel_rfl)
    (of_decide_eq_true (by kernel_rfl)) (by unfold Func.isWrapper; first | (rw [if_pos (by decide +kernel)]; kernel_rfl) | (rw [if_neg (by decide +kernel)]; exact ⟨rfl, rfl⟩))
    (fun os started H enc _ F => shows_lifted os started H enc F)
#print axioms shows_holds
end Go.Proofs.Ytnpaodagpleiaaa
