/- The law NamesAgain holds for every list of names and every text: a trie of all that a trie has finds the same. No condition. -/
import Derived.Test.YtfkhpcgccjlpgaaOp
namespace Go.Proofs.Ytfkhpcgccjlpgaa
open Go.ChangeShapes Go.WideShapes Go.ChangeAt Go.RowKit Go.Joins

set_option maxHeartbeats 2000000 in
set_option maxRecDepth 10000 in
theorem again_walk (lo : Option Addr) (len cap : Nat) (L : List Rf) (s : ByteArray) (w : World) (hL : L.length = len) (hrow : RefRow w lo L) :
    Calls Try.prog 7 #[.slice lo len cap, .string s] w fun e w' => e = .returned (.bool true) ∧ Below w.heap.size w w' := by
  have HR : Hid (RefRow w lo L ∧ L.length = len) := ⟨hrow, hL⟩
  clear hrow hL
  by_cases hfew : len ≤ 300 ∧ s.size ≤ 2000
  · have hcnt := cnt_le [] L
    have hlenA := all_len L
    obtain ⟨m, hm⟩ : ∃ m, cnt [] L = m := ⟨_, rfl⟩
    rw [hm] at hcnt hlenA
    rw [HR.out.2] at hcnt
    have HA : Hid ((allP L).length = m) := hlenA
    clear hm hlenA
    have hfd : decide (len ≤ 300 ∧ s.size ≤ 2000) = true := decide_eq_true hfew
    have hfe := few_any lo len cap s w
    rw [hfd] at hfe
    go_enter Try.func7, Try.ntmps7
    go_wp2_with fail
    refine hfe.mono ?_
    rintro e w0 ⟨rfl, rfl⟩
    clear hfe
    go_wp2_with fail
    refine (new_any len cap HR.out.1 HR.out.2 (by omega)).mono ?_
    rintro e w1 ⟨t, rfl, T, b1⟩
    have H1 : Hid (TrieIs w1 w0.heap.size t L ∧ Below w0.heap.size w0 w1) := ⟨T, b1⟩
    clear T b1
    go_wp2_with fail
    refine (all_any H1.out.1 (by rw [HR.out.2]; omega) (by rw [HA.out]; omega)).mono ?_
    rintro e w2 ⟨v, rfl, q2, b2⟩
    obtain ⟨ao, ac, rfl, r2, hc2, hc2'⟩ := row_ref q2
    rw [HA.out]
    have H2 : Hid (TrieIs w2 w0.heap.size t L ∧ Below w0.heap.size w0 w2 ∧ RefRow w2 ao (allP L)) := ⟨H1.out.1.below b2, H1.out.2.trans (b2.mono H1.out.2.size), r2⟩
    clear q2 r2 b2 H1 hc2 hc2'
    go_wp2_with fail
    refine (new_any m ac H2.out.2.2 HA.out (by omega)).mono ?_
    rintro e w3 ⟨u, rfl, U, b3⟩
    have H3 : Hid (TrieIs w3 w0.heap.size t L ∧ Below w0.heap.size w0 w3 ∧ TrieIs w3 w2.heap.size u (allP L)) := ⟨H2.out.1.below b3, H2.out.2.1.trans (b3.mono H2.out.2.1.size), U⟩
    clear U b3 H2
    go_wp2_with fail
    refine (longest_any H3.out.1 s (by omega)).mono ?_
    rintro e w4 ⟨rfl, b4⟩
    have H4 : Hid (TrieIs w4 w0.heap.size t L ∧ Below w0.heap.size w0 w4 ∧ TrieIs w4 w2.heap.size u (allP L)) := ⟨H3.out.1.below b4, H3.out.2.1.trans (b4.mono H3.out.2.1.size), H3.out.2.2.below b4⟩
    clear b4 H3
    have hlo := longest_any H4.out.2.2 s (by omega)
    rw [best_same (val_all L)] at hlo
    obtain ⟨bs, hbs⟩ : ∃ bs, best L s.data.toList s.size = bs := ⟨_, rfl⟩
    rw [hbs] at hlo ⊢
    obtain ⟨br, bk⟩ := bs
    simp only at hlo ⊢
    clear hbs
    go_wp2_with fail
    refine hlo.mono ?_
    rintro e w5 ⟨rfl, b5⟩
    have H5 : Hid (TrieIs w5 w0.heap.size t L ∧ Below w0.heap.size w0 w5 ∧ TrieIs w5 w2.heap.size u (allP L)) := ⟨H4.out.1.below b5, H4.out.2.1.trans (b5.mono H4.out.2.1.size), H4.out.2.2.below b5⟩
    clear b5 H4 hlo
    have hg1 := goes_any H5.out.1 s (by omega)
    obtain ⟨g, hg⟩ : ∃ g, goes L s.data.toList = g := ⟨_, rfl⟩
    have HG : Hid (goes L s.data.toList = g) := hg
    rw [hg] at hg1
    clear hg
    go_wp2_with fail
    refine hg1.mono ?_
    rintro e w6 ⟨rfl, b6⟩
    have H6 : Hid (TrieIs w6 w0.heap.size t L ∧ Below w0.heap.size w0 w6 ∧ TrieIs w6 w2.heap.size u (allP L)) := ⟨H5.out.1.below b6, H5.out.2.1.trans (b6.mono H5.out.2.1.size), H5.out.2.2.below b6⟩
    clear b6 H5 hg1
    have hg2 := goes_any H6.out.2.2 s (by omega)
    rw [goes_same (val_all L), HG.out] at hg2
    go_wp2_with fail
    refine hg2.mono ?_
    rintro e w7 ⟨rfl, b7⟩
    have H7 : Hid (TrieIs w7 w0.heap.size t L ∧ Below w0.heap.size w0 w7 ∧ TrieIs w7 w2.heap.size u (allP L)) := ⟨H6.out.1.below b7, H6.out.2.1.trans (b7.mono H6.out.2.1.size), H6.out.2.2.below b7⟩
    clear b7 H6 hg2
    go_wp2_with fail
    refine (all_any H7.out.1 (by rw [HR.out.2]; omega) (by rw [HA.out]; omega)).mono ?_
    rintro e w8 ⟨v8, rfl, q8, b8⟩
    obtain ⟨o8, c8, rfl, r8, _, _⟩ := row_ref q8
    rw [HA.out]
    have H8 : Hid (Below w0.heap.size w0 w8 ∧ TrieIs w8 w2.heap.size u (allP L) ∧ RefRow w8 o8 (allP L)) := ⟨H7.out.2.1.trans (b8.mono H7.out.2.1.size), H7.out.2.2.below b8, r8⟩
    clear b8 H7 q8 r8
    have hal := all_any H8.out.2.1 (by rw [HA.out]; omega) (by rw [all_same (val_all L), HA.out]; omega)
    rw [all_same (val_all L)] at hal
    go_wp2_with fail
    refine hal.mono ?_
    rintro e w9 ⟨v9, rfl, q9, b9⟩
    obtain ⟨o9, c9, rfl, r9, _, _⟩ := row_ref q9
    rw [HA.out]
    have H9 : Hid (Below w0.heap.size w0 w9 ∧ RefRow w9 o8 (allP L) ∧ RefRow w9 o9 (allP L)) := ⟨H8.out.1.trans (b9.mono H8.out.1.size), H8.out.2.2.below b9, r9⟩
    clear b9 H8 q9 r9 hal
    go_wp2_with fail
    refine (refs_same m c8 c9 H9.out.2.1 H9.out.2.2 HA.out (by omega)).mono ?_
    rintro e wa ⟨rfl, ba⟩
    have Ha : Hid (Below w0.heap.size w0 wa) := H9.out.1.trans (ba.mono H9.out.1.size)
    clear ba H9
    go_wp2_with fail
    refine (awake_any _).mono ?_
    rintro e wb ⟨rfl, bb⟩
    have Hb : Hid (Below w0.heap.size w0 wb) := Ha.out.trans (bb.mono Ha.out.size)
    clear bb Ha
    go_wp2_with fail
    go_ret
    exact ⟨rfl, Hb.out⟩
  · have hfd : decide (len ≤ 300 ∧ s.size ≤ 2000) = false := decide_eq_false hfew
    have hfe := few_any lo len cap s w
    rw [hfd] at hfe
    go_enter Try.func7, Try.ntmps7
    go_wp2_with fail
    refine hfe.mono ?_
    rintro e w0 ⟨rfl, rfl⟩
    clear hfe
    go_wp2_with fail
    refine (awake_any _).mono ?_
    rintro e wb ⟨rfl, bb⟩
    go_wp2_with fail
    go_ret
    exact ⟨rfl, bb⟩

set_option maxRecDepth 100000 in
theorem again_lifted (os : Os) (started : os.Started) (H : Type) (enc : TypeId × Value → H) :
    ReturnsInHanded {} Try.checked os 7 .any (Rows.namesAgainSpec.pre6 enc Try.prog Try.f7 Rows.namesAgainRow.domain false) (Rows.namesAgainSpec.post enc Try.prog Try.f7 false true false false) := by
  refine returnsInHanded_of_change (C := Try.checked) own started (by kernel_rfl) Try.func7
    (ChangeSpec.witness6 (enc := enc) (C := Try.checked) false ⟨#[], #[.slice none 0 0, .string ⟨#[]⟩], []⟩ 8 (by kernel_rfl) (by kernel_rfl) (by kernel_rfl) (by kernel_rfl)) ?_
  intro W base args ds gs before hval0 hW hcnd _
  have hval : ∀ (j : Nat) t v, Try.f7.params[j]? = some t → args[j]? = some v → Value.okWide Try.prog W .any base t v := hval0
  have hW' := hW
  obtain ⟨p, q, hA0, hV, rfl, hfz, hnd⟩ := hW
  have hA : DataW.TrodAll enc Try.prog W 0 (fun _ => true) true Try.f7.params.toList args.toList ds p := hA0
  rw [Try.params7] at hA hval
  obtain ⟨v0, vs0, d0, ds0, p0, q0, hargs, rfl, rfl, h0, r0⟩ := trodAll_cons hA
  obtain ⟨v1, vs1, d1, ds1, p1, q1, rfl, rfl, rfl, h1, r1⟩ := trodAll_cons r0
  obtain ⟨rfl, rfl, rfl⟩ := trodAll_nil r1
  obtain rfl : args = #[v0, v1] := by cases args; simp_all
  obtain ⟨rfl, rfl⟩ := trodVars_none hV
  have k0 := h0
  have lt0 : ∀ x ∈ p0, x.block < W.heap.size := by obtain ⟨m, hm⟩ := k0; exact DataW.trod_lt m _ _ _ hm
  have k1 := h1
  have lt1 : ∀ x ∈ p1, x.block < W.heap.size := by obtain ⟨m, hm⟩ := k1; exact DataW.trod_lt m _ _ _ hm
  obtain ⟨lo, len, cap, hv0⟩ := okWide_slice Try.underlying22 (hval 0 22 v0 rfl rfl)
  subst hv0
  obtain ⟨x1, hv1, _, _, wx1⟩ := Go.ChangeMaps.open_string Try.underlying9 (hval 1 9 v1 rfl rfl) h1
  subst hv1
  obtain ⟨fuel, hf⟩ := h0
  obtain ⟨L, hL, hrow⟩ := open_refs (n := fuel) (by simpa [Value.cells] using hf)
  clear hA0 hval0
  refine (again_walk lo len cap L x1 W hL hrow).mono fun e W' ⟨he, bel⟩ => ?_
  subst he
  exact ⟨_, rfl, _, _, _, [], _, [], hW', trodAll_mk1 (shut_bool Try.underlying4 _), (trodAll_cons_mk (Below.trod laidOut (by kernel_rfl) (of_decide_eq_true (by kernel_rfl)) k0 bel lt0) (trodAll_cons_mk (Below.trod laidOut (by kernel_rfl) (of_decide_eq_true (by kernel_rfl)) k1 bel lt1) trodAll_mk0)), rfl, bel.frame _, fun h => by cases h⟩

theorem again_holds : Rows.NamesAgainSaid :=
  OpenClaim.holds_of_wide 7 Try.f7 rfl rfl rfl rfl rfl rfl rfl ⟨rfl, rfl, rfl, rfl, rfl⟩ rfl rfl rfl rfl rfl (by kernel_rfl) Try.func7 (by kernel_rfl)
    (of_decide_eq_true (by kernel_rfl)) (by unfold Func.isWrapper; first | (rw [if_pos (by decide +kernel)]; kernel_rfl) | (rw [if_neg (by decide +kernel)]; exact ⟨rfl, rfl⟩))
    (fun os started H enc _ => again_lifted os started H enc)
#print axioms again_holds
end Go.Proofs.Ytfkhpcgccjlpgaa
