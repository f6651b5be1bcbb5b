/- The law AttrsSame holds for every two lists: Same answers what the document's plain one answers, a list is the same as itself, and Sorted gives what the document's plain one gives. No condition. -/
import Derived.Test.YtibndgembpcdgaaBase
import Derived.Test.YtibndgembpcdgaaRs
import Derived.Test.YtibndgembpcdgaaSo
namespace Go.Proofs.Ytibndgembpcdgaa
open Go.ChangeShapes Go.WideShapes Go.ChangeAt Go.RowKit Go.Joins

set_option maxRecDepth 10000 in
set_option maxHeartbeats 4000000 in
theorem same_walk (w : World) (lo : Option Addr) (len cap : Nat) (L : List At) (hL : Came w lo len cap L) (hb : len ≤ 1000000000000000) (mo : Option Addr) (mlen mcap : Nat) (M : List At) (hM : Came w mo mlen mcap M) (hbm : mlen ≤ 1000000000000000) :
    Calls Try.prog 4 #[.slice lo len cap, .slice mo mlen mcap] w fun e w' => e = .returned (.bool true) ∧ Below w.heap.size w w' := by
  obtain ⟨U, hU⟩ : ∃ U, w.alloc (.cells #[.slice lo len cap, .slice mo mlen mcap] 22) = U := ⟨_, rfl⟩
  obtain ⟨hUl, u0, u1, bU⟩ := two_slot _ _ hU
  have hfe := few_two lo mo len mlen cap mcap u0 u1 hb hbm
  have HR : Hid (Came w lo len cap L ∧ Came w mo mlen mcap M ∧ Below w.heap.size w U) := ⟨hL, hM, bU⟩
  clear bU hL hM u0 u1 hUl
  by_cases hfew : len + mlen ≤ 400
  · rw [decide_eq_true hfew] at hfe
    go_enter Try.func4, Try.ntmps4
    go_wp2_with fail
    refine hfe.mono ?_
    rintro e w0 ⟨rfl, rfl⟩
    clear hfe hU
    obtain ⟨s, hs⟩ : ∃ s, sameP L M = s := ⟨_, rfl⟩
    have ka := same_any len mlen cap mcap (HR.out.1.row.below HR.out.2.2) (HR.out.2.1.row.below HR.out.2.2) HR.out.1.hlen HR.out.2.1.hlen (by omega) (by omega) HR.out.1.fine HR.out.2.1.fine
    rw [hs] at ka
    have HS : Hid (sameP L M = s) := hs
    clear hs
    go_wp2_with fail
    refine ka.mono ?_
    rintro e w1 ⟨rfl, b1⟩
    clear ka
    have b1' : Below w.heap.size w w1 := HR.out.2.2.trans (b1.mono HR.out.2.2.size)
    have kb := rsame_any len mlen cap mcap (HR.out.1.row.below b1') (HR.out.2.1.row.below b1') HR.out.1.hlen HR.out.2.1.hlen (by omega) (by omega)
    rw [HS.out] at kb
    have H1 : Hid (Below w.heap.size w w1) := b1'
    have hss : (s == s) = true := by simp
    clear b1 b1'
    go_wp2_with fail
    refine kb.mono ?_
    rintro e w2 ⟨rfl, b2⟩
    clear kb
    have b2' : Below w.heap.size w w2 := H1.out.trans (b2.mono H1.out.size)
    have kc := same_any len len cap cap (HR.out.1.row.below b2') (HR.out.1.row.below b2') HR.out.1.hlen HR.out.1.hlen (by omega) (by omega) HR.out.1.fine HR.out.1.fine
    rw [same_refl] at kc
    have H2 : Hid (Below w.heap.size w w2) := b2'
    clear b2 b2'
    go_wp2_with fail
    refine kc.mono ?_
    rintro e w3 ⟨rfl, b3⟩
    clear kc
    have b3' : Below w.heap.size w w3 := H2.out.trans (b3.mono H2.out.size)
    have kd := sorted_any len cap (HR.out.1.row.below b3') HR.out.1.hlen (by omega)
    have H3 : Hid (Below w.heap.size w w3) := b3'
    clear b3 b3'
    go_wp2_with fail
    refine kd.mono ?_
    rintro e w4 ⟨xo, xc, rfl, x4, b4⟩
    clear kd
    have b4' : Below w.heap.size w w4 := H3.out.trans (b4.mono H3.out.size)
    have ke := rsorted_any len cap (HR.out.1.row.below b4') HR.out.1.hlen (by omega)
    have H4 : Hid (AtRow w4 xo (sortP L) ∧ Below w.heap.size w w4) := ⟨x4, b4'⟩
    clear b4 b4' x4
    go_wp2_with fail
    refine ke.mono ?_
    rintro e w5 ⟨yo, k, yc, rfl, hk, y5, b5⟩
    clear ke
    obtain rfl : len = k := by rw [← hk, sort_len]; exact HR.out.1.hlen.symm
    have kf := equal_same len xc yc (H4.out.1.below b5) y5 hk (by omega)
    have H5 : Hid (Below w.heap.size w w5) := H4.out.2.trans (b5.mono H4.out.2.size)
    clear y5 b5 hk
    go_wp2_with fail
    refine kf.mono ?_
    rintro e w6 ⟨rfl, b6⟩
    clear kf
    have H6 : Hid (Below w.heap.size w w6) := H5.out.trans (b6.mono H5.out.size)
    clear b6
    go_wp2_with fail
    refine (awake_any w6).mono ?_
    rintro e w9 ⟨rfl, b9⟩
    have H9 : Hid (Below w.heap.size w w9) := H6.out.trans (b9.mono H6.out.size)
    clear b9
    go_wp2_with fail
    go_ret
    exact ⟨rfl, H9.out⟩
  · rw [decide_eq_false hfew] at hfe
    go_enter Try.func4, Try.ntmps4
    go_wp2_with fail
    refine hfe.mono ?_
    rintro e w0 ⟨rfl, rfl⟩
    clear hfe hU
    go_wp2_with fail
    refine (awake_any _).mono ?_
    rintro e w4 ⟨rfl, b4⟩
    have H4 : Hid (Below w.heap.size w w4) := HR.out.2.2.trans (b4.mono HR.out.2.2.size)
    clear b4
    go_wp2_with fail
    go_ret
    exact ⟨rfl, H4.out⟩

set_option maxRecDepth 100000 in
theorem same_lifted (os : Os) (started : os.Started) (H : Type) (enc : TypeId × Value → H) :
    ReturnsInHanded {} Try.checked os 4 .any (Rows.attrsSameSpec.pre6 enc Try.prog Try.f4 Rows.attrsSameRow.domain false) (Rows.attrsSameSpec.post enc Try.prog Try.f4 false true false false) := by
  refine returnsInHanded_of_change_sized (C := Try.checked) own started (by kernel_rfl) Try.func4
    (ChangeSpec.witness6 (enc := enc) (C := Try.checked) false ⟨#[], #[.slice none 0 0, .slice none 0 0], []⟩ 8 (by kernel_rfl) (by kernel_rfl) (by kernel_rfl) (by kernel_rfl)) ?_
  intro W base args ds gs before hval0 hW hcnd hz0 _
  have hval : ∀ (j : Nat) t v, Try.f4.params[j]? = some t → args[j]? = some v → Value.okWide Try.prog W .any base t v := hval0
  have hz : (DataW.weightsEach Try.prog (Try.f4.params.toList ++ Rows.attrsSameSpec.plain.varTypes Try.prog) (ds ++ gs)).all (· ≤ reachBytes) = true := hz0
  have hW' := hW
  obtain ⟨p, q, hA0, hV, rfl, hfz, hnd⟩ := hW
  have hA : DataW.TrodAll enc Try.prog W 0 (fun _ => true) true Try.f4.params.toList args.toList ds p := hA0
  rw [Try.params4] at hA hval hz
  obtain ⟨v0, vs0, d0, ds0, p0, q0, hargs, rfl, rfl, h0, r0⟩ := trodAll_cons hA
  obtain ⟨v1, vs1, d1, ds1, p1, q1, rfl, rfl, rfl, h1, r1⟩ := trodAll_cons r0
  obtain ⟨rfl, rfl, rfl⟩ := trodAll_nil r1
  obtain rfl : args = #[v0, v1] := by cases args; simp_all
  obtain ⟨rfl, rfl⟩ := trodVars_none hV
  have k0 := h0
  have lt0 : ∀ x ∈ p0, x.block < W.heap.size := by obtain ⟨m, hm⟩ := k0; exact DataW.trod_lt m _ _ _ hm
  have k1 := h1
  have lt1 : ∀ x ∈ p1, x.block < W.heap.size := by obtain ⟨m, hm⟩ := k1; exact DataW.trod_lt m _ _ _ hm
  obtain ⟨lo0, len0, cap0, hv0⟩ := okWide_slice Try.underlying22 (hval 0 22 v0 rfl rfl)
  subst hv0
  obtain ⟨fuel0, hf0⟩ := h0
  obtain ⟨L0, hL0, hx0⟩ := open_attrs (n := fuel0) (by simpa [Value.cells] using hf0)
  have hb0 : len0 ≤ 1000000000000000 := came_bound (j := 0) hz rfl rfl hx0
  obtain ⟨lo1, len1, cap1, hv1⟩ := okWide_slice Try.underlying22 (hval 1 22 v1 rfl rfl)
  subst hv1
  obtain ⟨fuel1, hf1⟩ := h1
  obtain ⟨L1, hL1, hx1⟩ := open_attrs (n := fuel1) (by simpa [Value.cells] using hf1)
  have hb1 : len1 ≤ 1000000000000000 := came_bound (j := 1) hz rfl rfl hx1
  clear hA0 hval0 hz0
  refine (same_walk W lo0 len0 cap0 L0 hL0 hb0 lo1 len1 cap1 L1 hL1 hb1).mono fun e W' ⟨he, bel⟩ => ?_
  subst he
  exact ⟨_, rfl, _, _, _, [], _, [], hW', trodAll_mk1 (shut_bool Try.underlying4 _), (trodAll_cons_mk (Below.trod laidOut (by kernel_rfl) (of_decide_eq_true (by kernel_rfl)) k0 bel lt0) (trodAll_cons_mk (Below.trod laidOut (by kernel_rfl) (of_decide_eq_true (by kernel_rfl)) k1 bel lt1) trodAll_mk0)), rfl, bel.frame _, fun h => by cases h⟩

theorem same_holds : Rows.AttrsSameSaid :=
  OpenClaim.holds_of_wide 4 Try.f4 rfl rfl rfl rfl rfl rfl rfl ⟨rfl, rfl, rfl, rfl, rfl⟩ rfl rfl rfl rfl rfl (by kernel_rfl) Try.func4 (by kernel_rfl)
    (of_decide_eq_true (by kernel_rfl)) (by unfold Func.isWrapper; first | (rw [if_pos (by decide +kernel)]; kernel_rfl) | (rw [if_neg (by decide +kernel)]; exact ⟨rfl, rfl⟩))
    (fun os started H enc _ => same_lifted os started H enc)
#print axioms same_holds
end Go.Proofs.Ytibndgembpcdgaa
