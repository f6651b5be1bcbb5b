/- The law SpansSame holds for any two rows of parts: they are the same just if the document says so; a row is the same as itself. No condition. -/
import Derived.Test.YtkbakbacomidbaaYy
namespace Go.Proofs.Ytkbakbacomidbaa
open Go.ChangeShapes Go.WideShapes Go.ChangeAt Go.RowKit Go.Joins
open Sp
set_option maxHeartbeats 2000000 in
set_option maxRecDepth 20000 in
theorem same_walk (w : World) (ao : Option Addr) (n ca : Nat) (A : List Pc) (hn : A.length = n) (ha : PcRow w ao A) (hn2 : n ≤ 9223372036854775807) (bo : Option Addr) (m cb : Nat) (B : List Pc) (hm : B.length = m) (hb : PcRow w bo B) (hm2 : m ≤ 9223372036854775807) :
    Calls Try.prog 5 #[.slice ao n ca, .slice bo m cb] w fun e w' => e = .returned (.bool true) ∧ Below w.heap.size w w' := by
  have k1 := same_any n m ca cb ha hb hn hm hn2 hm2
  have k2 := fun w' (b : Below w.heap.size w w') => rsame_any n m ca cb (ha.below b) (hb.below b) hn hm hn2 hm2
  have k3 := fun w' (b : Below w.heap.size w w') => same_any n n ca ca (ha.below b) (ha.below b) hn hn hn2 hn2
  simp only [sameP_refl] at k3
  obtain ⟨g, hg⟩ : ∃ g, sameP A B = g := ⟨_, rfl⟩
  rw [hg] at k1
  simp only [hg] at k2
  have hgg : (g == g) = true := by simp
  clear hg ha hb hn hm
  go_enter Try.func5, Try.ntmps5
  go_wp2_with fail
  refine k1.mono ?_
  rintro e w1 ⟨rfl, b1⟩
  go_wp2_with fail
  refine (k2 _ b1).mono ?_
  rintro e w2 ⟨rfl, b2'⟩
  have b2 := b1.trans (b2'.mono b1.size)
  clear b2'
  go_wp2_with fail
  refine (k3 _ b2).mono ?_
  rintro e w3 ⟨rfl, b3'⟩
  have b3 := b2.trans (b3'.mono b2.size)
  clear b3'
  go_wp2_with fail
  refine (awake_any _).mono ?_
  rintro e w4 ⟨rfl, b4'⟩
  have HZ : Hid (Below w.heap.size w w4) := b3.trans (b4'.mono b3.size)
  clear b4' k1 k2 k3
  go_wp2_with fail
  go_ret
  exact ⟨rfl, HZ.out⟩
set_option maxRecDepth 100000 in
theorem same_lifted (os : Os) (started : os.Started) (H : Type) (enc : TypeId × Value → H) :
    ReturnsInHanded {} Try.checked os 5 .any (Rows.spansSameSpec.pre6 enc Try.prog Try.f5 Rows.spansSameRow.domain false) (Rows.spansSameSpec.post enc Try.prog Try.f5 false true false false) := by
  refine returnsInHanded_of_change_sized (C := Try.checked) Sp.own started (by kernel_rfl) Try.func5
    (ChangeSpec.witness6 (enc := enc) (C := Try.checked) false ⟨#[], #[.slice none 0 0, .slice none 0 0], []⟩ 8 (by kernel_rfl) (by kernel_rfl) (by kernel_rfl) (by kernel_rfl)) ?_
  intro W base args ds gs before hval0 hW hcnd hz0 _
  have hval : ∀ (j : Nat) t v, Try.f5.params[j]? = some t → args[j]? = some v → Value.okWide Try.prog W .any base t v := hval0
  have hW' := hW
  obtain ⟨p, q, hA0, hV, rfl, hfz, hnd⟩ := hW
  have hA : DataW.TrodAll enc Try.prog W 0 (fun _ => true) true Try.f5.params.toList args.toList ds p := hA0
  rw [Try.params5] at hA hval
  obtain ⟨v0, vs0, d0, ds0, p0, q0, hargs, rfl, rfl, h0, r0⟩ := trodAll_cons hA
  obtain ⟨v1, vs1, d1, ds1, p1, q1, rfl, rfl, rfl, h1, r1⟩ := trodAll_cons r0
  obtain ⟨rfl, rfl, rfl⟩ := trodAll_nil r1
  obtain rfl : args = #[v0, v1] := by cases args; simp_all
  obtain ⟨rfl, rfl⟩ := trodVars_none hV
  have k0 := h0
  have lt0 : ∀ x ∈ p0, x.block < W.heap.size := by obtain ⟨m, hm⟩ := k0; exact DataW.trod_lt m _ _ _ hm
  have k1 := h1
  have lt1 : ∀ x ∈ p1, x.block < W.heap.size := by obtain ⟨m, hm⟩ := k1; exact DataW.trod_lt m _ _ _ hm
  obtain ⟨lo0, len0, cap0, hv0⟩ := okWide_slice Try.underlying24 (hval 0 24 v0 rfl rfl)
  subst hv0
  obtain ⟨fuel0, hf0⟩ := h0
  obtain ⟨L0, hL0, hx0, hb0⟩ := Sp.open_parts (n := fuel0) (by simpa [Value.cells] using hf0)
  obtain ⟨lo1, len1, cap1, hv1⟩ := okWide_slice Try.underlying24 (hval 1 24 v1 rfl rfl)
  subst hv1
  obtain ⟨fuel1, hf1⟩ := h1
  obtain ⟨L1, hL1, hx1, hb1⟩ := Sp.open_parts (n := fuel1) (by simpa [Value.cells] using hf1)
  clear hA0 hval0 hz0
  refine (same_walk W lo0 len0 cap0 L0 hL0 hx0 hb0 lo1 len1 cap1 L1 hL1 hx1 hb1).mono fun e W' ⟨he, bel⟩ => ?_
  subst he
  exact ⟨_, rfl, _, _, _, [], _, [], hW', trodAll_mk1 (shut_bool Try.underlying4 _), (trodAll_cons_mk (Below.trod Sp.laidOut (by kernel_rfl) (of_decide_eq_true (by kernel_rfl)) k0 bel lt0) (trodAll_cons_mk (Below.trod Sp.laidOut (by kernel_rfl) (of_decide_eq_true (by kernel_rfl)) k1 bel lt1) trodAll_mk0)), rfl, bel.frame _, fun h => by cases h⟩
theorem same_holds : Rows.SpansSameSaid :=
  OpenClaim.holds_of_wide 5 Try.f5 rfl rfl rfl rfl rfl rfl rfl ⟨rfl, rfl, rfl, rfl, rfl⟩ rfl rfl rfl rfl rfl (by kernel_rfl) Try.func5 (by kernel_rfl)
    (of_decide_eq_true (by kernel_rfl)) (by unfold Func.isWrapper; first | (rw [if_pos (by decide +kernel)]; kernel_rfl) | (rw [if_neg (by decide +kernel)]; exact ⟨rfl, rfl⟩))
    (fun os started H enc _ => same_lifted os started H enc)
#print axioms same_holds
end Go.Proofs.Ytkbakbacomidbaa
