/- The law SpansCovers holds for any row of tokens and any length of a text: Cover tells what the document's tells, and it passes Check. No condition. -/
import Derived.Test.YtkbakbacomidbaaYy
namespace Go.Proofs.Ytkbakbacomidbaa
open Go.ChangeShapes Go.WideShapes Go.ChangeAt Go.RowKit Go.Joins
open Sp
set_option maxHeartbeats 2000000 in
set_option maxRecDepth 20000 in
theorem covers_walk (w : World) (ao : Option Addr) (n ca : Nat) (A : List G9.Tk) (hn : A.length = n) (ha : TkC w ao A) (hn2 : n ≤ 9223372036854775807) (N : Int) :
    Calls Try.prog 3 #[.slice ao n ca, .int .i64 N] w fun e w' => e = .returned (.bool true) ∧ Below w.heap.size w w' := by
  by_cases hbig : n > 2000
  · have hd : decide ((n : Int) > 2000) = true := decide_eq_true (by omega)
    clear ha hn hbig
    go_enter Try.func3, Try.ntmps3
    go_wp2_with fail
    refine (awake_any _).mono ?_
    rintro e w1 ⟨rfl, b1⟩
    go_wp2_with fail
    go_ret
    exact ⟨rfl, b1⟩
  · have hd : decide ((n : Int) > 2000) = false := decide_eq_false (by omega)
    have k1 := cover_any n ca ha hn (by omega) N
    have k2 := fun w' (b : Below w.heap.size w w') => rcover_any n ca (ha.below b) hn (by omega) N
    have hck : checkP (coverP (A.map snOf) N) N = true := cover_check _ _
    have hlen : (coverP (A.map snOf) N).length ≤ 9223372036854775807 := by
      have h1 : ∀ (T : List Sn) (L : List Pc), (T.foldl (cov1 N) L).length ≤ L.length + 2 * T.length := by
        intro T
        induction T with
        | nil => intro L; simp
        | cons x T ih => intro L; have h2 := ih (cov1 N L x); have h3 := len_cov1 N L x; rw [List.foldl_cons, List.length_cons]; omega
      have h2 := h1 (A.map snOf) []
      have h3 := len_fill ((A.map snOf).foldl (cov1 N) []) N
      rw [List.length_map] at h2
      unfold coverP
      simp only [List.length_nil] at h2
      omega
    obtain ⟨C, hC⟩ : ∃ C, coverP (A.map snOf) N = C := ⟨_, rfl⟩
    rw [hC] at k1 hck hlen
    simp only [hC] at k2
    clear hC ha hn hbig
    go_enter Try.func3, Try.ntmps3
    go_wp2_with fail
    refine k1.mono ?_
    rintro e w1 ⟨o1, c1, rfl, r1, b1⟩
    obtain ⟨l, hl⟩ : ∃ l, C.length = l := ⟨_, rfl⟩
    rw [hl] at hlen ⊢
    have K2 : Hid (∀ w', Below w1.heap.size w1 w' → ∀ o2 c2, PcRow w' o2 C → Calls Try.prog 9 #[.slice o1 l c1, .slice o2 l c2] w' fun e w'' => e = .returned (.bool true) ∧ Below w'.heap.size w' w'') := fun w' b o2 c2 r2 => by
      have := rsame_any l l c1 c2 (r1.below b) r2 hl hl hlen hlen
      rw [sameP_refl] at this
      exact this
    have K3 : Hid (∀ w', Below w1.heap.size w1 w' → Calls Try.prog 11 #[.slice o1 l c1, .int .i64 N] w' fun e w'' => e = .returned (.bool true) ∧ Below w'.heap.size w' w'') := fun w' b => by
      have := check_any l c1 (r1.below b) hl hlen N
      rw [hck] at this
      exact this
    have HL : Hid (C.length = l) := hl
    clear hl r1 hck
    go_wp2_with fail
    refine (k2 _ b1).mono ?_
    rintro e w2 ⟨o2, c2, rfl, r2, b2'⟩
    rw [HL.out]
    have k9 := K2.out _ b2' _ c2 r2
    clear r2
    go_wp2_with fail
    refine k9.mono ?_
    rintro e w3 ⟨rfl, b3'⟩
    have b3 := b2'.trans (b3'.mono b2'.size)
    clear b3' k9
    go_wp2_with fail
    refine (K3.out _ b3).mono ?_
    rintro e w4 ⟨rfl, b4'⟩
    have b4 := b3.trans (b4'.mono b3.size)
    clear b4'
    go_wp2_with fail
    refine (awake_any _).mono ?_
    rintro e w5 ⟨rfl, b5'⟩
    have HZ : Hid (Below w.heap.size w w5) := b1.trans ((b4.trans (b5'.mono b4.size)).mono b1.size)
    clear b5' k1 k2
    go_wp2_with fail
    go_ret
    exact ⟨rfl, HZ.out⟩
set_option maxRecDepth 100000 in
theorem covers_lifted (os : Os) (started : os.Started) (H : Type) (enc : TypeId × Value → H) :
    ReturnsInHanded {} Try.checked os 3 .any (Rows.spansCoversSpec.pre6 enc Try.prog Try.f3 Rows.spansCoversRow.domain false) (Rows.spansCoversSpec.post enc Try.prog Try.f3 false true false false) := by
  refine returnsInHanded_of_change_sized (C := Try.checked) Sp.own started (by kernel_rfl) Try.func3
    (ChangeSpec.witness6 (enc := enc) (C := Try.checked) false ⟨#[], #[.slice none 0 0, .int .i64 0], []⟩ 8 (by kernel_rfl) (by kernel_rfl) (by kernel_rfl) (by kernel_rfl)) ?_
  intro W base args ds gs before hval0 hW hcnd hz0 _
  have hval : ∀ (j : Nat) t v, Try.f3.params[j]? = some t → args[j]? = some v → Value.okWide Try.prog W .any base t v := hval0
  have hW' := hW
  obtain ⟨p, q, hA0, hV, rfl, hfz, hnd⟩ := hW
  have hA : DataW.TrodAll enc Try.prog W 0 (fun _ => true) true Try.f3.params.toList args.toList ds p := hA0
  rw [Try.params3] at hA hval
  obtain ⟨v0, vs0, d0, ds0, p0, q0, hargs, rfl, rfl, h0, r0⟩ := trodAll_cons hA
  obtain ⟨v1, vs1, d1, ds1, p1, q1, rfl, rfl, rfl, h1, r1⟩ := trodAll_cons r0
  obtain ⟨rfl, rfl, rfl⟩ := trodAll_nil r1
  obtain rfl : args = #[v0, v1] := by cases args; simp_all
  obtain ⟨rfl, rfl⟩ := trodVars_none hV
  have k0 := h0
  have lt0 : ∀ x ∈ p0, x.block < W.heap.size := by obtain ⟨m, hm⟩ := k0; exact DataW.trod_lt m _ _ _ hm
  have k1 := h1
  have lt1 : ∀ x ∈ p1, x.block < W.heap.size := by obtain ⟨m, hm⟩ := k1; exact DataW.trod_lt m _ _ _ hm
  obtain ⟨lo0, len0, cap0, hv0⟩ := okWide_slice Try.underlying22 (hval 0 22 v0 rfl rfl)
  subst hv0
  obtain ⟨fuel0, hf0⟩ := h0
  obtain ⟨L0, hL0, hx0, hb0⟩ := Sp.open_toks (n := fuel0) (by simpa [Value.cells] using hf0)
  obtain ⟨x1, hv1, _, _, wx1⟩ := open_int Try.underlying3 (hval 1 3 v1 rfl rfl) h1
  subst hv1
  clear hA0 hval0 hz0
  refine (covers_walk W lo0 len0 cap0 L0 hL0 hx0 hb0 x1).mono fun e W' ⟨he, bel⟩ => ?_
  subst he
  exact ⟨_, rfl, _, _, _, [], _, [], hW', trodAll_mk1 (shut_bool Try.underlying4 _), (trodAll_cons_mk (Below.trod Sp.laidOut (by kernel_rfl) (of_decide_eq_true (by kernel_rfl)) k0 bel lt0) (trodAll_cons_mk (Below.trod Sp.laidOut (by kernel_rfl) (of_decide_eq_true (by kernel_rfl)) k1 bel lt1) trodAll_mk0)), rfl, bel.frame _, fun h => by cases h⟩
theorem covers_holds : Rows.SpansCoversSaid :=
  OpenClaim.holds_of_wide 3 Try.f3 rfl rfl rfl rfl rfl rfl rfl ⟨rfl, rfl, rfl, rfl, rfl⟩ rfl rfl rfl rfl rfl (by kernel_rfl) Try.func3 (by kernel_rfl)
    (of_decide_eq_true (by kernel_rfl)) (by unfold Func.isWrapper; first | (rw [if_pos (by decide +kernel)]; kernel_rfl) | (rw [if_neg (by decide +kernel)]; exact ⟨rfl, rfl⟩))
    (fun os started H enc _ => covers_lifted os started H enc)
#print axioms covers_holds
end Go.Proofs.Ytkbakbacomidbaa
