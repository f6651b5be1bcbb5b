/- The law TextbufRefused holds for every text and every edit: an edit that is refused changes nothing. No condition. -/
import Derived.Test.YtfphmdkbcibcmaaNone
namespace Go.Proofs.Ytfphmdkbcibcmaa
open Go.ChangeShapes Go.WideShapes Go.ChangeAt Go.RowKit Go.Joins

set_option maxHeartbeats 400000 in
theorem may_yes (x y : Int) (s : ByteArray) (n : Nat) (w : World) (hn : n ≤ 65536) (h : InB n x y) :
    Calls Try.prog 19 #[.agg #[.int .i64 x, .int .i64 y, .string s], .int .i64 n] w fun e w' => e = .returned (.bool true) ∧ Below w.heap.size w w' := by
  obtain ⟨h1, h2, h3, h4⟩ := h
  have d1 : decide (0 ≤ x) = true := decide_eq_true h1
  have d2 : decide (x ≤ (n : Int)) = true := decide_eq_true h2
  have d3 : decide (0 ≤ y) = true := decide_eq_true h3
  have d4 : decide (y ≤ (n : Int) - x) = true := decide_eq_true h4
  go_enter Try.func19, Try.ntmps19
  go_wp2_with fail
  go_ret
  exact ⟨rfl, (Below.refl _ _).alloc (Nat.le_refl _) _⟩

set_option maxHeartbeats 400000 in
theorem may_no (x y : Int) (s : ByteArray) (n : Nat) (w : World) (hn : n ≤ 65536) (h : ¬ InB n x y) :
    Calls Try.prog 19 #[.agg #[.int .i64 x, .int .i64 y, .string s], .int .i64 n] w fun e w' => e = .returned (.bool false) ∧ Below w.heap.size w w' := by
  by_cases c1 : x < 0
  · have d1 : decide (0 ≤ x) = false := decide_eq_false (by omega)
    go_enter Try.func19, Try.ntmps19
    go_wp2_with fail
    go_ret
    exact ⟨rfl, (Below.refl _ _).alloc (Nat.le_refl _) _⟩
  have d1 : decide (0 ≤ x) = true := decide_eq_true (by omega)
  by_cases c2 : (n : Int) < x
  · have d2 : decide (x ≤ (n : Int)) = false := decide_eq_false (by omega)
    go_enter Try.func19, Try.ntmps19
    go_wp2_with fail
    go_ret
    exact ⟨rfl, (Below.refl _ _).alloc (Nat.le_refl _) _⟩
  have d2 : decide (x ≤ (n : Int)) = true := decide_eq_true (by omega)
  by_cases c3 : y < 0
  · have d3 : decide (0 ≤ y) = false := decide_eq_false (by omega)
    go_enter Try.func19, Try.ntmps19
    go_wp2_with fail
    go_ret
    exact ⟨rfl, (Below.refl _ _).alloc (Nat.le_refl _) _⟩
  have d3 : decide (0 ≤ y) = true := decide_eq_true (by omega)
  have d4 : decide (y ≤ (n : Int) - x) = false := decide_eq_false (by unfold InB at h; omega)
  go_enter Try.func19, Try.ntmps19
  go_wp2_with fail
  go_ret
  exact ⟨rfl, (Below.refl _ _).alloc (Nat.le_refl _) _⟩

theorem str_same (s : ByteArray) : (⟨s.data.toList.toArray⟩ : ByteArray) = s := by cases s; simp

set_option maxHeartbeats 400000 in
theorem ref_long (s s2 : ByteArray) (x y : Int) (w : World) (h : 1000 < s.size ∨ 2000 < s2.size) :
    Calls Try.prog 5 #[.string s, .agg #[.int .i64 x, .int .i64 y, .string s2]] w fun e w' => e = .returned (.bool true) ∧ Below w.heap.size w w' := by
  have hb0 : Below w.heap.size w (w.alloc (.cells #[.int .i64 x, .int .i64 y, .string s2] 31)) := (Below.refl _ _).alloc (Nat.le_refl _) _
  by_cases c : 1000 < s.size
  · go_enter Try.func5, Try.ntmps5
    go_wp2_with (go_at_call 18; refine (awake_any _).mono ?_; rintro e w2 ⟨rfl, b2⟩)
    all_goals (go_ret; exact ⟨rfl, hb0.trans (b2.mono (by simp))⟩)
  · have c2 : 2000 < s2.size := by omega
    go_enter Try.func5, Try.ntmps5
    go_wp2_with (go_at_call 18; refine (awake_any _).mono ?_; rintro e w2 ⟨rfl, b2⟩)
    all_goals (go_ret; exact ⟨rfl, hb0.trans (b2.mono (by simp))⟩)

set_option maxHeartbeats 1000000 in
theorem ref_short (s s2 : ByteArray) (x y : Int) (w : World) (h1 : s.size ≤ 1000) (h2 : s2.size ≤ 2000) :
    Calls Try.prog 5 #[.string s, .agg #[.int .i64 x, .int .i64 y, .string s2]] w fun e w' => e = .returned (.bool true) ∧ Below w.heap.size w w' := by
  have hb0 : Below w.heap.size w (w.alloc (.cells #[.int .i64 x, .int .i64 y, .string s2] 31)) := (Below.refl _ _).alloc (Nat.le_refl _) _
  have hE0 : (w.alloc (.cells #[.int .i64 x, .int .i64 y, .string s2] 31)).heap[w.heap.size]? = some (.cells #[.int .i64 x, .int .i64 y, .string s2] 31 (0, 0)) := heap_alloc_new _ _
  have hz0 : (w.alloc (.cells #[.int .i64 x, .int .i64 y, .string s2] 31)).heap.size = w.heap.size + 1 := by simp
  have HZ : Hid ((w.alloc (.cells #[.int .i64 x, .int .i64 y, .string s2] 31)).heap.size = w.heap.size + 1) := hz0
  clear hz0
  have hsl : s.data.toList.length = s.size := Array.length_toList
  have HSL : Hid (s.data.toList.length = s.size) := hsl
  clear hsl
  go_enter Try.func5, Try.ntmps5
  go_wp2_with fail
  refine (newH s ((s.size : Int) + 3) _ (by omega) (by omega)).mono ?_
  rintro e w1 ⟨rfl, hb, b1⟩
  rw [HZ.out] at b1 hb
  have b01 : Below w.heap.size w w1 := hb0.trans (b1.mono (by omega))
  have hE1 : w1.heap[w.heap.size]? = some (.cells #[.int .i64 x, .int .i64 y, .string s2] 31 (0, 0)) := (b1.block w.heap.size (by omega)).trans hE0
  obtain ⟨e10, e11, e12⟩ := ed_cells hE1
  have z1 : w.heap.size + 1 ≤ w1.heap.size := by have := b1.size; rw [HZ.out] at this; exact this
  by_cases hin : InB s.size x y
  · by_cases hs : ((s.size : Int) + 3) - ((s.size : Int) - y) < (s2.size : Int)
    · go_wp2_with fail
      refine (spliceH_size hb x y s2 (by rw [HSL.out]; exact hin) (by rw [HSL.out]; exact hs)).mono ?_
      rintro e w2 ⟨rfl, b2⟩
      have hE2 := (b2.block w.heap.size (by omega)).trans hE1
      obtain ⟨e20, e21, e22⟩ := ed_cells hE2
      have hb2 := hb.below b2
      have z2 := b2.size
      go_wp2_with fail
      refine (may_yes x y s2 s.size _ (by omega) hin).mono ?_
      rintro e w3 ⟨rfl, b3⟩
      have hb3 := hb2.below b3
      have z3 := b3.size
      go_wp2_with fail
      refine (textH hb3).mono ?_
      rintro e w4 ⟨rfl, b4⟩
      have hb4 := hb3.below b4
      have z4 := b4.size
      go_wp2_with fail
      refine (versionH hb4).mono ?_
      rintro e w4' ⟨rfl, rfl⟩
      go_wp2_with (go_at_call 18; refine (awake_any _).mono ?_; rintro e w5 ⟨rfl, b5⟩)
      go_ret
      exact ⟨rfl, b01.trans ((b2.mono (by omega)).trans ((b3.mono (by omega)).trans ((b4.mono (by omega)).trans (b5.mono (by omega)))))⟩
    · go_wp2_with fail
      refine (spliceH_ok hb x y s2 (by rw [HSL.out]; exact hin) (by rw [HSL.out]; omega) (by simp)).mono ?_
      rintro e w2 ⟨rfl, hb2, K2⟩
      have z2 := K2.size
      go_wp2_with fail
      refine (textH hb2).mono ?_
      rintro e w3 ⟨rfl, b3⟩
      have hb3 := hb2.below b3
      have hle := hb2.le
      have z3 := b3.size
      go_wp2_with fail
      refine (versionH hb3).mono ?_
      rintro e w3' ⟨rfl, rfl⟩
      go_wp2_with (go_at_call 18; refine (awake_any _).mono ?_; rintro e w5 ⟨rfl, b5⟩)
      go_ret
      exact ⟨rfl, b01.trans (((K2.below z1).mono (by omega)).trans ((b3.mono (by omega)).trans (b5.mono (by omega))))⟩
  · go_wp2_with fail
    refine (spliceH_range hb x y s2 (by rw [HSL.out]; exact hin)).mono ?_
    rintro e w2 ⟨rfl, b2⟩
    have hE2 := (b2.block w.heap.size (by omega)).trans hE1
    obtain ⟨e20, e21, e22⟩ := ed_cells hE2
    have hb2 := hb.below b2
    have z2 := b2.size
    go_wp2_with fail
    refine (may_no x y s2 s.size _ (by omega) hin).mono ?_
    rintro e w3 ⟨rfl, b3⟩
    have hb3 := hb2.below b3
    have z3 := b3.size
    go_wp2_with fail
    refine (textH hb3).mono ?_
    rintro e w4 ⟨rfl, b4⟩
    have hb4 := hb3.below b4
    have z4 := b4.size
    go_wp2_with fail
    refine (versionH hb4).mono ?_
    rintro e w4' ⟨rfl, rfl⟩
    go_wp2_with (go_at_call 18; refine (awake_any _).mono ?_; rintro e w5 ⟨rfl, b5⟩)
    go_ret
    exact ⟨rfl, b01.trans ((b2.mono (by omega)).trans ((b3.mono (by omega)).trans ((b4.mono (by omega)).trans (b5.mono (by omega)))))⟩

theorem ref_walk (s s2 : ByteArray) (x y : Int) (w : World) :
    Calls Try.prog 5 #[.string s, .agg #[.int .i64 x, .int .i64 y, .string s2]] w fun e w' => e = .returned (.bool true) ∧ Below w.heap.size w w' := by
  by_cases h : 1000 < s.size ∨ 2000 < s2.size
  · exact ref_long s s2 x y w h
  · exact ref_short s s2 x y w (by omega) (by omega)

set_option maxRecDepth 100000 in
theorem ref_lifted (os : Os) (started : os.Started) (H : Type) (enc : TypeId × Value → H) :
    ReturnsInHanded {} Try.checked os 5 .any (Rows.textbufRefusedSpec.pre6 enc Try.prog Try.f5 Rows.textbufRefusedRow.domain false) (Rows.textbufRefusedSpec.post enc Try.prog Try.f5 false true false false) := by
  refine returnsInHanded_of_change (C := Try.checked) own started (by kernel_rfl) Try.func5
    (ChangeSpec.witness6 (enc := enc) (C := Try.checked) false ⟨#[], #[.string ⟨#[]⟩, .agg #[.int .i64 0, .int .i64 0, .string ⟨#[]⟩]], []⟩ 8 (by kernel_rfl) (by kernel_rfl) (by kernel_rfl) (by kernel_rfl)) ?_
  intro W base args ds gs before hval0 hW hcnd _
  have hval : ∀ (j : Nat) t v, Try.f5.params[j]? = some t → args[j]? = some v → Value.okWide Try.prog W .any base t v := hval0
  have hW' := hW
  obtain ⟨p, q, hA0, hV, rfl, hfz, hnd⟩ := hW
  have hA : DataW.TrodAll enc Try.prog W 0 (fun _ => true) true Try.f5.params.toList args.toList ds p := hA0
  rw [Try.params5] at hA hval
  obtain ⟨v0, vs0, d0, ds0, p0, q0, hargs, rfl, rfl, h0, r0⟩ := trodAll_cons hA
  obtain ⟨v1, vs1, d1, ds1, p1, q1, rfl, rfl, rfl, h1, r1⟩ := trodAll_cons r0
  obtain ⟨rfl, rfl, rfl⟩ := trodAll_nil r1
  obtain rfl : args = #[v0, v1] := by cases args; simp_all
  obtain ⟨rfl, rfl⟩ := trodVars_none hV
  have k0 := h0
  have lt0 : ∀ x ∈ p0, x.block < W.heap.size := by obtain ⟨m, hm⟩ := k0; exact DataW.trod_lt m _ _ _ hm
  have k1 := h1
  have lt1 : ∀ x ∈ p1, x.block < W.heap.size := by obtain ⟨m, hm⟩ := k1; exact DataW.trod_lt m _ _ _ hm
  obtain ⟨s0, hv0, _, _, ws0⟩ := Go.ChangeMaps.open_string Try.underlying9 (hval 0 9 v0 rfl rfl) h0
  obtain ⟨c0, c1, c2, y0, y1, y2, m, hv1, _, _, hy0, hy1, hy2⟩ := open_agg3 Try.underlying31 (by kernel_rfl) cells31 (hval 1 31 v1 rfl rfl) h1
  obtain ⟨a, e0, _, wa⟩ := DataW.trod_int Try.underlying3 hy0
  obtain ⟨b, e1, _, wb⟩ := DataW.trod_int Try.underlying3 hy1
  obtain ⟨s, e2, _, ws⟩ := DataW.trod_string Try.underlying9 hy2
  simp only [List.cons.injEq, and_true] at e0 e1 e2
  subst e0 e1 e2 hv0 hv1
  clear hA0 hval0
  refine (ref_walk s0 s a b W).mono fun e W' ⟨he, bel⟩ => ?_
  subst he
  exact ⟨_, rfl, _, _, _, [], _, [], hW', trodAll_mk1 (shut_bool Try.underlying4 _), (trodAll_cons_mk (Below.trod laidOut (by kernel_rfl) (of_decide_eq_true (by kernel_rfl)) k0 bel lt0) (trodAll_cons_mk (Below.trod laidOut (by kernel_rfl) (of_decide_eq_true (by kernel_rfl)) k1 bel lt1) trodAll_mk0)), rfl, bel.frame _, fun h => by cases h⟩

theorem refused_holds : Rows.TextbufRefusedSaid :=
  OpenClaim.holds_of_wide 5 Try.f5 rfl rfl rfl rfl rfl rfl rfl ⟨rfl, rfl, rfl, rfl, rfl⟩ rfl rfl rfl rfl rfl (by kernel_rfl) Try.func5 (by kernel_rfl)
    (of_decide_eq_true (by kernel_rfl)) (by unfold Func.isWrapper; first | (rw [if_pos (by decide +kernel)]; kernel_rfl) | (rw [if_neg (by decide +kernel)]; exact ⟨rfl, rfl⟩))
    (fun os started H enc _ => ref_lifted os started H enc)
#print axioms refused_holds
end Go.Proofs.Ytfphmdkbcibcmaa
