/- The walk of the law TokensShifts. -/
import Derived.Test.YtnpaodagpleiaaaOne
namespace Go.Proofs.Ytnpaodagpleiaaa
open Go.ChangeShapes Go.WideShapes Go.ChangeAt Go.RowKit Go.Joins

set_option maxRecDepth 10000 in
set_option maxHeartbeats 4000000 in
theorem shifts_walk (w : World) (T : Tk) (L : List At) (hT : TkOk w T L) (hL : L.length ≤ 4398046511000) (x : Int) (_hx : -9223372036854775808 ≤ x ∧ x ≤ 9223372036854775807) :
    Calls Try.prog 5 #[T.val, .int .i64 x] w fun e w' => e = .returned (.bool true) ∧ Below w.heap.size w w' := by
  obtain ⟨k, r, nm, tx, ao, n, cap, s, f, t⟩ := T
  simp only [Tk.val, Tk.arr]
  obtain ⟨V, hV⟩ : ∃ V, (w.alloc (.cells #[.int .i64 k, .int .i64 r, .string nm, .string tx, .slice ao n cap, .bool s, .int .i64 f, .int .i64 t] 26)).alloc (.cells #[.int .i64 k, .int .i64 r, .string nm, .string tx, .slice ao n cap, .bool s, .int .i64 f, .int .i64 t] 26) = V := ⟨_, rfl⟩
  have B := boxed hT hV
  have ks := size_any 1 1 B.2.2.2.2 rfl (by omega)
  have HB : Hid (Below w.heap.size w V ∧ TkOk V ⟨k, r, nm, tx, ao, n, cap, s, f, t⟩ L ∧ TkBox V w.heap.size ⟨k, r, nm, tx, ao, n, cap, s, f, t⟩ ∧ w.heap.size < V.heap.size) := ⟨B.1, B.2.1, B.2.2.1, B.2.2.2.1⟩
  clear hT B
  go_enter Try.func5, Try.ntmps5
  go_wp2_with fail
  refine ks.mono ?_
  rintro e w1 ⟨⟨b, rfl⟩, b1⟩
  have H1 : Hid (Below w.heap.size w w1 ∧ TkOk w1 ⟨k, r, nm, tx, ao, n, cap, s, f, t⟩ L ∧ TkBox w1 w.heap.size ⟨k, r, nm, tx, ao, n, cap, s, f, t⟩ ∧ w.heap.size < w1.heap.size) := ⟨HB.out.1.trans (b1.mono HB.out.1.size), HB.out.2.1.below b1, HB.out.2.2.1.below b1 HB.out.2.2.2, Nat.lt_of_lt_of_le HB.out.2.2.2 b1.size⟩
  clear ks hV b1 HB
  cases b with
  | false =>
    go_wp2_with fail
    refine (awake_any _).mono ?_
    rintro e wz ⟨rfl, bz⟩
    have HZ : Hid (Below w.heap.size w wz) := H1.out.1.trans (bz.mono H1.out.1.size)
    clear bz
    go_wp2_with fail
    go_ret
    exact ⟨rfl, HZ.out⟩

  | true =>
    obtain ⟨c0, c1, c2, c3, c4, c5, c6, c7⟩ := H1.out.2.2.1
    simp only at c0 c1 c2 c3 c4 c5 c6 c7
    by_cases hf : 1099511627776 < f
    · go_wp2_with fail
      refine (awake_any _).mono ?_
      rintro e wz ⟨rfl, bz⟩
      have HZ : Hid (Below w.heap.size w wz) := H1.out.1.trans (bz.mono H1.out.1.size)
      clear bz
      go_wp2_with fail
      go_ret
      exact ⟨rfl, HZ.out⟩

    by_cases ht : 1099511627776 < t
    · go_wp2_with fail
      refine (awake_any _).mono ?_
      rintro e wz ⟨rfl, bz⟩
      have HZ : Hid (Below w.heap.size w wz) := H1.out.1.trans (bz.mono H1.out.1.size)
      clear bz
      go_wp2_with fail
      go_ret
      exact ⟨rfl, HZ.out⟩

    by_cases ht2 : t < -1099511627776
    · go_wp2_with fail
      refine (awake_any _).mono ?_
      rintro e wz ⟨rfl, bz⟩
      have HZ : Hid (Below w.heap.size w wz) := H1.out.1.trans (bz.mono H1.out.1.size)
      clear bz
      go_wp2_with fail
      go_ret
      exact ⟨rfl, HZ.out⟩

    go_wp2_with fail
    have hd1 : -1099511627776 < x.tmod 1099511627776 := by
      have := Int.natAbs_tmod x 1099511627776
      have h2 := Nat.mod_lt x.natAbs (y := (1099511627776 : Int).natAbs) (by decide)
      have h3 : (1099511627776 : Int).natAbs = 1099511627776 := rfl
      omega
    have hd2 : x.tmod 1099511627776 < 1099511627776 := by
      have := Int.natAbs_tmod x 1099511627776
      have h2 := Nat.mod_lt x.natAbs (y := (1099511627776 : Int).natAbs) (by decide)
      have h3 : (1099511627776 : Int).natAbs = 1099511627776 := rfl
      omega
    obtain ⟨d, hd⟩ : ∃ d, x.tmod 1099511627776 = d := ⟨_, rfl⟩
    rw [hd] at hd1 hd2
    rw [hd]
    clear hd
    have kk := shift (w := w1) ⟨k, r, nm, tx, ao, n, cap, s, f, t⟩ d H1.out.2.1 (by omega) (by
      by_cases h0 : f < 0
      · exact .inl h0
      · exact .inr ⟨by show 0 ≤ f; omega, by show f ≤ _; omega, by show _ ≤ t; omega, by show t ≤ _; omega, by omega, by omega⟩)
    simp only [Tk.val, Tk.arr] at kk
    obtain ⟨f2, hf2⟩ : ∃ f2, mv f f d = f2 := ⟨_, rfl⟩
    obtain ⟨t2, ht2'⟩ : ∃ t2, mv f t d = t2 := ⟨_, rfl⟩
    rw [hf2, ht2'] at kk
    refine kk.mono ?_
    rintro e w2 ⟨bo, c, rfl, ok2, b2⟩
    obtain ⟨U, hU⟩ : ∃ U, w2.alloc (.cells #[.int .i64 k, .int .i64 r, .string nm, .string tx, .slice bo n c, .bool s, .int .i64 f2, .int .i64 t2] 26) = U := ⟨_, rfl⟩
    have bU : Below w2.heap.size w2 U := by rw [← hU]; exact (Below.refl _ _).alloc (Nat.le_refl _) _
    have x1 : U.heap[w2.heap.size]? = some (.cells (Tk.arr ⟨k, r, nm, tx, bo, n, c, s, f2, t2⟩) 26 (0, 0)) := by rw [← hU]; exact heap_alloc_new _ _
    have b3 : Below w1.heap.size w1 U := b2.trans (bU.mono b2.size)
    have H2 : Hid (Two w w.heap.size w2.heap.size ⟨k, r, nm, tx, ao, n, cap, s, f, t⟩ ⟨k, r, nm, tx, bo, n, c, s, f2, t2⟩ L L U) :=
      ⟨H1.out.1.trans (b3.mono H1.out.1.size), H1.out.2.1.below b3, H1.out.2.2.1.below b3 H1.out.2.2.2, Nat.lt_of_lt_of_le H1.out.2.2.2 b3.size, ok2.below bU, TkBox.of x1, (Array.getElem?_eq_some_iff.1 x1).1⟩
    clear kk ok2 b2 b3 bU x1 c0 c1 c2 c3 c4 c5 c6 c7 H1
    have HE : Hid (_ = U) := hU
    clear hU
    go_wp2_with fail
    rw [HE.out]
    clear HE
    have HM : Hid (f2 = mv f f d ∧ t2 = mv f t d) := ⟨hf2.symm, ht2'.symm⟩
    clear hf2 ht2'
    have k20 : ∀ q, Calls Try.prog 20 #[.agg #[.int .i64 k, .int .i64 r, .string nm, .string tx, .slice ao n cap, .bool s, .int .i64 f, .int .i64 t], .int .i64 d] (U.drewN q) fun e w' => ∃ vo c3, e = .returned (.agg #[.int .i64 k, .int .i64 r, .string nm, .string tx, .slice vo n c3, .bool s, .int .i64 f2, .int .i64 t2]) ∧ TkOk w' ⟨k, r, nm, tx, vo, n, c3, s, f2, t2⟩ L ∧ Two w w.heap.size w2.heap.size ⟨k, r, nm, tx, ao, n, cap, s, f, t⟩ ⟨k, r, nm, tx, bo, n, c, s, f2, t2⟩ L L w' := fun q => by
      have T := H2.out.drewN q
      have k0 := rshift (w := U.drewN q) ⟨k, r, nm, tx, ao, n, cap, s, f, t⟩ d T.okT (by omega) (by
        by_cases h0 : f < 0
        · exact .inl h0
        · exact .inr ⟨by show 0 ≤ f; omega, by show f ≤ _; omega, by show _ ≤ t; omega, by show t ≤ _; omega, by omega, by omega⟩)
      simp only at k0
      rw [← HM.out.1, ← HM.out.2] at k0
      refine k0.mono ?_
      rintro e w3 ⟨vo, c3, rfl, ok3, b3⟩
      exact ⟨vo, c3, rfl, ok3, T.below b3⟩
    have k14 : ∀ X vo c3, TkOk X ⟨k, r, nm, tx, vo, n, c3, s, f2, t2⟩ L → Two w w.heap.size w2.heap.size ⟨k, r, nm, tx, ao, n, cap, s, f, t⟩ ⟨k, r, nm, tx, bo, n, c, s, f2, t2⟩ L L X → Calls Try.prog 14 #[.agg #[.int .i64 k, .int .i64 r, .string nm, .string tx, .slice bo n c, .bool s, .int .i64 f2, .int .i64 t2], .agg #[.int .i64 k, .int .i64 r, .string nm, .string tx, .slice vo n c3, .bool s, .int .i64 f2, .int .i64 t2]] X fun e w' => e = .returned (.bool true) ∧ Two w w.heap.size w2.heap.size ⟨k, r, nm, tx, ao, n, cap, s, f, t⟩ ⟨k, r, nm, tx, bo, n, c, s, f2, t2⟩ L L w' := fun X vo c3 o3 T => by
      have k0 := rsame_any T.okU o3
      rw [eqb_yes (T := ⟨k, r, nm, tx, bo, n, c, s, f2, t2⟩) (U := ⟨k, r, nm, tx, vo, n, c3, s, f2, t2⟩) L rfl rfl rfl rfl rfl rfl rfl] at k0
      refine k0.mono ?_
      rintro e w3 ⟨rfl, b3⟩
      exact ⟨rfl, T.below b3⟩
    obtain ⟨a0, a1, a2, a3, a4, a5, a6, a7⟩ := H2.out.boxT
    obtain ⟨p0, p1, p2, p3, p4, p5, p6, p7⟩ := H2.out.boxU
    simp only at a0 a1 a2 a3 a4 a5 a6 a7 p0 p1 p2 p3 p4 p5 p6 p7
    go_region_with (first
      | (go_at_call 20; refine (k20 _).mono ?_; rintro e w3 ⟨vo, c3, rfl, ok3, T3⟩; obtain ⟨q0, q1, q2, q3, q4, q5, q6, q7⟩ := T3.boxU; simp only at q0 q1 q2 q3 q4 q5 q6 q7)
      | (go_at_call 14; refine (k14 _ _ _ ok3 T3).mono ?_; rintro e w4 ⟨rfl, T4⟩))
    all_goals
      have H4 : Hid (Two w w.heap.size w2.heap.size ⟨k, r, nm, tx, ao, n, cap, s, f, t⟩ ⟨k, r, nm, tx, bo, n, c, s, f2, t2⟩ L L w4) := T4
      clear T3 T4 ok3 a0 a1 a2 a3 a4 a5 a6 a7 p0 p1 p2 p3 p4 p5 p6 p7 q0 q1 q2 q3 q4 q5 q6 q7 k20 k14 H2
      obtain ⟨a0, a1, a2, a3, a4, a5, a6, a7⟩ := H4.out.boxT
      obtain ⟨p0, p1, p2, p3, p4, p5, p6, p7⟩ := H4.out.boxU
      simp only at a0 a1 a2 a3 a4 a5 a6 a7 p0 p1 p2 p3 p4 p5 p6 p7
      by_cases h0 : f2 < 0
      · go_wp2_with fail
        refine (awake_any _).mono ?_
        rintro e wz ⟨rfl, bz⟩
        have HZ : Hid (Below w.heap.size w wz) := H4.out.bel.trans (bz.mono H4.out.bel.size)
        clear bz
        go_wp2_with fail
        go_ret
        exact ⟨rfl, HZ.out⟩

      have hf0 : 0 ≤ f := by
        have h := HM.out.1
        unfold mv at h
        split at h <;> omega
      have ef : f2 = f + d := by
        have h := HM.out.1
        unfold mv at h
        rw [if_neg (by omega)] at h
        exact h
      have et : t2 = t + d := by
        have h := HM.out.2
        unfold mv at h
        rw [if_neg (by omega)] at h
        exact h
      have k19 : ∀ q, Calls Try.prog 19 #[.agg #[.int .i64 k, .int .i64 r, .string nm, .string tx, .slice bo n c, .bool s, .int .i64 f2, .int .i64 t2], .int .i64 (IntKind.i64.wrap (-d))] (w4.drewN q) fun e w' => ∃ vo c3, e = .returned (.agg #[.int .i64 k, .int .i64 r, .string nm, .string tx, .slice vo n c3, .bool s, .int .i64 f, .int .i64 t]) ∧ TkOk w' ⟨k, r, nm, tx, vo, n, c3, s, f, t⟩ L ∧ Two w w.heap.size w2.heap.size ⟨k, r, nm, tx, ao, n, cap, s, f, t⟩ ⟨k, r, nm, tx, bo, n, c, s, f2, t2⟩ L L w' := fun q => by
        have T := H4.out.drewN q
        rw [show IntKind.i64.wrap (-d) = -d by rw [IntKind.wrap_i64]; omega]
        have k0 := shift (w := w4.drewN q) ⟨k, r, nm, tx, bo, n, c, s, f2, t2⟩ (-d) T.okU (by omega) (.inr ⟨by show 0 ≤ f2; omega, by show f2 ≤ _; omega, by show _ ≤ t2; omega, by show t2 ≤ _; omega, by omega, by omega⟩)
        simp only at k0
        rw [show mv f2 f2 (-d) = f by unfold mv; rw [if_neg h0]; omega, show mv f2 t2 (-d) = t by unfold mv; rw [if_neg h0]; omega] at k0
        refine k0.mono ?_
        rintro e w3 ⟨vo, c3, rfl, ok3, b3⟩
        exact ⟨vo, c3, rfl, ok3, T.below b3⟩
      have k14 : ∀ X vo c3, TkOk X ⟨k, r, nm, tx, vo, n, c3, s, f, t⟩ L → Two w w.heap.size w2.heap.size ⟨k, r, nm, tx, ao, n, cap, s, f, t⟩ ⟨k, r, nm, tx, bo, n, c, s, f2, t2⟩ L L X → Calls Try.prog 14 #[.agg #[.int .i64 k, .int .i64 r, .string nm, .string tx, .slice vo n c3, .bool s, .int .i64 f, .int .i64 t], .agg #[.int .i64 k, .int .i64 r, .string nm, .string tx, .slice ao n cap, .bool s, .int .i64 f, .int .i64 t]] X fun e w' => e = .returned (.bool true) ∧ Below w.heap.size w w' := fun X vo c3 o3 T => by
        have k0 := rsame_any o3 T.okT
        rw [eqb_yes (T := ⟨k, r, nm, tx, vo, n, c3, s, f, t⟩) (U := ⟨k, r, nm, tx, ao, n, cap, s, f, t⟩) L rfl rfl rfl rfl rfl rfl rfl] at k0
        refine k0.mono ?_
        rintro e w3 ⟨rfl, b3⟩
        exact ⟨rfl, T.bel.trans (b3.mono T.bel.size)⟩
      clear ef et hf0
      go_wp2_with fail
      go_region_with (first
        | (go_at_call 19; refine (k19 _).mono ?_; rintro e w5 ⟨vo, c3, rfl, ok5, T5⟩; obtain ⟨q0, q1, q2, q3, q4, q5, q6, q7⟩ := T5.boxT; simp only at q0 q1 q2 q3 q4 q5 q6 q7)
        | (go_at_call 14; refine (k14 _ _ _ ok5 T5).mono ?_; rintro e w6 ⟨rfl, b6⟩)
        | (go_at_call 8; refine (awake_any _).mono ?_; rintro e w7 ⟨rfl, b7⟩))
      all_goals
        have HZ : Hid (Below w.heap.size w w7) := b6.trans (b7.mono b6.size)
        clear b6 b7 T5 ok5
        go_wp2_with fail
        go_ret
        exact ⟨rfl, HZ.out⟩
end Go.Proofs.Ytnpaodagpleiaaa
