/- The walk of the law TokensFields: each case but the last. -/
import Derived.Test.YtnpaodagpleiaaaOne
namespace Go.Proofs.Ytnpaodagpleiaaa
open Go.ChangeShapes Go.WideShapes Go.ChangeAt Go.RowKit Go.Joins

theorem wrap_ne (k y : Int) (hy : -9223372036854775808 ≤ y ∧ y ≤ 9223372036854775807) (h0 : ¬ y = 0) : wrap64 (k + y) ≠ k := by
  unfold wrap64
  omega
theorem eight (x : Int) : 0 ≤ wrap64 ((IntKind.u64.wrap x).tmod 8) ∧ wrap64 ((IntKind.u64.wrap x).tmod 8) ≤ 7 := by
  have h : 0 ≤ IntKind.u64.wrap x := by rw [IntKind.wrap_u64]; omega
  have e : (IntKind.u64.wrap x).tmod 8 = IntKind.u64.wrap x % 8 := Int.tmod_eq_emod_of_nonneg h
  rw [e]
  unfold wrap64
  omega

set_option maxRecDepth 10000 in
set_option maxHeartbeats 4000000 in
theorem fields_0 (w : World) (T : Tk) (L : List At) (hT : TkOk w T L) (_hL : L.length ≤ 4398046511000) (_hnm : T.nm.size ≤ 140737488351232) (_htx : T.tx.size ≤ 140737488351232) (x y : Int) (_hy : -9223372036854775808 ≤ y ∧ y ≤ 9223372036854775807) (hm : wrap64 ((IntKind.u64.wrap x).tmod 8) = 0) :
    Calls Try.prog 6 #[T.val, .int .i64 x, .int .i64 y] w fun e w' => e = .returned (.bool true) ∧ Below w.heap.size w w' := by
  obtain ⟨k, r, nm, tx, ao, n, cap, s, f, t⟩ := T
  simp only [Tk.val, Tk.arr]
  simp only at _hnm _htx
  obtain ⟨V, hV⟩ : ∃ V, (w.alloc (.cells #[.int .i64 k, .int .i64 r, .string nm, .string tx, .slice ao n cap, .bool s, .int .i64 f, .int .i64 t] 26)).alloc (.cells #[.int .i64 k, .int .i64 r, .string nm, .string tx, .slice ao n cap, .bool s, .int .i64 f, .int .i64 t] 26) = V := ⟨_, rfl⟩
  have B := boxed hT hV
  have ks := size_any 1 1 B.2.2.2.2 rfl (by omega)
  have HB : Hid (Below w.heap.size w V ∧ TkOk V ⟨k, r, nm, tx, ao, n, cap, s, f, t⟩ L ∧ TkBox V w.heap.size ⟨k, r, nm, tx, ao, n, cap, s, f, t⟩ ∧ w.heap.size < V.heap.size) := ⟨B.1, B.2.1, B.2.2.1, B.2.2.2.1⟩
  clear hT B
  go_enter Try.func6, Try.ntmps6
  go_wp2_with fail
  refine ks.mono ?_
  rintro e w1 ⟨⟨b, rfl⟩, b1⟩
  have H1 : Hid (Below w.heap.size w w1 ∧ TkOk w1 ⟨k, r, nm, tx, ao, n, cap, s, f, t⟩ L ∧ TkBox w1 w.heap.size ⟨k, r, nm, tx, ao, n, cap, s, f, t⟩ ∧ w.heap.size < w1.heap.size) := ⟨HB.out.1.trans (b1.mono HB.out.1.size), HB.out.2.1.below b1, HB.out.2.2.1.below b1 HB.out.2.2.2, Nat.lt_of_lt_of_le HB.out.2.2.2 b1.size⟩
  clear ks hV b1 HB
  cases b with
  | false =>
    go_wp2_with fail
    refine (awake_any _).mono ?_
    rintro e wz ⟨rfl, bz⟩
    have HZ : Hid (Below w.heap.size w wz) := H1.out.1.trans (bz.mono H1.out.1.size)
    clear bz
    go_wp2_with fail
    go_ret
    exact ⟨rfl, HZ.out⟩

  | true =>
    by_cases hy0 : y = 0
    · subst hy0
      go_wp2_with fail
      refine (awake_any _).mono ?_
      rintro e wz ⟨rfl, bz⟩
      have HZ : Hid (Below w.heap.size w wz) := H1.out.1.trans (bz.mono H1.out.1.size)
      clear bz
      go_wp2_with fail
      go_ret
      exact ⟨rfl, HZ.out⟩

    have hyb := beq_false_of_ne hy0
    have l1 := H1.out.2.2.2
    obtain ⟨c0, c1, c2, c3, c4, c5, c6, c7⟩ := H1.out.2.2.1
    simp only at c0 c1 c2 c3 c4 c5 c6 c7
    have HN : Hid (Tk.eqb ⟨k, r, nm, tx, ao, n, cap, s, f, t⟩ ⟨(wrap64 (k + y)), r, nm, tx, ao, n, cap, s, f, t⟩ L L = false ∧ Tk.eqb ⟨(wrap64 (k + y)), r, nm, tx, ao, n, cap, s, f, t⟩ ⟨k, r, nm, tx, ao, n, cap, s, f, t⟩ L L = false) := by
      show _ ∧ _
      have := wrap_ne k y _hy hy0; unfold Tk.eqb; simp [this, Ne.symm this]
    have x1 : (w1.alloc (.cells #[.int .i64 (wrap64 (k + y)), .int .i64 r, .string nm, .string tx, .slice ao n cap, .bool s, .int .i64 f, .int .i64 t] 26)).heap[w1.heap.size]? = some (.cells (Tk.arr ⟨(wrap64 (k + y)), r, nm, tx, ao, n, cap, s, f, t⟩) 26 (0, 0)) := heap_alloc_new _ _
    have bX : Below w1.heap.size w1 (w1.alloc (.cells #[.int .i64 (wrap64 (k + y)), .int .i64 r, .string nm, .string tx, .slice ao n cap, .bool s, .int .i64 f, .int .i64 t] 26)) := (Below.refl _ _).alloc (Nat.le_refl _) _
    obtain ⟨X, hX⟩ : ∃ X, w1.alloc (.cells #[.int .i64 (wrap64 (k + y)), .int .i64 r, .string nm, .string tx, .slice ao n cap, .bool s, .int .i64 f, .int .i64 t] 26) = X := ⟨_, rfl⟩
    rw [hX] at x1 bX
    have HX : Hid (Two w w.heap.size w1.heap.size ⟨k, r, nm, tx, ao, n, cap, s, f, t⟩ ⟨(wrap64 (k + y)), r, nm, tx, ao, n, cap, s, f, t⟩ L L X) := ⟨H1.out.1.trans (bX.mono H1.out.1.size), H1.out.2.1.below bX, H1.out.2.2.1.below bX H1.out.2.2.2, Nat.lt_of_lt_of_le H1.out.2.2.2 bX.size, ⟨(H1.out.2.1.below bX).len, (H1.out.2.1.below bX).row, (H1.out.2.1.below bX).small⟩, TkBox.of x1, (Array.getElem?_eq_some_iff.1 x1).1⟩
    have HE : Hid (_ = X) := hX
    clear x1 bX hX
    go_wp2_with fail
    rw [HE.out]
    clear HE c0 c1 c2 c3 c4 c5 c6 c7 hm
    have kk := same_any HX.out.okT HX.out.okU
    rw [HN.out.1] at kk
    refine kk.mono ?_
    rintro e w3 ⟨rfl, b3⟩
    have H3 : Hid (Two w w.heap.size w1.heap.size ⟨k, r, nm, tx, ao, n, cap, s, f, t⟩ ⟨(wrap64 (k + y)), r, nm, tx, ao, n, cap, s, f, t⟩ L L w3) := HX.out.below b3
    clear kk b3 HX
    obtain ⟨a0, a1, a2, a3, a4, a5, a6, a7⟩ := H3.out.boxT
    obtain ⟨p0, p1, p2, p3, p4, p5, p6, p7⟩ := H3.out.boxU
    simp only at a0 a1 a2 a3 a4 a5 a6 a7 p0 p1 p2 p3 p4 p5 p6 p7
    have kk := same_any H3.out.okU H3.out.okT
    rw [HN.out.2] at kk
    go_wp2_with fail
    refine kk.mono ?_
    rintro e w4 ⟨rfl, b4⟩
    have H4 : Hid (Two w w.heap.size w1.heap.size ⟨k, r, nm, tx, ao, n, cap, s, f, t⟩ ⟨(wrap64 (k + y)), r, nm, tx, ao, n, cap, s, f, t⟩ L L w4) := H3.out.below b4
    clear kk b4 H3
    clear a0 a1 a2 a3 a4 a5 a6 a7 p0 p1 p2 p3 p4 p5 p6 p7
    obtain ⟨a0, a1, a2, a3, a4, a5, a6, a7⟩ := H4.out.boxT
    obtain ⟨p0, p1, p2, p3, p4, p5, p6, p7⟩ := H4.out.boxU
    simp only at a0 a1 a2 a3 a4 a5 a6 a7 p0 p1 p2 p3 p4 p5 p6 p7
    have kk := same_any H4.out.okU H4.out.okU
    rw [Tk.eqb_refl] at kk
    go_wp2_with fail
    refine kk.mono ?_
    rintro e w5 ⟨rfl, b5⟩
    have H5 : Hid (Below w.heap.size w w5) := H4.out.bel.trans (b5.mono H4.out.bel.size)
    clear kk b5 H4
    clear a0 a1 a2 a3 a4 a5 a6 a7 p0 p1 p2 p3 p4 p5 p6 p7
    go_wp2_with fail
    refine (awake_any _).mono ?_
    rintro e wz ⟨rfl, bz⟩
    have HZ : Hid (Below w.heap.size w wz) := H5.out.trans (bz.mono H5.out.size)
    clear bz
    go_wp2_with fail
    go_ret
    exact ⟨rfl, HZ.out⟩

set_option maxRecDepth 10000 in
set_option maxHeartbeats 4000000 in
theorem fields_1 (w : World) (T : Tk) (L : List At) (hT : TkOk w T L) (_hL : L.length ≤ 4398046511000) (_hnm : T.nm.size ≤ 140737488351232) (_htx : T.tx.size ≤ 140737488351232) (x y : Int) (_hy : -9223372036854775808 ≤ y ∧ y ≤ 9223372036854775807) (hm : wrap64 ((IntKind.u64.wrap x).tmod 8) = 1) :
    Calls Try.prog 6 #[T.val, .int .i64 x, .int .i64 y] w fun e w' => e = .returned (.bool true) ∧ Below w.heap.size w w' := by
  obtain ⟨k, r, nm, tx, ao, n, cap, s, f, t⟩ := T
  simp only [Tk.val, Tk.arr]
  simp only at _hnm _htx
  obtain ⟨V, hV⟩ : ∃ V, (w.alloc (.cells #[.int .i64 k, .int .i64 r, .string nm, .string tx, .slice ao n cap, .bool s, .int .i64 f, .int .i64 t] 26)).alloc (.cells #[.int .i64 k, .int .i64 r, .string nm, .string tx, .slice ao n cap, .bool s, .int .i64 f, .int .i64 t] 26) = V := ⟨_, rfl⟩
  have B := boxed hT hV
  have ks := size_any 1 1 B.2.2.2.2 rfl (by omega)
  have HB : Hid (Below w.heap.size w V ∧ TkOk V ⟨k, r, nm, tx, ao, n, cap, s, f, t⟩ L ∧ TkBox V w.heap.size ⟨k, r, nm, tx, ao, n, cap, s, f, t⟩ ∧ w.heap.size < V.heap.size) := ⟨B.1, B.2.1, B.2.2.1, B.2.2.2.1⟩
  clear hT B
  go_enter Try.func6, Try.ntmps6
  go_wp2_with fail
  refine ks.mono ?_
  rintro e w1 ⟨⟨b, rfl⟩, b1⟩
  have H1 : Hid (Below w.heap.size w w1 ∧ TkOk w1 ⟨k, r, nm, tx, ao, n, cap, s, f, t⟩ L ∧ TkBox w1 w.heap.size ⟨k, r, nm, tx, ao, n, cap, s, f, t⟩ ∧ w.heap.size < w1.heap.size) := ⟨HB.out.1.trans (b1.mono HB.out.1.size), HB.out.2.1.below b1, HB.out.2.2.1.below b1 HB.out.2.2.2, Nat.lt_of_lt_of_le HB.out.2.2.2 b1.size⟩
  clear ks hV b1 HB
  cases b with
  | false =>
    go_wp2_with fail
    refine (awake_any _).mono ?_
    rintro e wz ⟨rfl, bz⟩
    have HZ : Hid (Below w.heap.size w wz) := H1.out.1.trans (bz.mono H1.out.1.size)
    clear bz
    go_wp2_with fail
    go_ret
    exact ⟨rfl, HZ.out⟩

  | true =>
    by_cases hy0 : y = 0
    · subst hy0
      go_wp2_with fail
      refine (awake_any _).mono ?_
      rintro e wz ⟨rfl, bz⟩
      have HZ : Hid (Below w.heap.size w wz) := H1.out.1.trans (bz.mono H1.out.1.size)
      clear bz
      go_wp2_with fail
      go_ret
      exact ⟨rfl, HZ.out⟩

    have hyb := beq_false_of_ne hy0
    have l1 := H1.out.2.2.2
    obtain ⟨c0, c1, c2, c3, c4, c5, c6, c7⟩ := H1.out.2.2.1
    simp only at c0 c1 c2 c3 c4 c5 c6 c7
    have HN : Hid (Tk.eqb ⟨k, r, nm, tx, ao, n, cap, s, f, t⟩ ⟨k, (wrap64 (r + y)), nm, tx, ao, n, cap, s, f, t⟩ L L = false ∧ Tk.eqb ⟨k, (wrap64 (r + y)), nm, tx, ao, n, cap, s, f, t⟩ ⟨k, r, nm, tx, ao, n, cap, s, f, t⟩ L L = false) := by
      show _ ∧ _
      have := wrap_ne r y _hy hy0; unfold Tk.eqb; simp [this, Ne.symm this]
    have x1 : (w1.alloc (.cells #[.int .i64 k, .int .i64 (wrap64 (r + y)), .string nm, .string tx, .slice ao n cap, .bool s, .int .i64 f, .int .i64 t] 26)).heap[w1.heap.size]? = some (.cells (Tk.arr ⟨k, (wrap64 (r + y)), nm, tx, ao, n, cap, s, f, t⟩) 26 (0, 0)) := heap_alloc_new _ _
    have bX : Below w1.heap.size w1 (w1.alloc (.cells #[.int .i64 k, .int .i64 (wrap64 (r + y)), .string nm, .string tx, .slice ao n cap, .bool s, .int .i64 f, .int .i64 t] 26)) := (Below.refl _ _).alloc (Nat.le_refl _) _
    obtain ⟨X, hX⟩ : ∃ X, w1.alloc (.cells #[.int .i64 k, .int .i64 (wrap64 (r + y)), .string nm, .string tx, .slice ao n cap, .bool s, .int .i64 f, .int .i64 t] 26) = X := ⟨_, rfl⟩
    rw [hX] at x1 bX
    have HX : Hid (Two w w.heap.size w1.heap.size ⟨k, r, nm, tx, ao, n, cap, s, f, t⟩ ⟨k, (wrap64 (r + y)), nm, tx, ao, n, cap, s, f, t⟩ L L X) := ⟨H1.out.1.trans (bX.mono H1.out.1.size), H1.out.2.1.below bX, H1.out.2.2.1.below bX H1.out.2.2.2, Nat.lt_of_lt_of_le H1.out.2.2.2 bX.size, ⟨(H1.out.2.1.below bX).len, (H1.out.2.1.below bX).row, (H1.out.2.1.below bX).small⟩, TkBox.of x1, (Array.getElem?_eq_some_iff.1 x1).1⟩
    have HE : Hid (_ = X) := hX
    clear x1 bX hX
    go_wp2_with fail
    rw [HE.out]
    clear HE c0 c1 c2 c3 c4 c5 c6 c7 hm
    have kk := same_any HX.out.okT HX.out.okU
    rw [HN.out.1] at kk
    refine kk.mono ?_
    rintro e w3 ⟨rfl, b3⟩
    have H3 : Hid (Two w w.heap.size w1.heap.size ⟨k, r, nm, tx, ao, n, cap, s, f, t⟩ ⟨k, (wrap64 (r + y)), nm, tx, ao, n, cap, s, f, t⟩ L L w3) := HX.out.below b3
    clear kk b3 HX
    obtain ⟨a0, a1, a2, a3, a4, a5, a6, a7⟩ := H3.out.boxT
    obtain ⟨p0, p1, p2, p3, p4, p5, p6, p7⟩ := H3.out.boxU
    simp only at a0 a1 a2 a3 a4 a5 a6 a7 p0 p1 p2 p3 p4 p5 p6 p7
    have kk := same_any H3.out.okU H3.out.okT
    rw [HN.out.2] at kk
    go_wp2_with fail
    refine kk.mono ?_
    rintro e w4 ⟨rfl, b4⟩
    have H4 : Hid (Two w w.heap.size w1.heap.size ⟨k, r, nm, tx, ao, n, cap, s, f, t⟩ ⟨k, (wrap64 (r + y)), nm, tx, ao, n, cap, s, f, t⟩ L L w4) := H3.out.below b4
    clear kk b4 H3
    clear a0 a1 a2 a3 a4 a5 a6 a7 p0 p1 p2 p3 p4 p5 p6 p7
    obtain ⟨a0, a1, a2, a3, a4, a5, a6, a7⟩ := H4.out.boxT
    obtain ⟨p0, p1, p2, p3, p4, p5, p6, p7⟩ := H4.out.boxU
    simp only at a0 a1 a2 a3 a4 a5 a6 a7 p0 p1 p2 p3 p4 p5 p6 p7
    have kk := same_any H4.out.okU H4.out.okU
    rw [Tk.eqb_refl] at kk
    go_wp2_with fail
    refine kk.mono ?_
    rintro e w5 ⟨rfl, b5⟩
    have H5 : Hid (Below w.heap.size w w5) := H4.out.bel.trans (b5.mono H4.out.bel.size)
    clear kk b5 H4
    clear a0 a1 a2 a3 a4 a5 a6 a7 p0 p1 p2 p3 p4 p5 p6 p7
    go_wp2_with fail
    refine (awake_any _).mono ?_
    rintro e wz ⟨rfl, bz⟩
    have HZ : Hid (Below w.heap.size w wz) := H5.out.trans (bz.mono H5.out.size)
    clear bz
    go_wp2_with fail
    go_ret
    exact ⟨rfl, HZ.out⟩

set_option maxRecDepth 10000 in
set_option maxHeartbeats 4000000 in
theorem fields_2 (w : World) (T : Tk) (L : List At) (hT : TkOk w T L) (_hL : L.length ≤ 4398046511000) (_hnm : T.nm.size ≤ 140737488351232) (_htx : T.tx.size ≤ 140737488351232) (x y : Int) (_hy : -9223372036854775808 ≤ y ∧ y ≤ 9223372036854775807) (hm : wrap64 ((IntKind.u64.wrap x).tmod 8) = 2) :
    Calls Try.prog 6 #[T.val, .int .i64 x, .int .i64 y] w fun e w' => e = .returned (.bool true) ∧ Below w.heap.size w w' := by
  obtain ⟨k, r, nm, tx, ao, n, cap, s, f, t⟩ := T
  simp only [Tk.val, Tk.arr]
  simp only at _hnm _htx
  obtain ⟨V, hV⟩ : ∃ V, (w.alloc (.cells #[.int .i64 k, .int .i64 r, .string nm, .string tx, .slice ao n cap, .bool s, .int .i64 f, .int .i64 t] 26)).alloc (.cells #[.int .i64 k, .int .i64 r, .string nm, .string tx, .slice ao n cap, .bool s, .int .i64 f, .int .i64 t] 26) = V := ⟨_, rfl⟩
  have B := boxed hT hV
  have ks := size_any 1 1 B.2.2.2.2 rfl (by omega)
  have HB : Hid (Below w.heap.size w V ∧ TkOk V ⟨k, r, nm, tx, ao, n, cap, s, f, t⟩ L ∧ TkBox V w.heap.size ⟨k, r, nm, tx, ao, n, cap, s, f, t⟩ ∧ w.heap.size < V.heap.size) := ⟨B.1, B.2.1, B.2.2.1, B.2.2.2.1⟩
  clear hT B
  go_enter Try.func6, Try.ntmps6
  go_wp2_with fail
  refine ks.mono ?_
  rintro e w1 ⟨⟨b, rfl⟩, b1⟩
  have H1 : Hid (Below w.heap.size w w1 ∧ TkOk w1 ⟨k, r, nm, tx, ao, n, cap, s, f, t⟩ L ∧ TkBox w1 w.heap.size ⟨k, r, nm, tx, ao, n, cap, s, f, t⟩ ∧ w.heap.size < w1.heap.size) := ⟨HB.out.1.trans (b1.mono HB.out.1.size), HB.out.2.1.below b1, HB.out.2.2.1.below b1 HB.out.2.2.2, Nat.lt_of_lt_of_le HB.out.2.2.2 b1.size⟩
  clear ks hV b1 HB
  cases b with
  | false =>
    go_wp2_with fail
    refine (awake_any _).mono ?_
    rintro e wz ⟨rfl, bz⟩
    have HZ : Hid (Below w.heap.size w wz) := H1.out.1.trans (bz.mono H1.out.1.size)
    clear bz
    go_wp2_with fail
    go_ret
    exact ⟨rfl, HZ.out⟩

  | true =>
    by_cases hy0 : y = 0
    · subst hy0
      go_wp2_with fail
      refine (awake_any _).mono ?_
      rintro e wz ⟨rfl, bz⟩
      have HZ : Hid (Below w.heap.size w wz) := H1.out.1.trans (bz.mono H1.out.1.size)
      clear bz
      go_wp2_with fail
      go_ret
      exact ⟨rfl, HZ.out⟩

    have hyb := beq_false_of_ne hy0
    have l1 := H1.out.2.2.2
    obtain ⟨c0, c1, c2, c3, c4, c5, c6, c7⟩ := H1.out.2.2.1
    simp only at c0 c1 c2 c3 c4 c5 c6 c7
    have HN : Hid (Tk.eqb ⟨k, r, nm, tx, ao, n, cap, s, f, t⟩ ⟨k, r, (nm ++ ⟨#[120]⟩), tx, ao, n, cap, s, f, t⟩ L L = false ∧ Tk.eqb ⟨k, r, (nm ++ ⟨#[120]⟩), tx, ao, n, cap, s, f, t⟩ ⟨k, r, nm, tx, ao, n, cap, s, f, t⟩ L L = false) := by
      show _ ∧ _
      unfold Tk.eqb; simp
    have x1 : (w1.alloc (.cells #[.int .i64 k, .int .i64 r, .string (nm ++ ⟨#[120]⟩), .string tx, .slice ao n cap, .bool s, .int .i64 f, .int .i64 t] 26)).heap[w1.heap.size]? = some (.cells (Tk.arr ⟨k, r, (nm ++ ⟨#[120]⟩), tx, ao, n, cap, s, f, t⟩) 26 (0, 0)) := heap_alloc_new _ _
    have bX : Below w1.heap.size w1 (w1.alloc (.cells #[.int .i64 k, .int .i64 r, .string (nm ++ ⟨#[120]⟩), .string tx, .slice ao n cap, .bool s, .int .i64 f, .int .i64 t] 26)) := (Below.refl _ _).alloc (Nat.le_refl _) _
    obtain ⟨X, hX⟩ : ∃ X, w1.alloc (.cells #[.int .i64 k, .int .i64 r, .string (nm ++ ⟨#[120]⟩), .string tx, .slice ao n cap, .bool s, .int .i64 f, .int .i64 t] 26) = X := ⟨_, rfl⟩
    rw [hX] at x1 bX
    have HX : Hid (Two w w.heap.size w1.heap.size ⟨k, r, nm, tx, ao, n, cap, s, f, t⟩ ⟨k, r, (nm ++ ⟨#[120]⟩), tx, ao, n, cap, s, f, t⟩ L L X) := ⟨H1.out.1.trans (bX.mono H1.out.1.size), H1.out.2.1.below bX, H1.out.2.2.1.below bX H1.out.2.2.2, Nat.lt_of_lt_of_le H1.out.2.2.2 bX.size, ⟨(H1.out.2.1.below bX).len, (H1.out.2.1.below bX).row, (H1.out.2.1.below bX).small⟩, TkBox.of x1, (Array.getElem?_eq_some_iff.1 x1).1⟩
    have HE : Hid (_ = X) := hX
    clear x1 bX hX
    go_wp2_with fail
    rw [HE.out]
    clear HE c0 c1 c2 c3 c4 c5 c6 c7 hm
    have kk := same_any HX.out.okT HX.out.okU
    rw [HN.out.1] at kk
    refine kk.mono ?_
    rintro e w3 ⟨rfl, b3⟩
    have H3 : Hid (Two w w.heap.size w1.heap.size ⟨k, r, nm, tx, ao, n, cap, s, f, t⟩ ⟨k, r, (nm ++ ⟨#[120]⟩), tx, ao, n, cap, s, f, t⟩ L L w3) := HX.out.below b3
    clear kk b3 HX
    obtain ⟨a0, a1, a2, a3, a4, a5, a6, a7⟩ := H3.out.boxT
    obtain ⟨p0, p1, p2, p3, p4, p5, p6, p7⟩ := H3.out.boxU
    simp only at a0 a1 a2 a3 a4 a5 a6 a7 p0 p1 p2 p3 p4 p5 p6 p7
    have kk := same_any H3.out.okU H3.out.okT
    rw [HN.out.2] at kk
    go_wp2_with fail
    refine kk.mono ?_
    rintro e w4 ⟨rfl, b4⟩
    have H4 : Hid (Two w w.heap.size w1.heap.size ⟨k, r, nm, tx, ao, n, cap, s, f, t⟩ ⟨k, r, (nm ++ ⟨#[120]⟩), tx, ao, n, cap, s, f, t⟩ L L w4) := H3.out.below b4
    clear kk b4 H3
    clear a0 a1 a2 a3 a4 a5 a6 a7 p0 p1 p2 p3 p4 p5 p6 p7
    obtain ⟨a0, a1, a2, a3, a4, a5, a6, a7⟩ := H4.out.boxT
    obtain ⟨p0, p1, p2, p3, p4, p5, p6, p7⟩ := H4.out.boxU
    simp only at a0 a1 a2 a3 a4 a5 a6 a7 p0 p1 p2 p3 p4 p5 p6 p7
    have kk := same_any H4.out.okU H4.out.okU
    rw [Tk.eqb_refl] at kk
    go_wp2_with fail
    refine kk.mono ?_
    rintro e w5 ⟨rfl, b5⟩
    have H5 : Hid (Below w.heap.size w w5) := H4.out.bel.trans (b5.mono H4.out.bel.size)
    clear kk b5 H4
    clear a0 a1 a2 a3 a4 a5 a6 a7 p0 p1 p2 p3 p4 p5 p6 p7
    go_wp2_with fail
    refine (awake_any _).mono ?_
    rintro e wz ⟨rfl, bz⟩
    have HZ : Hid (Below w.heap.size w wz) := H5.out.trans (bz.mono H5.out.size)
    clear bz
    go_wp2_with fail
    go_ret
    exact ⟨rfl, HZ.out⟩

set_option maxRecDepth 10000 in
set_option maxHeartbeats 4000000 in
theorem fields_3 (w : World) (T : Tk) (L : List At) (hT : TkOk w T L) (_hL : L.length ≤ 4398046511000) (_hnm : T.nm.size ≤ 140737488351232) (_htx : T.tx.size ≤ 140737488351232) (x y : Int) (_hy : -9223372036854775808 ≤ y ∧ y ≤ 9223372036854775807) (hm : wrap64 ((IntKind.u64.wrap x).tmod 8) = 3) :
    Calls Try.prog 6 #[T.val, .int .i64 x, .int .i64 y] w fun e w' => e = .returned (.bool true) ∧ Below w.heap.size w w' := by
  obtain ⟨k, r, nm, tx, ao, n, cap, s, f, t⟩ := T
  simp only [Tk.val, Tk.arr]
  simp only at _hnm _htx
  obtain ⟨V, hV⟩ : ∃ V, (w.alloc (.cells #[.int .i64 k, .int .i64 r, .string nm, .string tx, .slice ao n cap, .bool s, .int .i64 f, .int .i64 t] 26)).alloc (.cells #[.int .i64 k, .int .i64 r, .string nm, .string tx, .slice ao n cap, .bool s, .int .i64 f, .int .i64 t] 26) = V := ⟨_, rfl⟩
  have B := boxed hT hV
  have ks := size_any 1 1 B.2.2.2.2 rfl (by omega)
  have HB : Hid (Below w.heap.size w V ∧ TkOk V ⟨k, r, nm, tx, ao, n, cap, s, f, t⟩ L ∧ TkBox V w.heap.size ⟨k, r, nm, tx, ao, n, cap, s, f, t⟩ ∧ w.heap.size < V.heap.size) := ⟨B.1, B.2.1, B.2.2.1, B.2.2.2.1⟩
  clear hT B
  go_enter Try.func6, Try.ntmps6
  go_wp2_with fail
  refine ks.mono ?_
  rintro e w1 ⟨⟨b, rfl⟩, b1⟩
  have H1 : Hid (Below w.heap.size w w1 ∧ TkOk w1 ⟨k, r, nm, tx, ao, n, cap, s, f, t⟩ L ∧ TkBox w1 w.heap.size ⟨k, r, nm, tx, ao, n, cap, s, f, t⟩ ∧ w.heap.size < w1.heap.size) := ⟨HB.out.1.trans (b1.mono HB.out.1.size), HB.out.2.1.below b1, HB.out.2.2.1.below b1 HB.out.2.2.2, Nat.lt_of_lt_of_le HB.out.2.2.2 b1.size⟩
  clear ks hV b1 HB
  cases b with
  | false =>
    go_wp2_with fail
    refine (awake_any _).mono ?_
    rintro e wz ⟨rfl, bz⟩
    have HZ : Hid (Below w.heap.size w wz) := H1.out.1.trans (bz.mono H1.out.1.size)
    clear bz
    go_wp2_with fail
    go_ret
    exact ⟨rfl, HZ.out⟩

  | true =>
    by_cases hy0 : y = 0
    · subst hy0
      go_wp2_with fail
      refine (awake_any _).mono ?_
      rintro e wz ⟨rfl, bz⟩
      have HZ : Hid (Below w.heap.size w wz) := H1.out.1.trans (bz.mono H1.out.1.size)
      clear bz
      go_wp2_with fail
      go_ret
      exact ⟨rfl, HZ.out⟩

    have hyb := beq_false_of_ne hy0
    have l1 := H1.out.2.2.2
    obtain ⟨c0, c1, c2, c3, c4, c5, c6, c7⟩ := H1.out.2.2.1
    simp only at c0 c1 c2 c3 c4 c5 c6 c7
    have HN : Hid (Tk.eqb ⟨k, r, nm, tx, ao, n, cap, s, f, t⟩ ⟨k, r, nm, (tx ++ ⟨#[120]⟩), ao, n, cap, s, f, t⟩ L L = false ∧ Tk.eqb ⟨k, r, nm, (tx ++ ⟨#[120]⟩), ao, n, cap, s, f, t⟩ ⟨k, r, nm, tx, ao, n, cap, s, f, t⟩ L L = false) := by
      show _ ∧ _
      unfold Tk.eqb; simp
    have x1 : (w1.alloc (.cells #[.int .i64 k, .int .i64 r, .string nm, .string (tx ++ ⟨#[120]⟩), .slice ao n cap, .bool s, .int .i64 f, .int .i64 t] 26)).heap[w1.heap.size]? = some (.cells (Tk.arr ⟨k, r, nm, (tx ++ ⟨#[120]⟩), ao, n, cap, s, f, t⟩) 26 (0, 0)) := heap_alloc_new _ _
    have bX : Below w1.heap.size w1 (w1.alloc (.cells #[.int .i64 k, .int .i64 r, .string nm, .string (tx ++ ⟨#[120]⟩), .slice ao n cap, .bool s, .int .i64 f, .int .i64 t] 26)) := (Below.refl _ _).alloc (Nat.le_refl _) _
    obtain ⟨X, hX⟩ : ∃ X, w1.alloc (.cells #[.int .i64 k, .int .i64 r, .string nm, .string (tx ++ ⟨#[120]⟩), .slice ao n cap, .bool s, .int .i64 f, .int .i64 t] 26) = X := ⟨_, rfl⟩
    rw [hX] at x1 bX
    have HX : Hid (Two w w.heap.size w1.heap.size ⟨k, r, nm, tx, ao, n, cap, s, f, t⟩ ⟨k, r, nm, (tx ++ ⟨#[120]⟩), ao, n, cap, s, f, t⟩ L L X) := ⟨H1.out.1.trans (bX.mono H1.out.1.size), H1.out.2.1.below bX, H1.out.2.2.1.below bX H1.out.2.2.2, Nat.lt_of_lt_of_le H1.out.2.2.2 bX.size, ⟨(H1.out.2.1.below bX).len, (H1.out.2.1.below bX).row, (H1.out.2.1.below bX).small⟩, TkBox.of x1, (Array.getElem?_eq_some_iff.1 x1).1⟩
    have HE : Hid (_ = X) := hX
    clear x1 bX hX
    go_wp2_with fail
    rw [HE.out]
    clear HE c0 c1 c2 c3 c4 c5 c6 c7 hm
    have kk := same_any HX.out.okT HX.out.okU
    rw [HN.out.1] at kk
    refine kk.mono ?_
    rintro e w3 ⟨rfl, b3⟩
    have H3 : Hid (Two w w.heap.size w1.heap.size ⟨k, r, nm, tx, ao, n, cap, s, f, t⟩ ⟨k, r, nm, (tx ++ ⟨#[120]⟩), ao, n, cap, s, f, t⟩ L L w3) := HX.out.below b3
    clear kk b3 HX
    obtain ⟨a0, a1, a2, a3, a4, a5, a6, a7⟩ := H3.out.boxT
    obtain ⟨p0, p1, p2, p3, p4, p5, p6, p7⟩ := H3.out.boxU
    simp only at a0 a1 a2 a3 a4 a5 a6 a7 p0 p1 p2 p3 p4 p5 p6 p7
    have kk := same_any H3.out.okU H3.out.okT
    rw [HN.out.2] at kk
    go_wp2_with fail
    refine kk.mono ?_
    rintro e w4 ⟨rfl, b4⟩
    have H4 : Hid (Two w w.heap.size w1.heap.size ⟨k, r, nm, tx, ao, n, cap, s, f, t⟩ ⟨k, r, nm, (tx ++ ⟨#[120]⟩), ao, n, cap, s, f, t⟩ L L w4) := H3.out.below b4
    clear kk b4 H3
    clear a0 a1 a2 a3 a4 a5 a6 a7 p0 p1 p2 p3 p4 p5 p6 p7
    obtain ⟨a0, a1, a2, a3, a4, a5, a6, a7⟩ := H4.out.boxT
    obtain ⟨p0, p1, p2, p3, p4, p5, p6, p7⟩ := H4.out.boxU
    simp only at a0 a1 a2 a3 a4 a5 a6 a7 p0 p1 p2 p3 p4 p5 p6 p7
    have kk := same_any H4.out.okU H4.out.okU
    rw [Tk.eqb_refl] at kk
    go_wp2_with fail
    refine kk.mono ?_
    rintro e w5 ⟨rfl, b5⟩
    have H5 : Hid (Below w.heap.size w w5) := H4.out.bel.trans (b5.mono H4.out.bel.size)
    clear kk b5 H4
    clear a0 a1 a2 a3 a4 a5 a6 a7 p0 p1 p2 p3 p4 p5 p6 p7
    go_wp2_with fail
    refine (awake_any _).mono ?_
    rintro e wz ⟨rfl, bz⟩
    have HZ : Hid (Below w.heap.size w wz) := H5.out.trans (bz.mono H5.out.size)
    clear bz
    go_wp2_with fail
    go_ret
    exact ⟨rfl, HZ.out⟩

set_option maxRecDepth 10000 in
set_option maxHeartbeats 4000000 in
theorem fields_4 (w : World) (T : Tk) (L : List At) (hT : TkOk w T L) (_hL : L.length ≤ 4398046511000) (_hnm : T.nm.size ≤ 140737488351232) (_htx : T.tx.size ≤ 140737488351232) (x y : Int) (_hy : -9223372036854775808 ≤ y ∧ y ≤ 9223372036854775807) (hm : wrap64 ((IntKind.u64.wrap x).tmod 8) = 4) :
    Calls Try.prog 6 #[T.val, .int .i64 x, .int .i64 y] w fun e w' => e = .returned (.bool true) ∧ Below w.heap.size w w' := by
  obtain ⟨k, r, nm, tx, ao, n, cap, s, f, t⟩ := T
  simp only [Tk.val, Tk.arr]
  simp only at _hnm _htx
  obtain ⟨V, hV⟩ : ∃ V, (w.alloc (.cells #[.int .i64 k, .int .i64 r, .string nm, .string tx, .slice ao n cap, .bool s, .int .i64 f, .int .i64 t] 26)).alloc (.cells #[.int .i64 k, .int .i64 r, .string nm, .string tx, .slice ao n cap, .bool s, .int .i64 f, .int .i64 t] 26) = V := ⟨_, rfl⟩
  have B := boxed hT hV
  have ks := size_any 1 1 B.2.2.2.2 rfl (by omega)
  have HB : Hid (Below w.heap.size w V ∧ TkOk V ⟨k, r, nm, tx, ao, n, cap, s, f, t⟩ L ∧ TkBox V w.heap.size ⟨k, r, nm, tx, ao, n, cap, s, f, t⟩ ∧ w.heap.size < V.heap.size) := ⟨B.1, B.2.1, B.2.2.1, B.2.2.2.1⟩
  clear hT B
  go_enter Try.func6, Try.ntmps6
  go_wp2_with fail
  refine ks.mono ?_
  rintro e w1 ⟨⟨b, rfl⟩, b1⟩
  have H1 : Hid (Below w.heap.size w w1 ∧ TkOk w1 ⟨k, r, nm, tx, ao, n, cap, s, f, t⟩ L ∧ TkBox w1 w.heap.size ⟨k, r, nm, tx, ao, n, cap, s, f, t⟩ ∧ w.heap.size < w1.heap.size) := ⟨HB.out.1.trans (b1.mono HB.out.1.size), HB.out.2.1.below b1, HB.out.2.2.1.below b1 HB.out.2.2.2, Nat.lt_of_lt_of_le HB.out.2.2.2 b1.size⟩
  clear ks hV b1 HB
  cases b with
  | false =>
    go_wp2_with fail
    refine (awake_any _).mono ?_
    rintro e wz ⟨rfl, bz⟩
    have HZ : Hid (Below w.heap.size w wz) := H1.out.1.trans (bz.mono H1.out.1.size)
    clear bz
    go_wp2_with fail
    go_ret
    exact ⟨rfl, HZ.out⟩

  | true =>
    by_cases hy0 : y = 0
    · subst hy0
      go_wp2_with fail
      refine (awake_any _).mono ?_
      rintro e wz ⟨rfl, bz⟩
      have HZ : Hid (Below w.heap.size w wz) := H1.out.1.trans (bz.mono H1.out.1.size)
      clear bz
      go_wp2_with fail
      go_ret
      exact ⟨rfl, HZ.out⟩

    have hyb := beq_false_of_ne hy0
    have l1 := H1.out.2.2.2
    obtain ⟨c0, c1, c2, c3, c4, c5, c6, c7⟩ := H1.out.2.2.1
    simp only at c0 c1 c2 c3 c4 c5 c6 c7
    have HN : Hid (Tk.eqb ⟨k, r, nm, tx, ao, n, cap, s, f, t⟩ ⟨k, r, nm, tx, ao, n, cap, (!s), f, t⟩ L L = false ∧ Tk.eqb ⟨k, r, nm, tx, ao, n, cap, (!s), f, t⟩ ⟨k, r, nm, tx, ao, n, cap, s, f, t⟩ L L = false) := by
      show _ ∧ _
      unfold Tk.eqb; cases s <;> simp
    have x1 : (w1.alloc (.cells #[.int .i64 k, .int .i64 r, .string nm, .string tx, .slice ao n cap, .bool (!s), .int .i64 f, .int .i64 t] 26)).heap[w1.heap.size]? = some (.cells (Tk.arr ⟨k, r, nm, tx, ao, n, cap, (!s), f, t⟩) 26 (0, 0)) := heap_alloc_new _ _
    have bX : Below w1.heap.size w1 (w1.alloc (.cells #[.int .i64 k, .int .i64 r, .string nm, .string tx, .slice ao n cap, .bool (!s), .int .i64 f, .int .i64 t] 26)) := (Below.refl _ _).alloc (Nat.le_refl _) _
    obtain ⟨X, hX⟩ : ∃ X, w1.alloc (.cells #[.int .i64 k, .int .i64 r, .string nm, .string tx, .slice ao n cap, .bool (!s), .int .i64 f, .int .i64 t] 26) = X := ⟨_, rfl⟩
    rw [hX] at x1 bX
    have HX : Hid (Two w w.heap.size w1.heap.size ⟨k, r, nm, tx, ao, n, cap, s, f, t⟩ ⟨k, r, nm, tx, ao, n, cap, (!s), f, t⟩ L L X) := ⟨H1.out.1.trans (bX.mono H1.out.1.size), H1.out.2.1.below bX, H1.out.2.2.1.below bX H1.out.2.2.2, Nat.lt_of_lt_of_le H1.out.2.2.2 bX.size, ⟨(H1.out.2.1.below bX).len, (H1.out.2.1.below bX).row, (H1.out.2.1.below bX).small⟩, TkBox.of x1, (Array.getElem?_eq_some_iff.1 x1).1⟩
    have HE : Hid (_ = X) := hX
    clear x1 bX hX
    go_wp2_with fail
    rw [HE.out]
    clear HE c0 c1 c2 c3 c4 c5 c6 c7 hm
    have kk := same_any HX.out.okT HX.out.okU
    rw [HN.out.1] at kk
    refine kk.mono ?_
    rintro e w3 ⟨rfl, b3⟩
    have H3 : Hid (Two w w.heap.size w1.heap.size ⟨k, r, nm, tx, ao, n, cap, s, f, t⟩ ⟨k, r, nm, tx, ao, n, cap, (!s), f, t⟩ L L w3) := HX.out.below b3
    clear kk b3 HX
    obtain ⟨a0, a1, a2, a3, a4, a5, a6, a7⟩ := H3.out.boxT
    obtain ⟨p0, p1, p2, p3, p4, p5, p6, p7⟩ := H3.out.boxU
    simp only at a0 a1 a2 a3 a4 a5 a6 a7 p0 p1 p2 p3 p4 p5 p6 p7
    have kk := same_any H3.out.okU H3.out.okT
    rw [HN.out.2] at kk
    go_wp2_with fail
    refine kk.mono ?_
    rintro e w4 ⟨rfl, b4⟩
    have H4 : Hid (Two w w.heap.size w1.heap.size ⟨k, r, nm, tx, ao, n, cap, s, f, t⟩ ⟨k, r, nm, tx, ao, n, cap, (!s), f, t⟩ L L w4) := H3.out.below b4
    clear kk b4 H3
    clear a0 a1 a2 a3 a4 a5 a6 a7 p0 p1 p2 p3 p4 p5 p6 p7
    obtain ⟨a0, a1, a2, a3, a4, a5, a6, a7⟩ := H4.out.boxT
    obtain ⟨p0, p1, p2, p3, p4, p5, p6, p7⟩ := H4.out.boxU
    simp only at a0 a1 a2 a3 a4 a5 a6 a7 p0 p1 p2 p3 p4 p5 p6 p7
    have kk := same_any H4.out.okU H4.out.okU
    rw [Tk.eqb_refl] at kk
    go_wp2_with fail
    refine kk.mono ?_
    rintro e w5 ⟨rfl, b5⟩
    have H5 : Hid (Below w.heap.size w w5) := H4.out.bel.trans (b5.mono H4.out.bel.size)
    clear kk b5 H4
    clear a0 a1 a2 a3 a4 a5 a6 a7 p0 p1 p2 p3 p4 p5 p6 p7
    go_wp2_with fail
    refine (awake_any _).mono ?_
    rintro e wz ⟨rfl, bz⟩
    have HZ : Hid (Below w.heap.size w wz) := H5.out.trans (bz.mono H5.out.size)
    clear bz
    go_wp2_with fail
    go_ret
    exact ⟨rfl, HZ.out⟩

set_option maxRecDepth 10000 in
set_option maxHeartbeats 4000000 in
theorem fields_5 (w : World) (T : Tk) (L : List At) (hT : TkOk w T L) (_hL : L.length ≤ 4398046511000) (_hnm : T.nm.size ≤ 140737488351232) (_htx : T.tx.size ≤ 140737488351232) (x y : Int) (_hy : -9223372036854775808 ≤ y ∧ y ≤ 9223372036854775807) (hm : wrap64 ((IntKind.u64.wrap x).tmod 8) = 5) :
    Calls Try.prog 6 #[T.val, .int .i64 x, .int .i64 y] w fun e w' => e = .returned (.bool true) ∧ Below w.heap.size w w' := by
  obtain ⟨k, r, nm, tx, ao, n, cap, s, f, t⟩ := T
  simp only [Tk.val, Tk.arr]
  simp only at _hnm _htx
  obtain ⟨V, hV⟩ : ∃ V, (w.alloc (.cells #[.int .i64 k, .int .i64 r, .string nm, .string tx, .slice ao n cap, .bool s, .int .i64 f, .int .i64 t] 26)).alloc (.cells #[.int .i64 k, .int .i64 r, .string nm, .string tx, .slice ao n cap, .bool s, .int .i64 f, .int .i64 t] 26) = V := ⟨_, rfl⟩
  have B := boxed hT hV
  have ks := size_any 1 1 B.2.2.2.2 rfl (by omega)
  have HB : Hid (Below w.heap.size w V ∧ TkOk V ⟨k, r, nm, tx, ao, n, cap, s, f, t⟩ L ∧ TkBox V w.heap.size ⟨k, r, nm, tx, ao, n, cap, s, f, t⟩ ∧ w.heap.size < V.heap.size) := ⟨B.1, B.2.1, B.2.2.1, B.2.2.2.1⟩
  clear hT B
  go_enter Try.func6, Try.ntmps6
  go_wp2_with fail
  refine ks.mono ?_
  rintro e w1 ⟨⟨b, rfl⟩, b1⟩
  have H1 : Hid (Below w.heap.size w w1 ∧ TkOk w1 ⟨k, r, nm, tx, ao, n, cap, s, f, t⟩ L ∧ TkBox w1 w.heap.size ⟨k, r, nm, tx, ao, n, cap, s, f, t⟩ ∧ w.heap.size < w1.heap.size) := ⟨HB.out.1.trans (b1.mono HB.out.1.size), HB.out.2.1.below b1, HB.out.2.2.1.below b1 HB.out.2.2.2, Nat.lt_of_lt_of_le HB.out.2.2.2 b1.size⟩
  clear ks hV b1 HB
  cases b with
  | false =>
    go_wp2_with fail
    refine (awake_any _).mono ?_
    rintro e wz ⟨rfl, bz⟩
    have HZ : Hid (Below w.heap.size w wz) := H1.out.1.trans (bz.mono H1.out.1.size)
    clear bz
    go_wp2_with fail
    go_ret
    exact ⟨rfl, HZ.out⟩

  | true =>
    by_cases hy0 : y = 0
    · subst hy0
      go_wp2_with fail
      refine (awake_any _).mono ?_
      rintro e wz ⟨rfl, bz⟩
      have HZ : Hid (Below w.heap.size w wz) := H1.out.1.trans (bz.mono H1.out.1.size)
      clear bz
      go_wp2_with fail
      go_ret
      exact ⟨rfl, HZ.out⟩

    have hyb := beq_false_of_ne hy0
    have l1 := H1.out.2.2.2
    obtain ⟨c0, c1, c2, c3, c4, c5, c6, c7⟩ := H1.out.2.2.1
    simp only at c0 c1 c2 c3 c4 c5 c6 c7
    have HN : Hid (Tk.eqb ⟨k, r, nm, tx, ao, n, cap, s, f, t⟩ ⟨k, r, nm, tx, ao, n, cap, s, (wrap64 (f + y)), t⟩ L L = false ∧ Tk.eqb ⟨k, r, nm, tx, ao, n, cap, s, (wrap64 (f + y)), t⟩ ⟨k, r, nm, tx, ao, n, cap, s, f, t⟩ L L = false) := by
      show _ ∧ _
      have := wrap_ne f y _hy hy0; unfold Tk.eqb; simp [this, Ne.symm this]
    have x1 : (w1.alloc (.cells #[.int .i64 k, .int .i64 r, .string nm, .string tx, .slice ao n cap, .bool s, .int .i64 (wrap64 (f + y)), .int .i64 t] 26)).heap[w1.heap.size]? = some (.cells (Tk.arr ⟨k, r, nm, tx, ao, n, cap, s, (wrap64 (f + y)), t⟩) 26 (0, 0)) := heap_alloc_new _ _
    have bX : Below w1.heap.size w1 (w1.alloc (.cells #[.int .i64 k, .int .i64 r, .string nm, .string tx, .slice ao n cap, .bool s, .int .i64 (wrap64 (f + y)), .int .i64 t] 26)) := (Below.refl _ _).alloc (Nat.le_refl _) _
    obtain ⟨X, hX⟩ : ∃ X, w1.alloc (.cells #[.int .i64 k, .int .i64 r, .string nm, .string tx, .slice ao n cap, .bool s, .int .i64 (wrap64 (f + y)), .int .i64 t] 26) = X := ⟨_, rfl⟩
    rw [hX] at x1 bX
    have HX : Hid (Two w w.heap.size w1.heap.size ⟨k, r, nm, tx, ao, n, cap, s, f, t⟩ ⟨k, r, nm, tx, ao, n, cap, s, (wrap64 (f + y)), t⟩ L L X) := ⟨H1.out.1.trans (bX.mono H1.out.1.size), H1.out.2.1.below bX, H1.out.2.2.1.below bX H1.out.2.2.2, Nat.lt_of_lt_of_le H1.out.2.2.2 bX.size, ⟨(H1.out.2.1.below bX).len, (H1.out.2.1.below bX).row, (H1.out.2.1.below bX).small⟩, TkBox.of x1, (Array.getElem?_eq_some_iff.1 x1).1⟩
    have HE : Hid (_ = X) := hX
    clear x1 bX hX
    go_wp2_with fail
    rw [HE.out]
    clear HE c0 c1 c2 c3 c4 c5 c6 c7 hm
    have kk := same_any HX.out.okT HX.out.okU
    rw [HN.out.1] at kk
    refine kk.mono ?_
    rintro e w3 ⟨rfl, b3⟩
    have H3 : Hid (Two w w.heap.size w1.heap.size ⟨k, r, nm, tx, ao, n, cap, s, f, t⟩ ⟨k, r, nm, tx, ao, n, cap, s, (wrap64 (f + y)), t⟩ L L w3) := HX.out.below b3
    clear kk b3 HX
    obtain ⟨a0, a1, a2, a3, a4, a5, a6, a7⟩ := H3.out.boxT
    obtain ⟨p0, p1, p2, p3, p4, p5, p6, p7⟩ := H3.out.boxU
    simp only at a0 a1 a2 a3 a4 a5 a6 a7 p0 p1 p2 p3 p4 p5 p6 p7
    have kk := same_any H3.out.okU H3.out.okT
    rw [HN.out.2] at kk
    go_wp2_with fail
    refine kk.mono ?_
    rintro e w4 ⟨rfl, b4⟩
    have H4 : Hid (Two w w.heap.size w1.heap.size ⟨k, r, nm, tx, ao, n, cap, s, f, t⟩ ⟨k, r, nm, tx, ao, n, cap, s, (wrap64 (f + y)), t⟩ L L w4) := H3.out.below b4
    clear kk b4 H3
    clear a0 a1 a2 a3 a4 a5 a6 a7 p0 p1 p2 p3 p4 p5 p6 p7
    obtain ⟨a0, a1, a2, a3, a4, a5, a6, a7⟩ := H4.out.boxT
    obtain ⟨p0, p1, p2, p3, p4, p5, p6, p7⟩ := H4.out.boxU
    simp only at a0 a1 a2 a3 a4 a5 a6 a7 p0 p1 p2 p3 p4 p5 p6 p7
    have kk := same_any H4.out.okU H4.out.okU
    rw [Tk.eqb_refl] at kk
    go_wp2_with fail
    refine kk.mono ?_
    rintro e w5 ⟨rfl, b5⟩
    have H5 : Hid (Below w.heap.size w w5) := H4.out.bel.trans (b5.mono H4.out.bel.size)
    clear kk b5 H4
    clear a0 a1 a2 a3 a4 a5 a6 a7 p0 p1 p2 p3 p4 p5 p6 p7
    go_wp2_with fail
    refine (awake_any _).mono ?_
    rintro e wz ⟨rfl, bz⟩
    have HZ : Hid (Below w.heap.size w wz) := H5.out.trans (bz.mono H5.out.size)
    clear bz
    go_wp2_with fail
    go_ret
    exact ⟨rfl, HZ.out⟩

set_option maxRecDepth 10000 in
set_option maxHeartbeats 4000000 in
theorem fields_6 (w : World) (T : Tk) (L : List At) (hT : TkOk w T L) (_hL : L.length ≤ 4398046511000) (_hnm : T.nm.size ≤ 140737488351232) (_htx : T.tx.size ≤ 140737488351232) (x y : Int) (_hy : -9223372036854775808 ≤ y ∧ y ≤ 9223372036854775807) (hm : wrap64 ((IntKind.u64.wrap x).tmod 8) = 6) :
    Calls Try.prog 6 #[T.val, .int .i64 x, .int .i64 y] w fun e w' => e = .returned (.bool true) ∧ Below w.heap.size w w' := by
  obtain ⟨k, r, nm, tx, ao, n, cap, s, f, t⟩ := T
  simp only [Tk.val, Tk.arr]
  simp only at _hnm _htx
  obtain ⟨V, hV⟩ : ∃ V, (w.alloc (.cells #[.int .i64 k, .int .i64 r, .string nm, .string tx, .slice ao n cap, .bool s, .int .i64 f, .int .i64 t] 26)).alloc (.cells #[.int .i64 k, .int .i64 r, .string nm, .string tx, .slice ao n cap, .bool s, .int .i64 f, .int .i64 t] 26) = V := ⟨_, rfl⟩
  have B := boxed hT hV
  have ks := size_any 1 1 B.2.2.2.2 rfl (by omega)
  have HB : Hid (Below w.heap.size w V ∧ TkOk V ⟨k, r, nm, tx, ao, n, cap, s, f, t⟩ L ∧ TkBox V w.heap.size ⟨k, r, nm, tx, ao, n, cap, s, f, t⟩ ∧ w.heap.size < V.heap.size) := ⟨B.1, B.2.1, B.2.2.1, B.2.2.2.1⟩
  clear hT B
  go_enter Try.func6, Try.ntmps6
  go_wp2_with fail
  refine ks.mono ?_
  rintro e w1 ⟨⟨b, rfl⟩, b1⟩
  have H1 : Hid (Below w.heap.size w w1 ∧ TkOk w1 ⟨k, r, nm, tx, ao, n, cap, s, f, t⟩ L ∧ TkBox w1 w.heap.size ⟨k, r, nm, tx, ao, n, cap, s, f, t⟩ ∧ w.heap.size < w1.heap.size) := ⟨HB.out.1.trans (b1.mono HB.out.1.size), HB.out.2.1.below b1, HB.out.2.2.1.below b1 HB.out.2.2.2, Nat.lt_of_lt_of_le HB.out.2.2.2 b1.size⟩
  clear ks hV b1 HB
  cases b with
  | false =>
    go_wp2_with fail
    refine (awake_any _).mono ?_
    rintro e wz ⟨rfl, bz⟩
    have HZ : Hid (Below w.heap.size w wz) := H1.out.1.trans (bz.mono H1.out.1.size)
    clear bz
    go_wp2_with fail
    go_ret
    exact ⟨rfl, HZ.out⟩

  | true =>
    by_cases hy0 : y = 0
    · subst hy0
      go_wp2_with fail
      refine (awake_any _).mono ?_
      rintro e wz ⟨rfl, bz⟩
      have HZ : Hid (Below w.heap.size w wz) := H1.out.1.trans (bz.mono H1.out.1.size)
      clear bz
      go_wp2_with fail
      go_ret
      exact ⟨rfl, HZ.out⟩

    have hyb := beq_false_of_ne hy0
    have l1 := H1.out.2.2.2
    obtain ⟨c0, c1, c2, c3, c4, c5, c6, c7⟩ := H1.out.2.2.1
    simp only at c0 c1 c2 c3 c4 c5 c6 c7
    have HN : Hid (Tk.eqb ⟨k, r, nm, tx, ao, n, cap, s, f, t⟩ ⟨k, r, nm, tx, ao, n, cap, s, f, (wrap64 (t + y))⟩ L L = false ∧ Tk.eqb ⟨k, r, nm, tx, ao, n, cap, s, f, (wrap64 (t + y))⟩ ⟨k, r, nm, tx, ao, n, cap, s, f, t⟩ L L = false) := by
      show _ ∧ _
      have := wrap_ne t y _hy hy0; unfold Tk.eqb; simp [this, Ne.symm this]
    have x1 : (w1.alloc (.cells #[.int .i64 k, .int .i64 r, .string nm, .string tx, .slice ao n cap, .bool s, .int .i64 f, .int .i64 (wrap64 (t + y))] 26)).heap[w1.heap.size]? = some (.cells (Tk.arr ⟨k, r, nm, tx, ao, n, cap, s, f, (wrap64 (t + y))⟩) 26 (0, 0)) := heap_alloc_new _ _
    have bX : Below w1.heap.size w1 (w1.alloc (.cells #[.int .i64 k, .int .i64 r, .string nm, .string tx, .slice ao n cap, .bool s, .int .i64 f, .int .i64 (wrap64 (t + y))] 26)) := (Below.refl _ _).alloc (Nat.le_refl _) _
    obtain ⟨X, hX⟩ : ∃ X, w1.alloc (.cells #[.int .i64 k, .int .i64 r, .string nm, .string tx, .slice ao n cap, .bool s, .int .i64 f, .int .i64 (wrap64 (t + y))] 26) = X := ⟨_, rfl⟩
    rw [hX] at x1 bX
    have HX : Hid (Two w w.heap.size w1.heap.size ⟨k, r, nm, tx, ao, n, cap, s, f, t⟩ ⟨k, r, nm, tx, ao, n, cap, s, f, (wrap64 (t + y))⟩ L L X) := ⟨H1.out.1.trans (bX.mono H1.out.1.size), H1.out.2.1.below bX, H1.out.2.2.1.below bX H1.out.2.2.2, Nat.lt_of_lt_of_le H1.out.2.2.2 bX.size, ⟨(H1.out.2.1.below bX).len, (H1.out.2.1.below bX).row, (H1.out.2.1.below bX).small⟩, TkBox.of x1, (Array.getElem?_eq_some_iff.1 x1).1⟩
    have HE : Hid (_ = X) := hX
    clear x1 bX hX
    go_wp2_with fail
    rw [HE.out]
    clear HE c0 c1 c2 c3 c4 c5 c6 c7 hm
    have kk := same_any HX.out.okT HX.out.okU
    rw [HN.out.1] at kk
    refine kk.mono ?_
    rintro e w3 ⟨rfl, b3⟩
    have H3 : Hid (Two w w.heap.size w1.heap.size ⟨k, r, nm, tx, ao, n, cap, s, f, t⟩ ⟨k, r, nm, tx, ao, n, cap, s, f, (wrap64 (t + y))⟩ L L w3) := HX.out.below b3
    clear kk b3 HX
    obtain ⟨a0, a1, a2, a3, a4, a5, a6, a7⟩ := H3.out.boxT
    obtain ⟨p0, p1, p2, p3, p4, p5, p6, p7⟩ := H3.out.boxU
    simp only at a0 a1 a2 a3 a4 a5 a6 a7 p0 p1 p2 p3 p4 p5 p6 p7
    have kk := same_any H3.out.okU H3.out.okT
    rw [HN.out.2] at kk
    go_wp2_with fail
    refine kk.mono ?_
    rintro e w4 ⟨rfl, b4⟩
    have H4 : Hid (Two w w.heap.size w1.heap.size ⟨k, r, nm, tx, ao, n, cap, s, f, t⟩ ⟨k, r, nm, tx, ao, n, cap, s, f, (wrap64 (t + y))⟩ L L w4) := H3.out.below b4
    clear kk b4 H3
    clear a0 a1 a2 a3 a4 a5 a6 a7 p0 p1 p2 p3 p4 p5 p6 p7
    obtain ⟨a0, a1, a2, a3, a4, a5, a6, a7⟩ := H4.out.boxT
    obtain ⟨p0, p1, p2, p3, p4, p5, p6, p7⟩ := H4.out.boxU
    simp only at a0 a1 a2 a3 a4 a5 a6 a7 p0 p1 p2 p3 p4 p5 p6 p7
    have kk := same_any H4.out.okU H4.out.okU
    rw [Tk.eqb_refl] at kk
    go_wp2_with fail
    refine kk.mono ?_
    rintro e w5 ⟨rfl, b5⟩
    have H5 : Hid (Below w.heap.size w w5) := H4.out.bel.trans (b5.mono H4.out.bel.size)
    clear kk b5 H4
    clear a0 a1 a2 a3 a4 a5 a6 a7 p0 p1 p2 p3 p4 p5 p6 p7
    go_wp2_with fail
    refine (awake_any _).mono ?_
    rintro e wz ⟨rfl, bz⟩
    have HZ : Hid (Below w.heap.size w wz) := H5.out.trans (bz.mono H5.out.size)
    clear bz
    go_wp2_with fail
    go_ret
    exact ⟨rfl, HZ.out⟩
end Go.Proofs.Ytnpaodagpleiaaa
