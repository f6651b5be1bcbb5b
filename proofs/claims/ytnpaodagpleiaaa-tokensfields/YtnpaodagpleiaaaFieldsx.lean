/- The walk of the law TokensFields: the last case. -/
import Derived.Test.YtnpaodagpleiaaaFieldsw
namespace Go.Proofs.Ytnpaodagpleiaaa
open Go.ChangeShapes Go.WideShapes Go.ChangeAt Go.RowKit Go.Joins

set_option maxRecDepth 10000 in
set_option maxHeartbeats 4000000 in
theorem fields_7 (w : World) (T : Tk) (L : List At) (hT : TkOk w T L) (_hL : L.length ≤ 4398046511000) (_hnm : T.nm.size ≤ 140737488351232) (_htx : T.tx.size ≤ 140737488351232) (x y : Int) (_hy : -9223372036854775808 ≤ y ∧ y ≤ 9223372036854775807) (hm : wrap64 ((IntKind.u64.wrap x).tmod 8) = 7) :
    Calls Try.prog 6 #[T.val, .int .i64 x, .int .i64 y] w fun e w' => e = .returned (.bool true) ∧ Below w.heap.size w w' := by
  obtain ⟨k, r, nm, tx, ao, n, cap, s, f, t⟩ := T
  simp only [Tk.val, Tk.arr]
  simp only at _hnm _htx
  obtain ⟨V, hV⟩ : ∃ V, (w.alloc (.cells #[.int .i64 k, .int .i64 r, .string nm, .string tx, .slice ao n cap, .bool s, .int .i64 f, .int .i64 t] 26)).alloc (.cells #[.int .i64 k, .int .i64 r, .string nm, .string tx, .slice ao n cap, .bool s, .int .i64 f, .int .i64 t] 26) = V := ⟨_, rfl⟩
  have B := boxed hT hV
  have ks := size_any 1 1 B.2.2.2.2 rfl (by omega)
  have HB : Hid (Below w.heap.size w V ∧ TkOk V ⟨k, r, nm, tx, ao, n, cap, s, f, t⟩ L ∧ TkBox V w.heap.size ⟨k, r, nm, tx, ao, n, cap, s, f, t⟩ ∧ w.heap.size < V.heap.size) := ⟨B.1, B.2.1, B.2.2.1, B.2.2.2.1⟩
  clear hT B
  go_enter Try.func6, Try.ntmps6
  go_wp2_with fail
  refine ks.mono ?_
  rintro e w1 ⟨⟨b, rfl⟩, b1⟩
  have H1 : Hid (Below w.heap.size w w1 ∧ TkOk w1 ⟨k, r, nm, tx, ao, n, cap, s, f, t⟩ L ∧ TkBox w1 w.heap.size ⟨k, r, nm, tx, ao, n, cap, s, f, t⟩ ∧ w.heap.size < w1.heap.size) := ⟨HB.out.1.trans (b1.mono HB.out.1.size), HB.out.2.1.below b1, HB.out.2.2.1.below b1 HB.out.2.2.2, Nat.lt_of_lt_of_le HB.out.2.2.2 b1.size⟩
  clear ks hV b1 HB
  cases b with
  | false =>
    go_wp2_with fail
    refine (awake_any _).mono ?_
    rintro e wz ⟨rfl, bz⟩
    have HZ : Hid (Below w.heap.size w wz) := H1.out.1.trans (bz.mono H1.out.1.size)
    clear bz
    go_wp2_with fail
    go_ret
    exact ⟨rfl, HZ.out⟩

  | true =>
    by_cases hy0 : y = 0
    · subst hy0
      go_wp2_with fail
      refine (awake_any _).mono ?_
      rintro e wz ⟨rfl, bz⟩
      have HZ : Hid (Below w.heap.size w wz) := H1.out.1.trans (bz.mono H1.out.1.size)
      clear bz
      go_wp2_with fail
      go_ret
      exact ⟨rfl, HZ.out⟩

    have hyb := beq_false_of_ne hy0
    have l1 := H1.out.2.2.2
    obtain ⟨c0, c1, c2, c3, c4, c5, c6, c7⟩ := H1.out.2.2.1
    simp only at c0 c1 c2 c3 c4 c5 c6 c7
    obtain ⟨x0, hx0⟩ : ∃ x0 : At, x0 = ⟨⟨#[]⟩, ⟨#[]⟩⟩ := ⟨_, rfl⟩
    have hx1 : x0.n = ⟨#[]⟩ := by rw [hx0]
    have hx2 : x0.v = ⟨#[]⟩ := by rw [hx0]
    have hln : L.length = n := H1.out.2.1.len
    obtain ⟨W0, hW0⟩ : ∃ W0, w1.alloc (.cells #[.int .i64 k, .int .i64 r, .string nm, .string tx, .slice ao n cap, .bool s, .int .i64 f, .int .i64 t] 26) = W0 := ⟨_, rfl⟩
    have bW0 : Below w1.heap.size w1 W0 := by rw [← hW0]; exact (Below.refl _ _).alloc (Nat.le_refl _) _
    have y1 : W0.heap[w1.heap.size]? = some (.cells (Tk.arr ⟨k, r, nm, tx, ao, n, cap, s, f, t⟩) 26 (0, 0)) := by rw [← hW0]; exact heap_alloc_new _ _
    have sW0 : W0.heap.size = w1.heap.size + 1 := by rw [← hW0]; simp
    have hok := H1.out.2.1.below bW0
    obtain ⟨v2, w2, e2, r2, f2⟩ := row_more (nil_row W0 W0.heap.size) ao cap hok.row (Nat.le_refl _) (by simp; omega)
    rw [hok.len] at e2
    simp only at e2
    rw [List.nil_append] at r2
    have b2 : Below W0.heap.size W0 w2 := lfr_below f2 (nil_row W0 W0.heap.size) (Nat.le_refl _)
    obtain ⟨W3, hW3⟩ : ∃ W3, w2.alloc (.cells #[.string ⟨#[]⟩, .string ⟨#[]⟩] 40) = W3 := ⟨_, rfl⟩
    have b3 : Below w2.heap.size w2 W3 := by rw [← hW3]; exact (Below.refl _ _).alloc (Nat.le_refl _) _
    have hone := at_one w2 x0
    rw [hx1, hx2, hW3] at hone
    have r3 : RowIs W3 W0.heap.size v2 L := own_below r2 b3
    have hB3 : W0.heap.size ≤ W3.heap.size := Nat.le_trans b2.size b3.size
    obtain ⟨v4, w4, e4, r4, f4⟩ := row_more r3 (some ⟨w2.heap.size, 0, none⟩) 1 hone hB3 (by simp; omega)
    have b4 : Below W0.heap.size W3 w4 := lfr_below f4 r3 hB3
    have b04 : Below W0.heap.size W0 w4 := (b2.trans (b3.mono b2.size)).trans b4
    obtain ⟨ao2, ca2, hv2, _, _, _⟩ := row_at r2
    rw [hln] at hv2
    obtain ⟨bo, c2, hv4, _, _, _⟩ := row_at r4
    rw [show (L ++ [x0]).length = n + 1 by rw [List.length_append, hln]; rfl] at hv4
    subst hv2 hv4
    have t4 : TkBox w4 w1.heap.size ⟨k, r, nm, tx, ao, n, cap, s, f, t⟩ := (TkBox.of y1).below b04 (by omega)
    have z4 : ∀ j, w4.frozen? ⟨w1.heap.size, j, none⟩ = false := fun j => (World.frozen?_of_block (a := ⟨w1.heap.size, j, none⟩) (b04.block w1.heap.size (by omega))).trans (unfrozen y1 j)
    obtain ⟨X, hX⟩ : ∃ X, w4.setCell ⟨w1.heap.size, 4, none⟩ (.slice bo (n + 1) c2) = X := ⟨_, rfl⟩
    have mX : Mid w1.heap.size W0.heap.size w4 X := by rw [← hX]; exact (Mid.refl _ _ _).setCell (p := ⟨w1.heap.size, 4, none⟩) (Nat.le_refl _) (by show w1.heap.size < _; omega) _
    have tX : TkBox X w1.heap.size ⟨k, r, nm, tx, bo, n + 1, c2, s, f, t⟩ := by
      rw [← hX]
      exact ⟨(cell_ne (by decide)).trans t4.c0, (cell_ne (by decide)).trans t4.c1, (cell_ne (by decide)).trans t4.c2, (cell_ne (by decide)).trans t4.c3, World.cell?_setCell_same _ _ _ t4.c4, (cell_ne (by decide)).trans t4.c5, (cell_ne (by decide)).trans t4.c6, (cell_ne (by decide)).trans t4.c7⟩
    have bX : Below w1.heap.size w1 X := (bW0.trans (b04.mono (by omega))).trans mX.below
    obtain ⟨bo', c2', e', arX, _, _⟩ := row_at (mX.row r4)
    rw [show (L ++ [x0]).length = n + 1 by rw [List.length_append, hln]; rfl] at e'
    simp only [Value.slice.injEq, true_and] at e'
    obtain ⟨rfl, rfl⟩ := e'
    have HX : Hid (Two w w.heap.size w1.heap.size ⟨k, r, nm, tx, ao, n, cap, s, f, t⟩ ⟨k, r, nm, tx, bo, n + 1, c2, s, f, t⟩ L (L ++ [x0]) X) := ⟨H1.out.1.trans (bX.mono H1.out.1.size), H1.out.2.1.below bX, H1.out.2.2.1.below bX H1.out.2.2.2, Nat.lt_of_lt_of_le H1.out.2.2.2 bX.size, ⟨by rw [List.length_append, hln]; rfl, arX, by show n + 1 ≤ _; omega⟩, tX, by have := b04.size; have := mX.size; omega⟩
    have HN : Hid (Tk.eqb ⟨k, r, nm, tx, ao, n, cap, s, f, t⟩ ⟨k, r, nm, tx, bo, n + 1, c2, s, f, t⟩ L (L ++ [x0]) = false ∧ Tk.eqb ⟨k, r, nm, tx, bo, n + 1, c2, s, f, t⟩ ⟨k, r, nm, tx, ao, n, cap, s, f, t⟩ (L ++ [x0]) L = false) := by
      show _ ∧ _
      have q1 : eqL L (L ++ [x0]) = false := eqL_len (by simp)
      have q2 : eqL (L ++ [x0]) L = false := eqL_len (by simp)
      unfold Tk.eqb
      rw [q1, q2]
      simp
    obtain ⟨t0, t1, t2, t3, t4', t5, t6, t7⟩ := t4
    have y4 := (TkBox.of y1).c4
    simp only at t0 t1 t2 t3 t4' t5 t6 t7 y4
    obtain ⟨s0, s1, s2, s3, s4, s5, s6, s7⟩ := H1.out.2.2.1.below (bW0.trans (b04.mono (by omega))) H1.out.2.2.2
    simp only at s0 s1 s2 s3 s4 s5 s6 s7
    have HE : Hid (_ = X) := hX
    have l2 : w1.heap.size < W0.heap.size := by omega
    have l4 : w1.heap.size < w4.heap.size := Nat.lt_of_lt_of_le l2 b04.size
    have HH : Hid (w1.alloc (.cells #[.int .i64 k, .int .i64 r, .string nm, .string tx, .slice ao n cap, .bool s, .int .i64 f, .int .i64 t] 26) = W0) := hW0
    clear bW0 y1 hok r2 f2 b2 b3 hone r3 hB3 r4 f4 b4 b04 mX tX bX arX hX hx0 hx1 hx2 sW0 hW0
    go_upto_region 20 with fail
    rw [HH.out]
    clear HH
    simp only [List.length_singleton] at e4
    go_wp2_with (at_builtin; first | refine list_append_eq rfl _ _ 22 22 rfl _ _ rfl rfl e2 ?_ | refine list_append_eq rfl _ _ 22 22 rfl _ _ rfl rfl e4 ?_)
    rw [HE.out]
    clear HE s0 s1 s2 s3 s4 s5 s6 s7 t0 t1 t2 t3 t4' t5 t6 t7 y4 e2 e4 z4 hW3 hm c0 c1 c3 c4 c5 c6 c7
    have kk := same_any HX.out.okT HX.out.okU
    rw [HN.out.1] at kk
    refine kk.mono ?_
    rintro e w3 ⟨rfl, b3⟩
    have H3 : Hid (Two w w.heap.size w1.heap.size ⟨k, r, nm, tx, ao, n, cap, s, f, t⟩ ⟨k, r, nm, tx, bo, n + 1, c2, s, f, t⟩ L (L ++ [x0]) w3) := HX.out.below b3
    clear kk b3 HX
    obtain ⟨a0, a1, a2, a3, a4, a5, a6, a7⟩ := H3.out.boxT
    obtain ⟨p0, p1, p2, p3, p4, p5, p6, p7⟩ := H3.out.boxU
    simp only at a0 a1 a2 a3 a4 a5 a6 a7 p0 p1 p2 p3 p4 p5 p6 p7
    have kk := same_any H3.out.okU H3.out.okT
    rw [HN.out.2] at kk
    go_wp2_with fail
    refine kk.mono ?_
    rintro e w4 ⟨rfl, b4⟩
    have H4 : Hid (Two w w.heap.size w1.heap.size ⟨k, r, nm, tx, ao, n, cap, s, f, t⟩ ⟨k, r, nm, tx, bo, n + 1, c2, s, f, t⟩ L (L ++ [x0]) w4) := H3.out.below b4
    clear kk b4 H3
    clear a0 a1 a2 a3 a4 a5 a6 a7 p0 p1 p2 p3 p4 p5 p6 p7
    obtain ⟨a0, a1, a2, a3, a4, a5, a6, a7⟩ := H4.out.boxT
    obtain ⟨p0, p1, p2, p3, p4, p5, p6, p7⟩ := H4.out.boxU
    simp only at a0 a1 a2 a3 a4 a5 a6 a7 p0 p1 p2 p3 p4 p5 p6 p7
    have kk := same_any H4.out.okU H4.out.okU
    rw [Tk.eqb_refl] at kk
    go_wp2_with fail
    refine kk.mono ?_
    rintro e w5 ⟨rfl, b5⟩
    have H5 : Hid (Below w.heap.size w w5) := H4.out.bel.trans (b5.mono H4.out.bel.size)
    clear kk b5 H4
    clear a0 a1 a2 a3 a4 a5 a6 a7 p0 p1 p2 p3 p4 p5 p6 p7
    go_wp2_with fail
    refine (awake_any _).mono ?_
    rintro e wz ⟨rfl, bz⟩
    have HZ : Hid (Below w.heap.size w wz) := H5.out.trans (bz.mono H5.out.size)
    clear bz
    go_wp2_with fail
    go_ret
    exact ⟨rfl, HZ.out⟩
end Go.Proofs.Ytnpaodagpleiaaa
