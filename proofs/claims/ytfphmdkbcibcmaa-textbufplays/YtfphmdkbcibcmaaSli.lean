/- The law TextbufSlices holds for every text, edit and place: slices that stand together are the text. No condition. -/
import Derived.Test.YtfphmdkbcibcmaaNone
namespace Go.Proofs.Ytfphmdkbcibcmaa
open Go.ChangeShapes Go.WideShapes Go.ChangeAt Go.RowKit Go.Joins

theorem sliceH_ok {B b : Nat} {most : Int} {t : List UInt8} {olds : List (List UInt8)} {w : World} (h : BufH B b most t olds w) (f k : Nat) (fz kz : Int) (hfz : fz = (f : Int)) (hkz : kz = (k : Int)) (hf : f ≤ k) (hk : k ≤ t.length) (G : ByteArray) (hG : (⟨((t.take k).drop f).toArray⟩ : ByteArray) = G) :
    Calls Try.prog 17 #[.pointer (some ⟨b, 0, none⟩), .int .i64 fz, .int .i64 kz] w fun e w' => e = .returned (.tuple #[.string G, .int .i64 0]) ∧ Below w.heap.size w w' := by
  obtain ⟨r, h1, h2⟩ := h.is
  have := h.le; have := h.max
  subst hfz; subst hkz; subst hG
  exact slice_ok B b most t _ w h1 (by omega) f k hf hk

set_option maxHeartbeats 400000 in
theorem sli_long (s s2 : ByteArray) (x y k : Int) (w : World) (h : 5000 < s.size ∨ 5000 < s2.size) :
    Calls Try.prog 6 #[.string s, .agg #[.int .i64 x, .int .i64 y, .string s2], .int .i64 k] w fun e w' => e = .returned (.bool true) ∧ Below w.heap.size w w' := by
  have hb0 : Below w.heap.size w (w.alloc (.cells #[.int .i64 x, .int .i64 y, .string s2] 31)) := (Below.refl _ _).alloc (Nat.le_refl _) _
  by_cases c : 5000 < s.size
  · go_enter Try.func6, Try.ntmps6
    go_wp2_with (go_at_call 18; refine (awake_any _).mono ?_; rintro e w2 ⟨rfl, b2⟩)
    all_goals (go_ret; exact ⟨rfl, hb0.trans (b2.mono (by simp))⟩)
  · have c2 : 5000 < s2.size := by omega
    go_enter Try.func6, Try.ntmps6
    go_wp2_with (go_at_call 18; refine (awake_any _).mono ?_; rintro e w2 ⟨rfl, b2⟩)
    all_goals (go_ret; exact ⟨rfl, hb0.trans (b2.mono (by simp))⟩)

/-- Splice, whatever it answers. -/
theorem splice_some {B b : Nat} {most : Int} {t : List UInt8} {w : World} (h : BufH B b most t [] w) (x y : Int) (s : ByteArray) :
    Calls Try.prog 12 #[.pointer (some ⟨b, 0, none⟩), .agg #[.int .i64 x, .int .i64 y, .string s]] w fun e w' => ∃ (n : Int) (t' : List UInt8) (o' : List (List UInt8)), e = .returned (.int .i64 n) ∧ BufH B b most t' o' w' ∧ Below B w w' := by
  by_cases hin : InB t.length x y
  · by_cases hs : most - ((t.length : Int) - y) < (s.size : Int)
    · refine (spliceH_size h x y s hin hs).mono ?_
      rintro e w' ⟨he, hb⟩
      exact ⟨2, t, [], he, h.below hb, hb.mono h.base⟩
    · refine (spliceH_ok h x y s hin (by omega) (by simp)).mono ?_
      rintro e w' ⟨he, hb, hk⟩
      exact ⟨0, _, _, he, hb, hk.below h.base⟩
  · refine (spliceH_range h x y s hin).mono ?_
    rintro e w' ⟨he, hb⟩
    exact ⟨1, t, [], he, h.below hb, hb.mono h.base⟩

set_option maxHeartbeats 1000000 in
theorem sli_short (s s2 : ByteArray) (x y k : Int) (w : World) (h1 : s.size ≤ 5000) (h2 : s2.size ≤ 5000) :
    Calls Try.prog 6 #[.string s, .agg #[.int .i64 x, .int .i64 y, .string s2], .int .i64 k] w fun e w' => e = .returned (.bool true) ∧ Below w.heap.size w w' := by
  have hb0 : Below w.heap.size w (w.alloc (.cells #[.int .i64 x, .int .i64 y, .string s2] 31)) := (Below.refl _ _).alloc (Nat.le_refl _) _
  have hE0 : (w.alloc (.cells #[.int .i64 x, .int .i64 y, .string s2] 31)).heap[w.heap.size]? = some (.cells #[.int .i64 x, .int .i64 y, .string s2] 31 (0, 0)) := heap_alloc_new _ _
  have hz0 : (w.alloc (.cells #[.int .i64 x, .int .i64 y, .string s2] 31)).heap.size = w.heap.size + 1 := by simp
  have HZ : Hid ((w.alloc (.cells #[.int .i64 x, .int .i64 y, .string s2] 31)).heap.size = w.heap.size + 1) := hz0
  clear hz0
  go_enter Try.func6, Try.ntmps6
  go_wp2_with fail
  refine (newH s 65536 _ (by omega) (by omega)).mono ?_
  rintro e w1 ⟨rfl, hb, b1⟩
  rw [HZ.out] at b1 hb
  have b01 : Below w.heap.size w w1 := hb0.trans (b1.mono (by omega))
  have hE1 : w1.heap[w.heap.size]? = some (.cells #[.int .i64 x, .int .i64 y, .string s2] 31 (0, 0)) := (b1.block w.heap.size (by omega)).trans hE0
  obtain ⟨e10, e11, e12⟩ := ed_cells hE1
  have z1 : w.heap.size + 1 ≤ w1.heap.size := by have := b1.size; rw [HZ.out] at this; exact this
  go_wp2_with fail
  refine (splice_some hb x y s2).mono ?_
  rintro e w2 ⟨n, t, olds, rfl, hb2, b2⟩
  have z2 := b2.size
  have hle := hb2.le
  go_wp2_with fail
  refine (textH hb2).mono ?_
  rintro e w3 ⟨rfl, b3⟩
  have hb3 := hb2.below b3
  have z3 := b3.size
  go_wp2_with fail
  obtain ⟨m, hm, hml⟩ : ∃ m : Nat, wrap64 ((IntKind.u64.wrap k).tmod ((t.length : Int) + 1)) = (m : Int) ∧ m ≤ t.length := by
    have hw := wrap_u64_nonneg k
    generalize IntKind.u64.wrap k = u at hw
    rw [Int.tmod_eq_emod_of_nonneg hw]
    have a1 := Int.emod_nonneg u (show ((t.length : Int) + 1) ≠ 0 by omega)
    have a2 := Int.emod_lt_of_pos u (show 0 < ((t.length : Int) + 1) by omega)
    refine ⟨(u % ((t.length : Int) + 1)).toNat, ?_, by omega⟩
    unfold wrap64
    omega
  rw [hm]
  clear hm
  obtain ⟨G1, hG1⟩ : ∃ G1, (⟨((t.take m).drop 0).toArray⟩ : ByteArray) = G1 := ⟨_, rfl⟩
  obtain ⟨G2, hG2⟩ : ∃ G2, (⟨((t.take t.length).drop m).toArray⟩ : ByteArray) = G2 := ⟨_, rfl⟩
  have g1 : G1.size = m := by rw [← hG1]; show ((t.take m).drop 0).toArray.size = m; simp; omega
  have g2 : (G1 ++ G2).toList = t := by rw [← hG1, ← hG2]; simp [Lib.toList_data]
  have g3 : G2.size ≤ 65536 := by rw [← hG2]; show ((t.take t.length).drop m).toArray.size ≤ 65536; simp; omega
  have HG1 : Hid ((⟨((t.take m).drop 0).toArray⟩ : ByteArray) = G1) := hG1
  have HG2 : Hid ((⟨((t.take t.length).drop m).toArray⟩ : ByteArray) = G2) := hG2
  clear hG1 hG2
  refine (sliceH_ok hb3 0 m _ _ rfl rfl (Nat.zero_le _) hml G1 HG1.out).mono ?_
  rintro e w4 ⟨rfl, b4⟩
  have hb4 := hb3.below b4
  have z4 := b4.size
  go_wp2_with fail
  refine (sliceH_ok hb4 m t.length _ _ rfl rfl hml (Nat.le_refl _) G2 HG2.out).mono ?_
  rintro e w5 ⟨rfl, b5⟩
  have z5 := b5.size
  go_wp2_with (go_at_call 18; refine (awake_any _).mono ?_; rintro e w6 ⟨rfl, b6⟩)
  go_ret
  exact ⟨rfl, b01.trans ((b2.mono (by omega)).trans ((b3.mono (by omega)).trans ((b4.mono (by omega)).trans ((b5.mono (by omega)).trans (b6.mono (by omega))))))⟩

theorem sli_walk (s s2 : ByteArray) (x y k : Int) (w : World) :
    Calls Try.prog 6 #[.string s, .agg #[.int .i64 x, .int .i64 y, .string s2], .int .i64 k] w fun e w' => e = .returned (.bool true) ∧ Below w.heap.size w w' := by
  by_cases h : 5000 < s.size ∨ 5000 < s2.size
  · exact sli_long s s2 x y k w h
  · exact sli_short s s2 x y k w (by omega) (by omega)

set_option maxRecDepth 100000 in
theorem sli_lifted (os : Os) (started : os.Started) (H : Type) (enc : TypeId × Value → H) :
    ReturnsInHanded {} Try.checked os 6 .any (Rows.textbufSlicesSpec.pre6 enc Try.prog Try.f6 Rows.textbufSlicesRow.domain false) (Rows.textbufSlicesSpec.post enc Try.prog Try.f6 false true false false) := by
  refine returnsInHanded_of_change (C := Try.checked) own started (by kernel_rfl) Try.func6
    (ChangeSpec.witness6 (enc := enc) (C := Try.checked) false ⟨#[], #[.string ⟨#[]⟩, .agg #[.int .i64 0, .int .i64 0, .string ⟨#[]⟩], .int .i64 0], []⟩ 8 (by kernel_rfl) (by kernel_rfl) (by kernel_rfl) (by kernel_rfl)) ?_
  intro W base args ds gs before hval0 hW hcnd _
  have hval : ∀ (j : Nat) t v, Try.f6.params[j]? = some t → args[j]? = some v → Value.okWide Try.prog W .any base t v := hval0
  have hW' := hW
  obtain ⟨p, q, hA0, hV, rfl, hfz, hnd⟩ := hW
  have hA : DataW.TrodAll enc Try.prog W 0 (fun _ => true) true Try.f6.params.toList args.toList ds p := hA0
  rw [Try.params6] at hA hval
  obtain ⟨v0, vs0, d0, ds0, p0, q0, hargs, rfl, rfl, h0, r0⟩ := trodAll_cons hA
  obtain ⟨v1, vs1, d1, ds1, p1, q1, rfl, rfl, rfl, h1, r1⟩ := trodAll_cons r0
  obtain ⟨v2, vs2, d2, ds2, p2, q2, rfl, rfl, rfl, h2, r2⟩ := trodAll_cons r1
  obtain ⟨rfl, rfl, rfl⟩ := trodAll_nil r2
  obtain rfl : args = #[v0, v1, v2] := by cases args; simp_all
  obtain ⟨rfl, rfl⟩ := trodVars_none hV
  have k0 := h0
  have lt0 : ∀ x ∈ p0, x.block < W.heap.size := by obtain ⟨m, hm⟩ := k0; exact DataW.trod_lt m _ _ _ hm
  have k1 := h1
  have lt1 : ∀ x ∈ p1, x.block < W.heap.size := by obtain ⟨m, hm⟩ := k1; exact DataW.trod_lt m _ _ _ hm
  have k2 := h2
  have lt2 : ∀ x ∈ p2, x.block < W.heap.size := by obtain ⟨m, hm⟩ := k2; exact DataW.trod_lt m _ _ _ hm
  obtain ⟨s0, hv0, _, _, ws0⟩ := Go.ChangeMaps.open_string Try.underlying9 (hval 0 9 v0 rfl rfl) h0
  obtain ⟨c0, c1, c2, y0, y1, y2, m, hv1, _, _, hy0, hy1, hy2⟩ := open_agg3 Try.underlying31 (by kernel_rfl) cells31 (hval 1 31 v1 rfl rfl) h1
  obtain ⟨a, e0, _, wa⟩ := DataW.trod_int Try.underlying3 hy0
  obtain ⟨b, e1, _, wb⟩ := DataW.trod_int Try.underlying3 hy1
  obtain ⟨s, e2, _, ws⟩ := DataW.trod_string Try.underlying9 hy2
  obtain ⟨k, hv2, _, _, wk⟩ := open_int Try.underlying3 (hval 2 3 v2 rfl rfl) h2
  simp only [List.cons.injEq, and_true] at e0 e1 e2
  subst e0 e1 e2 hv0 hv1 hv2
  clear hA0 hval0
  refine (sli_walk s0 s a b k W).mono fun e W' ⟨he, bel⟩ => ?_
  subst he
  exact ⟨_, rfl, _, _, _, [], _, [], hW', trodAll_mk1 (shut_bool Try.underlying4 _), (trodAll_cons_mk (Below.trod laidOut (by kernel_rfl) (of_decide_eq_true (by kernel_rfl)) k0 bel lt0) (trodAll_cons_mk (Below.trod laidOut (by kernel_rfl) (of_decide_eq_true (by kernel_rfl)) k1 bel lt1) (trodAll_cons_mk (Below.trod laidOut (by kernel_rfl) (of_decide_eq_true (by kernel_rfl)) k2 bel lt2) trodAll_mk0))), rfl, bel.frame _, fun h => by cases h⟩

theorem slices_holds : Rows.TextbufSlicesSaid :=
  OpenClaim.holds_of_wide 6 Try.f6 rfl rfl rfl rfl rfl rfl rfl ⟨rfl, rfl, rfl, rfl, rfl⟩ rfl rfl rfl rfl rfl (by kernel_rfl) Try.func6 (by kernel_rfl)
    (of_decide_eq_true (by kernel_rfl)) (by unfold Func.isWrapper; first | (rw [if_pos (by decide +kernel)]; kernel_rfl) | (rw [if_neg (by decide +kernel)]; exact ⟨rfl, rfl⟩))
    (fun os started H enc _ => sli_lifted os started H enc)
#print axioms slices_holds
end Go.Proofs.Ytfphmdkbcibcmaa
