/- The law AttrsOrder holds for every list and every number: a list and the same list turned by any number of places are the same, and sorted alike. No condition. -/
import Derived.Test.YtibndgembpcdgaaBase
import Derived.Test.YtibndgembpcdgaaRa
import Derived.Test.YtibndgembpcdgaaSo
namespace Go.Proofs.Ytibndgembpcdgaa
open Go.ChangeShapes Go.WideShapes Go.ChangeAt Go.RowKit Go.Joins

theorem turn_num (x : Int) (len : Nat) (h : 0 < len) (hb : len ≤ 400) : ∃ k : Nat, wrap64 ((IntKind.u64.wrap x).tmod (len : Int)) = (k : Int) ∧ k < len := by
  have h0 : 0 ≤ IntKind.u64.wrap x := by simp [IntKind.wrap, IntKind.bits, IntKind.signed]; omega
  obtain ⟨n, hn⟩ := Int.eq_ofNat_of_zero_le h0
  rw [hn]
  refine ⟨n % len, ?_, Nat.mod_lt _ h⟩
  have e : (n : Int).tmod (len : Int) = ((n % len : Nat) : Int) := by rw [Int.tmod_eq_emod_of_nonneg (by omega)]; simp
  rw [e]
  have := Nat.mod_lt n h
  unfold wrap64
  omega

/-- A row turned by k places. -/
theorem turn_a {W : World} {ao bo : Option Addr} {A : List At} {k n : Nat} (cap c2 : Nat) (hk : k ≤ A.length) (hn : A.length ≤ 900) (h1 : AtRow W ao (A.drop k)) (h2 : AtRow W bo (A.take k)) (hnk : A.length - k = n) :
    ∃ v1 w1 v2 w2, (Builtin.append_ #[22, 22] 22 #[.slice none 0 0, .slice ao n cap]).run Try.prog W.drew = .ok v1 w1 ∧
      (Builtin.append_ #[22, 22] 22 #[v1, .slice bo k c2]).run Try.prog w1 = .ok v2 w2 ∧ Put1 W (A.drop k ++ A.take k) v2 w2 := by
  subst hnk
  have hlk : (A.take k).length = k := by rw [List.length_take]; omega
  have hdk : (A.drop k).length = A.length - k := List.length_drop
  have bW : Below W.heap.size W W.drew := (Below.refl _ _).drew
  obtain ⟨v1, w1, e1, r1, f1⟩ := row_more (w := W.drew) (B := W.heap.size) (L := []) (World.ownsRow_nil _ _ _ _) ao cap (h1.below bW) (Nat.le_refl _) (by simp) (by omega)
  rw [hdk] at e1
  rw [List.nil_append] at r1
  have b1 : Below W.heap.size W w1 := bW.trans (lfr_below f1 (World.ownsRow_nil _ _ 24 2) (Nat.le_refl _))
  obtain ⟨v2, w2, e2, r2, f2⟩ := row_more r1 _ c2 (h2.below b1) b1.size (by omega) (by omega)
  have b2 : Below W.heap.size W w2 := b1.trans (lfr_below f2 r1 b1.size)
  rw [hlk] at e2
  obtain ⟨co, c3, rfl, g1, g2, g3⟩ := row_at r2
  exact ⟨v1, w1, _, w2, e1, e2, co, _, c3, rfl, rfl, g1, g2, g3, b2⟩

theorem append_none (W : World) (ao : Option Addr) (c : Nat) : (Builtin.append_ #[22, 22] 22 #[.slice none 0 0, .slice ao 0 c]).run Try.prog W = .ok (.slice none 0 0) W := by
  obtain ⟨i0, hi, hz0, hz1, hz2⟩ := info_parts info24
  have hs : Src Try.prog i0.size 22 (.slice ao 0 c) 0 [] W := by
    cases ao with
    | none => exact Src.ofNil W Try.underlying22 c
    | some a => exact Src.ofSlice W Try.underlying22 a 0 c [] (by simp) (by simp) (by simp)
  exact run_append_nothing (P := Try.prog) W 22 22 22 24 i0 Try.underlying22 hi none 0 0 (Nat.le_refl _) _ hs

theorem fine_turn {L : List At} (h : Fine L) (k : Nat) : Fine (L.drop k ++ L.take k) := fun x hx => h x ((rotate_perm L k).mem_iff.2 hx)

set_option linter.unusedSimpArgs false in
set_option maxRecDepth 10000 in
set_option maxHeartbeats 4000000 in
theorem order_walk (w : World) (lo : Option Addr) (len cap : Nat) (L : List At) (hL : Came w lo len cap L) (hb : len ≤ 1000000000000000) (x : Int) (_hx : -9223372036854775808 ≤ x ∧ x ≤ 9223372036854775807) :
    Calls Try.prog 5 #[.slice lo len cap, .int .i64 x] w fun e w' => e = .returned (.bool true) ∧ Below w.heap.size w w' := by
  obtain ⟨U, hU⟩ : ∃ U, w.alloc (.cells #[.slice lo len cap] 22) = U := ⟨_, rfl⟩
  obtain ⟨hUl, u0, bU⟩ := one_slot _ hU
  have hfe := few_one lo len cap u0 hb
  have HR : Hid (Came w lo len cap L ∧ Below w.heap.size w U) := ⟨hL, bU⟩
  clear bU hL u0 hUl
  by_cases hfew : len ≤ 400
  · rw [decide_eq_true hfew] at hfe
    go_enter Try.func5, Try.ntmps5
    go_wp2_with fail
    refine hfe.mono ?_
    rintro e w0 ⟨rfl, rfl⟩
    clear hfe hU
    by_cases h0 : len = 0
    · subst h0
      go_upto_region 6 with fail
      obtain ⟨R, hRR⟩ : ∃ R, R = ([] : List At) := ⟨_, rfl⟩
      have hLn : L = [] := List.eq_nil_of_length_eq_zero HR.out.1.hlen
      have hpe : L.Perm R := by rw [hLn, hRR]
      have hfR : Fine R := by rw [hRR]; exact fun x hx => by simp at hx
      have HM : Hid (AtRow w0.drew none R ∧ Below w.heap.size w w0.drew ∧ R.length = 0 ∧ L.Perm R ∧ Fine R) := ⟨by rw [hRR]; exact AtRow.nil _ _, HR.out.2.drew, by rw [hRR]; rfl, hpe, hfR⟩
      clear hRR hLn hpe hfR
      have e1 := append_none w0.drew lo cap
      go_region_law (first | (refine step_append_eq rfl _ _ 22 22 rfl _ _ (by simp [Act.eval, Act.put]) (by simp [Act.eval, Act.put]) e1 ?_))
      clear e1

      have ka := same_any 0 0 cap 0 (HR.out.1.row.below HM.out.2.1) HM.out.1 HR.out.1.hlen HM.out.2.2.1 (by omega) (by omega) HR.out.1.fine HM.out.2.2.2.2
      rw [same_perm HM.out.2.2.2.1] at ka
      go_wp2_with fail
      refine ka.mono ?_
      rintro e w3 ⟨rfl, b3⟩
      clear ka
      have b3' : Below w.heap.size w w3 := HM.out.2.1.trans (b3.mono HM.out.2.1.size)
      have kd := sorted_any 0 cap (HR.out.1.row.below b3') HR.out.1.hlen (by omega)
      have H3 : Hid (AtRow w3 none R ∧ Below w.heap.size w w3) := ⟨HM.out.1.below b3, b3'⟩
      clear b3 b3'
      go_wp2_with fail
      refine kd.mono ?_
      rintro e w4 ⟨xo, xc, rfl, x4, b4⟩
      clear kd
      have b4' : Below w.heap.size w w4 := H3.out.2.trans (b4.mono H3.out.2.size)
      have ke := sorted_any 0 0 (H3.out.1.below b4) HM.out.2.2.1 (by omega)
      rw [← sort_perm HM.out.2.2.2.1] at ke
      have H4 : Hid (AtRow w4 xo (sortP L) ∧ Below w.heap.size w w4) := ⟨x4, b4'⟩
      clear b4 b4' x4
      go_wp2_with fail
      refine ke.mono ?_
      rintro e w5 ⟨yo, yc, rfl, y5, b5⟩
      clear ke
      have kf := equal_same 0 xc yc (H4.out.1.below b5) y5 (by rw [sort_len]; exact HR.out.1.hlen) (by omega)
      have H5 : Hid (Below w.heap.size w w5) := H4.out.2.trans (b5.mono H4.out.2.size)
      clear y5 b5
      go_wp2_with fail
      refine kf.mono ?_
      rintro e w6 ⟨rfl, b6⟩
      clear kf
      have H6 : Hid (Below w.heap.size w w6) := H5.out.trans (b6.mono H5.out.size)
      clear b6
      go_wp2_with fail
      refine (awake_any w6).mono ?_
      rintro e w9 ⟨rfl, b9⟩
      have H9 : Hid (Below w.heap.size w w9) := H6.out.trans (b9.mono H6.out.size)
      clear b9
      go_wp2_with fail
      go_ret
      exact ⟨rfl, H9.out⟩

    · have hpos : decide ((0 : Int) < (len : Int)) = true := decide_eq_true (by omega)
      obtain ⟨k, hk, hkl⟩ := turn_num x len (by omega) hfew
      go_upto_region 6 with fail
      have hkc : k ≤ cap := Nat.le_trans (Nat.le_of_lt hkl) HR.out.1.hcap
      have hcm := HR.out.1.hmax
      have hcm' : cap ≤ 9223372036854775807 := by unfold maxLen at hcm; omega
      have hlc := HR.out.1.hcap
      have hkc2 : (k : Int) ≤ (cap : Int) := by omega
      have hkn2 : (k : Int) ≤ (len : Int) := by omega
      have hlc2 : (len : Int) ≤ (cap : Int) := by omega
      have hLl := HR.out.1.hlen
      obtain ⟨v1, w1, v2, w2, e1, e2, ⟨mo, n2, mc, rfl, p1, p2, p3, p4, p5⟩⟩ := turn_a (W := w0) (A := L) (n := len - k) (k := k) (cap - k) cap (by omega) (by omega) (at_drop (HR.out.1.row.below HR.out.2) k cap (by omega)) (at_take (HR.out.1.row.below HR.out.2) k) (by omega)
      obtain rfl : len = n2 := by rw [← p1, List.length_append, List.length_drop, List.length_take]; omega
      obtain ⟨R, hRR⟩ : ∃ R, L.drop k ++ L.take k = R := ⟨_, rfl⟩
      rw [hRR] at p1 p2
      have HM : Hid (AtRow w2 mo R ∧ Below w.heap.size w w2 ∧ R.length = len ∧ L.Perm R ∧ Fine R) := ⟨p2, HR.out.2.trans (p5.mono HR.out.2.size), p1, by rw [← hRR]; exact rotate_perm L k, by rw [← hRR]; exact fine_turn HR.out.1.fine k⟩
      clear hRR hLl hcm
      go_region_law (first
        | (refine step_append_eq rfl _ _ 22 22 rfl _ _ (by simp [Act.eval, Act.put]) (by simp [Act.eval, Act.put]) e1 ?_)
        | (refine step_append_eq rfl _ _ 22 22 rfl _ _ (by simp [Act.eval, Act.put]) (by simp [Act.eval, Act.put]) e2 ?_))
      clear e1 e2
      clear p1 p2 p5
      have ka := same_any len len cap mc (HR.out.1.row.below HM.out.2.1) HM.out.1 HR.out.1.hlen HM.out.2.2.1 (by omega) (by omega) HR.out.1.fine HM.out.2.2.2.2
      rw [same_perm HM.out.2.2.2.1] at ka
      go_wp2_with fail
      refine ka.mono ?_
      rintro e w3 ⟨rfl, b3⟩
      clear ka
      have b3' : Below w.heap.size w w3 := HM.out.2.1.trans (b3.mono HM.out.2.1.size)
      have kd := sorted_any len cap (HR.out.1.row.below b3') HR.out.1.hlen (by omega)
      have H3 : Hid (AtRow w3 mo R ∧ Below w.heap.size w w3) := ⟨HM.out.1.below b3, b3'⟩
      clear b3 b3'
      go_wp2_with fail
      refine kd.mono ?_
      rintro e w4 ⟨xo, xc, rfl, x4, b4⟩
      clear kd
      have b4' : Below w.heap.size w w4 := H3.out.2.trans (b4.mono H3.out.2.size)
      have ke := sorted_any len mc (H3.out.1.below b4) HM.out.2.2.1 (by omega)
      rw [← sort_perm HM.out.2.2.2.1] at ke
      have H4 : Hid (AtRow w4 xo (sortP L) ∧ Below w.heap.size w w4) := ⟨x4, b4'⟩
      clear b4 b4' x4
      go_wp2_with fail
      refine ke.mono ?_
      rintro e w5 ⟨yo, yc, rfl, y5, b5⟩
      clear ke
      have kf := equal_same len xc yc (H4.out.1.below b5) y5 (by rw [sort_len]; exact HR.out.1.hlen) (by omega)
      have H5 : Hid (Below w.heap.size w w5) := H4.out.2.trans (b5.mono H4.out.2.size)
      clear y5 b5
      go_wp2_with fail
      refine kf.mono ?_
      rintro e w6 ⟨rfl, b6⟩
      clear kf
      have H6 : Hid (Below w.heap.size w w6) := H5.out.trans (b6.mono H5.out.size)
      clear b6
      go_wp2_with fail
      refine (awake_any w6).mono ?_
      rintro e w9 ⟨rfl, b9⟩
      have H9 : Hid (Below w.heap.size w w9) := H6.out.trans (b9.mono H6.out.size)
      clear b9
      go_wp2_with fail
      go_ret
      exact ⟨rfl, H9.out⟩

  · rw [decide_eq_false hfew] at hfe
    go_enter Try.func5, Try.ntmps5
    go_wp2_with fail
    refine hfe.mono ?_
    rintro e w0 ⟨rfl, rfl⟩
    clear hfe hU
    go_wp2_with fail
    refine (awake_any _).mono ?_
    rintro e w4 ⟨rfl, b4⟩
    have H4 : Hid (Below w.heap.size w w4) := HR.out.2.trans (b4.mono HR.out.2.size)
    clear b4
    go_wp2_with fail
    go_ret
    exact ⟨rfl, H4.out⟩

set_option maxRecDepth 100000 in
theorem order_lifted (os : Os) (started : os.Started) (H : Type) (enc : TypeId × Value → H) :
    ReturnsInHanded {} Try.checked os 5 .any (Rows.attrsOrderSpec.pre6 enc Try.prog Try.f5 Rows.attrsOrderRow.domain false) (Rows.attrsOrderSpec.post enc Try.prog Try.f5 false true false false) := by
  refine returnsInHanded_of_change_sized (C := Try.checked) own started (by kernel_rfl) Try.func5
    (ChangeSpec.witness6 (enc := enc) (C := Try.checked) false ⟨#[], #[.slice none 0 0, .int .i64 0], []⟩ 8 (by kernel_rfl) (by kernel_rfl) (by kernel_rfl) (by kernel_rfl)) ?_
  intro W base args ds gs before hval0 hW hcnd hz0 _
  have hval : ∀ (j : Nat) t v, Try.f5.params[j]? = some t → args[j]? = some v → Value.okWide Try.prog W .any base t v := hval0
  have hz : (DataW.weightsEach Try.prog (Try.f5.params.toList ++ Rows.attrsOrderSpec.plain.varTypes Try.prog) (ds ++ gs)).all (· ≤ reachBytes) = true := hz0
  have hW' := hW
  obtain ⟨p, q, hA0, hV, rfl, hfz, hnd⟩ := hW
  have hA : DataW.TrodAll enc Try.prog W 0 (fun _ => true) true Try.f5.params.toList args.toList ds p := hA0
  rw [Try.params5] at hA hval hz
  obtain ⟨v0, vs0, d0, ds0, p0, q0, hargs, rfl, rfl, h0, r0⟩ := trodAll_cons hA
  obtain ⟨v1, vs1, d1, ds1, p1, q1, rfl, rfl, rfl, h1, r1⟩ := trodAll_cons r0
  obtain ⟨rfl, rfl, rfl⟩ := trodAll_nil r1
  obtain rfl : args = #[v0, v1] := by cases args; simp_all
  obtain ⟨rfl, rfl⟩ := trodVars_none hV
  have k0 := h0
  have lt0 : ∀ x ∈ p0, x.block < W.heap.size := by obtain ⟨m, hm⟩ := k0; exact DataW.trod_lt m _ _ _ hm
  have k1 := h1
  have lt1 : ∀ x ∈ p1, x.block < W.heap.size := by obtain ⟨m, hm⟩ := k1; exact DataW.trod_lt m _ _ _ hm
  obtain ⟨lo0, len0, cap0, hv0⟩ := okWide_slice Try.underlying22 (hval 0 22 v0 rfl rfl)
  subst hv0
  obtain ⟨fuel0, hf0⟩ := h0
  obtain ⟨L0, hL0, hx0⟩ := open_attrs (n := fuel0) (by simpa [Value.cells] using hf0)
  have hb0 : len0 ≤ 1000000000000000 := came_bound (j := 0) hz rfl rfl hx0
  obtain ⟨x1, hv1, _, _, wx1⟩ := open_int Try.underlying3 (hval 1 3 v1 rfl rfl) h1
  subst hv1
  clear hA0 hval0 hz0
  refine (order_walk W lo0 len0 cap0 L0 hL0 hb0 x1 (bounds_i64 wx1)).mono fun e W' ⟨he, bel⟩ => ?_
  subst he
  exact ⟨_, rfl, _, _, _, [], _, [], hW', trodAll_mk1 (shut_bool Try.underlying4 _), (trodAll_cons_mk (Below.trod laidOut (by kernel_rfl) (of_decide_eq_true (by kernel_rfl)) k0 bel lt0) (trodAll_cons_mk (Below.trod laidOut (by kernel_rfl) (of_decide_eq_true (by kernel_rfl)) k1 bel lt1) trodAll_mk0)), rfl, bel.frame _, fun h => by cases h⟩

theorem order_holds : Rows.AttrsOrderSaid :=
  OpenClaim.holds_of_wide 5 Try.f5 rfl rfl rfl rfl rfl rfl rfl ⟨rfl, rfl, rfl, rfl, rfl⟩ rfl rfl rfl rfl rfl (by kernel_rfl) Try.func5 (by kernel_rfl)
    (of_decide_eq_true (by kernel_rfl)) (by unfold Func.isWrapper; first | (rw [if_pos (by decide +kernel)]; kernel_rfl) | (rw [if_neg (by decide +kernel)]; exact ⟨rfl, rfl⟩))
    (fun os started H enc _ => order_lifted os started H enc)
#print axioms order_holds
end Go.Proofs.Ytibndgembpcdgaa
