/- The law AttrsAdds holds for every two lists and every attribute: Add, Get and Missing answer what the document's plain ones answer. No condition. -/
import Derived.Test.YtibndgembpcdgaaBase
import Derived.Test.YtibndgembpcdgaaRa
namespace Go.Proofs.Ytibndgembpcdgaa
open Go.ChangeShapes Go.WideShapes Go.ChangeAt Go.RowKit Go.Joins

theorem add_len (L : List At) (a : At) : (addP L a).length ≤ L.length + 1 := by
  unfold addP
  split
  · omega
  · simp

set_option maxRecDepth 10000 in
set_option maxHeartbeats 4000000 in
theorem adds_walk (w : World) (lo : Option Addr) (len cap : Nat) (L : List At) (hL : Came w lo len cap L) (hb : len ≤ 1000000000000000) (mo : Option Addr) (mlen mcap : Nat) (M : List At) (hM : Came w mo mlen mcap M) (hbm : mlen ≤ 1000000000000000) (nm vl : ByteArray) (_hn : nm.size ≤ maxLen) (_hv : vl.size ≤ maxLen) :
    Calls Try.prog 3 #[.slice lo len cap, .slice mo mlen mcap, .agg #[.string nm, .string vl]] w fun e w' => e = .returned (.bool true) ∧ Below w.heap.size w w' := by
  obtain ⟨V, hV⟩ : ∃ V, w.alloc (.cells #[.string nm, .string vl] 24) = V := ⟨_, rfl⟩
  have hnew : V.heap[w.heap.size]? = some (.cells #[.string nm, .string vl] 24 (0, 0)) := by rw [← hV]; exact heap_alloc_new _ _
  have bV : Below w.heap.size w V := by rw [← hV]; exact (Below.refl _ _).alloc (Nat.le_refl _) _
  have hVl : w.heap.size < V.heap.size := (Array.getElem?_eq_some_iff.1 hnew).1
  have d0 : V.cell? ⟨w.heap.size, 0, none⟩ = some (.string nm) := by simp [World.cell?, hnew]
  have d1 : V.cell? ⟨w.heap.size, 1, none⟩ = some (.string vl) := by simp [World.cell?, hnew]
  obtain ⟨U, hU⟩ : ∃ U, V.alloc (.cells #[.slice lo len cap, .slice mo mlen mcap] 22) = U := ⟨_, rfl⟩
  obtain ⟨hUl, u0, u1, bU⟩ := two_slot _ _ hU
  have hfe := few_two lo mo len mlen cap mcap u0 u1 hb hbm
  have bw : Below w.heap.size w U := bV.trans (bU.mono bV.size)
  have q0 := (bU.cell (p := ⟨w.heap.size, 0, none⟩) hVl).trans d0
  have q1 := (bU.cell (p := ⟨w.heap.size, 1, none⟩) hVl).trans d1
  have hl : w.heap.size < U.heap.size := Nat.lt_of_lt_of_le hVl bU.size
  have HR : Hid (Came w lo len cap L ∧ Came w mo mlen mcap M ∧ Below w.heap.size w U) := ⟨hL, hM, bw⟩
  clear hnew bV d0 d1 bU bw hL hM u0 u1 hUl hVl
  by_cases hfew : len + mlen ≤ 400
  · rw [decide_eq_true hfew] at hfe
    go_enter Try.func3, Try.ntmps3
    go_wp2_with fail
    refine hfe.mono ?_
    rintro e w0 ⟨rfl, rfl⟩
    clear hfe hV hU
    -- Add
    obtain ⟨hh, hhe⟩ : ∃ hh, hasP L nm.data.toList = hh := ⟨_, rfl⟩
    obtain ⟨k, hk⟩ : ∃ k, (addP L ⟨nm, vl⟩).length = k := ⟨_, rfl⟩
    have hkl : k ≤ 401 := by
      have := add_len L ⟨nm, vl⟩
      rw [HR.out.1.hlen] at this
      omega
    have HK : Hid ((addP L ⟨nm, vl⟩).length = k ∧ hasP L nm.data.toList = hh) := ⟨hk, hhe⟩
    have ka := add_any len cap nm vl (HR.out.1.row.below HR.out.2.2) HR.out.1.hlen (by omega)
    rw [hhe] at ka
    clear hk hhe
    go_wp2_with fail
    refine ka.mono ?_
    rintro e w1 ⟨v1, rfl, r1, b1⟩
    clear ka
    obtain ⟨xo, xc, rfl, x1, _, _⟩ := row_at r1
    rw [HK.out.1]
    have p0 := (b1.cell (p := ⟨w.heap.size, 0, none⟩) hl).trans q0
    have p1 := (b1.cell (p := ⟨w.heap.size, 1, none⟩) hl).trans q1
    have hl1 : w.heap.size < w1.heap.size := Nat.lt_of_lt_of_le hl b1.size
    have b1' : Below w.heap.size w w1 := HR.out.2.2.trans (b1.mono HR.out.2.2.size)
    have H1 : Hid (AtRow w1 xo (addP L ⟨nm, vl⟩) ∧ Below w.heap.size w w1) := ⟨x1, b1'⟩
    have kb := radd_any len cap nm vl (HR.out.1.row.below b1') HR.out.1.hlen (by omega) HR.out.1.hcap HR.out.1.hmax
    rw [HK.out.2] at kb
    clear x1 r1 b1 b1' q0 q1 hl
    go_wp2_with fail
    refine kb.mono ?_
    rintro e w2 ⟨yo, k2, yc, rfl, hk2, y1, _, _, b2⟩
    clear kb
    obtain rfl : k = k2 := HK.out.1.symm.trans hk2
    have z0 := (b2.cell (p := ⟨w.heap.size, 0, none⟩) hl1).trans p0
    have z1 := (b2.cell (p := ⟨w.heap.size, 1, none⟩) hl1).trans p1
    have hl2 : w.heap.size < w2.heap.size := Nat.lt_of_lt_of_le hl1 b2.size
    have b2' : Below w.heap.size w w2 := H1.out.2.trans (b2.mono H1.out.2.size)
    have H2 : Hid (AtRow w2 xo (addP L ⟨nm, vl⟩) ∧ AtRow w2 yo (addP L ⟨nm, vl⟩) ∧ Below w.heap.size w w2) := ⟨H1.out.1.below b2, y1, b2'⟩
    have kc := get_any len cap nm (HR.out.1.row.below b2') HR.out.1.hlen (by omega)
    obtain ⟨gb, hgb⟩ : ∃ gb, (getP L nm.data.toList).isSome = gb := ⟨_, rfl⟩
    obtain ⟨gx, hgx⟩ : ∃ gx, gv (getP L nm.data.toList) = gx := ⟨_, rfl⟩
    have HX : Hid ((getP L nm.data.toList).isSome = gb ∧ gv (getP L nm.data.toList) = gx) := ⟨hgb, hgx⟩
    rw [hgb, hgx] at kc
    clear y1 b2 b2' p0 p1 hl1 hk2 hgb hgx
    go_wp2_with fail
    refine kc.mono ?_
    rintro e w3 ⟨rfl, b3⟩
    clear kc
    have a0 := (b3.cell (p := ⟨w.heap.size, 0, none⟩) hl2).trans z0
    have a1 := (b3.cell (p := ⟨w.heap.size, 1, none⟩) hl2).trans z1
    have hl3 : w.heap.size < w3.heap.size := Nat.lt_of_lt_of_le hl2 b3.size
    have b3' : Below w.heap.size w w3 := H2.out.2.2.trans (b3.mono H2.out.2.2.size)
    have H3 : Hid (AtRow w3 xo (addP L ⟨nm, vl⟩) ∧ AtRow w3 yo (addP L ⟨nm, vl⟩) ∧ Below w.heap.size w w3) := ⟨H2.out.1.below b3, H2.out.2.1.below b3, b3'⟩
    have kd := rget_any len cap nm (HR.out.1.row.below b3') HR.out.1.hlen (by omega)
    rw [HX.out.1, HX.out.2] at kd
    clear b3 b3' z0 z1 hl2
    go_wp2_with fail
    refine kd.mono ?_
    rintro e w4 ⟨rfl, rfl⟩
    clear kd
    have ke := equal_same k xc yc H3.out.1 H3.out.2.1 HK.out.1 (by omega)
    have heq : (gx.toList == gx.toList) = true := by simp
    have hgg : (gb == gb) = true := by simp
    have hhh : (hh == hh) = true := by simp
    go_wp2_with fail
    refine ke.mono ?_
    rintro e w5 ⟨rfl, b5⟩
    clear ke
    have b5' : Below w.heap.size w w5 := H3.out.2.2.trans (b5.mono H3.out.2.2.size)
    have kf := missing_any len mlen cap mcap (HR.out.1.row.below b5') (HR.out.2.1.row.below b5') HR.out.1.hlen HR.out.2.1.hlen (by omega) HR.out.1.fine HR.out.2.1.fine
    have H5 : Hid (Below w.heap.size w w5) := b5'
    clear b5 b5' a0 a1 hl3
    go_wp2_with fail
    refine kf.mono ?_
    rintro e w6 ⟨v6, rfl, r6, b6⟩
    clear kf
    obtain ⟨mo6, mc6, rfl, m6, _, _⟩ := row_at r6
    obtain ⟨j, hj⟩ : ∃ j, (missP L M).length = j := ⟨_, rfl⟩
    have hj4 : j ≤ 400 := by
      have := (miss_len L M).1
      rw [HR.out.1.hlen, HR.out.2.1.hlen, hj] at this
      omega
    rw [hj]
    have b6' : Below w.heap.size w w6 := H5.out.trans (b6.mono H5.out.size)
    have kg := rmissing_any len mlen cap mcap (HR.out.1.row.below b6') (HR.out.2.1.row.below b6') HR.out.1.hlen HR.out.2.1.hlen (by omega) HR.out.1.hcap HR.out.1.hmax
    have H6 : Hid (AtRow w6 mo6 (missP L M) ∧ Below w.heap.size w w6 ∧ (missP L M).length = j) := ⟨m6, b6', hj⟩
    clear m6 r6 b6 b6' hj
    go_wp2_with fail
    refine kg.mono ?_
    rintro e w7 ⟨no, j2, nc, rfl, hj2, n7, _, _, b7⟩
    clear kg
    obtain rfl : j = j2 := H6.out.2.2.symm.trans hj2
    have kh := equal_same j mc6 nc (H6.out.1.below b7) n7 hj2 (by omega)
    have H7 : Hid (Below w.heap.size w w7) := H6.out.2.1.trans (b7.mono H6.out.2.1.size)
    clear n7 b7 hj2
    go_wp2_with fail
    refine kh.mono ?_
    rintro e w8 ⟨rfl, b8⟩
    clear kh
    have H8 : Hid (Below w.heap.size w w8) := H7.out.trans (b8.mono H7.out.size)
    clear b8
    go_wp2_with fail
    refine (awake_any w8).mono ?_
    rintro e w9 ⟨rfl, b9⟩
    have H9 : Hid (Below w.heap.size w w9) := H8.out.trans (b9.mono H8.out.size)
    clear b9
    go_wp2_with fail
    go_ret
    exact ⟨rfl, H9.out⟩
  · rw [decide_eq_false hfew] at hfe
    go_enter Try.func3, Try.ntmps3
    go_wp2_with fail
    refine hfe.mono ?_
    rintro e w0 ⟨rfl, rfl⟩
    clear hfe hV hU
    go_wp2_with fail
    refine (awake_any _).mono ?_
    rintro e w4 ⟨rfl, b4⟩
    have H4 : Hid (Below w.heap.size w w4) := HR.out.2.2.trans (b4.mono HR.out.2.2.size)
    clear b4
    go_wp2_with fail
    go_ret
    exact ⟨rfl, H4.out⟩

set_option maxRecDepth 100000 in
theorem adds_lifted (os : Os) (started : os.Started) (H : Type) (enc : TypeId × Value → H) :
    ReturnsInHanded {} Try.checked os 3 .any (Rows.attrsAddsSpec.pre6 enc Try.prog Try.f3 Rows.attrsAddsRow.domain false) (Rows.attrsAddsSpec.post enc Try.prog Try.f3 false true false false) := by
  refine returnsInHanded_of_change_sized (C := Try.checked) own started (by kernel_rfl) Try.func3
    (ChangeSpec.witness6 (enc := enc) (C := Try.checked) false ⟨#[], #[.slice none 0 0, .slice none 0 0, .agg #[.string ⟨#[]⟩, .string ⟨#[]⟩]], []⟩ 8 (by kernel_rfl) (by kernel_rfl) (by kernel_rfl) (by kernel_rfl)) ?_
  intro W base args ds gs before hval0 hW hcnd hz0 _
  have hval : ∀ (j : Nat) t v, Try.f3.params[j]? = some t → args[j]? = some v → Value.okWide Try.prog W .any base t v := hval0
  have hz : (DataW.weightsEach Try.prog (Try.f3.params.toList ++ Rows.attrsAddsSpec.plain.varTypes Try.prog) (ds ++ gs)).all (· ≤ reachBytes) = true := hz0
  have hW' := hW
  obtain ⟨p, q, hA0, hV, rfl, hfz, hnd⟩ := hW
  have hA : DataW.TrodAll enc Try.prog W 0 (fun _ => true) true Try.f3.params.toList args.toList ds p := hA0
  rw [Try.params3] at hA hval hz
  obtain ⟨v0, vs0, d0, ds0, p0, q0, hargs, rfl, rfl, h0, r0⟩ := trodAll_cons hA
  obtain ⟨v1, vs1, d1, ds1, p1, q1, rfl, rfl, rfl, h1, r1⟩ := trodAll_cons r0
  obtain ⟨v2, vs2, d2, ds2, p2, q2, rfl, rfl, rfl, h2, r2⟩ := trodAll_cons r1
  obtain ⟨rfl, rfl, rfl⟩ := trodAll_nil r2
  obtain rfl : args = #[v0, v1, v2] := by cases args; simp_all
  obtain ⟨rfl, rfl⟩ := trodVars_none hV
  have k0 := h0
  have lt0 : ∀ x ∈ p0, x.block < W.heap.size := by obtain ⟨m, hm⟩ := k0; exact DataW.trod_lt m _ _ _ hm
  have k1 := h1
  have lt1 : ∀ x ∈ p1, x.block < W.heap.size := by obtain ⟨m, hm⟩ := k1; exact DataW.trod_lt m _ _ _ hm
  have k2 := h2
  have lt2 : ∀ x ∈ p2, x.block < W.heap.size := by obtain ⟨m, hm⟩ := k2; exact DataW.trod_lt m _ _ _ hm
  obtain ⟨lo0, len0, cap0, hv0⟩ := okWide_slice Try.underlying22 (hval 0 22 v0 rfl rfl)
  subst hv0
  obtain ⟨fuel0, hf0⟩ := h0
  obtain ⟨L0, hL0, hx0⟩ := open_attrs (n := fuel0) (by simpa [Value.cells] using hf0)
  have hb0 : len0 ≤ 1000000000000000 := came_bound (j := 0) hz rfl rfl hx0
  obtain ⟨lo1, len1, cap1, hv1⟩ := okWide_slice Try.underlying22 (hval 1 22 v1 rfl rfl)
  subst hv1
  obtain ⟨fuel1, hf1⟩ := h1
  obtain ⟨L1, hL1, hx1⟩ := open_attrs (n := fuel1) (by simpa [Value.cells] using hf1)
  have hb1 : len1 ≤ 1000000000000000 := came_bound (j := 1) hz rfl rfl hx1
  obtain ⟨c2, e2, y2, z2, m2, hv2, hd2, _, hy2, hy2b⟩ := open_agg2 Try.underlying24 (by kernel_rfl) cells24 (hval 2 24 v2 rfl rfl) h2
  obtain ⟨nm2, en2, _, sn2⟩ := DataW.trod_string Try.underlying9 hy2
  obtain ⟨vl2, ev2, _, sv2⟩ := DataW.trod_string Try.underlying9 hy2b
  simp only [List.cons.injEq, and_true] at en2 ev2
  subst en2 ev2 hv2
  clear hA0 hval0 hz0
  refine (adds_walk W lo0 len0 cap0 L0 hL0 hb0 lo1 len1 cap1 L1 hL1 hb1 nm2 vl2 sn2 sv2).mono fun e W' ⟨he, bel⟩ => ?_
  subst he
  exact ⟨_, rfl, _, _, _, [], _, [], hW', trodAll_mk1 (shut_bool Try.underlying4 _), (trodAll_cons_mk (Below.trod laidOut (by kernel_rfl) (of_decide_eq_true (by kernel_rfl)) k0 bel lt0) (trodAll_cons_mk (Below.trod laidOut (by kernel_rfl) (of_decide_eq_true (by kernel_rfl)) k1 bel lt1) (trodAll_cons_mk (Below.trod laidOut (by kernel_rfl) (of_decide_eq_true (by kernel_rfl)) k2 bel lt2) trodAll_mk0))), rfl, bel.frame _, fun h => by cases h⟩

theorem adds_holds : Rows.AttrsAddsSaid :=
  OpenClaim.holds_of_wide 3 Try.f3 rfl rfl rfl rfl rfl rfl rfl ⟨rfl, rfl, rfl, rfl, rfl⟩ rfl rfl rfl rfl rfl (by kernel_rfl) Try.func3 (by kernel_rfl)
    (of_decide_eq_true (by kernel_rfl)) (by unfold Func.isWrapper; first | (rw [if_pos (by decide +kernel)]; kernel_rfl) | (rw [if_neg (by decide +kernel)]; exact ⟨rfl, rfl⟩))
    (fun os started H enc _ => adds_lifted os started H enc)
#print axioms adds_holds
end Go.Proofs.Ytibndgembpcdgaa
