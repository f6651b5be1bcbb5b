/- The law AttrsOnce holds for every two lists: what Missing makes has what was in its place, each new name once, every name of the other list; asked again it adds nothing. No condition. -/
import Derived.Test.YtibndgembpcdgaaBase
namespace Go.Proofs.Ytibndgembpcdgaa
open Go.ChangeShapes Go.WideShapes Go.ChangeAt Go.RowKit Go.Joins

theorem new_mem : ∀ (M : List At) (S : List Path) (y : At), y ∈ newP S M → y ∈ M
  | [], _, y, h => by simp [newP] at h
  | x :: M, S, y, h => by
    rw [new_cons] at h
    split at h
    · exact List.mem_cons_of_mem _ (new_mem M S y h)
    · rcases List.mem_cons.1 h with rfl | h
      · simp
      · exact List.mem_cons_of_mem _ (new_mem M _ y h)
theorem fine_miss {L M : List At} (h1 : Fine L) (h2 : Fine M) : Fine (missP L M) := fun x hx => by
  rw [miss_new] at hx
  rcases List.mem_append.1 hx with hx | hx
  · exact h1 x hx
  · exact h2 x (new_mem M _ x hx)

set_option maxRecDepth 10000 in
set_option maxHeartbeats 4000000 in
theorem once_walk (w : World) (lo : Option Addr) (len cap : Nat) (L : List At) (hL : Came w lo len cap L) (hb : len ≤ 1000000000000000) (mo : Option Addr) (mlen mcap : Nat) (M : List At) (hM : Came w mo mlen mcap M) (hbm : mlen ≤ 1000000000000000) :
    Calls Try.prog 6 #[.slice lo len cap, .slice mo mlen mcap] w fun e w' => e = .returned (.bool true) ∧ Below w.heap.size w w' := by
  obtain ⟨U, hU⟩ : ∃ U, w.alloc (.cells #[.slice lo len cap, .slice mo mlen mcap] 22) = U := ⟨_, rfl⟩
  obtain ⟨hUl, u0, u1, bU⟩ := two_slot _ _ hU
  have hfe := few_two lo mo len mlen cap mcap u0 u1 hb hbm
  have HR : Hid (Came w lo len cap L ∧ Came w mo mlen mcap M ∧ Below w.heap.size w U) := ⟨hL, hM, bU⟩
  clear bU hL hM u0 u1 hUl
  by_cases hfew : len + mlen ≤ 400
  · rw [decide_eq_true hfew] at hfe
    go_enter Try.func6, Try.ntmps6
    go_wp2_with fail
    refine hfe.mono ?_
    rintro e w0 ⟨rfl, rfl⟩
    clear hfe hU
    have ka := missing_any len mlen cap mcap (HR.out.1.row.below HR.out.2.2) (HR.out.2.1.row.below HR.out.2.2) HR.out.1.hlen HR.out.2.1.hlen (by omega) HR.out.1.fine HR.out.2.1.fine
    go_wp2_with fail
    refine ka.mono ?_
    rintro e w1 ⟨v1, rfl, r1, b1⟩
    clear ka
    obtain ⟨xo, xc, rfl, x1, hxc, hxm⟩ := row_at r1
    obtain ⟨j, hj⟩ : ∃ j, (missP L M).length = j := ⟨_, rfl⟩
    have hjl := miss_len L M
    rw [hj, HR.out.1.hlen, HR.out.2.1.hlen] at hjl
    rw [hj] at hxc
    rw [hj]
    obtain ⟨hj1, hj2⟩ := hjl
    have b1' : Below w.heap.size w w1 := HR.out.2.2.trans (b1.mono HR.out.2.2.size)
    have HM : Hid (AtRow w1 xo (missP L M) ∧ Below w.heap.size w w1 ∧ (missP L M).length = j) := ⟨x1, b1', hj⟩
    have hlt : decide ((j : Int) < (len : Int)) = false := decide_eq_false (by omega)
    have hc1 : (len : Int) ≤ (xc : Int) := by omega
    have hc2 : len ≤ xc := by omega
    have hc3 : xc ≤ 9223372036854775807 := by unfold maxLen at hxm; omega
    have htk : AtRow w1 xo L := by
      have h := at_take x1 L.length
      rw [miss_take] at h
      exact h
    have ke := equal_same len xc cap htk (HR.out.1.row.below b1') HR.out.1.hlen (by omega)
    clear r1 b1 b1' x1 htk hj hxm
    go_wp2_with fail
    refine ke.mono ?_
    rintro e w2 ⟨rfl, b2⟩
    clear ke
    have H2 : Hid (AtRow w2 xo (missP L M) ∧ Below w.heap.size w w2) := ⟨HM.out.1.below b2, HM.out.2.1.trans (b2.mono HM.out.2.1.size)⟩
    have hltN : decide (j < len) = false := decide_eq_false (by omega)
    clear b2 hlt
    go_wp2_with fail
    clear hltN
    go_loopg [6] (j - len) (fun g iv wr => ∃ (i q : Nat), iv = .int .i64 i ∧ len ≤ i ∧ i + g = j ∧ wr = w2.drewN q)
    case atStart => exact ⟨len, 0, rfl, Nat.le_refl _, by omega, rfl⟩
    case round =>
      obtain ⟨i, q, rfl, hli, hig, rfl⟩ := hrel
      cases gk with
      | zero =>
        obtain rfl : i = j := by omega
        have hg0 : decide ((i : Int) < (i : Int)) = false := decide_eq_false (by omega)
        have HQ : Hid (AtRow (w2.drewN q) xo (missP L M) ∧ Below w.heap.size w (w2.drewN q)) := ⟨H2.out.1.below (below_drewN (Below.refl _ _) _), below_drewN H2.out.2 _⟩
        generalize w2.drewN q = w3 at HQ ⊢
        go_wp2_with fail
        clear hg0
        go_loopg [8] mlen (fun g iv wr => ∃ n : Nat, iv = .int .i64 n ∧ n + g = mlen ∧ AtRow wr xo (missP L M) ∧ Below w.heap.size w wr)
        case atStart => exact ⟨0, rfl, by omega, HQ.out⟩
        case round =>
          obtain ⟨n, rfl, hng, hrow, hbe⟩ := hrel
          have HN : Hid (AtRow wr xo (missP L M) ∧ Below w.heap.size w wr) := ⟨hrow, hbe⟩
          clear hrow hbe
          cases gk with
          | zero =>
            obtain rfl : n = mlen := by omega
            have hg0 : decide ((n : Int) < (n : Int)) = false := decide_eq_false (by omega)
            have kf := missing_any i n xc mcap HN.out.1 (HR.out.2.1.row.below HN.out.2) HM.out.2.2 HR.out.2.1.hlen (by omega) (fine_miss HR.out.1.fine HR.out.2.1.fine) HR.out.2.1.fine
            rw [miss_none M (missP L M) (fun x hx => once_found hx)] at kf
            go_wp2_with fail
            refine kf.mono ?_
            rintro e w4 ⟨v4, rfl, r4, b4⟩
            clear kf
            obtain ⟨yo, yc, rfl, y4, _, _⟩ := row_at r4
            rw [HM.out.2.2]
            have kg := equal_same i yc xc y4 (HN.out.1.below b4) HM.out.2.2 (by omega)
            have H4 : Hid (Below w.heap.size w w4) := HN.out.2.trans (b4.mono HN.out.2.size)
            clear y4 r4 b4
            go_wp2_with fail
            refine kg.mono ?_
            rintro e w5 ⟨rfl, b5⟩
            clear kg
            have H5 : Hid (Below w.heap.size w w5) := H4.out.trans (b5.mono H4.out.size)
            clear b5
            go_wp2_with fail
            refine (awake_any w5).mono ?_
            rintro e w9 ⟨rfl, b9⟩
            have H9 : Hid (Below w.heap.size w w9) := H5.out.trans (b9.mono H5.out.size)
            clear b9
            go_wp2_with fail
            go_ret
            exact ⟨rfl, H9.out⟩
          | succ g =>
            have hin : n < mlen := by omega
            obtain ⟨x, hx⟩ : ∃ x, M[n]? = some x := ⟨_, List.getElem?_eq_getElem (by rw [HR.out.2.1.hlen]; exact hin)⟩
            obtain ⟨b6, o6, rfl, h6, c1, c2⟩ := (HR.out.2.1.row.below HN.out.2) n x hx
            have hfd := once_found (L := L) (List.mem_of_getElem? hx)
            clear hx
            obtain ⟨nm, vl⟩ := x
            simp only at c1 c2 hfd
            have kh := get_any i xc nm HN.out.1 HM.out.2.2 (by omega)
            rw [get_some, hfd] at kh
            generalize gv (getP (missP L M) nm.data.toList) = gx at kh
            clear hfd
            go_wp2_with fail
            refine kh.mono ?_
            rintro e w4 ⟨rfl, b4⟩
            clear kh
            have HN2 : Hid (AtRow w4 xo (missP L M) ∧ Below w.heap.size w w4) := ⟨HN.out.1.below b4, HN.out.2.trans (b4.mono HN.out.2.size)⟩
            clear b4 c1 c2 h6
            go_wp2_with fail
            go_roundg g
            case measure => omega
            case rel => exact ⟨n + 1, by go_num, by omega, HN2.out⟩
      | succ g =>
        have hin : i < j := by omega
        have hlt : decide ((i : Int) < (j : Int)) = true := decide_eq_true (by omega)
        obtain ⟨y, hy⟩ : ∃ y, (missP L M)[i]? = some y := ⟨_, List.getElem?_eq_getElem (by rw [HM.out.2.2]; exact hin)⟩
        have hlL : L.length ≤ i := by rw [HR.out.1.hlen]; exact hli
        have HY : Hid ((missP L M)[i]? = some y ∧ L.length ≤ i) := ⟨hy, hlL⟩
        obtain ⟨b6, o6, hxo, h6, c1, c2⟩ := H2.out.1 i y hy
        subst hxo
        obtain ⟨yn, yv⟩ := y
        simp only at c1 c2
        clear hy hlL
        go_wp2_with fail
        go_loopg [7] i (fun g2 kv wr2 => ∃ (k q2 : Nat), kv = .int .i64 k ∧ k + g2 = i ∧ wr2 = w2.drewN q2)
        case atStart => exact ⟨0, q, rfl, by omega, rfl⟩
        case round =>
          obtain ⟨k, q2, rfl, hkg, rfl⟩ := hrel
          cases gk with
          | zero =>
            obtain rfl : k = i := by omega
            have hg0 : decide ((k : Int) < (k : Int)) = false := decide_eq_false (by omega)
            go_wp2_with fail
            go_roundg g
            case measure => omega
            case rel => exact ⟨k + 1, q2, by go_num, by omega, by omega, rfl⟩
          | succ g2 =>
            have hki : k < i := by omega
            have hklt : decide ((k : Int) < (i : Int)) = true := decide_eq_true (by omega)
            obtain ⟨z, hz⟩ : ∃ z, (missP L M)[k]? = some z := ⟨_, List.getElem?_eq_getElem (by rw [HM.out.2.2]; omega)⟩
            have hne := once_apart HY.out.2 hki HY.out.1 hz
            obtain ⟨b7, o7, hxo, h7, c3, c4⟩ := H2.out.1 k z hz
            simp only [Option.some.injEq, Addr.mk.injEq, and_true] at hxo
            obtain ⟨rfl, rfl⟩ := hxo
            obtain ⟨zn, zv⟩ := z
            simp only at c3 c4
            have hbq := beq_no hne
            clear hz hne
            simp only at hbq
            have hkj : (k : Int) < (j : Int) := by omega
            have hij : (i : Int) < (j : Int) := by omega
            go_wp2_with fail
            go_quiet (fail)
            go_wp2_with fail
            go_roundg g2
            case measure => omega
            case rel => exact ⟨k + 1, _, by go_num, by omega, rfl⟩
  · rw [decide_eq_false hfew] at hfe
    go_enter Try.func6, Try.ntmps6
    go_wp2_with fail
    refine hfe.mono ?_
    rintro e w0 ⟨rfl, rfl⟩
    clear hfe hU
    go_wp2_with fail
    refine (awake_any _).mono ?_
    rintro e w4 ⟨rfl, b4⟩
    have H4 : Hid (Below w.heap.size w w4) := HR.out.2.2.trans (b4.mono HR.out.2.2.size)
    clear b4
    go_wp2_with fail
    go_ret
    exact ⟨rfl, H4.out⟩

set_option maxRecDepth 100000 in
theorem once_lifted (os : Os) (started : os.Started) (H : Type) (enc : TypeId × Value → H) :
    ReturnsInHanded {} Try.checked os 6 .any (Rows.attrsOnceSpec.pre6 enc Try.prog Try.f6 Rows.attrsOnceRow.domain false) (Rows.attrsOnceSpec.post enc Try.prog Try.f6 false true false false) := by
  refine returnsInHanded_of_change_sized (C := Try.checked) own started (by kernel_rfl) Try.func6
    (ChangeSpec.witness6 (enc := enc) (C := Try.checked) false ⟨#[], #[.slice none 0 0, .slice none 0 0], []⟩ 8 (by kernel_rfl) (by kernel_rfl) (by kernel_rfl) (by kernel_rfl)) ?_
  intro W base args ds gs before hval0 hW hcnd hz0 _
  have hval : ∀ (j : Nat) t v, Try.f6.params[j]? = some t → args[j]? = some v → Value.okWide Try.prog W .any base t v := hval0
  have hz : (DataW.weightsEach Try.prog (Try.f6.params.toList ++ Rows.attrsOnceSpec.plain.varTypes Try.prog) (ds ++ gs)).all (· ≤ reachBytes) = true := hz0
  have hW' := hW
  obtain ⟨p, q, hA0, hV, rfl, hfz, hnd⟩ := hW
  have hA : DataW.TrodAll enc Try.prog W 0 (fun _ => true) true Try.f6.params.toList args.toList ds p := hA0
  rw [Try.params6] at hA hval hz
  obtain ⟨v0, vs0, d0, ds0, p0, q0, hargs, rfl, rfl, h0, r0⟩ := trodAll_cons hA
  obtain ⟨v1, vs1, d1, ds1, p1, q1, rfl, rfl, rfl, h1, r1⟩ := trodAll_cons r0
  obtain ⟨rfl, rfl, rfl⟩ := trodAll_nil r1
  obtain rfl : args = #[v0, v1] := by cases args; simp_all
  obtain ⟨rfl, rfl⟩ := trodVars_none hV
  have k0 := h0
  have lt0 : ∀ x ∈ p0, x.block < W.heap.size := by obtain ⟨m, hm⟩ := k0; exact DataW.trod_lt m _ _ _ hm
  have k1 := h1
  have lt1 : ∀ x ∈ p1, x.block < W.heap.size := by obtain ⟨m, hm⟩ := k1; exact DataW.trod_lt m _ _ _ hm
  obtain ⟨lo0, len0, cap0, hv0⟩ := okWide_slice Try.underlying22 (hval 0 22 v0 rfl rfl)
  subst hv0
  obtain ⟨fuel0, hf0⟩ := h0
  obtain ⟨L0, hL0, hx0⟩ := open_attrs (n := fuel0) (by simpa [Value.cells] using hf0)
  have hb0 : len0 ≤ 1000000000000000 := came_bound (j := 0) hz rfl rfl hx0
  obtain ⟨lo1, len1, cap1, hv1⟩ := okWide_slice Try.underlying22 (hval 1 22 v1 rfl rfl)
  subst hv1
  obtain ⟨fuel1, hf1⟩ := h1
  obtain ⟨L1, hL1, hx1⟩ := open_attrs (n := fuel1) (by simpa [Value.cells] using hf1)
  have hb1 : len1 ≤ 1000000000000000 := came_bound (j := 1) hz rfl rfl hx1
  clear hA0 hval0 hz0
  refine (once_walk W lo0 len0 cap0 L0 hL0 hb0 lo1 len1 cap1 L1 hL1 hb1).mono fun e W' ⟨he, bel⟩ => ?_
  subst he
  exact ⟨_, rfl, _, _, _, [], _, [], hW', trodAll_mk1 (shut_bool Try.underlying4 _), (trodAll_cons_mk (Below.trod laidOut (by kernel_rfl) (of_decide_eq_true (by kernel_rfl)) k0 bel lt0) (trodAll_cons_mk (Below.trod laidOut (by kernel_rfl) (of_decide_eq_true (by kernel_rfl)) k1 bel lt1) trodAll_mk0)), rfl, bel.frame _, fun h => by cases h⟩

theorem once_holds : Rows.AttrsOnceSaid :=
  OpenClaim.holds_of_wide 6 Try.f6 rfl rfl rfl rfl rfl rfl rfl ⟨rfl, rfl, rfl, rfl, rfl⟩ rfl rfl rfl rfl rfl (by kernel_rfl) Try.func6 (by kernel_rfl)
    (of_decide_eq_true (by kernel_rfl)) (by unfold Func.isWrapper; first | (rw [if_pos (by decide +kernel)]; kernel_rfl) | (rw [if_neg (by decide +kernel)]; exact ⟨rfl, rfl⟩))
    (fun os started H enc _ => once_lifted os started H enc)
#print axioms once_holds
end Go.Proofs.Ytibndgembpcdgaa
