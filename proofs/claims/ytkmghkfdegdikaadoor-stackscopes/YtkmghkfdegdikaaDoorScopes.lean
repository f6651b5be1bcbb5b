/- The law StackScopes holds for any elements and any name: whatever is in a table's scope is not behind a table, and in a wider scope if it is in a narrower one. The program's lists are laid as its text lays them (the card ties them); no other condition. -/
import Derived.Test.YtkmghkfdegdikaaDoorBb
namespace Go.Proofs.YtkmghkfdegdikaaDoor
open Go.ChangeShapes Go.WideShapes Go.ChangeAt Go.RowKit Go.Joins

theorem ends_wide {s : Int} (hs : s = 1 ∨ s = 2) {sp : Int} {nm : ByteArray} (h : endsP 0 sp nm = true) : endsP s sp nm = true := by
  unfold endsP at h ⊢
  rw [if_neg (by decide)] at h
  rw [if_neg (by omega)]
  by_cases a : isP sp nm 0 nAll = true
  · rw [if_pos a]
  · rw [if_neg a] at h ⊢
    by_cases b : isP sp nm 2 nMath = true
    · rw [if_pos b]
    · rw [if_neg b] at h ⊢
      by_cases c : isP sp nm 1 nSvg = true
      · rw [if_pos c]
      · rw [if_neg c, if_neg (by decide), if_neg (by decide)] at h
        cases h
theorem has_wide {s : Int} (hs : s = 1 ∨ s = 2) (l : List ByteArray) : ∀ R : List Sn, hasN l s R = true → hasN l 0 R = true
  | [], h => by cases h
  | d :: R, h => by
    rw [hasN] at h ⊢
    by_cases a : isP d.1 d.2 0 l = true
    · rw [if_pos a]
    · rw [if_neg a] at h ⊢
      by_cases b : endsP s d.1 d.2 = true
      · rw [if_pos b] at h
        cases h
      · rw [if_neg b] at h
        rw [if_neg (fun e => b (ends_wide hs e))]
        exact has_wide hs l R h
theorem has_there (l : List ByteArray) (s : Int) : ∀ R : List Sn, hasN l s R = true → (R.any fun d => isP d.1 d.2 0 l) = true
  | [], h => by cases h
  | d :: R, h => by
    rw [hasN] at h
    rw [List.any_cons]
    by_cases a : isP d.1 d.2 0 l = true
    · rw [a]
      rfl
    · rw [if_neg a] at h
      split at h
      · cases h
      · rw [has_there l s R h, Bool.or_true]
theorem has_no (s : Int) : ∀ R : List Sn, hasN [] s R = false
  | [] => rfl
  | d :: R => by
    rw [hasN, if_neg (by simp [isP, inP]), has_no s R]
    split <;> rfl
/-- Whether there is one of that name. -/
def thereP (L : List El) (nm : ByteArray) : Bool := L.any fun d => isP d.sp d.nm 0 [nm]
theorem there_map (L : List El) (nm : ByteArray) : ((L.map El.sn).reverse.any fun d => isP d.1 d.2 0 [nm]) = thereP L nm := by
  rw [List.any_reverse, List.any_map]
  rfl
theorem there_next {L : List El} {i : Nat} {d : El} (nm : ByteArray) (h : L[i]? = some d) : thereP (L.take (i + 1)) nm = (thereP (L.take i) nm || isP d.sp d.nm 0 [nm]) := by
  unfold thereP
  rw [List.take_add_one, h, List.any_append]
  simp
/-- A loaded element's 'Space == Html && Name == name'. -/
theorem is_one (sp : Int) (nm name : ByteArray) : isP sp nm 0 [name] = (decide (sp = 0) && (nm.toList == name.toList)) := by
  unfold isP inP
  simp
/-- If the one, then the other. -/
def imp2 (a b : Bool) : Prop := a = true → b = true
theorem imp2.no (h : imp2 true false) : False := by cases h rfl
set_option maxHeartbeats 4000000 in
set_option maxRecDepth 20000 in
theorem scopes_walk {w : World} (TB : Tb w) (lo : Option Addr) (len cap : Nat) (L : List El) (hL : ElsIn w lo len L) (name : ByteArray) : Calls Tryd.prog 5 #[.slice lo len cap, .string name] w fun e w' => e = .returned (.bool true) ∧ Below w.heap.size w w' := by
  have HI : Hid (Tb w ∧ ElsIn w lo len L) := ⟨TB, hL⟩
  have kn := new_any w
  clear TB hL
  go_enter Tryd.func5, Tryd.ntmps5
  go_wp2_with fail
  refine kn.mono ?_
  rintro e w1 ⟨rfl, b1, s1⟩
  have HB : Hid (Below w.heap.size w w1 ∧ Stk (fun k => k < w.heap.size) w1 w.heap.size (.slice none 0 0) []) := ⟨b1, s1⟩
  clear kn b1 s1
  obtain ⟨sz, hsz⟩ : ∃ sz : Nat, sz = name.size := ⟨_, rfl⟩
  by_cases hg : 300 < len ∨ 1000 < name.size
  · have ka := awake_any (HI.out.1.below HB.out.1)
    by_cases h1 : 300 < len
    · have hd : decide ((300 : Int) < (len : Int)) = true := decide_eq_true (by omega)
      clear hg h1 hsz
      go_wp2_with fail
      refine ka.mono ?_
      rintro e w2 ⟨rfl, b2⟩
      have HF : Hid (Below w.heap.size w w2) := HB.out.1.trans (b2.mono HB.out.1.size)
      clear b2 ka
      go_wp2_with fail
      go_ret
      exact ⟨rfl, HF.out⟩
    · have hd : decide ((300 : Int) < (len : Int)) = false := decide_eq_false (by omega)
      have hd2 : decide ((1000 : Int) < (name.size : Int)) = true := decide_eq_true (by omega)
      clear hg h1 hsz
      go_wp2_with fail
      refine ka.mono ?_
      rintro e w2 ⟨rfl, b2⟩
      have HF : Hid (Below w.heap.size w w2) := HB.out.1.trans (b2.mono HB.out.1.size)
      clear b2 ka
      go_wp2_with fail
      go_ret
      exact ⟨rfl, HF.out⟩
  · have hd : decide ((300 : Int) < (len : Int)) = false := decide_eq_false (by omega)
    have hd2 : decide ((1000 : Int) < (name.size : Int)) = false := decide_eq_false (by omega)
    have hlen : len ≤ 300 := by omega
    have HL : Hid (len ≤ 300) := hlen
    clear hg hsz
    go_wp2_with fail
    go_loopg [6] len (fun g2 iv' wr => ∃ (i : Nat), iv' = iv (i : Int) ∧ i + g2 = len ∧ Hid (Psh w.heap.size w wr L i w.heap.size))
    case atStart => exact ⟨0, rfl, by omega, [], _, HB.out.1, HB.out.2, by simp, rfl⟩
    case round =>
      obtain ⟨i, rfl, hig, HP⟩ := hrel
      cases gk with
      | succ k =>
        have hin : i < len := by omega
        have bw : Below w.heap.size w wr := by
          obtain ⟨_, _, h1, _⟩ := HP.out
          exact h1
        obtain ⟨d, b, off, ao, ac, hd, rfl, q0, q1, q2, q3, hav, hats⟩ := (HI.out.2.old bw).at hin
        have kp := HP.out.next hd hats (by omega)
        obtain ⟨id, sp, nm, av, al⟩ := d
        simp only at hav q0 q1 q2 q3
        subst hav
        clear hd hats bw
        go_wp2_with fail
        refine kp.mono ?_
        rintro e w3 ⟨rfl, hp3⟩
        have HJ : Hid (Psh w.heap.size w w3 L (i + 1) w.heap.size) := hp3
        clear kp hp3 q0 q1 q2 q3
        go_wp2_with fail
        go_roundg k
        case measure => omega
        case rel => exact ⟨i + 1, by go_num, by omega, HJ⟩
      | zero =>
        obtain rfl : i = len := by omega
        have hg0 : decide ((i : Int) < (i : Int)) = false := decide_eq_false (by omega)
        obtain ⟨Wp, rfl⟩ : ∃ Wp, Wp = wr := ⟨_, rfl⟩
        obtain ⟨M, rv, p1, p2, p3, p4⟩ := HP.out
        rw [List.take_of_length_le (by rw [HI.out.2.hlen]; omega)] at p3
        have hsn := pu_sn p3
        obtain ⟨R, hR⟩ : ∃ R, (L.map El.sn).reverse = R := ⟨_, rfl⟩
        have hMR : (M.map El.sn).reverse = R := by rw [hsn, hR]
        obtain ⟨bl, hbl⟩ : ∃ b, hasN [name] 1 R = b := ⟨_, rfl⟩
        obtain ⟨bb, hbb⟩ : ∃ b, hasN [name] 2 R = b := ⟨_, rfl⟩
        obtain ⟨ba, hba⟩ : ∃ b, hasN [name] 0 R = b := ⟨_, rfl⟩
        obtain ⟨bt, hbt⟩ : ∃ b, hasN [name] 3 R = b := ⟨_, rfl⟩
        have hth : thereP L name = (R.any fun d => isP d.1 d.2 0 [name]) := by rw [← hR, there_map]
        have HC : Hid (∀ V : World, Below Wp.heap.size Wp V → Stk (fun k => k < w.heap.size) V w.heap.size rv M) := fun V bV => p2.old bV
        have HM : Hid (M.length ≤ 1000000000) := by
          show M.length ≤ _
          omega
        have HQ : Hid ((bl = true → ba = true) ∧ (bb = true → ba = true) ∧ (ba = true → thereP L name = true) ∧ (bt = true → thereP L name = true)) :=
          ⟨fun h => hba ▸ has_wide (.inl rfl) _ R (hbl.trans h), fun h => hba ▸ has_wide (.inr rfl) _ R (hbb.trans h), fun h => hth.trans (has_there _ 0 R (hba.trans h)), fun h => hth.trans (has_there _ 3 R (hbt.trans h))⟩
        have HT : Hid (hasN [name] 3 (M.map El.sn).reverse = bt) := by rw [hMR]; exact hbt
        have HA2 : Hid (hasN [name] 2 (M.map El.sn).reverse = bb) := by rw [hMR]; exact hbb
        have HA0 : Hid (hasN [name] 0 (M.map El.sn).reverse = ba) := by rw [hMR]; exact hba
        have HW : Hid (Below w.heap.size w Wp) := p1
        have k1 := has_lit p2 HM.out 1 name bl (by rw [hMR]; exact hbl)
        clear hR hMR hbl hbb hba hbt hth hsn p1 p2 p3 p4 HP
        go_wp2_with fail
        refine k1.mono ?_
        rintro e w2 ⟨rfl, b2⟩
        have k2 := has_lit (HC.out w2 b2) HM.out 2 name bb HA2.out
        have H2 : Hid (Below Wp.heap.size Wp w2) := b2
        clear k1 b2
        go_wp2_with fail
        refine k2.mono ?_
        rintro e w3 ⟨rfl, b3⟩
        have H3 : Hid (Below Wp.heap.size Wp w3) := H2.out.trans (b3.mono H2.out.size)
        have k3 := has_lit (HC.out w3 H3.out) HM.out 0 name ba HA0.out
        clear k2 b3 H2
        go_wp2_with fail
        refine k3.mono ?_
        rintro e w4 ⟨rfl, b4⟩
        have H4 : Hid (Below Wp.heap.size Wp w4) := H3.out.trans (b4.mono H3.out.size)
        clear k3 b4 H3
        have hcase : (ba = true ∧ bl = true) ∨ (ba = true ∧ bl = false ∧ bb = true) ∨ (bl = false ∧ bb = false) := by
          cases ba with
          | true => cases bl <;> cases bb <;> simp
          | false =>
            have a1 := HQ.out.1
            have a2 := HQ.out.2.1
            cases bl <;> cases bb <;> simp_all
        have HQ2 : Hid (imp2 ba (thereP L name) ∧ imp2 bt (thereP L name)) := ⟨HQ.out.2.2.1, HQ.out.2.2.2⟩
        clear HQ HA2 HA0
        rcases hcase with ⟨rfl, rfl⟩ | ⟨rfl, rfl, rfl⟩ | ⟨rfl, rfl⟩
        all_goals
          go_wp2_with fail
          go_loopg [10, 11] i (fun g2 tv iv' wr2 => ∃ (j : Nat), tv = .bool (thereP (L.take j) name) ∧ iv' = iv (j : Int) ∧ j + g2 = i ∧ wr2 = w4)
          case atStart => exact ⟨0, rfl, rfl, by omega, rfl⟩
          case round =>
            obtain ⟨j, rfl, rfl, hjg, hwr2⟩ := hrel
            rw [hwr2]
            clear hwr2
            cases gk with
            | succ k =>
              have hjn : j < i := by omega
              have bw4 : Below w.heap.size w w4 := HW.out.trans (H4.out.mono HW.out.size)
              obtain ⟨d, b, off, ao, ac, hd', rfl, q0, q1, q2, q3, hav, _⟩ := (HI.out.2.old bw4).at hjn
              have hnx := there_next name hd'
              rw [is_one] at hnx
              obtain ⟨t0, ht0⟩ : ∃ t0, thereP (L.take j) name = t0 := ⟨_, rfl⟩
              rw [ht0] at hnx ⊢
              have HN : Hid (thereP (L.take (j + 1)) name = (t0 || (decide (d.sp = 0) && (d.nm.toList == name.toList)))) := hnx
              clear hnx ht0 hd' bw4
              cases t0 with
              | true =>
                have HN2 : Hid (true = thereP (L.take (j + 1)) name) := by
                  show _ = _
                  rw [HN.out]
                  rfl
                go_wp2_with fail
                go_roundg k
                case measure => omega
                case rel => exact ⟨j + 1, by rw [← HN2.out], by go_num, by omega, rfl⟩
              | false =>
                by_cases hs : d.sp = 0
                · have hd1 : (d.sp == 0) = true := beq_iff_eq.2 hs
                  have HN2 : Hid ((d.nm.toList == name.toList) = thereP (L.take (j + 1)) name) := by
                    show _ = _
                    rw [HN.out, decide_eq_true hs]
                    rfl
                  clear hs
                  cases hq : (d.nm.toList == name.toList) with
                  | true =>
                    have HN3 : Hid (true = thereP (L.take (j + 1)) name) := by
                      show _ = _
                      rw [← HN2.out, hq]
                    go_wp2_with fail
                    go_roundg k
                    case measure => omega
                    case rel => exact ⟨j + 1, by rw [← HN3.out], by go_num, by omega, rfl⟩
                  | false =>
                    have HN3 : Hid (false = thereP (L.take (j + 1)) name) := by
                      show _ = _
                      rw [← HN2.out, hq]
                    go_wp2_with fail
                    go_roundg k
                    case measure => omega
                    case rel => exact ⟨j + 1, by rw [← HN3.out], by go_num, by omega, rfl⟩
                · have hd1 : (d.sp == 0) = false := beq_false_of_ne hs
                  have HN2 : Hid (false = thereP (L.take (j + 1)) name) := by
                    show _ = _
                    rw [HN.out, decide_eq_false hs]
                    rfl
                  clear hs
                  go_wp2_with fail
                  go_roundg k
                  case measure => omega
                  case rel => exact ⟨j + 1, by rw [← HN2.out], by go_num, by omega, rfl⟩
            | zero =>
              obtain rfl : j = i := by omega
              have htk : thereP (L.take j) name = thereP L name := by rw [List.take_of_length_le (by rw [HI.out.2.hlen]; omega)]
              rw [htk]
              clear htk
              have kz := has_any (HC.out w4 H4.out) HM.out 0 (StrRow.none w4 none) 0 0 rfl (by decide)
              rw [hasS_map, has_no] at kz
              have HZ : Hid (∀ V : World, Below Wp.heap.size Wp V → Calls Tryd.prog 19 #[ptr w.heap.size, iv 0, .slice none 0 0] V fun e w' => e = .returned (.bool false) ∧ Below V.heap.size V w') := fun V bV => by
                have kz := has_any (HC.out V bV) HM.out 0 (StrRow.none V none) 0 0 rfl (by decide)
                rw [hasS_map, List.map_reverse, has_no] at kz
                exact kz
              clear kz
              obtain ⟨th, hth⟩ : ∃ th, thereP L name = th := ⟨_, rfl⟩
              have hq1 := HQ2.out.1
              have hq2 := HQ2.out.2
              rw [hth] at hq1 hq2 ⊢
              have HQ3 : Hid (imp2 _ th ∧ imp2 bt th) := ⟨hq1, hq2⟩
              clear hq1 hq2 hth HQ2
              cases th with
              | true =>
                have kz := HZ.out w4 H4.out
                go_wp2_with fail
                refine kz.mono ?_
                rintro e w5 ⟨rfl, b5⟩
                have b5' := HW.out.trans ((H4.out.trans (b5.mono H4.out.size)).mono HW.out.size)
                have ka := awake_any (HI.out.1.below b5')
                have HF : Hid (Below w.heap.size w w5) := b5'
                clear kz b5 b5'
                go_wp2_with fail
                refine ka.mono ?_
                rintro e w6 ⟨rfl, b6⟩
                have HG : Hid (Below w.heap.size w w6) := HF.out.trans (b6.mono HF.out.size)
                clear ka b6
                go_wp2_with fail
                go_ret
                exact ⟨rfl, HG.out⟩
              | false =>
                have hbt : bt = false := by
                  cases hb : bt with
                  | true =>
                    have := HQ3.out.2
                    rw [hb] at this
                    exact this.no.elim
                  | false => rfl
                first
                  | exact (HQ3.out.1).no.elim
                  | (cases ba with
                    | true => exact (HQ3.out.1).no.elim
                    | false =>
                      have kt := has_lit (HC.out w4 H4.out) HM.out 3 name false (HT.out.trans hbt)
                      clear hbt
                      go_wp2_with fail
                      refine kt.mono ?_
                      rintro e w5 ⟨rfl, b5⟩
                      have H5 : Hid (Below Wp.heap.size Wp w5) := H4.out.trans (b5.mono H4.out.size)
                      have kz := HZ.out w5 H5.out
                      clear kt b5
                      go_wp2_with fail
                      refine kz.mono ?_
                      rintro e w6 ⟨rfl, b6⟩
                      have b6' := HW.out.trans ((H5.out.trans (b6.mono H5.out.size)).mono HW.out.size)
                      have ka := awake_any (HI.out.1.below b6')
                      have HF : Hid (Below w.heap.size w w6) := b6'
                      clear kz b6 b6'
                      go_wp2_with fail
                      refine ka.mono ?_
                      rintro e w7 ⟨rfl, b7⟩
                      have HG : Hid (Below w.heap.size w w7) := HF.out.trans (b7.mono HF.out.size)
                      clear ka b7
                      go_wp2_with fail
                      go_ret
                      exact ⟨rfl, HG.out⟩)


set_option maxRecDepth 100000 in
theorem scopes_lifted (os : Os) (started : os.Started) (H : Type) (enc : TypeId × Value → H) :
    ReturnsInHanded {} Tryd.checked os 5 .any (fun w args => (Rows.stackScopesSpec.pre enc Tryd.prog Tryd.f5 [] false w args ∧ laidMetH Tryd.prog laidL w) ∧ sizedMet enc Tryd.prog Tryd.f5 (OpenSpec.ofChange Rows.stackScopesSpec) false w args) (Rows.stackScopesSpec.post enc Tryd.prog Tryd.f5 false true false false) := by
  refine returnsInHanded_of_change_and (C := Tryd.checked) (X := fun w _ => laidMetH Tryd.prog laidL w) (fun _ _ _ hh h => h.of_heap hh) own started (by kernel_rfl) Tryd.func5
    (ChangeSpec.witness_shaped (enc := enc) (C := Tryd.checked) (os := os) (X := fun w _ => laidMetH Tryd.prog laidL w) false (World.doorLaid Tryd.prog 25 os) #[.slice none 0 0, .string ⟨#[]⟩] 8 rfl (World.shaped_of_RefB (by kernel_rfl) (by kernel_rfl)) (by kernel_rfl) (by kernel_rfl) (by kernel_rfl) (door_met os _)) ?_
  intro W base args ds gs before hval0 hW _ hz0 hL _
  have hz : (DataW.weightsEach Tryd.prog (Tryd.f5.params.toList ++ Rows.stackScopesSpec.plain.varTypes Tryd.prog) (ds ++ gs)).all (· ≤ reachBytes) = true := hz0
  have hval : ∀ (j : Nat) t v, Tryd.f5.params[j]? = some t → args[j]? = some v → Value.okWide Tryd.prog W .any base t v := hval0
  have hH : Tb W := tb_of_laid hL
  have hW' := hW
  obtain ⟨p, q, hA0, hV, rfl, hfz, hnd⟩ := hW
  have hA : DataW.TrodAll enc Tryd.prog W 0 (fun _ => true) true Tryd.f5.params.toList args.toList ds p := hA0
  rw [Tryd.params5] at hA hval hz
  obtain ⟨v0, vs0, d0, ds0, p0, q0, hargs, rfl, rfl, h0, r0⟩ := trodAll_cons hA
  obtain ⟨v1, vs1, d1, ds1, p1, q1, rfl, rfl, rfl, h1, r1⟩ := trodAll_cons r0
  obtain ⟨rfl, rfl, rfl⟩ := trodAll_nil r1
  obtain rfl : args = #[v0, v1] := by cases args; simp_all
  obtain ⟨rfl, rfl⟩ := trodVars_none hV
  have k0 := h0
  have lt0 : ∀ x ∈ p0, x.block < W.heap.size := by obtain ⟨m, hm⟩ := k0; exact DataW.trod_lt m _ _ _ hm
  have k1 := h1
  have lt1 : ∀ x ∈ p1, x.block < W.heap.size := by obtain ⟨m, hm⟩ := k1; exact DataW.trod_lt m _ _ _ hm
  obtain ⟨lo0, len0, cap0, hv0⟩ := okWide_slice Tryd.underlying26 (hval 0 26 v0 rfl rfl)
  subst hv0
  obtain ⟨L0, hL0⟩ := open_els (j := 0) hz rfl rfl h0
  obtain ⟨x1, hv1, _, _, wx1⟩ := Go.ChangeMaps.open_string Tryd.underlying9 (hval 1 9 v1 rfl rfl) h1
  subst hv1
  clear hA0 hval0 hz0
  refine (scopes_walk hH lo0 len0 cap0 L0 hL0 x1).mono fun e W' ⟨he, bel⟩ => ?_
  subst he
  exact ⟨_, rfl, _, _, _, [], _, [], hW', trodAll_mk1 (shut_bool Tryd.underlying4 _), (trodAll_cons_mk (Below.trod laidOut (by kernel_rfl) (of_decide_eq_true (by kernel_rfl)) k0 bel lt0) (trodAll_cons_mk (Below.trod laidOut (by kernel_rfl) (of_decide_eq_true (by kernel_rfl)) k1 bel lt1) trodAll_mk0)), rfl, bel.frame _, fun h => by cases h⟩

theorem scopes_holds : Rows.StackScopesSaid :=
  OpenClaim.holds_of_wide 5 Tryd.f5 rfl rfl rfl rfl rfl rfl rfl ⟨rfl, rfl, rfl, rfl, rfl⟩ rfl rfl rfl rfl rfl (by kernel_rfl) Tryd.func5 (by kernel_rfl)
    (of_decide_eq_true (by kernel_rfl)) (by unfold Func.isWrapper; first | (rw [if_pos (by decide +kernel)]; kernel_rfl) | (rw [if_neg (by decide +kernel)]; exact ⟨rfl, rfl⟩))
    (fun os started H enc _ => scopes_lifted os started H enc)

theorem scopes_card : Rows.StackScopesCardSaid :=
  Claim7.holds_tied_plain_at .later [] [.data] true Rows.stackScopesCard.stood.harness false
    scopes_holds (fun _ h => by cases h) (by kernel_rfl) (fun _ h => by cases h) stackScopes_row_tie rfl ⟨rfl, rfl⟩ (by kernel_rfl) rfl
    (fun f fn hf hfn => by
      obtain rfl : f = 5 := Option.some.inj ((show Tryd.prog.funcNamed Rows.stackScopesRow.func = some 5 by kernel_rfl).symm.trans hf) |>.symm
      obtain rfl : fn = Tryd.f5 := (Option.some.inj (Tryd.func5.symm.trans hfn)).symm
      exact ⟨by kernel_rfl, fun j t ht => by
        rw [Tryd.params5] at ht
        have hm : t ∈ [26, 9] := by simpa using Array.mem_of_getElem? ht
        have hall : ([26, 9].all fun u => !Tryd.prog.wantsStandIn u) = true := by kernel_rfl
        exact (show Tryd.prog.wantsStandIn t = false by simpa using List.all_eq_true.1 hall t hm)⟩)
    (by kernel_rfl)
#print axioms scopes_card
end Go.Proofs.YtkmghkfdegdikaaDoor
