/- The law StackCopies holds for any deeds: a copy goes on as the stack that it was copied of, and neither changes the other. The program's lists are laid as its text lays them (the card ties them); no other condition. -/
import Derived.Test.YtkmghkfdegdikaaDoorEd
namespace Go.Proofs.YtkmghkfdegdikaaDoor
open Go.ChangeShapes Go.WideShapes Go.ChangeAt Go.RowKit Go.Joins

set_option maxHeartbeats 8000000 in
set_option maxRecDepth 20000 in
theorem copies_walk {w : World} (TB : Tb w) (lo : Option Addr) (len cap : Nat) (L : List Dd) (hL : DdsIn w lo len L) (lo1 : Option Addr) (len1 cap1 : Nat) (L1 : List Dd) (hL1 : DdsIn w lo1 len1 L1) : Calls Tryd.prog 4 #[.slice lo len cap, .slice lo1 len1 cap1] w fun e w' => e = .returned (.bool true) ∧ Below w.heap.size w w' := by
  have HI : Hid (Tb w ∧ DdsIn w lo len L ∧ DdsIn w lo1 len1 L1) := ⟨TB, hL, hL1⟩
  have hfit := hL.fit
  have hfit1 := hL1.fit
  have kn := new_any w
  clear TB hL hL1
  go_enter Tryd.func4, Tryd.ntmps4
  go_wp2_with fail
  refine kn.mono ?_
  rintro e w1 ⟨rfl, b1, s1⟩
  obtain ⟨W2, hW2, r2, b2⟩ := rfresh (w := w1) w.heap.size b1.size
  have HW2 : Hid (w1.alloc (.cells #[Value.slice none 0 0] 28) = W2) := hW2
  obtain ⟨x, hx⟩ : ∃ x, w.heap.size = x := ⟨_, rfl⟩
  obtain ⟨y, hy⟩ : ∃ y, w1.heap.size = y := ⟨_, rfl⟩
  have HD : Hid (Duo w W2 x y 0) := by
    rw [← hx, ← hy]
    exact ⟨_, _, [], [], ⟨s1.old b2, r2, fun g hg => by simp [Value.ownBlock] at hg⟩, b1.trans (b2.mono b1.size), rfl, Nat.le_refl _⟩
  have kf := few_any lo len cap L (HI.out.2.1.old (b1.trans (b2.mono b1.size)))
  clear kn b1 s1 hW2 r2 b2
  go_upto_region 2 with fail
  rw [HW2.out]
  clear HW2 hx hy
  go_wp2_with fail
  refine kf.mono ?_
  rintro e w3 ⟨b, rfl, b3⟩
  have HE : Hid (Duo w w3 x y 0) := HD.out.old b3
  clear kf b3 HD
  cases b with
  | false =>
    have ka := awake_any (HI.out.1.below HE.out.below)
    go_wp2_with fail
    refine ka.mono ?_
    rintro e w4 ⟨rfl, b4⟩
    have HF : Hid (Below w.heap.size w w4) := HE.out.below.trans (b4.mono HE.out.below.size)
    clear b4 ka
    go_wp2_with fail
    go_ret
    exact ⟨rfl, HF.out⟩
  | true =>
    have kg := few_any lo1 len1 cap1 L1 (HI.out.2.2.old HE.out.below)
    go_wp2_with fail
    refine kg.mono ?_
    rintro e w4 ⟨b, rfl, b4⟩
    have HG : Hid (Duo w w4 x y 0) := HE.out.old b4
    clear kg b4 HE
    cases b with
    | false =>
      have ka := awake_any (HI.out.1.below HG.out.below)
      go_wp2_with fail
      refine ka.mono ?_
      rintro e w5 ⟨rfl, b5⟩
      have HF : Hid (Below w.heap.size w w5) := HG.out.below.trans (b5.mono HG.out.below.size)
      clear b5 ka
      go_wp2_with fail
      go_ret
      exact ⟨rfl, HF.out⟩
    | true =>
      go_wp2_with fail
      go_loopg [7] len (fun g2 iv' wr => ∃ (i : Nat), iv' = iv (i : Int) ∧ i + g2 = len ∧ Hid (i ≤ 50 ∧ Duo w wr x y i))
      case atStart => exact ⟨0, rfl, by omega, Nat.zero_le _, HG.out⟩
      case round =>
        obtain ⟨i, rfl, hig, HP⟩ := hrel
        obtain ⟨Wp, rfl⟩ : ∃ Wp, Wp = wr := ⟨_, rfl⟩
        clear HG
        by_cases hc : ∃ k, gk = k + 1 ∧ i < 50
        · obtain ⟨k, rfl, hc⟩ := hc
          have hin : i < len := by omega
          have hd : decide ((i : Int) < (50 : Int)) = true := decide_eq_true (by omega)
          have HC : Hid (i + 1 ≤ 50) := hc
          obtain ⟨dd, b, off, ao, ac, rfl, q0, q1, q2, q3, q4, q5, q6, q7, hav, hdi, hal⟩ := HI.out.2.1.at2 HP.out.2.below hin
          have kd := HP.out.2.next (by have := HP.out.1; omega) dd hdi hal HI.out.1
          obtain ⟨dk, da, dds, ⟨did, dsp, dnm, dav, dal⟩, dno, dnl, dnc⟩ := dd
          simp only at hav q0 q1 q2 q3 q4 q5 q6 q7
          subst hav
          clear hdi hal hc
          go_wp2_with fail
          refine kd.mono ?_
          rintro e w5 ⟨rfl, h5⟩
          have HJ : Hid (Duo w w5 x y (i + 1)) := h5
          clear kd h5 q0 q1 q2 q3 q4 q5 q6 q7
          go_wp2_with fail
          go_roundg k
          case measure => omega
          case rel => exact ⟨i + 1, by go_num, by omega, HC.out, HJ.out⟩
        · have hways : decide (i < len) = false ∨ (i < len ∧ decide ((i : Int) < (50 : Int)) = false) := by
            cases gk with
            | zero => exact .inl (decide_eq_false (by omega))
            | succ k => exact .inr ⟨by omega, decide_eq_false (by have : ¬ i < 50 := fun h => hc ⟨k, rfl, h⟩; omega)⟩
          have HN : Hid (i ≤ 50) := HP.out.1
          have kc := HP.out.2.copies (by have := HP.out.1; omega)
          clear hc hig HP
          rcases hways with hA | ⟨hA, hB⟩
          all_goals
            go_wp2_with fail
            refine kc.mono ?_
            rintro e w5 ⟨c, rfl, kc2⟩
            clear kc hA
            try clear hB
            go_wp2_with fail
            refine kc2.mono ?_
            rintro e w6 ⟨d, rfl, h6⟩
            have H6 : Hid (Trio w w6 x y c d i i) := h6
            clear kc2 h6
            go_wp2_with fail
            go_loopg [10] len1 (fun g2 iv' wr => ∃ (j : Nat), iv' = iv (j : Int) ∧ j + g2 = len1 ∧ Hid (j ≤ 50 ∧ Trio w wr x y c d i (i + j)))
            case atStart => exact ⟨0, rfl, by omega, Nat.zero_le _, H6.out⟩
            case round =>
              obtain ⟨j, rfl, hjg, HP2⟩ := hrel
              obtain ⟨Wq, rfl⟩ : ∃ Wq, Wq = wr := ⟨_, rfl⟩
              clear H6
              by_cases hc : ∃ k, gk = k + 1 ∧ j < 50
              · obtain ⟨k, rfl, hc⟩ := hc
                have hin : j < len1 := by omega
                have hd : decide ((j : Int) < (50 : Int)) = true := decide_eq_true (by omega)
                have HC : Hid (j + 1 ≤ 50) := hc
                obtain ⟨W1, hW1⟩ : ∃ W1, Wq.alloc (.cells #[Value.slice none 0 0] 28) = W1 := ⟨_, rfl⟩
                have b1 : Below Wq.heap.size Wq W1 := by rw [← hW1]; exact (Below.refl _ _).alloc (Nat.le_refl _) _
                have bw1 := HP2.out.2.below.trans (b1.mono HP2.out.2.below.size)
                obtain ⟨dd, b, off, ao, ac, rfl, q0, q1, q2, q3, q4, q5, q6, q7, hav, hdi, hal⟩ := HI.out.2.2.at2 bw1 hin
                have kd := HP2.out.2.next (by have := HP2.out.1; have := HN.out; omega) dd hdi hal HI.out.1 hW1
                obtain ⟨dk, da, dds, ⟨did, dsp, dnm, dav, dal⟩, dno, dnl, dnc⟩ := dd
                simp only at hav q0 q1 q2 q3 q4 q5 q6 q7
                subst hav
                clear hdi hal hc
                clear b1 bw1
                go_wp2_with fail
                refine kd.mono ?_
                rintro e w7 ⟨r, rfl, h7⟩
                have H7 : Hid (Trio w w7 x y c d i (i + j + 1)) := h7
                clear kd h7 q0 q1 q2 q3 q4 q5 q6 q7 hW1
                go_wp2_with fail
                go_roundg k
                case measure => omega
                case rel => exact ⟨j + 1, by go_num, by omega, HC.out, H7.out⟩
              · have hways : decide (j < len1) = false ∨ (j < len1 ∧ decide ((j : Int) < (50 : Int)) = false) := by
                  cases gk with
                  | zero => exact .inl (decide_eq_false (by omega))
                  | succ k => exact .inr ⟨by omega, decide_eq_false (by have : ¬ j < 50 := fun h => hc ⟨k, rfl, h⟩; omega)⟩
                have HT : Hid (Duo w Wq x y i ∧ Duo w Wq d y i ∧ i ≤ 50) := ⟨HP2.out.2.first, HP2.out.2.last, HN.out⟩
                obtain ⟨yo, ym, yc, hyc⟩ := HT.out.1.cell
                have KS : Hid _ := ((HT.out.1.old (Below.refl Wq.heap.size Wq).drew).same2 HI.out.1 (by have := HT.out.2.2; omega) (yo := yo) (ym := ym) (yc := yc) hyc)
                clear hc hjg HP2 HN
                rcases hways with hA | ⟨hA, hB⟩
                all_goals
                  go_upto_region 15 with fail
                  clear hA
                  try clear hB
                  go_region_held3 (fun w' => w'.cell? ⟨y, 0, none⟩ = some (.slice yo ym yc)) (first | exact f9 | exact f8 | exact hyc) (first
                    | (go_at_call 16; refine Calls.mono KS.out ?_; rintro e w8 ⟨so, sm, sc, rfl, f8, HR⟩)
                    | (go_at_call 15; refine Calls.mono HR.out ?_; rintro e w9 ⟨rfl, f9, HB9, HA9⟩))
                  all_goals
                    have HV : Hid (Duo w w9 d y i ∧ i ≤ 50) := ⟨(HT.out.2.1.old (Below.refl _ _).drew).old HB9.out, HT.out.2.2⟩
                    clear HR HB9 HA9 f8 f9 hyc KS HT
                    go_wp2_with fail
                    go_loopg [11] len1 (fun g2 iv' wr => ∃ (j : Nat), iv' = iv (j : Int) ∧ j + g2 = len1 ∧ Hid (j ≤ 50 ∧ i ≤ 50 ∧ Duo w wr d y (i + j)))
                    case atStart => exact ⟨0, rfl, by omega, Nat.zero_le _, HV.out.2, HV.out.1⟩
                    case round =>
                      obtain ⟨j, rfl, hjg, HP3⟩ := hrel
                      obtain ⟨Wr, rfl⟩ : ∃ Wr, Wr = wr := ⟨_, rfl⟩
                      clear HV
                      by_cases hc : ∃ k, gk = k + 1 ∧ j < 50
                      · obtain ⟨k, rfl, hc⟩ := hc
                        have hin : j < len1 := by omega
                        have hd : decide ((j : Int) < (50 : Int)) = true := decide_eq_true (by omega)
                        have HC : Hid (j + 1 ≤ 50) := hc
                        obtain ⟨dd, b, off, ao, ac, rfl, q0, q1, q2, q3, q4, q5, q6, q7, hav, hdi, hal⟩ := HI.out.2.2.at2 HP3.out.2.2.below hin
                        have kd := HP3.out.2.2.next (by have := HP3.out.1; have := HP3.out.2.1; omega) dd hdi hal HI.out.1
                        obtain ⟨dk, da, dds, ⟨did, dsp, dnm, dav, dal⟩, dno, dnl, dnc⟩ := dd
                        simp only at hav q0 q1 q2 q3 q4 q5 q6 q7
                        subst hav
                        clear hdi hal hc
                        go_wp2_with fail
                        refine kd.mono ?_
                        rintro e w10 ⟨rfl, h10⟩
                        have HJ : Hid (Duo w w10 d y (i + j + 1)) := h10
                        clear kd h10 q0 q1 q2 q3 q4 q5 q6 q7
                        go_wp2_with fail
                        go_roundg k
                        case measure => omega
                        case rel => exact ⟨j + 1, by go_num, by omega, HC.out, HP3.out.2.1, HJ.out⟩
                      · have hways : decide (j < len1) = false ∨ (j < len1 ∧ decide ((j : Int) < (50 : Int)) = false) := by
                          cases gk with
                          | zero => exact .inl (decide_eq_false (by omega))
                          | succ k => exact .inr ⟨by omega, decide_eq_false (by have : ¬ j < 50 := fun h => hc ⟨k, rfl, h⟩; omega)⟩
                        obtain ⟨zo, zm, zc, hzc⟩ := HP3.out.2.2.cell
                        have KZ : Hid _ := ((HP3.out.2.2.old (Below.refl Wr.heap.size Wr).drew).same2 HI.out.1 (by have := HP3.out.1; have := HP3.out.2.1; omega) (yo := zo) (ym := zm) (yc := zc) hzc)
                        clear hc hjg HP3
                        rcases hways with hA | ⟨hA, hB⟩
                        all_goals
                          go_upto_region 22 with fail
                          clear hA
                          try clear hB
                          go_region_held3 (fun w' => w'.cell? ⟨y, 0, none⟩ = some (.slice zo zm zc)) (first | exact h14 | exact h13 | exact h12 | exact hzc) (first
                            | (go_at_call 16; refine Calls.mono KZ.out ?_; rintro e w12 ⟨so, sm, sc, rfl, h12, HR⟩)
                            | (go_at_call 15; refine Calls.mono HR.out ?_; rintro e w13 ⟨rfl, h13, HB13, HA13⟩)
                            | (go_at_call 10; refine Calls.mono HA13.out ?_; rintro e w14 ⟨rfl, h14, HF⟩))
                          all_goals
                            go_wp2_with fail
                            go_ret
                            exact ⟨rfl, HF.out⟩
set_option maxRecDepth 100000 in
theorem copies_lifted (os : Os) (started : os.Started) (H : Type) (enc : TypeId × Value → H) :
    ReturnsInHanded {} Tryd.checked os 4 .any (fun w args => (Rows.stackCopiesSpec.pre enc Tryd.prog Tryd.f4 [] false w args ∧ laidMetH Tryd.prog laidL w) ∧ sizedMet enc Tryd.prog Tryd.f4 (OpenSpec.ofChange Rows.stackCopiesSpec) false w args) (Rows.stackCopiesSpec.post enc Tryd.prog Tryd.f4 false true false false) := by
  refine returnsInHanded_of_change_and (C := Tryd.checked) (X := fun w _ => laidMetH Tryd.prog laidL w) (fun _ _ _ hh h => h.of_heap hh) own started (by kernel_rfl) Tryd.func4
    (ChangeSpec.witness_shaped (enc := enc) (C := Tryd.checked) (os := os) (X := fun w _ => laidMetH Tryd.prog laidL w) false (World.doorLaid Tryd.prog 25 os) #[.slice none 0 0, .slice none 0 0] 8 rfl (World.shaped_of_RefB (by kernel_rfl) (by kernel_rfl)) (by kernel_rfl) (by kernel_rfl) (by kernel_rfl) (door_met os _)) ?_
  intro W base args ds gs before hval0 hW _ hz0 hL _
  have hz : (DataW.weightsEach Tryd.prog (Tryd.f4.params.toList ++ Rows.stackCopiesSpec.plain.varTypes Tryd.prog) (ds ++ gs)).all (· ≤ reachBytes) = true := hz0
  have hval : ∀ (j : Nat) t v, Tryd.f4.params[j]? = some t → args[j]? = some v → Value.okWide Tryd.prog W .any base t v := hval0
  have hH : Tb W := tb_of_laid hL
  have hW' := hW
  obtain ⟨p, q, hA0, hV, rfl, hfz, hnd⟩ := hW
  have hA : DataW.TrodAll enc Tryd.prog W 0 (fun _ => true) true Tryd.f4.params.toList args.toList ds p := hA0
  rw [Tryd.params4] at hA hval hz
  obtain ⟨v0, vs0, d0, ds0, p0, q0, hargs, rfl, rfl, h0, r0⟩ := trodAll_cons hA
  obtain ⟨v1, vs1, d1, ds1, p1, q1, rfl, rfl, rfl, h1, r1⟩ := trodAll_cons r0
  obtain ⟨rfl, rfl, rfl⟩ := trodAll_nil r1
  obtain rfl : args = #[v0, v1] := by cases args; simp_all
  obtain ⟨rfl, rfl⟩ := trodVars_none hV
  have k0 := h0
  have lt0 : ∀ x ∈ p0, x.block < W.heap.size := by obtain ⟨m, hm⟩ := k0; exact DataW.trod_lt m _ _ _ hm
  have k1 := h1
  have lt1 : ∀ x ∈ p1, x.block < W.heap.size := by obtain ⟨m, hm⟩ := k1; exact DataW.trod_lt m _ _ _ hm
  obtain ⟨lo0, len0, cap0, hv0⟩ := okWide_slice Tryd.underlying22 (hval 0 22 v0 rfl rfl)
  subst hv0
  obtain ⟨L0, hL0⟩ := open_deeds (j := 0) hz rfl rfl h0
  obtain ⟨lo1, len1, cap1, hv1⟩ := okWide_slice Tryd.underlying22 (hval 1 22 v1 rfl rfl)
  subst hv1
  obtain ⟨L1, hL1⟩ := open_deeds (j := 1) hz rfl rfl h1
  clear hA0 hval0 hz0
  refine (copies_walk hH lo0 len0 cap0 L0 hL0 lo1 len1 cap1 L1 hL1).mono fun e W' ⟨he, bel⟩ => ?_
  subst he
  exact ⟨_, rfl, _, _, _, [], _, [], hW', trodAll_mk1 (shut_bool Tryd.underlying4 _), (trodAll_cons_mk (Below.trod laidOut (by kernel_rfl) (of_decide_eq_true (by kernel_rfl)) k0 bel lt0) (trodAll_cons_mk (Below.trod laidOut (by kernel_rfl) (of_decide_eq_true (by kernel_rfl)) k1 bel lt1) trodAll_mk0)), rfl, bel.frame _, fun h => by cases h⟩

theorem copies_holds : Rows.StackCopiesSaid :=
  OpenClaim.holds_of_wide 4 Tryd.f4 rfl rfl rfl rfl rfl rfl rfl ⟨rfl, rfl, rfl, rfl, rfl⟩ rfl rfl rfl rfl rfl (by kernel_rfl) Tryd.func4 (by kernel_rfl)
    (of_decide_eq_true (by kernel_rfl)) (by unfold Func.isWrapper; first | (rw [if_pos (by decide +kernel)]; kernel_rfl) | (rw [if_neg (by decide +kernel)]; exact ⟨rfl, rfl⟩))
    (fun os started H enc _ => copies_lifted os started H enc)

theorem copies_card : Rows.StackCopiesCardSaid :=
  Claim7.holds_tied_plain_at .later [] [.data] true Rows.stackCopiesCard.stood.harness false
    copies_holds (fun _ h => by cases h) (by kernel_rfl) (fun _ h => by cases h) stackCopies_row_tie rfl ⟨rfl, rfl⟩ (by kernel_rfl) rfl
    (fun f fn hf hfn => by
      obtain rfl : f = 4 := Option.some.inj ((show Tryd.prog.funcNamed Rows.stackCopiesRow.func = some 4 by kernel_rfl).symm.trans hf) |>.symm
      obtain rfl : fn = Tryd.f4 := (Option.some.inj (Tryd.func4.symm.trans hfn)).symm
      exact ⟨by kernel_rfl, fun j t ht => by
        rw [Tryd.params4] at ht
        have hm : t ∈ [22, 22] := by simpa using Array.mem_of_getElem? ht
        have hall : ([22, 22].all fun u => !Tryd.prog.wantsStandIn u) = true := by kernel_rfl
        exact (show Tryd.prog.wantsStandIn t = false by simpa using List.all_eq_true.1 hall t hm)⟩)
    (by kernel_rfl)
#print axioms copies_card
end Go.Proofs.YtkmghkfdegdikaaDoor
