/- RawtextPlain: a text without < and & is its characters, in whatever state: whatever the text and the state, the law's function returns true. -/
import Derived.Test.YtdiealijjhfhjaaGreatDoorYs
import Derived.ProofKit
import Derived.OpenShut
import Derived.ShutString
import Derived.ChangeOld
import Derived.ChangeMaps
import Derived.Lib.SmallJoins
namespace Go.Proofs.YtdiealijjhfhjaaGreatDoor
open Go.ChangeShapes Go.WideShapes Go.ChangeAt Go.RowKit Go.Joins
/-- A row of characters of the call's own, by its cells. -/
theorem chars_at {B n : Nat} {ca : Option Addr} {cc : Nat} {L : List Ch} {w : World} (h : G4.Chars B (.slice ca n cc) L w) {i : Nat} {c : Ch} (hc : L[i]? = some c) : ∃ g, ca = some ⟨g, 0, none⟩ ∧ g < w.heap.size ∧ w.cell? ⟨g, i * 3, none⟩ = some (.int .i64 c.r) ∧ w.cell? ⟨g, i * 3 + 1, none⟩ = some (.int .i64 c.a) ∧ w.cell? ⟨g, i * 3 + 2, none⟩ = some (.int .i64 c.z) := by
  have hi := (List.getElem?_eq_some_iff.1 hc).1
  rcases h.2 with ⟨e, h0⟩ | ⟨g, cap, cur, e, _, hg, _, _, _, h4⟩
  · omega
  · simp only [Value.slice.injEq] at e
    obtain ⟨rfl, _, _⟩ := e
    obtain ⟨q1, q2, q3⟩ := G4.ch_at L i c hc
    rw [← h4, List.getElem?_take_of_lt (by omega), Array.getElem?_toList] at q1 q2 q3
    exact ⟨g, rfl, (Array.getElem?_eq_some_iff.1 hg).1, by simp [World.cell?, hg, q1], by simp [World.cell?, hg, q2], by simp [World.cell?, hg, q3]⟩


set_option maxHeartbeats 4000000 in
set_option maxRecDepth 20000 in
theorem plain_walk {w : World} (H : G6.Hi w) (s : ByteArray) (text : Int) : Calls Tryz.prog 6 #[.string s, .int .i64 text] w fun e w' => e = .returned (.bool true) ∧ Below w.heap.size w w' := by
  have hw0 := H.lt
  have HAW : Hid (∀ w', Below w.heap.size w w' → Calls Tryz.prog 8 #[] w' fun e w2 => e = .returned (.bool true) ∧ Below w'.heap.size w' w2) := fun w' b => awake_any (H.below b hw0)
  have HH : Hid (G6.Hi w) := H
  clear H
  by_cases hs : s.size ≤ 5000
  · have g1 : decide ((s.size : Int) > 5000) = false := decide_eq_false (by omega)
    go_enter Tryz.func6, Tryz.ntmps6
    go_wp2_with fail
    go_loopw [5] (fun iv wr => ∃ i : Nat, iv = .int .i64 i ∧ i ≤ s.size ∧ wr = w ∧ ∀ b ∈ s.data.toList.take i, b.toNat ≠ 60 ∧ b.toNat ≠ 38) (fun iv _ => s.size - (intOf iv).toNat)
    case atStart => exact ⟨0, rfl, Nat.zero_le _, rfl, fun b hb => by simp at hb⟩
    case round =>
      obtain ⟨i, rfl, hin, hwr, ha⟩ := hrel
      obtain rfl := hwr.symm
      have HA : Hid (∀ b ∈ s.data.toList.take i, b.toNat ≠ 60 ∧ b.toNat ≠ 38) := ha
      clear ha
      by_cases hlt : i < s.size
      · have hlt' : decide ((i : Int) < (s.size : Int)) = true := decide_eq_true (by omega)
        have h1 : i < s.data.toList.length := by rw [Array.length_toList]; exact hlt
        have hb : s.data.toList[i] = s[i]'hlt := by simp [ByteArray.getElem_eq_getElem_data]
        have HT : Hid (s.data.toList.take (i + 1) = s.data.toList.take i ++ [s[i]'hlt]) := by
          show _ = _
          rw [List.take_succ_eq_append_getElem h1, hb]
        clear hb
        by_cases e60 : (s[i]'hlt).toNat = 60
        · have f1 : (((s[i]'hlt).toNat : Int) == 60) = true := by simp; omega
          go_wp2_with fail
          refine (HAW.out _ (Below.refl _ _)).mono ?_
          rintro e w1 ⟨rfl, b1⟩
          have B1 : Hid (Below w.heap.size w w1) := b1
          clear b1
          go_wp2_with fail
          go_ret
          exact ⟨rfl, B1.out⟩
        · have f1 : (((s[i]'hlt).toNat : Int) == 60) = false := by simp; omega
          by_cases e38 : (s[i]'hlt).toNat = 38
          · have f2 : (((s[i]'hlt).toNat : Int) == 38) = true := by simp; omega
            go_wp2_with fail
            refine (HAW.out _ (Below.refl _ _)).mono ?_
            rintro e w1 ⟨rfl, b1⟩
            have B1 : Hid (Below w.heap.size w w1) := b1
            clear b1
            go_wp2_with fail
            go_ret
            exact ⟨rfl, B1.out⟩
          · have f2 : (((s[i]'hlt).toNat : Int) == 38) = false := by simp; omega
            have HN : Hid (∀ b ∈ s.data.toList.take (i + 1), b.toNat ≠ 60 ∧ b.toNat ≠ 38) := fun b hb => by
              rw [HT.out] at hb
              rcases List.mem_append.1 hb with hb | hb
              · exact HA.out b hb
              · rw [List.mem_singleton.1 hb]; exact ⟨e60, e38⟩
            go_wp2_with fail
            exact ⟨⟨i + 1, by go_num, by omega, trivial, HN.out⟩, by simp [intOf]; omega⟩
      · have hlt' : decide ((i : Int) < (s.size : Int)) = false := decide_eq_false (by omega)
        have hall : ∀ b ∈ s.data.toList, b.toNat ≠ 60 ∧ b.toNat ≠ 38 := by
          have := HA.out
          rw [List.take_of_length_le (by rw [Array.length_toList]; have h3 : s.data.size = s.size := rfl; omega)] at this
          exact this
        have k9 := tokens_any HH.out s text titleB hs (by decide)
        obtain ⟨p1, p2⟩ := plain_tk s text (fun b hb => (hall b hb).1) (fun b hb => (hall b hb).2)
        rw [p1, p2] at k9
        have k17 := fun w => G4.rchs_any s w (by omega)
        have hlen : (chars s).length ≤ 5000 := by
          have := outc_le s.data.toList
          rw [show s.data.toList.length = s.size from Array.length_toList] at this
          show (G4.outc s.data.toList).length ≤ 5000
          omega
        have hflen : (G4.fcs 0 (G4.items s.data.toList)).length ≤ 5000 := by
          have := Nat.le_trans (G4.fcs_length (G4.items s.data.toList) 0) (items_le s.data.toList)
          rw [show s.data.toList.length = s.size from Array.length_toList] at this
          omega
        clear p1 p2 hall HA
        go_wp2_with fail
        refine k9.mono ?_
        rintro e w1 ⟨oo, T, oc, fo, L', fc, rfl, hT, _, h1, hst, h2, b1⟩
        obtain rfl := stb_fcs hst
        have hTn : T.length = (chars s).length + 1 := by
          have := congrArg List.length hT
          simpa using this
        have H1 : Hid (Toks w.heap.size (.slice oo T.length oc) T w1 ∧ T.map ptOf = (chars s).map (chT false) ++ [⟨6, 0, ByteArray.empty, ByteArray.empty, [], false, s.size, s.size⟩] ∧ Below w.heap.size w w1 ∧ G4.FaultsC w.heap.size (.slice fo (G4.fcs 0 (G4.items s.data.toList)).length fc) (G4.fcs 0 (G4.items s.data.toList)) w1) := ⟨h1, hT, b1, h2⟩
        obtain ⟨nT, hnT⟩ : ∃ nT, T.length = nT := ⟨_, rfl⟩
        have HN : Hid (T.length = nT ∧ nT = (chars s).length + 1) := ⟨hnT, by omega⟩
        obtain ⟨nF, hnF⟩ : ∃ nF, (G4.fcs 0 (G4.items s.data.toList)).length = nF := ⟨_, rfl⟩
        have HNF : Hid ((G4.fcs 0 (G4.items s.data.toList)).length = nF) := hnF
        rw [hnT, hnF]
        clear h1 hT b1 k9 hTn hnT hst h2 hnF
        go_wp2_with fail
        refine (k17 _).mono ?_
        rintro e w2 ⟨ca, cn, cc, fa, fn', fc', rfl, hc2, hf2, b2⟩
        have hcn : cn = (chars s).length := by
          obtain ⟨ao, cap, e1, _⟩ := rowC (OwnQ.of hc2 : Rw.own w2 (rwC _ (chars s)))
          simp only [Value.slice.injEq] at e1
          exact e1.2.1
        have H2 : Hid (Toks w.heap.size (.slice oo T.length oc) T w2 ∧ T.map ptOf = (chars s).map (chT false) ++ [⟨6, 0, ByteArray.empty, ByteArray.empty, [], false, s.size, s.size⟩] ∧ Below w.heap.size w w2 ∧ G4.Chars w1.heap.size (.slice ca cn cc) (chars s) w2 ∧ T.length = cn + 1 ∧ (chars s).length = cn) := ⟨H1.out.1.below b2, H1.out.2.1, H1.out.2.2.1.trans (b2.mono H1.out.2.2.1.size), hc2, by have := HN.out; omega, by omega⟩
        have KF := G4.faults_same (FaultsC.below H1.out.2.2.2 b2) hf2 (by omega)
        rw [HNF.out] at KF
        have hcl : cn ≤ 5000 := by omega
        have hn1 : nT = cn + 1 := by have := HN.out; omega
        subst hn1
        have HT : Hid (T.length = cn + 1) := HN.out.1
        clear hc2 b2 k17 H1 hcn hlen HN hf2
        have hne : ((cn : Int) + 1 != (cn : Int) + 1) = false := by simp
        go_wp2_with fail
        refine KF.mono ?_
        rintro e w3 ⟨rfl, b3⟩
        have H3 : Hid (Toks w.heap.size (.slice oo T.length oc) T w3 ∧ Below w.heap.size w w3 ∧ Below w2.heap.size w2 w3) := ⟨H2.out.1.below b3, H2.out.2.2.1.trans (b3.mono H2.out.2.2.1.size), b3⟩
        clear b3 KF
        go_wp2_with fail
        go_loopw [10] (fun iv wr => ∃ i : Nat, iv = .int .i64 i ∧ i ≤ cn ∧ Below w3.heap.size w3 wr) (fun iv _ => cn - (intOf iv).toNat)
        case atStart => exact ⟨0, rfl, Nat.zero_le _, Below.refl _ _⟩
        case round =>
          obtain ⟨i, rfl, hin, hb⟩ := hrel
          have HB : Hid (Below w3.heap.size w3 wr) := hb
          by_cases hlt : i < cn
          · obtain ⟨c, hc⟩ : ∃ c, (chars s)[i]? = some c := ⟨_, List.getElem?_eq_getElem (by rw [H2.out.2.2.2.2.2]; exact hlt)⟩
            obtain ⟨t, ht⟩ : ∃ t, T[i]? = some t := ⟨_, List.getElem?_eq_getElem (by rw [HT.out]; omega)⟩
            have hpt : ptOf t = chT false c := by
              have e1 := congrArg (fun l => l[i]?) H2.out.2.1
              simp only [List.getElem?_map, ht, Option.map_some] at e1
              rw [List.getElem?_append_left (by rw [List.length_map, H2.out.2.2.2.2.2]; exact hlt), List.getElem?_map, hc] at e1
              simpa using e1
            have H2t := H3.out.1
            rw [HT.out] at H2t
            obtain ⟨g, rfl, hg, tc, _⟩ := H2t.at HT.out ht
            obtain ⟨cg, rfl, hcg, q0, q1, q2⟩ := chars_at H2.out.2.2.2.1 hc
            have bq := H3.out.2.2.trans (hb.mono H3.out.2.2.size)
            have t0 := (hb.cell (p := ⟨g, i * 8, none⟩) hg).trans tc.c0
            have t1 := (hb.cell (p := ⟨g, i * 8 + 1, none⟩) hg).trans tc.c1
            have t5 := (hb.cell (p := ⟨g, i * 8 + 5, none⟩) hg).trans tc.c5
            have q0' := (bq.cell (p := ⟨cg, i * 3, none⟩) hcg).trans q0
            simp only [ptOf, chT, Pt.mk.injEq] at hpt
            obtain ⟨e0, e1, _, _, _, e5, _, _⟩ := hpt
            obtain ⟨kd, hkd⟩ : ∃ kd, t.1.k = kd := ⟨_, rfl⟩
            obtain ⟨rt, hrt⟩ : ∃ rt, t.1.r = rt := ⟨_, rfl⟩
            obtain ⟨rc, fcc, zc⟩ := c
            simp only at e1 q0'
            rw [hkd] at t0 e0
            rw [hrt] at t1 e1
            rw [e5] at t5
            have f1 : (kd != 1) = false := by simp [e0]
            have f2 : (rt != rc) = false := by simp [e1]
            have hlt' : decide ((i : Int) < (cn : Int)) = true := decide_eq_true (by omega)
            have hi1 : i < cn + 1 := by omega
            have hi2 : (i : Int) < (cn : Int) + 1 := by omega
            have hgr : g < wr.heap.size := Nat.lt_of_lt_of_le hg hb.size
            have hcgr : cg < wr.heap.size := Nat.lt_of_lt_of_le hcg bq.size
            clear hc ht H2t tc q0 q1 q2 e0 e1 e5 hkd hrt hb hg hcg bq
            go_wp2_with fail
            go_quiet (fail)
            go_wp2_with fail
            go_roundw
            case rel => exact ⟨i + 1, by go_num, by omega, G9.below_drewN HB.out _⟩
            case measure => simp [intOf]; omega
          · obtain rfl : i = cn := by omega
            have hlt' : decide ((i : Int) < (i : Int)) = false := decide_eq_false (by omega)
            obtain ⟨t, ht⟩ : ∃ t, T[i]? = some t := ⟨_, List.getElem?_eq_getElem (by rw [HT.out]; omega)⟩
            have hk6 : t.1.k = 6 := by
              have e1 := congrArg (fun l => l[i]?) H2.out.2.1
              simp only [List.getElem?_map, ht, Option.map_some] at e1
              rw [List.getElem?_append_right (by rw [List.length_map, H2.out.2.2.2.2.2]; exact Nat.le_refl _), List.length_map, H2.out.2.2.2.2.2, Nat.sub_self] at e1
              have e2 : ptOf t = (⟨6, 0, ByteArray.empty, ByteArray.empty, [], false, s.size, s.size⟩ : Pt) := by simpa using e1
              exact congrArg Pt.k e2
            have H2t := H3.out.1
            rw [HT.out] at H2t
            obtain ⟨g, rfl, hg, tc, _⟩ := H2t.at HT.out ht
            have t0 := (hb.cell (p := ⟨g, i * 8, none⟩) hg).trans tc.c0
            rw [hk6] at t0
            have hi1 : i < i + 1 := by omega
            have hgr : g < wr.heap.size := Nat.lt_of_lt_of_le hg hb.size
            have bb : Below w.heap.size w wr := H3.out.2.1.trans (hb.mono H3.out.2.1.size)
            have HBB : Hid (Below w.heap.size w wr) := bb
            clear hb ht H2t tc hk6 hg bb
            go_wp2_with fail
            refine (HAW.out _ HBB.out).mono ?_
            rintro e w4 ⟨rfl, b4⟩
            have B4 : Hid (Below w.heap.size w w4) := HBB.out.trans (b4.mono HBB.out.size)
            clear b4
            go_wp2_with fail
            go_ret
            exact ⟨rfl, B4.out⟩
  · have g1 : decide ((s.size : Int) > 5000) = true := decide_eq_true (by omega)
    go_enter Tryz.func6, Tryz.ntmps6
    go_wp2_with fail
    refine (HAW.out _ (Below.refl _ _)).mono ?_
    rintro e w1 ⟨rfl, b1⟩
    have B1 : Hid (Below w.heap.size w w1) := b1
    clear b1
    go_wp2_with fail
    go_ret
    exact ⟨rfl, B1.out⟩

set_option maxRecDepth 100000 in
theorem plain_lifted (os : Os) (started : os.Started) (H : Type) (enc : TypeId × Value → H) :
    ReturnsInHanded {} Tryz.checked os 6 .any (fun w args => (Rows.rawtextPlainSpec.pre enc Tryz.prog Tryz.f6 [] false w args ∧ laidMetH Tryz.prog laidL w) ∧ sizedMet enc Tryz.prog Tryz.f6 (OpenSpec.ofChange Rows.rawtextPlainSpec) false w args) (Rows.rawtextPlainSpec.post enc Tryz.prog Tryz.f6 false true false false) := by
  refine returnsInHanded_of_change_and (C := Tryz.checked) (X := fun w _ => laidMetH Tryz.prog laidL w) (fun _ _ _ hh h => h.of_heap hh) own started (by kernel_rfl) Tryz.func6
    (ChangeSpec.witness_shaped (enc := enc) (C := Tryz.checked) (os := os) (X := fun w _ => laidMetH Tryz.prog laidL w) false (World.doorLaid Tryz.prog 30 os) #[.string ⟨#[]⟩, .int .i64 0] 8 rfl (World.shaped_of_RefB (by kernel_rfl) (by kernel_rfl)) (by kernel_rfl) (by kernel_rfl) (by kernel_rfl) (door_met os _)) ?_
  intro W base args ds gs before hval0 hW _ _ hL _
  have hval : ∀ (j : Nat) t v, Tryz.f6.params[j]? = some t → args[j]? = some v → Value.okWide Tryz.prog W .any base t v := hval0
  have hH : G6.Hi W := hi_of_laid hL
  have hW' := hW
  obtain ⟨p, q, hA0, hV, rfl, hfz, hnd⟩ := hW
  have hA : DataW.TrodAll enc Tryz.prog W 0 (fun _ => true) true Tryz.f6.params.toList args.toList ds p := hA0
  rw [Tryz.params6] at hA hval
  obtain ⟨v0, vs0, d0, ds0, p0, q0, hargs, rfl, rfl, h0, r0⟩ := trodAll_cons hA
  obtain ⟨v1, vs1, d1, ds1, p1, q1, rfl, rfl, rfl, h1, r1⟩ := trodAll_cons r0
  obtain ⟨rfl, rfl, rfl⟩ := trodAll_nil r1
  obtain rfl : args = #[v0, v1] := by cases args; simp_all
  obtain ⟨rfl, rfl⟩ := trodVars_none hV
  have k0 := h0
  have lt0 : ∀ x ∈ p0, x.block < W.heap.size := by obtain ⟨m, hm⟩ := k0; exact DataW.trod_lt m _ _ _ hm
  have k1 := h1
  have lt1 : ∀ x ∈ p1, x.block < W.heap.size := by obtain ⟨m, hm⟩ := k1; exact DataW.trod_lt m _ _ _ hm
  obtain ⟨x0, hv0, _, _, wx0⟩ := Go.ChangeMaps.open_string Tryz.underlying9 (hval 0 9 v0 rfl rfl) h0
  subst hv0
  obtain ⟨x1, hv1, _, _, wx1⟩ := open_int Tryz.underlying3 (hval 1 3 v1 rfl rfl) h1
  subst hv1
  clear hA0 hval0
  refine (plain_walk hH x0 x1).mono fun e W' ⟨he, bel⟩ => ?_
  subst he
  exact ⟨_, rfl, _, _, _, [], _, [], hW', trodAll_mk1 (shut_bool Tryz.underlying4 _), (trodAll_cons_mk (Below.trod laidOut (by kernel_rfl) (of_decide_eq_true (by kernel_rfl)) k0 bel lt0) (trodAll_cons_mk (Below.trod laidOut (by kernel_rfl) (of_decide_eq_true (by kernel_rfl)) k1 bel lt1) trodAll_mk0)), rfl, bel.frame _, fun h => by cases h⟩

theorem plain_holds : Rows.RawtextPlainSaid :=
  OpenClaim.holds_of_wide 6 Tryz.f6 rfl rfl rfl rfl rfl rfl rfl ⟨rfl, rfl, rfl, rfl, rfl⟩ rfl rfl rfl rfl rfl (by kernel_rfl) Tryz.func6 (by kernel_rfl)
    (of_decide_eq_true (by kernel_rfl)) (by unfold Func.isWrapper; first | (rw [if_pos (by decide +kernel)]; kernel_rfl) | (rw [if_neg (by decide +kernel)]; exact ⟨rfl, rfl⟩))
    (fun os started H enc _ => plain_lifted os started H enc)

theorem plain_card : Rows.RawtextPlainCardSaid :=
  Claim7.holds_tied_plain_at .later [] [.data, .data] true Rows.rawtextPlainCard.stood.harness false
    plain_holds (fun _ h => by cases h) (by kernel_rfl) (fun _ h => by cases h) rawtextPlain_row_tie rfl ⟨rfl, rfl⟩ (by kernel_rfl) rfl
    (fun f fn hf hfn => by
      obtain rfl : f = 6 := Option.some.inj ((show Tryz.prog.funcNamed Rows.rawtextPlainRow.func = some 6 by kernel_rfl).symm.trans hf) |>.symm
      obtain rfl : fn = Tryz.f6 := (Option.some.inj (Tryz.func6.symm.trans hfn)).symm
      exact ⟨by kernel_rfl, fun j t ht => by
        rw [Tryz.params6] at ht
        have hm : t ∈ [9, 3] := by simpa using Array.mem_of_getElem? ht
        have hall : ([9, 3].all fun u => !Tryz.prog.wantsStandIn u) = true := by kernel_rfl
        exact (show Tryz.prog.wantsStandIn t = false by simpa using List.all_eq_true.1 hall t hm)⟩)
    (by kernel_rfl)
#print axioms plain_card
end Go.Proofs.YtdiealijjhfhjaaGreatDoor
