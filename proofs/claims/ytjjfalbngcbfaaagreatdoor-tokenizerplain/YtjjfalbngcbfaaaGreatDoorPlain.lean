/- The law TokenizerPlain holds for every text: in TextPlain each character is told as it is. The program's table is laid as its text lays it (the card ties it); no other condition. -/
import Derived.Test.YtjjfalbngcbfaaaGreatDoorYd
import Derived.ProofKit
import Derived.OpenShut
import Derived.ShutString
import Derived.ChangeOld
import Derived.ChangeMaps
import Derived.Lib.SmallJoins
import Derived.BigQuiet
namespace Go.Proofs.YtjjfalbngcbfaaaGreatDoor
open Go.ChangeShapes Go.WideShapes Go.ChangeAt Go.RowKit Go.Joins

theorem ne43 (a b c d : Int) (w : World) : (binOp .neq 43 (.agg #[.int .i64 a, .int .i64 b]) (.agg #[.int .i64 c, .int .i64 d])).run Tryz.prog w = .ok (.bool (!(decide (a = c) && decide (b = d)))) w := by
  have u3 := Tryz.underlying3
  have a3 := Tryz.isAgg3
  have z3 := Tryz.sizeOf3
  have hS : Tryz.prog.underlying 43 = some (.struct (Tryz.prog.fieldsOf 43)) := by kernel_rfl
  have hp : Tryz.prog.stoodInHeld 43 = false := by kernel_rfl
  rw [run_neq_struct, show (10000 : Nat) = 9999 + 1 from rfl, run_equalIn_agg w 9999 43 _ _ hS hp]
  simp only [Program.fieldsOf, Tryz.underlying43]
  go_simp
  by_cases h1 : a = c <;> by_cases h2 : b = d <;> simp [h1, h2]
/-- In TextPlain. -/
abbrev mPlain : Mc := Mc.begin0 3 false
theorem plain_feed (c : Ch) : mPlain.feed c = ([chT false c], mPlain) := by
  have h1 : mPlain.step c = mPlain.tellChar c := by
    show (if mPlain.ref ≠ [] then mPlain.refer c else mPlain.take c) = _
    rw [if_neg (by simp [Mc.begin0, Mc.set, Mc.foreign, Mc.new])]
    show mPlain.data c = _
    unfold Mc.data
    have e : mPlain.text = 3 := rfl
    rw [e, if_neg (by omega), if_neg (by omega), if_neg (by omega)]
  unfold Mc.feed
  rw [h1]
  rfl
theorem plain_feeds (l : List Ch) : Mc.feeds false l mPlain = (l.map (chT false), mPlain) := by
  have key : ∀ (l : List Ch) (A : List Pt), l.foldl (fdStep false) (A, mPlain) = (A ++ l.map (chT false), mPlain) := by
    intro l
    induction l with
    | nil => intro A; simp
    | cons c l ih =>
      intro A
      rw [List.foldl_cons]
      have e : fdStep false (A, mPlain) c = (A ++ [chT false c], mPlain) := by
        unfold fdStep
        rw [plain_feed]
        rfl
      rw [e, ih]
      simp
  exact key l []
def eofP (z : Int) : Pt := ⟨6, 0, ByteArray.empty, ByteArray.empty, [], false, z, z⟩
theorem plain_all (s : ByteArray) : allP s 3 false false = ((chars s).map (chT false) ++ [eofP s.size], []) := by
  unfold allP
  rw [plain_feeds]
  rfl

/-- A row of characters of the call's own, by its cells. -/
theorem chars_at {B n : Nat} {ca : Option Addr} {cc : Nat} {L : List Ch} {w : World} (h : G4.Chars B (.slice ca n cc) L w) {i : Nat} {c : Ch} (hc : L[i]? = some c) : ∃ g, ca = some ⟨g, 0, none⟩ ∧ g < w.heap.size ∧ w.cell? ⟨g, i * 3, none⟩ = some (.int .i64 c.r) ∧ w.cell? ⟨g, i * 3 + 1, none⟩ = some (.int .i64 c.a) ∧ w.cell? ⟨g, i * 3 + 2, none⟩ = some (.int .i64 c.z) := by
  have hi := (List.getElem?_eq_some_iff.1 hc).1
  rcases h.2 with ⟨e, h0⟩ | ⟨g, cap, cur, e, _, hg, _, _, _, h4⟩
  · omega
  · simp only [Value.slice.injEq] at e
    obtain ⟨rfl, _, _⟩ := e
    obtain ⟨q1, q2, q3⟩ := G4.ch_at L i c hc
    rw [← h4, List.getElem?_take_of_lt (by omega), Array.getElem?_toList] at q1 q2 q3
    exact ⟨g, rfl, (Array.getElem?_eq_some_iff.1 hg).1, by simp [World.cell?, hg, q1], by simp [World.cell?, hg, q2], by simp [World.cell?, hg, q3]⟩

set_option maxHeartbeats 4000000 in
set_option maxRecDepth 20000 in
theorem plain_walk {w : World} (H : G6.Hi w) (s : ByteArray) : Calls Tryz.prog 6 #[.string s] w fun e w' => e = .returned (.bool true) ∧ Below w.heap.size w w' := by
  have HH : Hid (G6.Hi w) := H
  have hw0 := H.lt
  have HAW : Hid (∀ w', Below w.heap.size w w' → Calls Tryz.prog 9 #[] w' fun e w2 => e = .returned (.bool true) ∧ Below w'.heap.size w' w2) := fun w' b => awake_any (H.below b hw0)
  by_cases hs : s.size ≤ 5000
  · have g1 : decide ((s.size : Int) > 5000) = false := decide_eq_false (by omega)
    have k10 := all_any H s 3 false false (by omega)
    rw [plain_all] at k10
    have k15 := fun w => G4.rchs_any s w (by omega)
    have hlen : (chars s).length ≤ 5000 := by
      have := outc_le s.data.toList
      rw [show s.data.toList.length = s.size from Array.length_toList] at this
      show (G4.outc s.data.toList).length ≤ 5000
      omega
    clear H
    go_enter Tryz.func6, Tryz.ntmps6
    go_wp2_with fail
    refine k10.mono ?_
    rintro e w1 ⟨oo, T, oc, fo, fc, rfl, hT, _, h1, _, b1⟩
    have hTn : T.length = (chars s).length + 1 := by
      have := congrArg List.length hT
      simpa using this
    have H1 : Hid (Toks w.heap.size (.slice oo T.length oc) T w1 ∧ T.map ptOf = (chars s).map (chT false) ++ [eofP s.size] ∧ Below w.heap.size w w1) := ⟨h1, hT, b1⟩
    obtain ⟨nT, hnT⟩ : ∃ nT, T.length = nT := ⟨_, rfl⟩
    have HN : Hid (T.length = nT ∧ nT = (chars s).length + 1) := ⟨hnT, by omega⟩
    rw [hnT]
    simp only [List.length_nil]
    clear h1 hT b1 k10 hTn hnT
    go_wp2_with fail
    refine (k15 _).mono ?_
    rintro e w2 ⟨ca, cn, cc, fa, fn', fc', rfl, hc2, _, b2⟩
    have hcn : cn = (chars s).length := by
      obtain ⟨ao, cap, e1, _⟩ := rowC (OwnQ.of hc2 : Rw.own w2 (rwC _ (chars s)))
      simp only [Value.slice.injEq] at e1
      exact e1.2.1
    have H2 : Hid (Toks w.heap.size (.slice oo T.length oc) T w2 ∧ T.map ptOf = (chars s).map (chT false) ++ [eofP s.size] ∧ Below w.heap.size w w2 ∧ G4.Chars w1.heap.size (.slice ca cn cc) (chars s) w2 ∧ T.length = cn + 1 ∧ (chars s).length = cn) := ⟨H1.out.1.below b2, H1.out.2.1, H1.out.2.2.trans (b2.mono H1.out.2.2.size), hc2, by have := HN.out; omega, hcn.symm⟩
    have hcl : cn ≤ 5000 := by omega
    have hn1 : nT = cn + 1 := by have := HN.out; omega
    subst hn1
    have HT : Hid (T.length = cn + 1) := HN.out.1
    clear hc2 b2 k15 H1 hcn hlen HN
    go_wp2_with fail
    go_loopw [7] (fun iv wr => ∃ i : Nat, iv = .int .i64 i ∧ i ≤ cn ∧ Below w2.heap.size w2 wr) (fun iv _ => cn - (intOf iv).toNat)
    case atStart => exact ⟨0, rfl, Nat.zero_le _, Below.refl _ _⟩
    case round =>
      obtain ⟨i, rfl, hin, hb⟩ := hrel
      have HB : Hid (Below w2.heap.size w2 wr) := hb
      by_cases hlt : i < cn
      · obtain ⟨c, hc⟩ : ∃ c, (chars s)[i]? = some c := ⟨_, List.getElem?_eq_getElem (by rw [H2.out.2.2.2.2.2]; exact hlt)⟩
        obtain ⟨t, ht⟩ : ∃ t, T[i]? = some t := ⟨_, List.getElem?_eq_getElem (by rw [HT.out]; omega)⟩
        have hpt : ptOf t = chT false c := by
          have e1 := congrArg (fun l => l[i]?) H2.out.2.1
          simp only [List.getElem?_map, ht, Option.map_some] at e1
          rw [List.getElem?_append_left (by rw [List.length_map, H2.out.2.2.2.2.2]; exact hlt), List.getElem?_map, hc] at e1
          simpa using e1
        have H2t := H2.out.1
        rw [HT.out] at H2t
        obtain ⟨g, rfl, hg, tc, _⟩ := H2t.at HT.out ht
        obtain ⟨cg, rfl, hcg, q0, q1, q2⟩ := chars_at H2.out.2.2.2.1 hc
        have t0 := (hb.cell (p := ⟨g, i * 8, none⟩) hg).trans tc.c0
        have t1 := (hb.cell (p := ⟨g, i * 8 + 1, none⟩) hg).trans tc.c1
        have t6 := (hb.cell (p := ⟨g, i * 8 + 6, none⟩) hg).trans tc.c6
        have t7 := (hb.cell (p := ⟨g, i * 8 + 7, none⟩) hg).trans tc.c7
        have q0' := (hb.cell (p := ⟨cg, i * 3, none⟩) hcg).trans q0
        have q1' := (hb.cell (p := ⟨cg, i * 3 + 1, none⟩) hcg).trans q1
        have q2' := (hb.cell (p := ⟨cg, i * 3 + 2, none⟩) hcg).trans q2
        simp only [ptOf, chT, Pt.mk.injEq] at hpt
        obtain ⟨e0, e1, _, _, _, _, e6, e7⟩ := hpt
        obtain ⟨kd, hkd⟩ : ∃ kd, t.1.k = kd := ⟨_, rfl⟩
        obtain ⟨rt, hrt⟩ : ∃ rt, t.1.r = rt := ⟨_, rfl⟩
        obtain ⟨ft, hft⟩ : ∃ ft, t.1.f = ft := ⟨_, rfl⟩
        obtain ⟨zt, hzt⟩ : ∃ zt, t.1.t = zt := ⟨_, rfl⟩
        obtain ⟨rc, fcc, zc⟩ := c
        simp only at e1 e6 e7 q0' q1' q2'
        rw [hkd] at t0 e0
        rw [hrt] at t1 e1
        rw [hft] at t6 e6
        rw [hzt] at t7 e7
        have f1 : (kd != 1) = false := by simp [e0]
        have f2 : (rt != rc) = false := by simp [e1]
        have n43 : ∀ w, (binOp .neq 43 (.agg #[.int .i64 ft, .int .i64 zt]) (.agg #[.int .i64 fcc, .int .i64 zc])).run Tryz.prog w = .ok (.bool false) w := fun w => by
          rw [ne43, e6, e7]
          simp
        have hlt' : decide ((i : Int) < (cn : Int)) = true := decide_eq_true (by omega)
        have hi1 : i < cn + 1 := by omega
        have hi2 : (i : Int) < (cn : Int) + 1 := by omega
        have hgr : g < wr.heap.size := Nat.lt_of_lt_of_le hg hb.size
        have hcgr : cg < wr.heap.size := Nat.lt_of_lt_of_le hcg hb.size
        clear hc ht H2t tc q0 q1 q2 e0 e1 e6 e7 hkd hrt hft hzt hb hg hcg
        go_wp2_with fail
        go_quiet (fail)
        go_wp2_with fail
        go_roundw
        case rel => exact ⟨i + 1, by go_num, by omega, G9.below_drewN HB.out _⟩
        case measure => simp [intOf]; omega
      · obtain rfl : i = cn := by omega
        have hlt' : decide ((i : Int) < (i : Int)) = false := decide_eq_false (by omega)
        clear hb
        go_wp2_with fail
        refine (HAW.out _ (H2.out.2.2.1.trans (HB.out.mono H2.out.2.2.1.size))).mono ?_
        rintro e w3 ⟨rfl, b3⟩
        have bb := H2.out.2.2.1.trans (HB.out.mono H2.out.2.2.1.size)
        have B3 : Hid (Below w.heap.size w w3) := bb.trans (b3.mono bb.size)
        clear b3 bb
        go_wp2_with fail
        go_ret
        exact ⟨rfl, B3.out⟩
  · have g1 : decide ((s.size : Int) > 5000) = true := decide_eq_true (by omega)
    clear H
    go_enter Tryz.func6, Tryz.ntmps6
    go_wp2_with fail
    refine (HAW.out _ (Below.refl _ _)).mono ?_
    rintro e w1 ⟨rfl, b1⟩
    have B1 : Hid (Below w.heap.size w w1) := b1
    clear b1
    go_wp2_with fail
    go_ret
    exact ⟨rfl, B1.out⟩

set_option maxRecDepth 100000 in
theorem plain_lifted (os : Os) (started : os.Started) (H : Type) (enc : TypeId × Value → H) :
    ReturnsInHanded {} Tryz.checked os 6 .any (fun w args => (Rows.tokenizerPlainSpec.pre enc Tryz.prog Tryz.f6 [] false w args ∧ laidMetH Tryz.prog laidL w) ∧ sizedMet enc Tryz.prog Tryz.f6 (OpenSpec.ofChange Rows.tokenizerPlainSpec) false w args) (Rows.tokenizerPlainSpec.post enc Tryz.prog Tryz.f6 false true false false) := by
  refine returnsInHanded_of_change_and (C := Tryz.checked) (X := fun w _ => laidMetH Tryz.prog laidL w) (fun _ _ _ hh h => h.of_heap hh) own started (by kernel_rfl) Tryz.func6
    (ChangeSpec.witness_shaped (enc := enc) (C := Tryz.checked) (os := os) (X := fun w _ => laidMetH Tryz.prog laidL w) false (World.doorLaid Tryz.prog 14 os) #[.string ⟨#[]⟩] 8 rfl (World.shaped_of_RefB (by kernel_rfl) (by kernel_rfl)) (by kernel_rfl) (by kernel_rfl) (by kernel_rfl) (door_met os _)) ?_
  intro W base args ds gs before hval0 hW _ _ hL _
  have hval : ∀ (j : Nat) t v, Tryz.f6.params[j]? = some t → args[j]? = some v → Value.okWide Tryz.prog W .any base t v := hval0
  have hH : G6.Hi W := hi_of_laid hL
  have hW' := hW
  obtain ⟨p, q, hA0, hV, rfl, hfz, hnd⟩ := hW
  have hA : DataW.TrodAll enc Tryz.prog W 0 (fun _ => true) true Tryz.f6.params.toList args.toList ds p := hA0
  rw [Tryz.params6] at hA hval
  obtain ⟨v0, vs0, d0, ds0, p0, q0, hargs, rfl, rfl, h0, r0⟩ := trodAll_cons hA
  obtain ⟨rfl, rfl, rfl⟩ := trodAll_nil r0
  obtain rfl : args = #[v0] := by cases args; simp_all
  obtain ⟨rfl, rfl⟩ := trodVars_none hV
  have k0 := h0
  have lt0 : ∀ x ∈ p0, x.block < W.heap.size := by obtain ⟨m, hm⟩ := k0; exact DataW.trod_lt m _ _ _ hm
  obtain ⟨x0, hv0, _, _, wx0⟩ := Go.ChangeMaps.open_string Tryz.underlying9 (hval 0 9 v0 rfl rfl) h0
  subst hv0
  clear hA0 hval0
  refine (plain_walk hH x0).mono fun e W' ⟨he, bel⟩ => ?_
  subst he
  exact ⟨_, rfl, _, _, _, [], _, [], hW', trodAll_mk1 (shut_bool Tryz.underlying4 _), (trodAll_cons_mk (Below.trod laidOut (by kernel_rfl) (of_decide_eq_true (by kernel_rfl)) k0 bel lt0) trodAll_mk0), rfl, bel.frame _, fun h => by cases h⟩

theorem plain_holds : Rows.TokenizerPlainSaid :=
  OpenClaim.holds_of_wide 6 Tryz.f6 rfl rfl rfl rfl rfl rfl rfl ⟨rfl, rfl, rfl, rfl, rfl⟩ rfl rfl rfl rfl rfl (by kernel_rfl) Tryz.func6 (by kernel_rfl)
    (of_decide_eq_true (by kernel_rfl)) (by unfold Func.isWrapper; first | (rw [if_pos (by decide +kernel)]; kernel_rfl) | (rw [if_neg (by decide +kernel)]; exact ⟨rfl, rfl⟩))
    (fun os started H enc _ => plain_lifted os started H enc)

theorem plain_card : Rows.TokenizerPlainCardSaid :=
  Claim7.holds_tied_plain_at .later [] [.data] true Rows.tokenizerPlainCard.stood.harness true
    plain_holds (fun _ h => by cases h) (by kernel_rfl) (fun _ h => by cases h) tokenizerPlain_row_tie rfl ⟨rfl, rfl⟩ (by kernel_rfl) rfl
    (fun f fn hf hfn => by
      obtain rfl : f = 6 := Option.some.inj ((show Tryz.prog.funcNamed Rows.tokenizerPlainRow.func = some 6 by kernel_rfl).symm.trans hf) |>.symm
      obtain rfl : fn = Tryz.f6 := (Option.some.inj (Tryz.func6.symm.trans hfn)).symm
      exact ⟨by kernel_rfl, fun j t ht => by
        rw [Tryz.params6] at ht
        have hm : t ∈ [9] := by simpa using Array.mem_of_getElem? ht
        have hall : ([9].all fun u => !Tryz.prog.wantsStandIn u) = true := by kernel_rfl
        exact (show Tryz.prog.wantsStandIn t = false by simpa using List.all_eq_true.1 hall t hm)⟩)
    (by kernel_rfl)
#print axioms plain_card
end Go.Proofs.YtjjfalbngcbfaaaGreatDoor
