/- The law CharrefTexts holds for every text: read and escaped it is the document's. The program's table is laid as its text lays it (the card ties it); no other condition. -/
import Derived.Test.YtaadphifagimaaaDoorBase
import Derived.ProofKit
import Derived.OpenShut
import Derived.ShutString
import Derived.ChangeOld
import Derived.ChangeMaps
import Derived.Lib.SmallJoins
import Derived.Test.YtaadphifagimaaaDoorRx
namespace Go.Proofs.YtaadphifagimaaaDoor
open Go.ChangeShapes Go.WideShapes Go.ChangeAt Go.RowKit Go.Joins

set_option maxHeartbeats 1000000 in
theorem texts_walk (s : ByteArray) (attr : Bool) {w : World} (H : Hi w) : Calls Tryd.prog 5 #[.string s, .bool attr] w fun e w' => e = .returned (.bool true) ∧ Below w.heap.size w w' := by
  obtain ⟨L, A0⟩ : ∃ L, Apz L := ⟨refs, apz_refs⟩
  have HH : Hid (Hi w) := H
  by_cases hs : s.size ≤ 3000
  · have hg : decide ((3000 : Int) < (s.size : Int)) = false := decide_eq_false (by omega)
    have k1 := text_any A0.toApi H s attr (by omega)
    have k2 := fun w => rtext_any A0 s attr w (by omega)
    have k3 := fun w => escape_any s attr w (by omega)
    have k4 := fun w => resc_any s attr w (by omega)
    obtain ⟨t, ht⟩ : ∃ t : ByteArray, (⟨(textP L attr s.data.toList).toArray⟩ : ByteArray) = t := ⟨_, rfl⟩
    obtain ⟨x, hx⟩ : ∃ x : ByteArray, (⟨(escP attr s.data.toList).toArray⟩ : ByteArray) = x := ⟨_, rfl⟩
    rw [ht] at k1 k2
    rw [hx] at k3 k4
    clear ht hx A0 H
    go_enter Tryd.func5, Tryd.ntmps5
    go_wp2_with fail
    refine k1.mono ?_
    rintro e w1 ⟨rfl, b1⟩
    have H1 : Hid (Hi w1 ∧ Below w.heap.size w w1) := ⟨HH.out.below b1 HH.out.lt, b1⟩
    clear b1 k1
    go_wp2_with fail
    refine (k2 _).mono ?_
    rintro e w2 ⟨rfl, b2⟩
    have H2 : Hid (Hi w2 ∧ Below w.heap.size w w2) := ⟨H1.out.1.below b2 H1.out.1.lt, H1.out.2.trans (b2.mono H1.out.2.size)⟩
    clear b2 k2 H1
    go_wp2_with fail
    refine (k3 _).mono ?_
    rintro e w3 ⟨rfl, b3⟩
    have H3 : Hid (Hi w3 ∧ Below w.heap.size w w3) := ⟨H2.out.1.below b3 H2.out.1.lt, H2.out.2.trans (b3.mono H2.out.2.size)⟩
    clear b3 k3 H2
    go_wp2_with fail
    refine (k4 _).mono ?_
    rintro e w4 ⟨rfl, b4⟩
    have H4 : Hid (Hi w4 ∧ Below w.heap.size w w4) := ⟨H3.out.1.below b4 H3.out.1.lt, H3.out.2.trans (b4.mono H3.out.2.size)⟩
    have k5 := awake_any H4.out.1
    clear b4 k4 H3
    go_wp2_with (go_at_call 10; refine k5.mono ?_; rintro e w5 ⟨rfl, b5⟩; have HB5 : Hid _ := b5; clear b5)
    go_ret
    exact ⟨rfl, H4.out.2.trans (HB5.out.mono H4.out.2.size)⟩
  · have hg : decide ((3000 : Int) < (s.size : Int)) = true := decide_eq_true (by omega)
    have k3 := awake_any H
    go_enter Tryd.func5, Tryd.ntmps5
    go_wp2_with (go_at_call 10; refine k3.mono ?_; rintro e w2 ⟨rfl, b2⟩; have HB2 : Hid _ := b2; clear b2)
    go_ret
    exact ⟨rfl, HB2.out⟩

set_option maxRecDepth 100000 in
theorem texts_lifted (os : Os) (started : os.Started) (H : Type) (enc : TypeId × Value → H) :
    ReturnsInHanded {} Tryd.checked os 5 .any (fun w args => (Rows.charrefTextsSpec.pre enc Tryd.prog Tryd.f5 [] false w args ∧ laidMetH Tryd.prog laidL w) ∧ sizedMet enc Tryd.prog Tryd.f5 (OpenSpec.ofChange Rows.charrefTextsSpec) false w args) (Rows.charrefTextsSpec.post enc Tryd.prog Tryd.f5 false true false false) := by
  refine returnsInHanded_of_change_and (C := Tryd.checked) (X := fun w _ => laidMetH Tryd.prog laidL w) (fun _ _ _ hh h => h.of_heap hh) own started (by kernel_rfl) Tryd.func5
    (ChangeSpec.witness_shaped (enc := enc) (C := Tryd.checked) (os := os) (X := fun w _ => laidMetH Tryd.prog laidL w) false (World.doorLaid Tryd.prog 14 os) #[.string ⟨#[]⟩, .bool false] 8 rfl (World.shaped_of_RefB (by kernel_rfl) (by kernel_rfl)) (by kernel_rfl) (by kernel_rfl) (by kernel_rfl) (door_met os _)) ?_
  intro W base args ds gs before hval0 hW _ _ hL _
  have hval : ∀ (j : Nat) t v, Tryd.f5.params[j]? = some t → args[j]? = some v → Value.okWide Tryd.prog W .any base t v := hval0
  have hH : Hi W := hi_of_laid hL
  have hW' := hW
  obtain ⟨p, q, hA0, hV, rfl, hfz, hnd⟩ := hW
  have hA : DataW.TrodAll enc Tryd.prog W 0 (fun _ => true) true Tryd.f5.params.toList args.toList ds p := hA0
  rw [Tryd.params5] at hA hval
  obtain ⟨v0, vs0, d0, ds0, p0, q0, hargs, rfl, rfl, h0, r0⟩ := trodAll_cons hA
  obtain ⟨v1, vs1, d1, ds1, p1, q1, rfl, rfl, rfl, h1, r1⟩ := trodAll_cons r0
  obtain ⟨rfl, rfl, rfl⟩ := trodAll_nil r1
  obtain rfl : args = #[v0, v1] := by cases args; simp_all
  obtain ⟨rfl, rfl⟩ := trodVars_none hV
  have k0 := h0
  have lt0 : ∀ x ∈ p0, x.block < W.heap.size := by obtain ⟨m, hm⟩ := k0; exact DataW.trod_lt m _ _ _ hm
  have k1 := h1
  have lt1 : ∀ x ∈ p1, x.block < W.heap.size := by obtain ⟨m, hm⟩ := k1; exact DataW.trod_lt m _ _ _ hm
  obtain ⟨x0, hv0, _, _, wx0⟩ := Go.ChangeMaps.open_string Tryd.underlying9 (hval 0 9 v0 rfl rfl) h0
  obtain ⟨x1, hv1, _, _⟩ := open_bool Tryd.underlying4 (hval 1 4 v1 rfl rfl) h1
  subst hv0 hv1
  clear hA0 hval0
  refine (texts_walk x0 x1 hH).mono fun e W' ⟨he, bel⟩ => ?_
  subst he
  exact ⟨_, rfl, _, _, _, [], _, [], hW', trodAll_mk1 (shut_bool Tryd.underlying4 _), (trodAll_cons_mk (Below.trod laidOut (by kernel_rfl) (of_decide_eq_true (by kernel_rfl)) k0 bel lt0) (trodAll_cons_mk (Below.trod laidOut (by kernel_rfl) (of_decide_eq_true (by kernel_rfl)) k1 bel lt1) trodAll_mk0)), rfl, bel.frame _, fun h => by cases h⟩

theorem texts_holds : Rows.CharrefTextsSaid :=
  OpenClaim.holds_of_wide 5 Tryd.f5 rfl rfl rfl rfl rfl rfl rfl ⟨rfl, rfl, rfl, rfl, rfl⟩ rfl rfl rfl rfl rfl (by kernel_rfl) Tryd.func5 (by kernel_rfl)
    (of_decide_eq_true (by kernel_rfl)) (by unfold Func.isWrapper; first | (rw [if_pos (by decide +kernel)]; kernel_rfl) | (rw [if_neg (by decide +kernel)]; exact ⟨rfl, rfl⟩))
    (fun os started H enc _ => texts_lifted os started H enc)

theorem texts_card : Rows.CharrefTextsCardSaid :=
  Claim7.holds_tied_plain_at .later [] [.data] true Rows.charrefTextsCard.stood.harness false
    texts_holds (fun _ h => by cases h) (by kernel_rfl) (fun _ h => by cases h) charrefTexts_row_tie rfl ⟨rfl, rfl⟩ (by kernel_rfl) rfl
    (fun f fn hf hfn => by
      obtain rfl : f = 5 := Option.some.inj ((show Tryd.prog.funcNamed Rows.charrefTextsRow.func = some 5 by kernel_rfl).symm.trans hf) |>.symm
      obtain rfl : fn = Tryd.f5 := (Option.some.inj (Tryd.func5.symm.trans hfn)).symm
      exact ⟨by kernel_rfl, fun j t ht => by
        rw [Tryd.params5] at ht
        have hm : t ∈ [9, 4] := by simpa using Array.mem_of_getElem? ht
        have hall : ([9, 4].all fun u => !Tryd.prog.wantsStandIn u) = true := by kernel_rfl
        exact (show Tryd.prog.wantsStandIn t = false by simpa using List.all_eq_true.1 hall t hm)⟩)
    (by kernel_rfl)
#print axioms texts_card
end Go.Proofs.YtaadphifagimaaaDoor
