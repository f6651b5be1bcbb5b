/- The law CharrefBack holds for every text: what was escaped is read as it was. The program's table is laid as its text lays it (the card ties it); no other condition. -/
import Derived.Test.YtaadphifagimaaaDoorBase
import Derived.ProofKit
import Derived.OpenShut
import Derived.ShutString
import Derived.ChangeOld
import Derived.ChangeMaps
import Derived.Lib.SmallJoins
import Derived.Test.YtaadphifagimaaaDoorBk
import Derived.Test.YtaadphifagimaaaDoorTx
import Derived.Test.YtaadphifagimaaaDoorGd
namespace Go.Proofs.YtaadphifagimaaaDoor
open Go.ChangeShapes Go.WideShapes Go.ChangeAt Go.RowKit Go.Joins

theorem text_as {L : List Rf} (A : Api L) {w : World} (H : Hi w) (s : ByteArray) (attr : Bool) (hs : s.size ≤ 100000) {q : ByteArray} (hq : ⟨(textP L attr s.data.toList).toArray⟩ = q) :
    Calls Tryd.prog 14 #[.string s, .bool attr] w fun e w' => e = .returned (.string q) ∧ Below w.heap.size w w' := by
  subst hq
  exact text_any A H s attr hs

set_option maxHeartbeats 1000000 in
theorem back_walk (s : ByteArray) (attr : Bool) {w : World} (H : Hi w) : Calls Tryd.prog 6 #[.string s, .bool attr] w fun e w' => e = .returned (.bool true) ∧ Below w.heap.size w w' := by
  obtain ⟨L, A0⟩ : ∃ L, Apy L := ⟨refs, apy_refs⟩
  have HH : Hid (Hi w ∧ Apy L) := ⟨H, A0⟩
  by_cases hs : s.size ≤ 3000
  · have hg : decide ((3000 : Int) < (s.size : Int)) = false := decide_eq_false (by omega)
    have k1 := good_any s w (by omega)
    have k2 := fun w => escape_any s attr w (by omega)
    have hel := esc_len attr s.data.toList
    have hsl : s.data.toList.length = s.size := Array.length_toList
    obtain ⟨q, hq⟩ : ∃ q : ByteArray, (⟨(escP attr s.data.toList).toArray⟩ : ByteArray) = q := ⟨_, rfl⟩
    rw [hq] at k2
    have hqs : q.size ≤ 18000 := by
      have : q.size = (escP attr s.data.toList).length := by rw [← hq]; exact List.size_toArray
      omega
    have HT : Hid ((⟨(textP L attr q.data.toList).toArray⟩ : ByteArray) = s) := by
      show _ = _
      rw [← hq, show (ByteArray.mk (escP attr s.data.toList).toArray).data.toList = escP attr s.data.toList from rfl, text_esc HH.out.2]
    clear hel hsl hq A0 H
    go_enter Tryd.func6, Tryd.ntmps6
    go_wp2_with fail
    refine k1.mono ?_
    rintro e w1 ⟨b, rfl, b1⟩
    have H1 : Hid (Hi w1 ∧ Below w.heap.size w w1) := ⟨HH.out.1.below b1 HH.out.1.lt, b1⟩
    clear b1 k1
    cases b
    · have k3 := awake_any H1.out.1
      go_wp2_with (go_at_call 10; refine k3.mono ?_; rintro e w2 ⟨rfl, b2⟩; have HB2 : Hid _ := b2; clear b2)
      go_ret
      exact ⟨rfl, H1.out.2.trans (HB2.out.mono H1.out.2.size)⟩
    · go_wp2_with fail
      refine (k2 _).mono ?_
      rintro e w2 ⟨rfl, b2⟩
      have H2 : Hid (Hi w2 ∧ Below w.heap.size w w2) := ⟨H1.out.1.below b2 H1.out.1.lt, H1.out.2.trans (b2.mono H1.out.2.size)⟩
      have k3 := text_as HH.out.2.toApi H2.out.1 q attr (by omega) HT.out
      clear b2 k2 H1
      go_wp2_with fail
      refine k3.mono ?_
      rintro e w3 ⟨rfl, b3⟩
      have H3 : Hid (Hi w3 ∧ Below w.heap.size w w3) := ⟨H2.out.1.below b3 H2.out.1.lt, H2.out.2.trans (b3.mono H2.out.2.size)⟩
      have k4 := awake_any H3.out.1
      clear b3 k3 H2
      go_wp2_with (go_at_call 10; refine k4.mono ?_; rintro e w4 ⟨rfl, b4⟩; have HB4 : Hid _ := b4; clear b4)
      go_ret
      exact ⟨rfl, H3.out.2.trans (HB4.out.mono H3.out.2.size)⟩
  · have hg : decide ((3000 : Int) < (s.size : Int)) = true := decide_eq_true (by omega)
    have k3 := awake_any H
    go_enter Tryd.func6, Tryd.ntmps6
    go_wp2_with (go_at_call 10; refine k3.mono ?_; rintro e w2 ⟨rfl, b2⟩; have HB2 : Hid _ := b2; clear b2)
    go_ret
    exact ⟨rfl, HB2.out⟩

set_option maxRecDepth 100000 in
theorem back_lifted (os : Os) (started : os.Started) (H : Type) (enc : TypeId × Value → H) :
    ReturnsInHanded {} Tryd.checked os 6 .any (fun w args => (Rows.charrefBackSpec.pre enc Tryd.prog Tryd.f6 [] false w args ∧ laidMetH Tryd.prog laidL w) ∧ sizedMet enc Tryd.prog Tryd.f6 (OpenSpec.ofChange Rows.charrefBackSpec) false w args) (Rows.charrefBackSpec.post enc Tryd.prog Tryd.f6 false true false false) := by
  refine returnsInHanded_of_change_and (C := Tryd.checked) (X := fun w _ => laidMetH Tryd.prog laidL w) (fun _ _ _ hh h => h.of_heap hh) own started (by kernel_rfl) Tryd.func6
    (ChangeSpec.witness_shaped (enc := enc) (C := Tryd.checked) (os := os) (X := fun w _ => laidMetH Tryd.prog laidL w) false (World.doorLaid Tryd.prog 14 os) #[.string ⟨#[]⟩, .bool false] 8 rfl (World.shaped_of_RefB (by kernel_rfl) (by kernel_rfl)) (by kernel_rfl) (by kernel_rfl) (by kernel_rfl) (door_met os _)) ?_
  intro W base args ds gs before hval0 hW _ _ hL _
  have hval : ∀ (j : Nat) t v, Tryd.f6.params[j]? = some t → args[j]? = some v → Value.okWide Tryd.prog W .any base t v := hval0
  have hH : Hi W := hi_of_laid hL
  have hW' := hW
  obtain ⟨p, q, hA0, hV, rfl, hfz, hnd⟩ := hW
  have hA : DataW.TrodAll enc Tryd.prog W 0 (fun _ => true) true Tryd.f6.params.toList args.toList ds p := hA0
  rw [Tryd.params6] at hA hval
  obtain ⟨v0, vs0, d0, ds0, p0, q0, hargs, rfl, rfl, h0, r0⟩ := trodAll_cons hA
  obtain ⟨v1, vs1, d1, ds1, p1, q1, rfl, rfl, rfl, h1, r1⟩ := trodAll_cons r0
  obtain ⟨rfl, rfl, rfl⟩ := trodAll_nil r1
  obtain rfl : args = #[v0, v1] := by cases args; simp_all
  obtain ⟨rfl, rfl⟩ := trodVars_none hV
  have k0 := h0
  have lt0 : ∀ x ∈ p0, x.block < W.heap.size := by obtain ⟨m, hm⟩ := k0; exact DataW.trod_lt m _ _ _ hm
  have k1 := h1
  have lt1 : ∀ x ∈ p1, x.block < W.heap.size := by obtain ⟨m, hm⟩ := k1; exact DataW.trod_lt m _ _ _ hm
  obtain ⟨x0, hv0, _, _, wx0⟩ := Go.ChangeMaps.open_string Tryd.underlying9 (hval 0 9 v0 rfl rfl) h0
  obtain ⟨x1, hv1, _, _⟩ := open_bool Tryd.underlying4 (hval 1 4 v1 rfl rfl) h1
  subst hv0 hv1
  clear hA0 hval0
  refine (back_walk x0 x1 hH).mono fun e W' ⟨he, bel⟩ => ?_
  subst he
  exact ⟨_, rfl, _, _, _, [], _, [], hW', trodAll_mk1 (shut_bool Tryd.underlying4 _), (trodAll_cons_mk (Below.trod laidOut (by kernel_rfl) (of_decide_eq_true (by kernel_rfl)) k0 bel lt0) (trodAll_cons_mk (Below.trod laidOut (by kernel_rfl) (of_decide_eq_true (by kernel_rfl)) k1 bel lt1) trodAll_mk0)), rfl, bel.frame _, fun h => by cases h⟩

theorem back_holds : Rows.CharrefBackSaid :=
  OpenClaim.holds_of_wide 6 Tryd.f6 rfl rfl rfl rfl rfl rfl rfl ⟨rfl, rfl, rfl, rfl, rfl⟩ rfl rfl rfl rfl rfl (by kernel_rfl) Tryd.func6 (by kernel_rfl)
    (of_decide_eq_true (by kernel_rfl)) (by unfold Func.isWrapper; first | (rw [if_pos (by decide +kernel)]; kernel_rfl) | (rw [if_neg (by decide +kernel)]; exact ⟨rfl, rfl⟩))
    (fun os started H enc _ => back_lifted os started H enc)

theorem back_card : Rows.CharrefBackCardSaid :=
  Claim7.holds_tied_plain_at .later [] [.data] true Rows.charrefBackCard.stood.harness false
    back_holds (fun _ h => by cases h) (by kernel_rfl) (fun _ h => by cases h) charrefBack_row_tie rfl ⟨rfl, rfl⟩ (by kernel_rfl) rfl
    (fun f fn hf hfn => by
      obtain rfl : f = 6 := Option.some.inj ((show Tryd.prog.funcNamed Rows.charrefBackRow.func = some 6 by kernel_rfl).symm.trans hf) |>.symm
      obtain rfl : fn = Tryd.f6 := (Option.some.inj (Tryd.func6.symm.trans hfn)).symm
      exact ⟨by kernel_rfl, fun j t ht => by
        rw [Tryd.params6] at ht
        have hm : t ∈ [9, 4] := by simpa using Array.mem_of_getElem? ht
        have hall : ([9, 4].all fun u => !Tryd.prog.wantsStandIn u) = true := by kernel_rfl
        exact (show Tryd.prog.wantsStandIn t = false by simpa using List.all_eq_true.1 hall t hm)⟩)
    (by kernel_rfl)
#print axioms back_card
end Go.Proofs.YtaadphifagimaaaDoor
