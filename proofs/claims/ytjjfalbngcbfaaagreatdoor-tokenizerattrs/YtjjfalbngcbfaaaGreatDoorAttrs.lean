/- The law TokenizerAttrs holds for every name and every list of attributes: a start tag of plain attributes, told between quotes, is read as it is. The program's table is laid as its text lays it (the card ties it); no other condition. -/
import Derived.Test.YtjjfalbngcbfaaaGreatDoorYd
import Derived.ProofKit
import Derived.OpenShut
import Derived.ShutString
import Derived.ChangeOld
import Derived.ChangeMaps
import Derived.Lib.SmallJoins
import Derived.Test.YtjjfalbngcbfaaaGreatDoorUc
namespace Go.Proofs.YtjjfalbngcbfaaaGreatDoor
open Go.ChangeShapes Go.WideShapes Go.ChangeAt Go.RowKit Go.Joins

set_option maxHeartbeats 4000000 in
set_option maxRecDepth 20000 in
theorem attrs_walk {w : World} (H : G6.Hi w) (name : ByteArray) (hns : name.size ≤ maxLen) (lo : Option Addr) (len cap : Nat) (L : List At) (hL : Came w lo len cap L) : Calls Tryz.prog 7 #[.string name, .slice lo len cap] w fun e w' => e = .returned (.bool true) ∧ Below w.heap.size w w' := by
  have hw0 := H.lt
  have HAW : Hid (∀ w', Below w.heap.size w w' → Calls Tryz.prog 9 #[] w' fun e w2 => e = .returned (.bool true) ∧ Below w'.heap.size w' w2) := fun w' b => awake_any (H.below b hw0)
  have hmx : maxLen ≤ 9223372036854775807 := by unfold maxLen; omega
  have k19 := fun w => plain_any name w (by omega)
  by_cases h30 : len ≤ 30
  · have g1 : decide ((len : Int) > 30) = false := decide_eq_false (by omega)
    cases hp : plainB name with
    | false =>
      rw [hp] at k19
      clear H hL hp hns hmx
      go_enter Tryz.func7, Tryz.ntmps7
      go_wp2_with (go_at_call 19; refine (k19 _).mono ?_; rintro e w' ⟨rfl, hw'⟩; obtain rfl := hw'.symm; clear hw')
      refine (HAW.out _ (Below.refl _ _)).mono ?_
      rintro e w3 ⟨rfl, b3⟩
      have B3 : Hid (Below w.heap.size w w3) := b3
      clear b3
      go_wp2_with fail
      go_ret
      exact ⟨rfl, B3.out⟩
    | true =>
      obtain ⟨p1, p2, p3⟩ := plain_ok hp
      obtain ⟨b0, n1, h0⟩ : ∃ b0 n1, name.data.toList = b0 :: n1 := by
        cases e : name.data.toList with
        | nil =>
          have : name.data.toList.length = 0 := by rw [e]; rfl
          rw [Array.length_toList] at this
          have h2 : name.data.size = name.size := rfl
          omega
        | cons b l => exact ⟨b, l, rfl⟩
      have hb : nameB b0 = true := by rw [h0] at p1; simp at p1; exact p1.1
      by_cases hlet : 97 ≤ b0.toNat ∧ b0.toNat ≤ 122
      · exact attrs_main H name lo len cap L hL h30 hp b0 n1 h0 hlet
      · have hidx : (name[0].toNat : Int) = (b0.toNat : Int) := by
          have h1 := G6.at_i name 0 p2
          rw [h0] at h1
          simp at h1
          rw [← h1]
        have hr : b0.toNat = 45 ∨ (48 ≤ b0.toNat ∧ b0.toNat ≤ 57) := by
          unfold nameB at hb
          have := of_decide_eq_true hb
          omega
        rw [hp] at k19
        rcases hr with hr | hr
        · have i1 : ((name[0].toNat : Int) == 45) = true := by rw [hidx]; simp; omega
          clear H hL hp hns hmx p1 h0 hb hlet hidx hr
          go_enter Tryz.func7, Tryz.ntmps7
          go_wp2_with (go_at_call 19; refine (k19 _).mono ?_; rintro e w' ⟨rfl, hw'⟩; obtain rfl := hw'.symm; clear hw')
          refine (HAW.out _ (Below.refl _ _)).mono ?_
          rintro e w3 ⟨rfl, b3⟩
          have B3 : Hid (Below w.heap.size w w3) := b3
          clear b3
          go_wp2_with fail
          go_ret
          exact ⟨rfl, B3.out⟩
        · have i1 : ((name[0].toNat : Int) == 45) = false := by rw [hidx]; simp; omega
          have i2 : decide ((name[0].toNat : Int) ≥ 48) = true := decide_eq_true (by rw [hidx]; omega)
          have i3 : decide ((name[0].toNat : Int) ≤ 57) = true := decide_eq_true (by rw [hidx]; omega)
          clear H hL hp hns hmx p1 h0 hb hlet hidx hr
          go_enter Tryz.func7, Tryz.ntmps7
          go_wp2_with (go_at_call 19; refine (k19 _).mono ?_; rintro e w' ⟨rfl, hw'⟩; obtain rfl := hw'.symm; clear hw')
          refine (HAW.out _ (Below.refl _ _)).mono ?_
          rintro e w3 ⟨rfl, b3⟩
          have B3 : Hid (Below w.heap.size w w3) := b3
          clear b3
          go_wp2_with fail
          go_ret
          exact ⟨rfl, B3.out⟩
  · have g1 : decide ((len : Int) > 30) = true := decide_eq_true (by omega)
    clear H hL hns hmx k19
    go_enter Tryz.func7, Tryz.ntmps7
    go_wp2_with fail
    refine (HAW.out _ (Below.refl _ _)).mono ?_
    rintro e w3 ⟨rfl, b3⟩
    have B3 : Hid (Below w.heap.size w w3) := b3
    clear b3
    go_wp2_with fail
    go_ret
    exact ⟨rfl, B3.out⟩

set_option maxRecDepth 100000 in
theorem attrs_lifted (os : Os) (started : os.Started) (H : Type) (enc : TypeId × Value → H) :
    ReturnsInHanded {} Tryz.checked os 7 .any (fun w args => (Rows.tokenizerAttrsSpec.pre enc Tryz.prog Tryz.f7 [] false w args ∧ laidMetH Tryz.prog laidL w) ∧ sizedMet enc Tryz.prog Tryz.f7 (OpenSpec.ofChange Rows.tokenizerAttrsSpec) false w args) (Rows.tokenizerAttrsSpec.post enc Tryz.prog Tryz.f7 false true false false) := by
  refine returnsInHanded_of_change_and (C := Tryz.checked) (X := fun w _ => laidMetH Tryz.prog laidL w) (fun _ _ _ hh h => h.of_heap hh) own started (by kernel_rfl) Tryz.func7
    (ChangeSpec.witness_shaped (enc := enc) (C := Tryz.checked) (os := os) (X := fun w _ => laidMetH Tryz.prog laidL w) false (World.doorLaid Tryz.prog 14 os) #[.string ⟨#[]⟩, .slice none 0 0] 8 rfl (World.shaped_of_RefB (by kernel_rfl) (by kernel_rfl)) (by kernel_rfl) (by kernel_rfl) (by kernel_rfl) (door_met os _)) ?_
  intro W base args ds gs before hval0 hW _ _ hL _
  have hval : ∀ (j : Nat) t v, Tryz.f7.params[j]? = some t → args[j]? = some v → Value.okWide Tryz.prog W .any base t v := hval0
  have hH : G6.Hi W := hi_of_laid hL
  have hW' := hW
  obtain ⟨p, q, hA0, hV, rfl, hfz, hnd⟩ := hW
  have hA : DataW.TrodAll enc Tryz.prog W 0 (fun _ => true) true Tryz.f7.params.toList args.toList ds p := hA0
  rw [Tryz.params7] at hA hval
  obtain ⟨v0, vs0, d0, ds0, p0, q0, hargs, rfl, rfl, h0, r0⟩ := trodAll_cons hA
  obtain ⟨v1, vs1, d1, ds1, p1, q1, rfl, rfl, rfl, h1, r1⟩ := trodAll_cons r0
  obtain ⟨rfl, rfl, rfl⟩ := trodAll_nil r1
  obtain rfl : args = #[v0, v1] := by cases args; simp_all
  obtain ⟨rfl, rfl⟩ := trodVars_none hV
  have k0 := h0
  have lt0 : ∀ x ∈ p0, x.block < W.heap.size := by obtain ⟨m, hm⟩ := k0; exact DataW.trod_lt m _ _ _ hm
  have k1 := h1
  have lt1 : ∀ x ∈ p1, x.block < W.heap.size := by obtain ⟨m, hm⟩ := k1; exact DataW.trod_lt m _ _ _ hm
  obtain ⟨x0, hv0, _, _, wx0⟩ := Go.ChangeMaps.open_string Tryz.underlying9 (hval 0 9 v0 rfl rfl) h0
  subst hv0
  obtain ⟨lo1, len1, cap1, hv1⟩ := okWide_slice Tryz.underlying41 (hval 1 41 v1 rfl rfl)
  subst hv1
  obtain ⟨fuel1, hf1⟩ := h1
  obtain ⟨L1, hL1⟩ := open_attrs (n := fuel1) (by simpa [Value.cells] using hf1)
  clear hA0 hval0
  refine (attrs_walk hH x0 wx0 lo1 len1 cap1 L1 hL1).mono fun e W' ⟨he, bel⟩ => ?_
  subst he
  exact ⟨_, rfl, _, _, _, [], _, [], hW', trodAll_mk1 (shut_bool Tryz.underlying4 _), (trodAll_cons_mk (Below.trod laidOut (by kernel_rfl) (of_decide_eq_true (by kernel_rfl)) k0 bel lt0) (trodAll_cons_mk (Below.trod laidOut (by kernel_rfl) (of_decide_eq_true (by kernel_rfl)) k1 bel lt1) trodAll_mk0)), rfl, bel.frame _, fun h => by cases h⟩

theorem attrs_holds : Rows.TokenizerAttrsSaid :=
  OpenClaim.holds_of_wide 7 Tryz.f7 rfl rfl rfl rfl rfl rfl rfl ⟨rfl, rfl, rfl, rfl, rfl⟩ rfl rfl rfl rfl rfl (by kernel_rfl) Tryz.func7 (by kernel_rfl)
    (of_decide_eq_true (by kernel_rfl)) (by unfold Func.isWrapper; first | (rw [if_pos (by decide +kernel)]; kernel_rfl) | (rw [if_neg (by decide +kernel)]; exact ⟨rfl, rfl⟩))
    (fun os started H enc _ => attrs_lifted os started H enc)

theorem attrs_card : Rows.TokenizerAttrsCardSaid :=
  Claim7.holds_tied_plain_at .later [] [.data] true Rows.tokenizerAttrsCard.stood.harness true
    attrs_holds (fun _ h => by cases h) (by kernel_rfl) (fun _ h => by cases h) tokenizerAttrs_row_tie rfl ⟨rfl, rfl⟩ (by kernel_rfl) rfl
    (fun f fn hf hfn => by
      obtain rfl : f = 7 := Option.some.inj ((show Tryz.prog.funcNamed Rows.tokenizerAttrsRow.func = some 7 by kernel_rfl).symm.trans hf) |>.symm
      obtain rfl : fn = Tryz.f7 := (Option.some.inj (Tryz.func7.symm.trans hfn)).symm
      exact ⟨by kernel_rfl, fun j t ht => by
        rw [Tryz.params7] at ht
        have hm : t ∈ [9, 41] := by simpa using Array.mem_of_getElem? ht
        have hall : ([9, 41].all fun u => !Tryz.prog.wantsStandIn u) = true := by kernel_rfl
        exact (show Tryz.prog.wantsStandIn t = false by simpa using List.all_eq_true.1 hall t hm)⟩)
    (by kernel_rfl)
#print axioms attrs_card
end Go.Proofs.YtjjfalbngcbfaaaGreatDoor
