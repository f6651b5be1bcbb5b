/- The law CharrefOnes holds for every text: the reference that it begins with is the document's. The program's table is laid as its text lays it (the card ties it); no other condition. -/
import Derived.Test.YtaadphifagimaaaDoorBase
import Derived.ProofKit
import Derived.OpenShut
import Derived.ShutString
import Derived.ChangeOld
import Derived.ChangeMaps
import Derived.Lib.SmallJoins
import Derived.Test.YtaadphifagimaaaDoorRo
namespace Go.Proofs.YtaadphifagimaaaDoor
open Go.ChangeShapes Go.WideShapes Go.ChangeAt Go.RowKit Go.Joins

theorem cds_at {w : World} {B : Nat} {v : Value} {L : List Int} (h : Cds w B v L) : ∃ lo cap, v = .slice lo L.length cap ∧ L.length ≤ maxLen ∧ ∀ i x, L[i]? = some x → ∃ g, lo = some ⟨g, 0, none⟩ ∧ w.cell? ⟨g, i, none⟩ = some (.int .i64 x) := by
  rcases h.2 with ⟨rfl, h0⟩ | ⟨g, cap, cur, rfl, hB, hg, h1, h2, h3, h4⟩
  · have : L = [] := List.eq_nil_of_length_eq_zero h0
    subst this
    exact ⟨_, _, rfl, Nat.zero_le _, fun i x hx => by simp at hx⟩
  · refine ⟨_, _, rfl, by omega, fun i x hx => ⟨g, rfl, ?_⟩⟩
    have hil := (List.getElem?_eq_some_iff.1 hx).1
    have h5 : (L.map (Value.int .i64))[i]? = some (.int .i64 x) := by rw [List.getElem?_map, hx]; rfl
    rw [← h4, List.getElem?_take_of_lt (by omega), Array.getElem?_toList] at h5
    simp [World.cell?, hg, h5]

set_option maxHeartbeats 1000000 in
theorem codes_same {w : World} {B1 B2 : Nat} {a b : Value} {L : List Int} (ha : Cds w B1 a L) (hb : Cds w B2 b L) :
    Calls Tryd.prog 13 #[a, b] w fun e w' => e = .returned (.bool true) ∧ Below w.heap.size w w' := by
  obtain ⟨ao, ca, rfl, hm, ha⟩ := cds_at ha
  obtain ⟨bo, cb, rfl, _, hb⟩ := cds_at hb
  obtain ⟨n, hn⟩ : ∃ n, L.length = n := ⟨_, rfl⟩
  rw [hn] at hm ⊢
  have hn9 : n ≤ 9223372036854775807 := by unfold maxLen at hm; omega
  have HA : Hid ((∀ i x, L[i]? = some x → ∃ g, ao = some ⟨g, 0, none⟩ ∧ w.cell? ⟨g, i, none⟩ = some (.int .i64 x)) ∧ (∀ i x, L[i]? = some x → ∃ g, bo = some ⟨g, 0, none⟩ ∧ w.cell? ⟨g, i, none⟩ = some (.int .i64 x)) ∧ L.length = n) := ⟨ha, hb, hn⟩
  clear ha hb hn hm
  go_enter Tryd.func13, Tryd.ntmps13
  go_wp2_with fail
  go_loopw [5] (fun iv wr => ∃ (i q : Nat), iv = .int .i64 i ∧ i ≤ n ∧ wr = w.drewN q) (fun iv _ => n - (intOf iv).toNat)
  case atStart => exact ⟨0, 0, rfl, Nat.zero_le _, rfl⟩
  case round =>
    obtain ⟨i, q, rfl, hi, rfl⟩ := hrel
    by_cases hin : i < n
    · have hil : i < L.length := by rw [HA.out.2.2]; exact hin
      obtain ⟨x, hx⟩ : ∃ x, L[i]? = some x := ⟨_, List.getElem?_eq_getElem hil⟩
      obtain ⟨g1, rfl, c1⟩ := HA.out.1 i x hx
      obtain ⟨g2, rfl, c2⟩ := HA.out.2.1 i x hx
      clear hx hil
      go_wp2_with fail
      go_quiet (fail)
      go_wp2_with fail
      exact ⟨⟨i + 1, _, by go_num, by omega, rfl⟩, by simp [intOf]; omega⟩
    · have hg : decide ((i : Int) < (n : Int)) = false := decide_eq_false (by omega)
      go_wp2_with fail
      go_ret
      exact ⟨rfl, below_drewN (Below.refl _ _) _⟩

set_option maxHeartbeats 1000000 in
theorem ones_walk (s : ByteArray) (attr : Bool) {w : World} (H : Hi w) : Calls Tryd.prog 4 #[.string s, .bool attr] w fun e w' => e = .returned (.bool true) ∧ Below w.heap.size w w' := by
  obtain ⟨L, A0⟩ : ∃ L, Apx L := ⟨refs, api_refs⟩
  have HH : Hid (Hi w) := H
  by_cases hs : s.size ≤ 3000
  · have hg : decide ((3000 : Int) < (s.size : Int)) = false := decide_eq_false (by omega)
    have k1 := one_any A0.toApi H s attr (by omega)
    have k2 := fun w => rone_any A0.toApi s attr w (by omega)
    obtain ⟨p, hp⟩ : ∃ p, refP L attr s.data.toList = p := ⟨_, rfl⟩
    rw [hp] at k1 k2
    obtain ⟨r, n, C⟩ := p
    clear hp A0 H
    go_enter Tryd.func4, Tryd.ntmps4
    go_wp2_with fail
    refine k1.mono ?_
    rintro e w1 ⟨v1, rfl, c1, b1⟩
    simp only
    have H1 : Hid (Hi w1 ∧ Below w.heap.size w w1 ∧ Cds w1 w.heap.size v1 C) := ⟨HH.out.below b1 HH.out.lt, b1, c1⟩
    clear b1 c1 k1
    go_wp2_with fail
    refine (k2 _).mono ?_
    rintro e w2 ⟨v2, rfl, c2, b2⟩
    simp only
    have H2 : Hid (Hi w2 ∧ Below w.heap.size w w2) := ⟨H1.out.1.below b2 H1.out.1.lt, H1.out.2.1.trans (b2.mono H1.out.2.1.size)⟩
    have k3 := codes_same (cds_below H1.out.2.2 b2) c2
    clear b2 c2 k2 H1
    go_wp2_with (go_at_call 13; refine k3.mono ?_; rintro e w3 ⟨rfl, b3⟩; have H3 : Hid _ := b3; have k4 := awake_any (H2.out.1.below b3 H2.out.1.lt); clear b3 k3)
    refine k4.mono ?_
    rintro e w4 ⟨rfl, b4⟩
    have H4 : Hid (Below w.heap.size w w4) := (H2.out.2.trans (H3.out.mono H2.out.2.size)).trans (b4.mono (H2.out.2.trans (H3.out.mono H2.out.2.size)).size)
    clear b4 k4 H3 H2
    go_wp2_with fail
    go_ret
    exact ⟨rfl, H4.out⟩
  · have hg : decide ((3000 : Int) < (s.size : Int)) = true := decide_eq_true (by omega)
    have k3 := awake_any H
    go_enter Tryd.func4, Tryd.ntmps4
    go_wp2_with (go_at_call 10; refine k3.mono ?_; rintro e w2 ⟨rfl, b2⟩; have HB2 : Hid _ := b2; clear b2)
    go_ret
    exact ⟨rfl, HB2.out⟩

set_option maxRecDepth 100000 in
theorem ones_lifted (os : Os) (started : os.Started) (H : Type) (enc : TypeId × Value → H) :
    ReturnsInHanded {} Tryd.checked os 4 .any (fun w args => (Rows.charrefOnesSpec.pre enc Tryd.prog Tryd.f4 [] false w args ∧ laidMetH Tryd.prog laidL w) ∧ sizedMet enc Tryd.prog Tryd.f4 (OpenSpec.ofChange Rows.charrefOnesSpec) false w args) (Rows.charrefOnesSpec.post enc Tryd.prog Tryd.f4 false true false false) := by
  refine returnsInHanded_of_change_and (C := Tryd.checked) (X := fun w _ => laidMetH Tryd.prog laidL w) (fun _ _ _ hh h => h.of_heap hh) own started (by kernel_rfl) Tryd.func4
    (ChangeSpec.witness_shaped (enc := enc) (C := Tryd.checked) (os := os) (X := fun w _ => laidMetH Tryd.prog laidL w) false (World.doorLaid Tryd.prog 14 os) #[.string ⟨#[]⟩, .bool false] 8 rfl (World.shaped_of_RefB (by kernel_rfl) (by kernel_rfl)) (by kernel_rfl) (by kernel_rfl) (by kernel_rfl) (door_met os _)) ?_
  intro W base args ds gs before hval0 hW _ _ hL _
  have hval : ∀ (j : Nat) t v, Tryd.f4.params[j]? = some t → args[j]? = some v → Value.okWide Tryd.prog W .any base t v := hval0
  have hH : Hi W := hi_of_laid hL
  have hW' := hW
  obtain ⟨p, q, hA0, hV, rfl, hfz, hnd⟩ := hW
  have hA : DataW.TrodAll enc Tryd.prog W 0 (fun _ => true) true Tryd.f4.params.toList args.toList ds p := hA0
  rw [Tryd.params4] at hA hval
  obtain ⟨v0, vs0, d0, ds0, p0, q0, hargs, rfl, rfl, h0, r0⟩ := trodAll_cons hA
  obtain ⟨v1, vs1, d1, ds1, p1, q1, rfl, rfl, rfl, h1, r1⟩ := trodAll_cons r0
  obtain ⟨rfl, rfl, rfl⟩ := trodAll_nil r1
  obtain rfl : args = #[v0, v1] := by cases args; simp_all
  obtain ⟨rfl, rfl⟩ := trodVars_none hV
  have k0 := h0
  have lt0 : ∀ x ∈ p0, x.block < W.heap.size := by obtain ⟨m, hm⟩ := k0; exact DataW.trod_lt m _ _ _ hm
  have k1 := h1
  have lt1 : ∀ x ∈ p1, x.block < W.heap.size := by obtain ⟨m, hm⟩ := k1; exact DataW.trod_lt m _ _ _ hm
  obtain ⟨x0, hv0, _, _, wx0⟩ := Go.ChangeMaps.open_string Tryd.underlying9 (hval 0 9 v0 rfl rfl) h0
  obtain ⟨x1, hv1, _, _⟩ := open_bool Tryd.underlying4 (hval 1 4 v1 rfl rfl) h1
  subst hv0 hv1
  clear hA0 hval0
  refine (ones_walk x0 x1 hH).mono fun e W' ⟨he, bel⟩ => ?_
  subst he
  exact ⟨_, rfl, _, _, _, [], _, [], hW', trodAll_mk1 (shut_bool Tryd.underlying4 _), (trodAll_cons_mk (Below.trod laidOut (by kernel_rfl) (of_decide_eq_true (by kernel_rfl)) k0 bel lt0) (trodAll_cons_mk (Below.trod laidOut (by kernel_rfl) (of_decide_eq_true (by kernel_rfl)) k1 bel lt1) trodAll_mk0)), rfl, bel.frame _, fun h => by cases h⟩

theorem ones_holds : Rows.CharrefOnesSaid :=
  OpenClaim.holds_of_wide 4 Tryd.f4 rfl rfl rfl rfl rfl rfl rfl ⟨rfl, rfl, rfl, rfl, rfl⟩ rfl rfl rfl rfl rfl (by kernel_rfl) Tryd.func4 (by kernel_rfl)
    (of_decide_eq_true (by kernel_rfl)) (by unfold Func.isWrapper; first | (rw [if_pos (by decide +kernel)]; kernel_rfl) | (rw [if_neg (by decide +kernel)]; exact ⟨rfl, rfl⟩))
    (fun os started H enc _ => ones_lifted os started H enc)

theorem ones_card : Rows.CharrefOnesCardSaid :=
  Claim7.holds_tied_plain_at .later [] [.data] true Rows.charrefOnesCard.stood.harness false
    ones_holds (fun _ h => by cases h) (by kernel_rfl) (fun _ h => by cases h) charrefOnes_row_tie rfl ⟨rfl, rfl⟩ (by kernel_rfl) rfl
    (fun f fn hf hfn => by
      obtain rfl : f = 4 := Option.some.inj ((show Tryd.prog.funcNamed Rows.charrefOnesRow.func = some 4 by kernel_rfl).symm.trans hf) |>.symm
      obtain rfl : fn = Tryd.f4 := (Option.some.inj (Tryd.func4.symm.trans hfn)).symm
      exact ⟨by kernel_rfl, fun j t ht => by
        rw [Tryd.params4] at ht
        have hm : t ∈ [9, 4] := by simpa using Array.mem_of_getElem? ht
        have hall : ([9, 4].all fun u => !Tryd.prog.wantsStandIn u) = true := by kernel_rfl
        exact (show Tryd.prog.wantsStandIn t = false by simpa using List.all_eq_true.1 hall t hm)⟩)
    (by kernel_rfl)
#print axioms ones_card
end Go.Proofs.YtaadphifagimaaaDoor
