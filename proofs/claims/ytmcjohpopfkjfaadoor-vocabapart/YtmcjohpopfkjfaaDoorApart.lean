/- The law VocabApart holds for every name: no name is a formatting one and special; all void, block and heading ones are special; no void one has a text of its own. The program's lists are laid as its text lays them (the card ties them); no other condition. -/
import Derived.Test.YtmcjohpopfkjfaaDoorBase
import Derived.ProofKit
import Derived.OpenShut
import Derived.ShutString
import Derived.ChangeOld
import Derived.ChangeMaps
import Derived.Lib.SmallJoins
namespace Go.Proofs.YtmcjohpopfkjfaaDoor
open Go.ChangeShapes Go.WideShapes Go.ChangeAt Go.RowKit Go.Joins

/-- What the walk wants of the five answers. -/
theorem apart_facts (s : ByteArray) : (has 1 s = true → spc 0 s = false) ∧ (has 0 s = true → spc 0 s = true) ∧ (has 4 s = true → spc 0 s = true) ∧ (has 3 s = true → spc 0 s = true) ∧ (has 0 s = true → textK s = 0) := by
  refine ⟨formats_apart s, fun h => ?_, fun h => ?_, fun h => ?_, void_text s⟩
  all_goals
    unfold spc
    rw [if_pos rfl, h]
    simp
set_option maxHeartbeats 1000000 in
theorem apart_walk (s : ByteArray) {w : World} (T : Tb w) : Calls Tryd.prog 7 #[.string s] w fun e w' => e = .returned (.bool true) ∧ Below w.heap.size w w' := by
  have k3 := awake_any T
  by_cases hs : 10000 < (s.size : Int)
  · have hg : decide (10000 < (s.size : Int)) = true := decide_eq_true hs
    go_enter Tryd.func7, Tryd.ntmps7
    go_wp2_with fail
    refine k3.mono ?_
    rintro e w3 ⟨rfl, b3⟩
    have HB : Hid _ := b3
    clear b3 k3
    go_wp2_with fail
    go_ret
    exact ⟨rfl, HB.out⟩
  have hg : decide (10000 < (s.size : Int)) = false := decide_eq_false hs
  have kv := void_any s T
  have kf := formats_any s T
  have kh := heading_any s T
  have kb := block_any s T
  have kt := text_any s T
  have ks := special_any 0 s T
  obtain ⟨f1, f2, f3, f4, f5⟩ := apart_facts s
  generalize has 0 s = a at *
  generalize has 1 s = b at *
  generalize has 3 s = d at *
  generalize has 4 s = m at *
  generalize spc 0 s = p at *
  generalize textK s = n at *
  clear T
  cases b with
  | true =>
    obtain rfl := f1 rfl
    have ha : a = false := by cases a <;> first | rfl | exact absurd (f2 rfl) (by decide)
    have hm : m = false := by cases m <;> first | rfl | exact absurd (f3 rfl) (by decide)
    have hd : d = false := by cases d <;> first | rfl | exact absurd (f4 rfl) (by decide)
    subst ha hm hd
    clear f1 f2 f3 f4 f5
    go_enter Tryd.func7, Tryd.ntmps7
    go_wp2_with fail
    refine kf.mono ?_
    rintro e w1 ⟨rfl, rfl⟩
    go_wp2_with fail
    refine ks.mono ?_
    rintro e w1 ⟨rfl, rfl⟩
    go_wp2_with fail
    refine kv.mono ?_
    rintro e w1 ⟨rfl, rfl⟩
    go_wp2_with fail
    refine kb.mono ?_
    rintro e w1 ⟨rfl, rfl⟩
    go_wp2_with fail
    refine kh.mono ?_
    rintro e w1 ⟨rfl, rfl⟩
    go_wp2_with fail
    refine kt.mono ?_
    rintro e w1 ⟨rfl, rfl⟩
    by_cases hn : n = 0
    · subst hn
      go_wp2_with fail
      refine k3.mono ?_
      rintro e w3 ⟨rfl, b3⟩
      have HB : Hid _ := b3
      clear b3 k3
      go_wp2_with fail
      go_ret
      exact ⟨rfl, HB.out⟩
    · have hn' := beq_false_of_ne hn
      have hn2 : (n != 0) = true := by simp [bne, hn']
      go_wp2_with fail
      refine kv.mono ?_
      rintro e w1 ⟨rfl, rfl⟩
      go_wp2_with fail
      refine k3.mono ?_
      rintro e w3 ⟨rfl, b3⟩
      have HB : Hid _ := b3
      clear b3 k3
      go_wp2_with fail
      go_ret
      exact ⟨rfl, HB.out⟩
  | false =>
    cases a with
    | true =>
      obtain rfl := f2 rfl
      obtain rfl := f5 rfl
      clear f1 f2 f3 f4 f5
      go_enter Tryd.func7, Tryd.ntmps7
      go_wp2_with fail
      refine kf.mono ?_
      rintro e w1 ⟨rfl, rfl⟩
      go_wp2_with fail
      refine kv.mono ?_
      rintro e w1 ⟨rfl, rfl⟩
      go_wp2_with fail
      refine ks.mono ?_
      rintro e w1 ⟨rfl, rfl⟩
      go_wp2_with fail
      refine kt.mono ?_
      rintro e w1 ⟨rfl, rfl⟩
      go_wp2_with fail
      refine k3.mono ?_
      rintro e w3 ⟨rfl, b3⟩
      have HB : Hid _ := b3
      clear b3 k3
      go_wp2_with fail
      go_ret
      exact ⟨rfl, HB.out⟩
    | false =>
      cases m with
      | true =>
        obtain rfl := f3 rfl
        clear f1 f2 f3 f4 f5
        go_enter Tryd.func7, Tryd.ntmps7
        go_wp2_with fail
        refine kf.mono ?_
        rintro e w1 ⟨rfl, rfl⟩
        go_wp2_with fail
        refine kv.mono ?_
        rintro e w1 ⟨rfl, rfl⟩
        go_wp2_with fail
        refine kb.mono ?_
        rintro e w1 ⟨rfl, rfl⟩
        go_wp2_with fail
        refine ks.mono ?_
        rintro e w1 ⟨rfl, rfl⟩
        go_wp2_with fail
        refine kt.mono ?_
        rintro e w1 ⟨rfl, rfl⟩
        by_cases hn : n = 0
        · subst hn
          go_wp2_with fail
          refine k3.mono ?_
          rintro e w3 ⟨rfl, b3⟩
          have HB : Hid _ := b3
          clear b3 k3
          go_wp2_with fail
          go_ret
          exact ⟨rfl, HB.out⟩
        · have hn' := beq_false_of_ne hn
          have hn2 : (n != 0) = true := by simp [bne, hn']
          go_wp2_with fail
          refine kv.mono ?_
          rintro e w1 ⟨rfl, rfl⟩
          go_wp2_with fail
          refine k3.mono ?_
          rintro e w3 ⟨rfl, b3⟩
          have HB : Hid _ := b3
          clear b3 k3
          go_wp2_with fail
          go_ret
          exact ⟨rfl, HB.out⟩
      | false =>
        cases d with
        | true =>
          obtain rfl := f4 rfl
          clear f1 f2 f3 f4 f5
          go_enter Tryd.func7, Tryd.ntmps7
          go_wp2_with fail
          refine kf.mono ?_
          rintro e w1 ⟨rfl, rfl⟩
          go_wp2_with fail
          refine kv.mono ?_
          rintro e w1 ⟨rfl, rfl⟩
          go_wp2_with fail
          refine kb.mono ?_
          rintro e w1 ⟨rfl, rfl⟩
          go_wp2_with fail
          refine kh.mono ?_
          rintro e w1 ⟨rfl, rfl⟩
          go_wp2_with fail
          refine ks.mono ?_
          rintro e w1 ⟨rfl, rfl⟩
          go_wp2_with fail
          refine kt.mono ?_
          rintro e w1 ⟨rfl, rfl⟩
          by_cases hn : n = 0
          · subst hn
            go_wp2_with fail
            refine k3.mono ?_
            rintro e w3 ⟨rfl, b3⟩
            have HB : Hid _ := b3
            clear b3 k3
            go_wp2_with fail
            go_ret
            exact ⟨rfl, HB.out⟩
          · have hn' := beq_false_of_ne hn
            have hn2 : (n != 0) = true := by simp [bne, hn']
            go_wp2_with fail
            refine kv.mono ?_
            rintro e w1 ⟨rfl, rfl⟩
            go_wp2_with fail
            refine k3.mono ?_
            rintro e w3 ⟨rfl, b3⟩
            have HB : Hid _ := b3
            clear b3 k3
            go_wp2_with fail
            go_ret
            exact ⟨rfl, HB.out⟩
        | false =>
          clear f1 f2 f3 f4 f5
          go_enter Tryd.func7, Tryd.ntmps7
          go_wp2_with fail
          refine kf.mono ?_
          rintro e w1 ⟨rfl, rfl⟩
          go_wp2_with fail
          refine kv.mono ?_
          rintro e w1 ⟨rfl, rfl⟩
          go_wp2_with fail
          refine kb.mono ?_
          rintro e w1 ⟨rfl, rfl⟩
          go_wp2_with fail
          refine kh.mono ?_
          rintro e w1 ⟨rfl, rfl⟩
          go_wp2_with fail
          refine kt.mono ?_
          rintro e w1 ⟨rfl, rfl⟩
          by_cases hn : n = 0
          · subst hn
            go_wp2_with fail
            refine k3.mono ?_
            rintro e w3 ⟨rfl, b3⟩
            have HB : Hid _ := b3
            clear b3 k3
            go_wp2_with fail
            go_ret
            exact ⟨rfl, HB.out⟩
          · have hn' := beq_false_of_ne hn
            have hn2 : (n != 0) = true := by simp [bne, hn']
            go_wp2_with fail
            refine kv.mono ?_
            rintro e w1 ⟨rfl, rfl⟩
            go_wp2_with fail
            refine k3.mono ?_
            rintro e w3 ⟨rfl, b3⟩
            have HB : Hid _ := b3
            clear b3 k3
            go_wp2_with fail
            go_ret
            exact ⟨rfl, HB.out⟩

set_option maxRecDepth 100000 in
theorem aparts_lifted (os : Os) (started : os.Started) (H : Type) (enc : TypeId × Value → H) :
    ReturnsInHanded {} Tryd.checked os 7 .any (fun w args => (Rows.vocabApartSpec.pre enc Tryd.prog Tryd.f7 [] false w args ∧ laidMetH Tryd.prog laidL w) ∧ sizedMet enc Tryd.prog Tryd.f7 (OpenSpec.ofChange Rows.vocabApartSpec) false w args) (Rows.vocabApartSpec.post enc Tryd.prog Tryd.f7 false true false false) := by
  refine returnsInHanded_of_change_and (C := Tryd.checked) (X := fun w _ => laidMetH Tryd.prog laidL w) (fun _ _ _ hh h => h.of_heap hh) own started (by kernel_rfl) Tryd.func7
    (ChangeSpec.witness_shaped (enc := enc) (C := Tryd.checked) (os := os) (X := fun w _ => laidMetH Tryd.prog laidL w) false (World.doorLaid Tryd.prog 25 os) #[.string ⟨#[]⟩] 8 rfl (World.shaped_of_RefB (by kernel_rfl) (by kernel_rfl)) (by kernel_rfl) (by kernel_rfl) (by kernel_rfl) (door_met os _)) ?_
  intro W base args ds gs before hval0 hW _ _ hL _
  have hval : ∀ (j : Nat) t v, Tryd.f7.params[j]? = some t → args[j]? = some v → Value.okWide Tryd.prog W .any base t v := hval0
  have hH : Tb W := tb_of_laid hL
  have hW' := hW
  obtain ⟨p, q, hA0, hV, rfl, hfz, hnd⟩ := hW
  have hA : DataW.TrodAll enc Tryd.prog W 0 (fun _ => true) true Tryd.f7.params.toList args.toList ds p := hA0
  rw [Tryd.params7] at hA hval
  obtain ⟨v0, vs0, d0, ds0, p0, q0, hargs, rfl, rfl, h0, r0⟩ := trodAll_cons hA
  obtain ⟨rfl, rfl, rfl⟩ := trodAll_nil r0
  obtain rfl : args = #[v0] := by cases args; simp_all
  obtain ⟨rfl, rfl⟩ := trodVars_none hV
  have k0 := h0
  have lt0 : ∀ x ∈ p0, x.block < W.heap.size := by obtain ⟨m, hm⟩ := k0; exact DataW.trod_lt m _ _ _ hm
  obtain ⟨x0, hv0, _, _, wx0⟩ := Go.ChangeMaps.open_string Tryd.underlying9 (hval 0 9 v0 rfl rfl) h0
  subst hv0
  clear hA0 hval0
  refine (apart_walk x0 hH).mono fun e W' ⟨he, bel⟩ => ?_
  subst he
  exact ⟨_, rfl, _, _, _, [], _, [], hW', trodAll_mk1 (shut_bool Tryd.underlying4 _), (trodAll_cons_mk (Below.trod laidOut (by kernel_rfl) (of_decide_eq_true (by kernel_rfl)) k0 bel lt0) trodAll_mk0), rfl, bel.frame _, fun h => by cases h⟩

theorem aparts_holds : Rows.VocabApartSaid :=
  OpenClaim.holds_of_wide 7 Tryd.f7 rfl rfl rfl rfl rfl rfl rfl ⟨rfl, rfl, rfl, rfl, rfl⟩ rfl rfl rfl rfl rfl (by kernel_rfl) Tryd.func7 (by kernel_rfl)
    (of_decide_eq_true (by kernel_rfl)) (by unfold Func.isWrapper; first | (rw [if_pos (by decide +kernel)]; kernel_rfl) | (rw [if_neg (by decide +kernel)]; exact ⟨rfl, rfl⟩))
    (fun os started H enc _ => aparts_lifted os started H enc)

theorem aparts_card : Rows.VocabApartCardSaid :=
  Claim7.holds_tied_plain_at .later [] [.data] true Rows.vocabApartCard.stood.harness false
    aparts_holds (fun _ h => by cases h) (by kernel_rfl) (fun _ h => by cases h) vocabApart_row_tie rfl ⟨rfl, rfl⟩ (by kernel_rfl) rfl
    (fun f fn hf hfn => by
      obtain rfl : f = 7 := Option.some.inj ((show Tryd.prog.funcNamed Rows.vocabApartRow.func = some 7 by kernel_rfl).symm.trans hf) |>.symm
      obtain rfl : fn = Tryd.f7 := (Option.some.inj (Tryd.func7.symm.trans hfn)).symm
      exact ⟨by kernel_rfl, fun j t ht => by
        rw [Tryd.params7] at ht
        have hm : t ∈ [9] := by simpa using Array.mem_of_getElem? ht
        have hall : ([9].all fun u => !Tryd.prog.wantsStandIn u) = true := by kernel_rfl
        exact (show Tryd.prog.wantsStandIn t = false by simpa using List.all_eq_true.1 hall t hm)⟩)
    (by kernel_rfl)
#print axioms aparts_card
end Go.Proofs.YtmcjohpopfkjfaaDoor
