/- The law VocabNames holds for every name: what the program says of it is what the document does. The program's lists are laid as its text lays them (the card ties them); no other condition. -/
import Derived.Test.YtmcjohpopfkjfaaDoorBase
import Derived.ProofKit
import Derived.OpenShut
import Derived.ShutString
import Derived.ChangeOld
import Derived.ChangeMaps
import Derived.Lib.SmallJoins
namespace Go.Proofs.YtmcjohpopfkjfaaDoor
open Go.ChangeShapes Go.WideShapes Go.ChangeAt Go.RowKit Go.Joins

theorem beq_bool (b : Bool) : (b == b) = true := by cases b <;> rfl
set_option maxHeartbeats 1000000 in
theorem names_walk (s : ByteArray) {w : World} (T : Tb w) : Calls Tryd.prog 3 #[.string s] w fun e w' => e = .returned (.bool true) ∧ Below w.heap.size w w' := by
  have k3 := awake_any T
  have kvoid := void_any s T
  have kformats := formats_any s T
  have kimplied := implied_any s T
  have kheading := heading_any s T
  have kblock := block_any s T
  have ktext := text_any s T
  have krvoid := rvoid_any s w
  have krformats := rformats_any s w
  have krimplied := rimplied_any s w
  have krheading := rheading_any s w
  have krblock := rblock_any s w
  have krtext := rtext_any s w
  generalize has 0 s = a at *
  generalize has 1 s = b at *
  generalize has 2 s = c at *
  generalize has 3 s = d at *
  generalize has 4 s = m at *
  generalize textK s = n at *
  clear T
  by_cases hs : 10000 < (s.size : Int)
  · have hg : decide (10000 < (s.size : Int)) = true := decide_eq_true hs
    go_enter Tryd.func3, Tryd.ntmps3
    go_wp2_with fail
    refine k3.mono ?_
    rintro e w3 ⟨rfl, b3⟩
    have HB : Hid _ := b3
    clear b3 k3
    go_wp2_with fail
    go_ret
    exact ⟨rfl, HB.out⟩
  have hg : decide (10000 < (s.size : Int)) = false := decide_eq_false hs
  have ea := beq_bool a
  have eb := beq_bool b
  have ec := beq_bool c
  have ed := beq_bool d
  have em := beq_bool m
  go_enter Tryd.func3, Tryd.ntmps3
  go_wp2_with fail
  refine kvoid.mono ?_
  rintro e w1 ⟨rfl, rfl⟩
  clear kvoid
  go_wp2_with fail
  refine krvoid.mono ?_
  rintro e w1 ⟨rfl, rfl⟩
  clear krvoid
  go_wp2_with fail
  refine kformats.mono ?_
  rintro e w1 ⟨rfl, rfl⟩
  clear kformats
  go_wp2_with fail
  refine krformats.mono ?_
  rintro e w1 ⟨rfl, rfl⟩
  clear krformats
  go_wp2_with fail
  refine kimplied.mono ?_
  rintro e w1 ⟨rfl, rfl⟩
  clear kimplied
  go_wp2_with fail
  refine krimplied.mono ?_
  rintro e w1 ⟨rfl, rfl⟩
  clear krimplied
  go_wp2_with fail
  refine kheading.mono ?_
  rintro e w1 ⟨rfl, rfl⟩
  clear kheading
  go_wp2_with fail
  refine krheading.mono ?_
  rintro e w1 ⟨rfl, rfl⟩
  clear krheading
  go_wp2_with fail
  refine kblock.mono ?_
  rintro e w1 ⟨rfl, rfl⟩
  clear kblock
  go_wp2_with fail
  refine krblock.mono ?_
  rintro e w1 ⟨rfl, rfl⟩
  clear krblock
  go_wp2_with fail
  refine ktext.mono ?_
  rintro e w1 ⟨rfl, rfl⟩
  clear ktext
  go_wp2_with fail
  refine krtext.mono ?_
  rintro e w1 ⟨rfl, rfl⟩
  clear krtext
  go_wp2_with fail
  refine k3.mono ?_
  rintro e w3 ⟨rfl, b3⟩
  have HB : Hid _ := b3
  clear b3 k3
  go_wp2_with fail
  go_ret
  exact ⟨rfl, HB.out⟩

set_option maxRecDepth 100000 in
theorem names_lifted (os : Os) (started : os.Started) (H : Type) (enc : TypeId × Value → H) :
    ReturnsInHanded {} Tryd.checked os 3 .any (fun w args => (Rows.vocabNamesSpec.pre enc Tryd.prog Tryd.f3 [] false w args ∧ laidMetH Tryd.prog laidL w) ∧ sizedMet enc Tryd.prog Tryd.f3 (OpenSpec.ofChange Rows.vocabNamesSpec) false w args) (Rows.vocabNamesSpec.post enc Tryd.prog Tryd.f3 false true false false) := by
  refine returnsInHanded_of_change_and (C := Tryd.checked) (X := fun w _ => laidMetH Tryd.prog laidL w) (fun _ _ _ hh h => h.of_heap hh) own started (by kernel_rfl) Tryd.func3
    (ChangeSpec.witness_shaped (enc := enc) (C := Tryd.checked) (os := os) (X := fun w _ => laidMetH Tryd.prog laidL w) false (World.doorLaid Tryd.prog 25 os) #[.string ⟨#[]⟩] 8 rfl (World.shaped_of_RefB (by kernel_rfl) (by kernel_rfl)) (by kernel_rfl) (by kernel_rfl) (by kernel_rfl) (door_met os _)) ?_
  intro W base args ds gs before hval0 hW _ _ hL _
  have hval : ∀ (j : Nat) t v, Tryd.f3.params[j]? = some t → args[j]? = some v → Value.okWide Tryd.prog W .any base t v := hval0
  have hH : Tb W := tb_of_laid hL
  have hW' := hW
  obtain ⟨p, q, hA0, hV, rfl, hfz, hnd⟩ := hW
  have hA : DataW.TrodAll enc Tryd.prog W 0 (fun _ => true) true Tryd.f3.params.toList args.toList ds p := hA0
  rw [Tryd.params3] at hA hval
  obtain ⟨v0, vs0, d0, ds0, p0, q0, hargs, rfl, rfl, h0, r0⟩ := trodAll_cons hA
  obtain ⟨rfl, rfl, rfl⟩ := trodAll_nil r0
  obtain rfl : args = #[v0] := by cases args; simp_all
  obtain ⟨rfl, rfl⟩ := trodVars_none hV
  have k0 := h0
  have lt0 : ∀ x ∈ p0, x.block < W.heap.size := by obtain ⟨m, hm⟩ := k0; exact DataW.trod_lt m _ _ _ hm
  obtain ⟨x0, hv0, _, _, wx0⟩ := Go.ChangeMaps.open_string Tryd.underlying9 (hval 0 9 v0 rfl rfl) h0
  subst hv0
  clear hA0 hval0
  refine (names_walk x0 hH).mono fun e W' ⟨he, bel⟩ => ?_
  subst he
  exact ⟨_, rfl, _, _, _, [], _, [], hW', trodAll_mk1 (shut_bool Tryd.underlying4 _), (trodAll_cons_mk (Below.trod laidOut (by kernel_rfl) (of_decide_eq_true (by kernel_rfl)) k0 bel lt0) trodAll_mk0), rfl, bel.frame _, fun h => by cases h⟩

theorem names_holds : Rows.VocabNamesSaid :=
  OpenClaim.holds_of_wide 3 Tryd.f3 rfl rfl rfl rfl rfl rfl rfl ⟨rfl, rfl, rfl, rfl, rfl⟩ rfl rfl rfl rfl rfl (by kernel_rfl) Tryd.func3 (by kernel_rfl)
    (of_decide_eq_true (by kernel_rfl)) (by unfold Func.isWrapper; first | (rw [if_pos (by decide +kernel)]; kernel_rfl) | (rw [if_neg (by decide +kernel)]; exact ⟨rfl, rfl⟩))
    (fun os started H enc _ => names_lifted os started H enc)

theorem names_card : Rows.VocabNamesCardSaid :=
  Claim7.holds_tied_plain_at .later [] [.data] true Rows.vocabNamesCard.stood.harness false
    names_holds (fun _ h => by cases h) (by kernel_rfl) (fun _ h => by cases h) vocabNames_row_tie rfl ⟨rfl, rfl⟩ (by kernel_rfl) rfl
    (fun f fn hf hfn => by
      obtain rfl : f = 3 := Option.some.inj ((show Tryd.prog.funcNamed Rows.vocabNamesRow.func = some 3 by kernel_rfl).symm.trans hf) |>.symm
      obtain rfl : fn = Tryd.f3 := (Option.some.inj (Tryd.func3.symm.trans hfn)).symm
      exact ⟨by kernel_rfl, fun j t ht => by
        rw [Tryd.params3] at ht
        have hm : t ∈ [9] := by simpa using Array.mem_of_getElem? ht
        have hall : ([9].all fun u => !Tryd.prog.wantsStandIn u) = true := by kernel_rfl
        exact (show Tryd.prog.wantsStandIn t = false by simpa using List.all_eq_true.1 hall t hm)⟩)
    (by kernel_rfl)
#print axioms names_card
end Go.Proofs.YtmcjohpopfkjfaaDoor
