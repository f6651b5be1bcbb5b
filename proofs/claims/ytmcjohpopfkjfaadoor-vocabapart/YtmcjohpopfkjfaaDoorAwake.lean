/- Chapter 7's examples hold, whatever the call's world, where the lists lie. -/
import Derived.Test.YtmcjohpopfkjfaaDoorLw
namespace Go.Proofs.YtmcjohpopfkjfaaDoor
open Go.RowKit

theorem low_div : lowP ⟨#[68, 105, 86]⟩ = ⟨#[100, 105, 118]⟩ := bytes_eq (by decide +kernel)
set_option maxHeartbeats 1000000 in
theorem awake_any {w : World} (T : Tb w) : Calls Tryd.prog 8 #[] w fun e w' => e = .returned (.bool true) ∧ Below w.heap.size w w' := by
  have k0 := lower_any ⟨#[68, 105, 86]⟩ w (by decide)
  rw [low_div] at k0
  have HT : Hid (Tb w) := T
  clear T
  go_enter Tryd.func8, Tryd.ntmps8
  go_wp2_with fail
  refine k0.mono ?_
  rintro e w1 ⟨rfl, b1⟩
  have T := HT.out.below b1
  have HB : Hid (Below w.heap.size w w1) := b1
  clear b1 HT k0
  have k0 := special_any 0 ⟨#[112]⟩ T
  rw [show spc 0 ⟨#[112]⟩ = true by decide +kernel] at k0
  have k1 := special_any 1 ⟨#[116, 105, 116, 108, 101]⟩ T
  rw [show spc 1 ⟨#[116, 105, 116, 108, 101]⟩ = true by decide +kernel] at k1
  have k2 := special_any 0 ⟨#[115, 112, 97, 110]⟩ T
  rw [show spc 0 ⟨#[115, 112, 97, 110]⟩ = false by decide +kernel] at k2
  have k3 := void_any ⟨#[98, 114]⟩ T
  rw [show has 0 ⟨#[98, 114]⟩ = true by decide +kernel] at k3
  have k4 := void_any ⟨#[98]⟩ T
  rw [show has 0 ⟨#[98]⟩ = false by decide +kernel] at k4
  have k5 := formats_any ⟨#[98]⟩ T
  rw [show has 1 ⟨#[98]⟩ = true by decide +kernel] at k5
  have k6 := implied_any ⟨#[108, 105]⟩ T
  rw [show has 2 ⟨#[108, 105]⟩ = true by decide +kernel] at k6
  have k7 := heading_any ⟨#[104, 51]⟩ T
  rw [show has 3 ⟨#[104, 51]⟩ = true by decide +kernel] at k7
  have k8 := block_any ⟨#[100, 105, 118]⟩ T
  rw [show has 4 ⟨#[100, 105, 118]⟩ = true by decide +kernel] at k8
  have k9 := text_any ⟨#[116, 105, 116, 108, 101]⟩ T
  rw [show textK ⟨#[116, 105, 116, 108, 101]⟩ = 1 by decide +kernel] at k9
  have k10 := blank_any 9 w1
  rw [show blk 9 = true by decide] at k10
  have k11 := blank_any 11 w1
  rw [show blk 11 = false by decide] at k11
  clear T
  go_wp2_with fail
  refine k0.mono ?_
  rintro e w2 ⟨rfl, rfl⟩
  clear k0
  go_wp2_with fail
  refine k1.mono ?_
  rintro e w2 ⟨rfl, rfl⟩
  clear k1
  go_wp2_with fail
  refine k2.mono ?_
  rintro e w2 ⟨rfl, rfl⟩
  clear k2
  go_wp2_with fail
  refine k3.mono ?_
  rintro e w2 ⟨rfl, rfl⟩
  clear k3
  go_wp2_with fail
  refine k4.mono ?_
  rintro e w2 ⟨rfl, rfl⟩
  clear k4
  go_wp2_with fail
  refine k5.mono ?_
  rintro e w2 ⟨rfl, rfl⟩
  clear k5
  go_wp2_with fail
  refine k6.mono ?_
  rintro e w2 ⟨rfl, rfl⟩
  clear k6
  go_wp2_with fail
  refine k7.mono ?_
  rintro e w2 ⟨rfl, rfl⟩
  clear k7
  go_wp2_with fail
  refine k8.mono ?_
  rintro e w2 ⟨rfl, rfl⟩
  clear k8
  go_wp2_with fail
  refine k9.mono ?_
  rintro e w2 ⟨rfl, rfl⟩
  clear k9
  go_wp2_with fail
  refine k10.mono ?_
  rintro e w2 ⟨rfl, rfl⟩
  clear k10
  go_wp2_with fail
  refine k11.mono ?_
  rintro e w2 ⟨rfl, rfl⟩
  clear k11
  go_wp2_with fail
  go_ret
  exact ⟨rfl, HB.out⟩
end Go.Proofs.YtmcjohpopfkjfaaDoor
